/- Contract: the newest head of copies (head.Choose). -/
import Derived.Test.YtmeiahmolmneeaaDoorHAt
namespace Go.Proofs.YtmeiahmolmneeaaDoor
set_option maxRecDepth 20000
open Go.RowKit
set_option linter.unusedVariables false

theorem tyParts : Tryd.prog.underlying 40 = some (.slice (Tryd.prog.elem 40)) := by kernel_rfl
theorem szParts (wx : World) : (Go.sizeOf (Tryd.prog.elem 40)).run Tryd.prog wx = .ok 1 wx := by kernel_rfl
theorem cut_parts (ao : Option Addr) (n cap h : Nat) (h2 : h ≤ cap) (wx : World) :
    (Instr.slice 40 (.slice ao n cap) none (some (.int .i64 h)) none).run Tryd.prog wx = .ok (.slice ao h cap) wx := by
  rw [run_slice_h wx 40 ao n cap tyParts .i64 h (by omega) (by omega), szParts]
  simp only [Result.andThen, sliced, Int.toNat_natCast]
  by_cases hc : cap = 0
  · rw [if_pos hc]; rfl
  · rw [if_neg hc]
    cases ao with
    | none => rfl
    | some x => simp [Addr.add]

theorem Parts.at {w : World} {ao : Option Addr} {n cap : Nat} {vs : List Value} {pss : List (List Int)} (h : Parts w (.slice ao n cap) vs pss) (i : Nat) (hi : i < vs.length) :
    ∃ b off, ao = some ⟨b, off, none⟩ ∧ w.cell? ⟨b, off + i, none⟩ = some (vs.getD i (.slice none 0 0)) ∧ Sl w (vs.getD i (.slice none 0 0)) (pss.getD i []) := by
  obtain ⟨_, ao', cap', he, h1, h2, h3, h4⟩ := h
  simp only [Value.slice.injEq] at he
  obtain ⟨rfl, rfl, rfl⟩ := he
  obtain ⟨b, off, rfl, hc⟩ := h4 (by intro h; simp [h] at hi)
  exact ⟨b, off, rfl, hc i hi, h3 i hi⟩

/-- a head that was chosen -/
def GivesC (w : World) (c : Ch) (r : Ending) (w' : World) : Prop :=
  ∃ ma mc ua uc, r = .returned (.tuple #[hdV c.h.e c.h.p ma c.h.ms.length mc ua c.h.us.length uc, .int .i64 c.at', .int .i64 c.er]) ∧ HdO w' (w.heap.size + 2) (hdV c.h.e c.h.p ma c.h.ms.length mc ua c.h.us.length uc) c.h ∧ Below w.heap.size w w'

/-- how far it is chosen: the result's block, the newest one's -/
structure Cs (w : World) (c : Ch) (ma : Option Addr) (mc : Nat) (ua : Option Addr) (uc : Nat) (wr : World) : Prop where
  st : Hs w wr
  blk : Blk wr (w.heap.size + 1) 26 [.int .u64 c.h.e, .int .i64 c.h.p, .slice ma c.h.ms.length mc, .slice ua c.h.us.length uc]
  val : HdO wr (w.heap.size + 2) (hdV c.h.e c.h.p ma c.h.ms.length mc ua c.h.us.length uc) c.h
theorem Cs.below {w wr w2 : World} {c : Ch} {ma : Option Addr} {mc : Nat} {ua : Option Addr} {uc : Nat} (h : Cs w c ma mc ua uc wr) (hb : Below wr.heap.size wr w2) : Cs w c ma mc ua uc w2 :=
  ⟨h.st.below hb, h.blk.below hb h.blk.lt, h.val.below hb⟩
theorem Cs.take {w wr : World} {c : Ch} {ma ma' : Option Addr} {mc mc' : Nat} {ua ua' : Option Addr} {uc uc' : Nat} (h : Cs w c ma mc ua uc wr) (g : Hd) (i : Int) (hv : HdO wr (w.heap.size + 2) (hdV g.e g.p ma' g.ms.length mc' ua' g.us.length uc') g) :
    Cs w ⟨g, i, 0⟩ ma' mc' ua' uc' (laidH wr (w.heap.size + 1) (.int .u64 g.e) (.int .i64 g.p) (.slice ma' g.ms.length mc') (.slice ua' g.us.length uc')) := by
  have ho := laidH_only wr (w.heap.size + 1) (.int .u64 g.e) (.int .i64 g.p) (.slice ma' g.ms.length mc') (.slice ua' g.us.length uc')
  exact ⟨h.st.only ho (fun k hk => by omega), laidH_blk h.blk _ _ _ _, hv.only ho (fun k hk => by omega)⟩
theorem Cs.done {w wr : World} {c : Ch} {ma : Option Addr} {mc : Nat} {ua : Option Addr} {uc : Nat} (h : Cs w c ma mc ua uc wr) :
    Blk (laidH wr w.heap.size (.int .u64 c.h.e) (.int .i64 c.h.p) (.slice ma c.h.ms.length mc) (.slice ua c.h.us.length uc)) w.heap.size 26 [.int .u64 c.h.e, .int .i64 c.h.p, .slice ma c.h.ms.length mc, .slice ua c.h.us.length uc] ∧
      HdO (laidH wr w.heap.size (.int .u64 c.h.e) (.int .i64 c.h.p) (.slice ma c.h.ms.length mc) (.slice ua c.h.us.length uc)) (w.heap.size + 2) (hdV c.h.e c.h.p ma c.h.ms.length mc ua c.h.us.length uc) c.h ∧ Below w.heap.size w (laidH wr w.heap.size (.int .u64 c.h.e) (.int .i64 c.h.p) (.slice ma c.h.ms.length mc) (.slice ua c.h.us.length uc)) := by
  obtain ⟨s1, s2, s3⟩ := h.st.store (.int .u64 c.h.e) (.int .i64 c.h.p) (.slice ma c.h.ms.length mc) (.slice ua c.h.us.length uc)
  exact ⟨s1, h.val.only (laidH_only wr w.heap.size _ _ _ _) (fun k hk => by omega), s2⟩

theorem stepC_yes {c : Ch} {i : Nat} {b : Bool} {h : Hd} (h1 : b = true) (h2 : c.er ≠ 0 ∨ c.h.e < h.e) : stepC c i b h = ⟨h, i, 0⟩ := by unfold stepC; rw [if_pos ⟨h1, h2⟩]
theorem stepC_no {c : Ch} {i : Nat} {b : Bool} {h : Hd} (h1 : ¬ (b = true ∧ (c.er ≠ 0 ∨ c.h.e < h.e))) : stepC c i b h = c := by unfold stepC; rw [if_neg h1]

set_option maxHeartbeats 4000000 in
theorem choose_any (w : World) (pages : Int) (v : Value) (vs : List Value) (pss : List (List Int)) (h : Parts w v vs pss) (hT : Tab w) :
    Calls Tryd.prog 25 #[.int .i64 pages, v] w (GivesC w (chooseS pages pss)) := by
  have HLN := hide h.1
  have hP := h
  obtain ⟨-, ao, cap, rfl, h1, h2, -, -⟩ := h
  unfold maxLen at h2
  obtain ⟨K, hK⟩ : ∃ K, K = min vs.length 2 := ⟨_, rfl⟩
  have HCH : Hid (chooseS pages pss = chooseN pages pss K) := by show chooseS pages pss = _; unfold chooseS; rw [hK, HLN.out]
  have hcut := cut_parts ao vs.length cap K (by omega)
  have hmin : ∀ (ts : Array TypeId) (t : TypeId) (wx : World), (Builtin.min_ ts t #[.int .i64 (vs.length : Int), .int .i64 2]).run Tryd.prog wx = .ok (.int .i64 (K : Int)) wx := by
    intro ts t wx
    rw [run_min_int2]
    congr 2
    split <;> omega
  have hza := zeroHeadRun
  have hs1 := (Hs.new w).alloc (.cells #[.int .u64 0, .int .i64 0, .slice none 0 0, .slice none 0 0] 26)
  have hb1 := Blk.new (w.alloc (.cells #[.int .u64 0, .int .i64 0, .slice none 0 0, .slice none 0 0] 26)) 26 [.int .u64 0, .int .i64 0, .slice none 0 0, .slice none 0 0]
  rw [World.size_alloc] at hb1
  have HC0 : Hid (Cs w ⟨noHd, 0, 60⟩ none 0 none 0 ((w.alloc (.cells #[.int .u64 0, .int .i64 0, .slice none 0 0, .slice none 0 0] 26)).alloc (.cells #[.int .u64 0, .int .i64 0, .slice none 0 0, .slice none 0 0] 26))) := ⟨hs1, hb1, HdO.no _ _⟩
  have HAT : Hid (∀ (wr : World) (j : Nat) (u : Value) (zs : List Int), Below w.heap.size w wr → Sl w u zs → Calls Tryd.prog 39 #[.int .i64 j, u, .int .i64 pages] wr (GivesB wr (atH j zs pages) (atB j zs pages))) := fun wr j u zs hb hs => headAt_any wr j u zs pages (hs.below hb) (hT.below hb)
  have HP := hide hP
  have hK2 : K ≤ vs.length := by omega
  clear hT hP hs1 hb1 hK
  go_enter Tryd.func25, Tryd.ntmps25
  go_wp2
  clear hmin hcut
  go_loopg [8, 9, 20] K (fun g at9 e9 i wr => ∃ (j : Nat) (ma : Option Addr) (mc : Nat) (ua : Option Addr) (uc : Nat), g + j = K ∧ i = .int .i64 j ∧ at9 = .int .i64 (chooseN pages pss j).at' ∧ e9 = .int .i64 (chooseN pages pss j).er ∧ Cs w (chooseN pages pss j) ma mc ua uc wr)
  case atStart => exact ⟨0, none, 0, none, 0, by omega, rfl, rfl, rfl, HC0.out⟩
  case round =>
    obtain ⟨j, ma, mc, ua, uc, hj, rfl, rfl, rfl, hcs⟩ := hrel
    have HCS := hide hcs
    clear HC0 hcs
    cases gk with
    | zero =>
      obtain rfl : j = K := by omega
      obtain ⟨c, hc⟩ : ∃ c, c = chooseN pages pss j := ⟨_, rfl⟩
      have HCC : Hid (chooseS pages pss = c) := HCH.out.trans hc.symm
      rw [← hc] at HCS ⊢
      obtain ⟨⟨ge, gp, gms, gus⟩, at0, er0⟩ := c
      obtain ⟨⟨c0, c1, c2, c3⟩, _⟩ := head_cells HCS.out.blk
      obtain ⟨⟨d0, d1, d2, d3⟩, k0, k1, k2, k3⟩ := head_cells HCS.out.st.2
      have HD := hide HCS.out.done
      simp only at c0 c1 c2 c3 HD
      clear hc HCS
      go_wp2
      (try simp only [Exit.inBlock, Exit.then])
      refine bodyPost_ret (ret_head2 rfl _ _ w.heap.size _ _ _ _ _ _ rfl rfl rfl HD.out.1) rfl ?_
      rw [HCC.out]
      exact ⟨ma, mc, ua, uc, rfl, HD.out.2.1, HD.out.2.2⟩
    | succ g =>
      have hjK : j < K := by omega
      have hjv : j < vs.length := by omega
      have hji : (j : Int) < (K : Int) := by omega
      obtain ⟨b, off, rfl, cj, sj⟩ := HP.out.at j hjv
      have hcj : wr.cell? ⟨b, off + j, none⟩ = some (vs.getD j (.slice none 0 0)) := by
        rw [World.cell?_of_block (w := w) (HCS.out.st.1.block b (World.block_lt_of_cell? w _ cj))]
        exact cj
      have HA2 := hide (HAT.out wr j _ _ HCS.out.st.1 sj)
      obtain ⟨uj, huj⟩ : ∃ u, u = vs.getD j (.slice none 0 0) := ⟨_, rfl⟩
      rw [← huj] at hcj HA2 sj
      obtain ⟨ja, jn, jc, rfl⟩ := sl_form sj
      have HST : Hid (chooseN pages pss (j + 1) = stepC (chooseN pages pss j) j (atB j (pss.getD j []) pages) (atH j (pss.getD j []) pages)) := rfl
      obtain ⟨cB, hcB⟩ : ∃ x, x = atB j (pss.getD j []) pages := ⟨_, rfl⟩
      obtain ⟨cH, hcH⟩ : ∃ x, x = atH j (pss.getD j []) pages := ⟨_, rfl⟩
      rw [← hcB, ← hcH] at HA2 HST
      obtain ⟨c, hc⟩ : ∃ c, c = chooseN pages pss j := ⟨_, rfl⟩
      rw [← hc] at HCS HST ⊢
      obtain ⟨⟨ge, gp, gms, gus⟩, at0, er0⟩ := c
      obtain ⟨he, hp, hms, hus⟩ := cH
      have hszw := HCS.out.blk.lt
      have HSZ := hide hszw
      clear hcB hcH hc huj cj sj hszw
      by_cases hy : cB = true ∧ (er0 ≠ 0 ∨ ge < he)
      · have HNX : Hid (chooseN pages pss (j + 1) = ⟨⟨he, hp, hms, hus⟩, (j : Int), 0⟩) := HST.out.trans (stepC_yes hy.1 hy.2)
        obtain ⟨rfl, hy2⟩ := hy
        clear HST
        by_cases h0 : er0 = 0
        · subst h0
          have hlt : ge < he := hy2.resolve_left (by simp)
          have hli : (ge : Int) < (he : Int) := by omega
          go_wp2_with (go_at_call 39; refine HA2.out.mono ?_; rintro e3 w4 ⟨ma', mc', ua', uc', rfl, hv4, bel4⟩; have cs4 := (HCS.out.below bel4).below ((Below.refl _ w4).alloc (Nat.le_refl _) (.cells #[.int .u64 he, .int .i64 hp, .slice ma' hms.length mc', .slice ua' hus.length uc'] 26)); have hv5 := (hv4.alloc (.cells #[.int .u64 he, .int .i64 hp, .slice ma' hms.length mc', .slice ua' hus.length uc'] 26)).le (B' := w.heap.size + 2) (by have := HSZ.out; omega); obtain ⟨⟨c0, c1, c2, c3⟩, k0, k1, k2, k3⟩ := head_cells cs4.blk; have HCS4 := hide cs4; have HV5 := hide hv5; simp only at c0 c1 c2 c3; unfold hdV; clear HA2 HCS hv4 bel4 cs4 hv5)
          go_roundg g
          case measure => omega
          case rel => exact ⟨j + 1, ma', mc', ua', uc', by omega, by go_num, by rw [HNX.out], by rw [HNX.out], by rw [HNX.out]; exact HCS4.out.take _ _ HV5.out⟩
        · have hne : (er0 != 0) = true := by simpa using h0
          clear hy2
          go_wp2_with (go_at_call 39; refine HA2.out.mono ?_; rintro e3 w4 ⟨ma', mc', ua', uc', rfl, hv4, bel4⟩; have cs4 := (HCS.out.below bel4).below ((Below.refl _ w4).alloc (Nat.le_refl _) (.cells #[.int .u64 he, .int .i64 hp, .slice ma' hms.length mc', .slice ua' hus.length uc'] 26)); have hv5 := (hv4.alloc (.cells #[.int .u64 he, .int .i64 hp, .slice ma' hms.length mc', .slice ua' hus.length uc'] 26)).le (B' := w.heap.size + 2) (by have := HSZ.out; omega); obtain ⟨⟨c0, c1, c2, c3⟩, k0, k1, k2, k3⟩ := head_cells cs4.blk; have HCS4 := hide cs4; have HV5 := hide hv5; simp only at c0 c1 c2 c3; unfold hdV; clear HA2 HCS hv4 bel4 cs4 hv5)
          go_roundg g
          case measure => omega
          case rel => exact ⟨j + 1, ma', mc', ua', uc', by omega, by go_num, by rw [HNX.out], by rw [HNX.out], by rw [HNX.out]; exact HCS4.out.take _ _ HV5.out⟩
      · have HNX : Hid (chooseN pages pss (j + 1) = ⟨⟨ge, gp, gms, gus⟩, at0, er0⟩) := HST.out.trans (stepC_no hy)
        clear HST
        cases cB with
        | false =>
          clear hy
          go_wp2_with (go_at_call 39; refine HA2.out.mono ?_; rintro e3 w4 ⟨ma', mc', ua', uc', rfl, hv4, bel4⟩; have cs4 := (HCS.out.below bel4).below ((Below.refl _ w4).alloc (Nat.le_refl _) (.cells #[.int .u64 he, .int .i64 hp, .slice ma' hms.length mc', .slice ua' hus.length uc'] 26)); have hv5 := (hv4.alloc (.cells #[.int .u64 he, .int .i64 hp, .slice ma' hms.length mc', .slice ua' hus.length uc'] 26)).le (B' := w.heap.size + 2) (by have := HSZ.out; omega); obtain ⟨⟨c0, c1, c2, c3⟩, k0, k1, k2, k3⟩ := head_cells cs4.blk; have HCS4 := hide cs4; have HV5 := hide hv5; simp only at c0 c1 c2 c3; unfold hdV; clear HA2 HCS hv4 bel4 cs4 hv5)
          go_roundg g
          case measure => omega
          case rel => exact ⟨j + 1, ma, mc, ua, uc, by omega, by go_num, by rw [HNX.out], by rw [HNX.out], by rw [HNX.out]; exact HCS4.out⟩
        | true =>
          have h0 : er0 = 0 := Classical.byContradiction (fun h => hy ⟨rfl, .inl h⟩)
          have hge : ¬ ge < he := fun h => hy ⟨rfl, .inr h⟩
          subst h0
          have hdi : decide (ge < he) = false := decide_eq_false hge
          clear hy hge
          go_wp2_with (go_at_call 39; refine HA2.out.mono ?_; rintro e3 w4 ⟨ma', mc', ua', uc', rfl, hv4, bel4⟩; have cs4 := (HCS.out.below bel4).below ((Below.refl _ w4).alloc (Nat.le_refl _) (.cells #[.int .u64 he, .int .i64 hp, .slice ma' hms.length mc', .slice ua' hus.length uc'] 26)); have hv5 := (hv4.alloc (.cells #[.int .u64 he, .int .i64 hp, .slice ma' hms.length mc', .slice ua' hus.length uc'] 26)).le (B' := w.heap.size + 2) (by have := HSZ.out; omega); obtain ⟨⟨c0, c1, c2, c3⟩, k0, k1, k2, k3⟩ := head_cells cs4.blk; have HCS4 := hide cs4; have HV5 := hide hv5; simp only at c0 c1 c2 c3; unfold hdV; clear HA2 HCS hv4 bel4 cs4 hv5)
          go_roundg g
          case measure => omega
          case rel => exact ⟨j + 1, ma, mc, ua, uc, by omega, by go_num, by rw [HNX.out], by rw [HNX.out], by rw [HNX.out]; exact HCS4.out⟩

end Go.Proofs.YtmeiahmolmneeaaDoor
