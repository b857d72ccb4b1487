/- The walk of the statement HeadNewer. -/
import Derived.Test.YtmeiahmolmneeaaDoorHPair
namespace Go.Proofs.YtmeiahmolmneeaaDoor
set_option maxRecDepth 20000
open Go.RowKit
set_option linter.unusedVariables false

/-! ### which one is chosen -/
theorem newer_first (a b : Hd) (ha : mayB a.p a.ms a.us.length = true) (hb : mayB b.p b.ms b.us.length = true) (hp : b.p = a.p) (he : b.e = a.e + 1) (hlt : b.e < 18446744073709551616) (hR : b.e % 2 = 0) : chooseS a.p [layS b, layS a] = ⟨b, 0, 0⟩ := by
  obtain ⟨b1, b2⟩ := at_lay b hb hlt 0 a.p
  obtain ⟨a1, a2⟩ := at_lay a ha (by omega) 1 a.p
  rw [decide_eq_true ⟨hR, hp⟩] at b1
  rw [decide_eq_true ⟨by omega, rfl⟩] at a1
  rw [choose_two, b1, b2 hR hp, stepC_yes rfl (.inl (by simp)), a1, a2 (by omega) rfl, stepC_no (by simp; omega)]
  rfl
theorem newer_second (a b : Hd) (ha : mayB a.p a.ms a.us.length = true) (hb : mayB b.p b.ms b.us.length = true) (hp : b.p = a.p) (he : b.e = a.e + 1) (hlt : b.e < 18446744073709551616) (hR : b.e % 2 = 1) : chooseS a.p [layS a, layS b] = ⟨b, 1, 0⟩ := by
  obtain ⟨b1, b2⟩ := at_lay b hb hlt 1 a.p
  obtain ⟨a1, a2⟩ := at_lay a ha (by omega) 0 a.p
  rw [decide_eq_true ⟨hR, hp⟩] at b1
  rw [decide_eq_true ⟨by omega, rfl⟩] at a1
  rw [choose_two, a1, a2 (by omega) rfl, stepC_yes rfl (.inl (by simp)), b1, b2 hR hp, stepC_yes rfl (.inr (by simp; omega))]
  rfl
theorem older_first (a : Hd) (ha : mayB a.p a.ms a.us.length = true) (hlt : a.e < 18446744073709551616) (sp : List Int) (hR : a.e % 2 = 1) (hs : atB 0 sp a.p = false) : chooseS a.p [sp, layS a] = ⟨a, 1, 0⟩ := by
  obtain ⟨a1, a2⟩ := at_lay a ha hlt 1 a.p
  rw [decide_eq_true ⟨hR, rfl⟩] at a1
  have s0 : stepC ⟨noHd, 0, 60⟩ 0 (atB 0 sp a.p) (atH 0 sp a.p) = ⟨noHd, 0, 60⟩ := by rw [hs]; exact stepC_no (by simp)
  rw [choose_two, s0, a1, a2 hR rfl, stepC_yes rfl (.inl (by simp))]
  rfl
theorem older_second (a : Hd) (ha : mayB a.p a.ms a.us.length = true) (hlt : a.e < 18446744073709551616) (sp : List Int) (hR : a.e % 2 = 0) (hs : atB 1 sp a.p = false) : chooseS a.p [layS a, sp] = ⟨a, 0, 0⟩ := by
  obtain ⟨a1, a2⟩ := at_lay a ha hlt 0 a.p
  rw [decide_eq_true ⟨hR, rfl⟩] at a1
  rw [choose_two, a1, a2 hR rfl, stepC_yes rfl (.inl (by simp)), hs, stepC_no (by simp)]
  rfl
theorem spoilt_one (p : Int) (sp : List Int) : (chooseS p [sp]).er = if atB 0 sp p = true then 0 else 60 := by
  show (stepC ⟨noHd, 0, 60⟩ 0 (atB 0 sp p) (atH 0 sp p)).er = _
  cases h : atB 0 sp p with
  | true => rw [stepC_yes rfl (.inl (by simp))]; rfl
  | false => rw [stepC_no (by simp)]; rfl
theorem spoilt_two (p : Int) (sp : List Int) : (chooseS p [[], sp]).er = if atB 1 sp p = true then 0 else 60 := by
  have h0 := at_short 0 [] p (by simp)
  have s0 : stepC ⟨noHd, 0, 60⟩ 0 (atB 0 [] p) (atH 0 [] p) = ⟨noHd, 0, 60⟩ := by rw [h0]; exact stepC_no (by simp)
  rw [choose_two, s0]
  cases h : atB 1 sp p with
  | true => rw [stepC_yes rfl (.inl (by simp))]; rfl
  | false => rw [stepC_no (by simp)]; rfl

/-! ### two pages in a row -/
theorem own8_ne {w : World} {base H n c m : Nat} {a : Option Addr} {xs cs : List Value} {t : TypeId} (h : w.ownsRow base 5 1 (.slice a n c) m xs) (hB : Blk w H t cs) (ht : t ≠ 5) : ∀ k, (Value.slice a n c).ownBlock = some k → k ≠ H := by
  rcases h.2 with ⟨h1, _⟩ | ⟨g, cap, cur, h1, h2, h3, _⟩
  · intro k hk; rw [h1] at hk; cases hk
  · intro k hk hkH
    rw [h1] at hk
    cases hk
    subst hkH
    have := hB.symm.trans h3
    simp at this
    exact ht this.2

/-- two pages of the call's own, and the block of their row -/
def isPair (B : Nat) (x y : List Int) : Value → World → Prop := fun v w => ∃ g a c a' c', v = .slice (some ⟨g, 0, none⟩) 2 2 ∧ B ≤ g ∧ Blk w g 24 [.slice a x.length c, .slice a' y.length c'] ∧
  w.ownsRow B 5 1 (.slice a x.length c) x.length (x.map (Value.int .u8)) ∧ w.ownsRow B 5 1 (.slice a' y.length c') y.length (y.map (Value.int .u8))
theorem stable_isPair (B : Nat) (x y : List Int) : Stable (isPair B x y) := fun _ _ _ hb ⟨g, a, c, a', c', h1, h2, h3, h4, h5⟩ => ⟨g, a, c, a', c', h1, h2, h3.below hb h3.lt, own_keep h4 hb, own_keep h5 hb⟩
theorem stable_isOwnN (B : Nat) (zs : List Int) : Stable (isOwnN B zs) := fun _ _ _ hb ⟨a, c, h1, h2⟩ => ⟨a, c, h1, own_keep h2 hb⟩

def isEr (er : Int) : Value → World → Prop := fun v _ => ∃ x y, v = .tuple #[x, y, .int .i64 er]
theorem stable_isEr (er : Int) : Stable (isEr er) := fun _ _ _ _ h => h

/-- two in a row: one of them -/
theorem parts_off {w : World} {g o : Nat} {u : Value} {zs : List Int} {vs : List Value} (hg : Blk w g 24 vs) (c : Nat) (ho : vs[o]? = some u) (hc : 1 ≤ c) (hc2 : c ≤ 2) (h : Sl w u zs) : Parts w (.slice (some ⟨g, o, none⟩) 1 c) [u] [zs] := by
  refine ⟨rfl, some ⟨g, o, none⟩, c, rfl, hc, by unfold maxLen; omega, fun i hi => ?_, fun _ => ⟨g, o, rfl, fun i hi => ?_⟩⟩
  · have : i = 0 := by simp at hi; omega
    subst this
    exact h
  · have : i = 0 := by simp at hi; omega
    subst this
    rw [hg.cell, Nat.add_zero]
    exact ho
theorem parts_in {w : World} {g : Nat} {u0 u1 : Value} {z0 z1 : List Int} (hg : Blk w g 24 [u0, u1]) (h0 : Sl w u0 z0) (h1 : Sl w u1 z1) : Parts w (.slice (some ⟨g, 0, none⟩) 2 2) [u0, u1] [z0, z1] :=
  parts_blk (vs := [u0, u1]) (pss := [z0, z1]) hg rfl (by simp) (fun i hi => by
    match i, hi with
    | 0, _ => exact h0
    | 1, _ => exact h1)
theorem cut_parts_lh (g R : Nat) (hR : R < 2) (wx : World) :
    (Instr.slice 40 (.slice (some ⟨g, 0, none⟩) 2 2) (some (.int .i64 R)) (some (.int .i64 ((R : Int) + 1))) none).run Tryd.prog wx = .ok (.slice (some ⟨g, R, none⟩) 1 (2 - R)) wx := by
  have h1 : ((R : Int) + 1) = ((R + 1 : Nat) : Int) := by omega
  rw [h1, run_slice_lh wx 40 (some ⟨g, 0, none⟩) 2 2 tyParts .i64 .i64 R (R + 1 : Nat) (by omega) (by omega) (by omega), szParts]
  simp only [Result.andThen, sliced, Int.toNat_natCast]
  rw [if_neg (by omega)]
  simp [Addr.add]
  omega

set_option maxHeartbeats 4000000 in
theorem headNewer_walk (w : World) (va : Value) (ga : Hd) (vb : Value) (gb : Hd) (sv : Value) (sp : List Int) (hva : HdIn w va ga) (hvb : HdIn w vb gb) (hsp : Sl w sv sp) (hT : Tab w) :
    Calls Tryd.prog 8 #[va, vb, sv] w fun e w' => e = .returned (.bool true) ∧ Below w.heap.size w w' := by
  obtain ⟨ma, mc, ua, uc, rfl, hI, hU, he⟩ := hva
  obtain ⟨mb, nc, ub, vc, rfl, hJ, hV, he'⟩ := hvb
  obtain ⟨e, p, ms, us⟩ := ga
  obtain ⟨e', p', ns, vs⟩ := gb
  simp only at hI hU he hJ hV he' ⊢
  unfold hdV
  obtain ⟨M, hM⟩ : ∃ M, M = ms.length := ⟨_, rfl⟩
  obtain ⟨N, hN⟩ : ∃ N, N = us.length := ⟨_, rfl⟩
  obtain ⟨M', hM'⟩ : ∃ M, M = ns.length := ⟨_, rfl⟩
  obtain ⟨N', hN'⟩ : ∃ N, N = vs.length := ⟨_, rfl⟩
  rw [← hM] at hI ⊢
  rw [← hN] at hU ⊢
  rw [← hM'] at hJ ⊢
  rw [← hN'] at hV ⊢
  obtain ⟨sa, sc, rfl⟩ := sl_form' hsp
  obtain ⟨cs, hcs⟩ : ∃ cs : List Value, cs = [.int .u64 e, .int .i64 p, .slice ma M mc, .slice ua N uc] := ⟨_, rfl⟩
  obtain ⟨ds, hds⟩ : ∃ ds : List Value, ds = [.int .u64 e', .int .i64 p', .slice mb M' nc, .slice ub N' vc] := ⟨_, rfl⟩
  obtain ⟨F, hF⟩ : ∃ F, F = e + 1 := ⟨_, rfl⟩
  obtain ⟨ks, hks⟩ : ∃ ks : List Value, ks = [.int .u64 (F : Int), .int .i64 p, .slice mb M' nc, .slice ub N' vc] := ⟨_, rfl⟩
  have HN0 : Hid (Bh2 w ((w.alloc (.cells #[.int .u64 e, .int .i64 p, .slice ma M mc, .slice ua N uc] 26)).alloc (.cells #[.int .u64 e', .int .i64 p', .slice mb M' nc, .slice ub N' vc] 26)) cs ds) := by show Bh2 _ _ _ _; rw [hcs, hds]; exact Bh2.new w _ _
  have HL := hide (live_bh2 w cs ds hT)
  have HCE : Hid (∀ w1, Bh2 w w1 cs ds → (w1.cell? ⟨w.heap.size, 0, none⟩ = some (.int .u64 e) ∧ w1.cell? ⟨w.heap.size, 1, none⟩ = some (.int .i64 p) ∧ w1.cell? ⟨w.heap.size, 2, none⟩ = some (.slice ma M mc) ∧ w1.cell? ⟨w.heap.size, 3, none⟩ = some (.slice ua N uc)) ∧ (w1.cell? ⟨w.heap.size + 1, 0, none⟩ = some (.int .u64 e') ∧ w1.cell? ⟨w.heap.size + 1, 1, none⟩ = some (.int .i64 p') ∧ w1.cell? ⟨w.heap.size + 1, 2, none⟩ = some (.slice mb M' nc) ∧ w1.cell? ⟨w.heap.size + 1, 3, none⟩ = some (.slice ub N' vc)) ∧ w1.frozen? ⟨w.heap.size + 1, 0, none⟩ = false ∧ w1.frozen? ⟨w.heap.size + 1, 1, none⟩ = false) := fun w1 hb => ⟨box_cells (hcs ▸ hb.2.1), box_cells (hds ▸ hb.2.2), hb.2.2.frozen 0, hb.2.2.frozen 1⟩
  have HCK : Hid (∀ w1, Bh2 w w1 cs ks → (w1.cell? ⟨w.heap.size, 0, none⟩ = some (.int .u64 e) ∧ w1.cell? ⟨w.heap.size, 1, none⟩ = some (.int .i64 p) ∧ w1.cell? ⟨w.heap.size, 2, none⟩ = some (.slice ma M mc) ∧ w1.cell? ⟨w.heap.size, 3, none⟩ = some (.slice ua N uc)) ∧ (w1.cell? ⟨w.heap.size + 1, 0, none⟩ = some (.int .u64 (F : Int)) ∧ w1.cell? ⟨w.heap.size + 1, 1, none⟩ = some (.int .i64 p) ∧ w1.cell? ⟨w.heap.size + 1, 2, none⟩ = some (.slice mb M' nc) ∧ w1.cell? ⟨w.heap.size + 1, 3, none⟩ = some (.slice ub N' vc))) := fun w1 hb => ⟨box_cells (hcs ▸ hb.2.1), box_cells (hks ▸ hb.2.2)⟩
  have HKS : Hid (∀ w1, Bh2 w w1 cs ds → Bh2 w ((w1.setCell ⟨w.heap.size + 1, 0, none⟩ (.int .u64 (F : Int))).setCell ⟨w.heap.size + 1, 1, none⟩ (.int .i64 p)) cs ks) := by
    intro w1 hb
    have h2 := (hb.2.2.set 0 (.int .u64 (F : Int))).set 1 (.int .i64 p)
    have hh : (ds.set 0 (.int .u64 (F : Int))).set 1 (.int .i64 p) = ks := by rw [hds, hks]; rfl
    rw [hh] at h2
    exact ⟨(hb.1.setCell (p := ⟨w.heap.size + 1, 0, none⟩) (by simp) _).setCell (p := ⟨w.heap.size + 1, 1, none⟩) (by simp) _, (hb.2.1.setOther _ _ (by simp)).setOther _ _ (by simp), h2⟩
  have HVA : Hid (∀ w1, Below w.heap.size w w1 → HdV w1 (.agg #[.int .u64 e, .int .i64 p, .slice ma M mc, .slice ua N uc]) ⟨e, p, ms, us⟩) := fun w1 hb => ⟨ma, mc, ua, uc, by rw [hM, hN]; rfl, by rw [← hM]; exact hI.below hb, by rw [← hN]; exact hU.below hb, he⟩
  have HVB : Hid (F < 18446744073709551616 → ∀ w1, Below w.heap.size w w1 → HdV w1 (.agg #[.int .u64 (F : Int), .int .i64 p, .slice mb M' nc, .slice ub N' vc]) ⟨F, p, ns, vs⟩) := fun hlt w1 hb => ⟨mb, nc, ub, vc, by rw [hM', hN']; rfl, by rw [← hM']; exact hJ.below hb, by rw [← hN']; exact hV.below hb, hlt⟩
  have HS : Hid (∀ w1, Bh2 w w1 cs ds → Calls Tryd.prog 10 #[.slice (some ⟨w1.heap.size, 0, none⟩) 2 2] (w1.alloc (.cells #[.int .u64 e, .int .i64 p, .slice ma M mc, .slice ua N uc, .int .u64 e', .int .i64 p', .slice mb M' nc, .slice ub N' vc] 26)) fun r w2 => r = .returned (.bool (decide ((M ≤ 100 ∧ N ≤ 3000) ∧ (M' ≤ 100 ∧ N' ≤ 3000)))) ∧ Bh2 w w2 cs ds) := fun w1 hb => by
    refine (short_two w1 ⟨e, p, ma, M, mc, ua, N, uc⟩ ⟨e', p', mb, M', nc, ub, N', vc⟩).mono ?_
    rintro r w2 ⟨rfl, hb2⟩
    exact ⟨rfl, hb.below hb2⟩
  have HKA : Hid (∀ w1, Below w.heap.size w w1 → Calls Tryd.prog 15 #[.agg #[.int .u64 e, .int .i64 p, .slice ma M mc, .slice ua N uc]] w1 fun r w2 => r = .returned (.int .i64 (hcheckS p ms us.length)) ∧ Below w1.heap.size w1 w2) := fun w1 hb => by
    have := hcheck_any w1 e p ma ua mc us.length uc ms (by rw [← hM]; exact hI.below hb)
    rw [← hM, ← hN] at this
    rw [← hN]
    exact this
  have HKB : Hid (∀ w1, Below w.heap.size w w1 → Calls Tryd.prog 15 #[.agg #[.int .u64 (F : Int), .int .i64 p, .slice mb M' nc, .slice ub N' vc]] w1 fun r w2 => r = .returned (.int .i64 (hcheckS p ns vs.length)) ∧ Below w1.heap.size w1 w2) := fun w1 hb => by
    have := hcheck_any w1 F p mb ub nc vs.length vc ns (by rw [← hM']; exact hJ.below hb)
    rw [← hM', ← hN'] at this
    rw [← hN']
    exact this
  have hza := zeroHeadRun
  have HMM := hide hM
  have HNN := hide hN
  have HMM' := hide hM'
  have HNN' := hide hN'
  have hUok := hU.bytes
  have hVok := hV.bytes
  have HSP : Hid (∀ w1, Below w.heap.size w w1 → Sl w1 (.slice sa sp.length sc) sp) := fun w1 hb => hsp.below hb
  have HFE := hide hF
  clear hF hcs hds hks hM hN hM' hN' hI hU hJ hV hsp
  by_cases hsh : (M ≤ 100 ∧ N ≤ 3000) ∧ (M' ≤ 100 ∧ N' ≤ 3000)
  · rw [decide_eq_true hsh] at HS
    by_cases hbl : sp.length ≤ 3000
    · have hbi : decide ((3000 : Int) < (sp.length : Int)) = false := decide_eq_false (by omega)
      by_cases hmx : e = 18446744073709551615
      · subst hmx
        go_enter Tryd.func8, Tryd.ntmps8
        go_wp2_with (first
          | (go_at_call 9; refine (HL.out _ HN0.out).mono ?_; rintro e1 w1 ⟨rfl, b1⟩; have HS1 := hide (HS.out w1 b1); obtain ⟨⟨c0, c1, c2, c3⟩, ⟨d0, d1, d2, d3⟩, z0, z1⟩ := HCE.out _ b1; clear HN0 HS b1)
          | (go_at_call 10; refine HS1.out.mono ?_; rintro e1 w2 ⟨rfl, b2⟩; clear c0 c1 c2 c3 d0 d1 d2 d3 z0 z1; obtain ⟨⟨c0, c1, c2, c3⟩, ⟨d0, d1, d2, d3⟩, z0, z1⟩ := HCE.out _ b2; have HB2 := hide b2; clear HS1 b2)
          | (go_at_call 9; refine (HL.out _ HB2.out).mono ?_; rintro e1 w3 ⟨rfl, b3⟩; clear HB2))
        go_ret
        exact ⟨rfl, b3.1⟩
      · have hmi : ((e : Int) == 18446744073709551615) = false := by simp; omega
        have hlt : F < 18446744073709551616 := by have := HFE.out; omega
        have HVB2 := hide (HVB.out hlt)
        have hwr : (e : Int) + 1 = (F : Int) := by have := HFE.out; omega
        clear HVB
        by_cases hca : hcheckS p ms us.length = 0
        · rw [hca] at HKA
          have hma := hcheckS_zero.1 hca
          by_cases hcb : hcheckS p ns vs.length = 0
          · rw [hcb] at HKB
            have hmb := hcheckS_zero.1 hcb
            have hla := layS_ok (h := ⟨e, p, ms, us⟩) hma hUok
            have hlb := layS_ok (h := ⟨F, p, ns, vs⟩) hmb hVok
            have hnf := newer_first ⟨e, p, ms, us⟩ ⟨F, p, ns, vs⟩ hma hmb rfl HFE.out hlt
            have hns := newer_second ⟨e, p, ms, us⟩ ⟨F, p, ns, vs⟩ hma hmb rfl HFE.out hlt
            have hof := older_first ⟨e, p, ms, us⟩ hma he sp
            have hos := older_second ⟨e, p, ms, us⟩ hma he sp
            have HLA : Hid (∀ w1, Below w.heap.size w w1 → Calls Tryd.prog 27 #[.agg #[.int .u64 e, .int .i64 p, .slice ma M mc, .slice ua N uc]] w1 fun r w2 => ∃ u, r = .returned u ∧ Below w1.heap.size w1 w2 ∧ isOwnN w1.heap.size (layS ⟨e, p, ms, us⟩) u w2) := fun w1 hb => by
              refine (lay_any w1 _ ⟨e, p, ms, us⟩ (HVA.out w1 hb) hma (hT.below hb)).mono ?_
              rintro r w2 ⟨a, c, rfl, ho, hb2⟩
              exact ⟨_, rfl, hb2, a, c, by rw [layS_len], by rw [layS_len]; exact ho⟩
            have HLB : Hid (∀ w1, Below w.heap.size w w1 → Calls Tryd.prog 27 #[.agg #[.int .u64 (F : Int), .int .i64 p, .slice mb M' nc, .slice ub N' vc]] w1 fun r w2 => ∃ u, r = .returned u ∧ Below w1.heap.size w1 w2 ∧ isOwnN w1.heap.size (layS ⟨F, p, ns, vs⟩) u w2) := fun w1 hb => by
              refine (lay_any w1 _ ⟨F, p, ns, vs⟩ (HVB2.out w1 hb) hmb (hT.below hb)).mono ?_
              rintro r w2 ⟨a, c, rfl, ho, hb2⟩
              exact ⟨_, rfl, hb2, a, c, by rw [layS_len], by rw [layS_len]; exact ho⟩
            have HSA : Hid (∀ w1 v1, HdV w1 v1 ⟨e, p, ms, us⟩ → Below w.heap.size w w1 → Calls Tryd.prog 17 #[v1, .agg #[.int .u64 e, .int .i64 p, .slice ma M mc, .slice ua N uc]] w1 fun r w2 => r = .returned (.bool true) ∧ Below w1.heap.size w1 w2) := fun w1 v1 h1 hb => by
              have := hsame_any w1 v1 _ _ _ h1 (HVA.out w1 hb)
              rwa [sameH_self] at this
            have HSB : Hid (∀ w1 v1, HdV w1 v1 ⟨F, p, ns, vs⟩ → Below w.heap.size w w1 → Calls Tryd.prog 17 #[v1, .agg #[.int .u64 (F : Int), .int .i64 p, .slice mb M' nc, .slice ub N' vc]] w1 fun r w2 => r = .returned (.bool true) ∧ Below w1.heap.size w1 w2) := fun w1 v1 h1 hb => by
              have := hsame_any w1 v1 _ _ _ h1 (HVB2.out w1 hb)
              rwa [sameH_self] at this
            have HCO : Hid (∀ w1 v us pss c, Parts w1 v us pss → Below w.heap.size w w1 → chooseS p pss = c → Calls Tryd.prog 25 #[.int .i64 p, v] w1 (GivesC w1 c)) := fun w1 v us pss c h1 hb hc => by
              have := choose_any w1 p v us pss h1 (hT.below hb)
              rwa [hc] at this
            have h1e := spoilt_one p sp
            have h2e := spoilt_two p sp
            simp only at hnf hns hof hos
            clear hT hUok hVok hma hmb hca hcb HVA HVB2
            obtain ⟨LA, hLA⟩ : ∃ L, L = layS ⟨e, p, ms, us⟩ := ⟨_, rfl⟩
            obtain ⟨LB, hLB⟩ : ∃ L, L = layS ⟨F, p, ns, vs⟩ := ⟨_, rfl⟩
            rw [← hLA] at HLA hla hnf hns hof hos
            rw [← hLB] at HLB hlb hnf hns
            have HOA := hide hla
            have HOB := hide hlb
            clear hLA hLB hla hlb
            rcases (by omega : F % 2 = 1 ∨ F % 2 = 0) with hR | hR
            · have HCN := hide (hns hR)
              have HCO2 := hide (hos (by have := HFE.out; omega))
              have hRi : (F : Int) % 2 = 1 := by omega
              clear hnf hns hof hos hR
              go_enter Tryd.func8, Tryd.ntmps8
              go_wp2_with (first
                | (go_at_call 9; refine (HL.out _ HN0.out).mono ?_; rintro e1 w1 ⟨rfl, b1⟩; have HS1 := hide (HS.out w1 b1); obtain ⟨⟨c0, c1, c2, c3⟩, ⟨d0, d1, d2, d3⟩, z0, z1⟩ := HCE.out _ b1; clear HN0 HS b1)
                | (go_at_call 10; refine HS1.out.mono ?_; rintro e1 w2 ⟨rfl, b2⟩; clear c0 c1 c2 c3 d0 d1 d2 d3 z0 z1; obtain ⟨⟨c0, c1, c2, c3⟩, ⟨d0, d1, d2, d3⟩, z0, z1⟩ := HCE.out _ b2; have k2 := HKS.out w2 b2; have HK2 := hide k2; have HA2 := hide (HKA.out _ k2.1); clear HS1 HKA b2 k2)
                | (go_at_call 15; refine HA2.out.mono ?_; rintro e1 w3 ⟨rfl, b3⟩; have k3 := HK2.out.below b3; clear c0 c1 c2 c3 d0 d1 d2 d3 z0 z1; obtain ⟨⟨c0, c1, c2, c3⟩, ⟨d0, d1, d2, d3⟩⟩ := HCK.out _ k3; have HK3 := hide k3; have HA3 := hide (HKB.out _ k3.1); clear HA2 HK2 HKB b3 k3)
                | (go_at_call 15; refine HA3.out.mono ?_; rintro e1 w4 ⟨rfl, b4⟩; have k4 := HK3.out.below b4; clear c0 c1 c2 c3 d0 d1 d2 d3; obtain ⟨⟨c0, c1, c2, c3⟩, ⟨d0, d1, d2, d3⟩⟩ := HCK.out _ k4; have HK4 := hide k4; clear HA3 HK3 b4 k4))
              refine wp_region_facts (FL [isV (.agg #[.int .u64 e, .int .i64 p, .slice ma M mc, .slice ua N uc]), isOwnN w4.heap.size LA, isV (.agg #[.int .u64 (F : Int), .int .i64 p, .slice mb M' nc, .slice ub N' vc]), isOwnN w4.heap.size LB, isPair w4.heap.size LA LB, isPair w4.heap.size LA LB]) 140 (by kernel_rfl) (by kernel_rfl) (by kernel_rfl) rfl (FL_stable _ (by repeat (first | exact trivial | refine ⟨stable_isV _, ?_⟩ | refine ⟨stable_isPair _ _ _, ?_⟩ | refine ⟨stable_isOwnN _ _, ?_⟩))) ?_ ?_
              · refine ⟨?_, ?_, ?_, ?_, ?_, ?_, trivial⟩
                · intro act wx h
                  have e3 : act.eval (.tmp 3) = .pointer (some ⟨w.heap.size, 0, none⟩) := h.old 3 (by kernel_rfl)
                  have hbel := h.below
                  clear h
                  obtain ⟨⟨x0, x1, x2, x3⟩, ⟨x4, x5, x6, x7⟩⟩ := HCK.out _ (HK4.out.below hbel)
                  refine gives_by rfl act.eval rfl ?_
                  generalize act.eval = ρ at *
                  intro hf hc
                  go_simp
                  exact ⟨Below.refl _ _, rfl⟩
                · intro act wx h
                  obtain ⟨v51, e51, f51⟩ := h.val 0 51 (by kernel_rfl)
                  obtain rfl : v51 = .agg #[.int .u64 e, .int .i64 p, .slice ma M mc, .slice ua N uc] := f51
                  have hbel := h.below
                  clear h
                  refine gives_by rfl act.eval rfl ?_
                  generalize act.eval = ρ at *
                  intro hf hc
                  go_simp
                  refine (HLA.out wx (HK4.out.below hbel).1).mono ?_
                  rintro r wy ⟨u, rfl, hb, a, c, h1, h2⟩
                  exact ⟨_, rfl, hb, a, c, h1, own_of_le h2 hbel.size⟩
                · intro act wx h
                  have e4 : act.eval (.tmp 4) = .pointer (some ⟨w.heap.size + 1, 0, none⟩) := h.old 4 (by kernel_rfl)
                  have hbel := h.below
                  clear h
                  obtain ⟨⟨x0, x1, x2, x3⟩, ⟨x4, x5, x6, x7⟩⟩ := HCK.out _ (HK4.out.below hbel)
                  refine gives_by rfl act.eval rfl ?_
                  generalize act.eval = ρ at *
                  intro hf hc
                  go_simp
                  exact ⟨Below.refl _ _, rfl⟩
                · intro act wx h
                  obtain ⟨v53, e53, f53⟩ := h.val 2 53 (by kernel_rfl)
                  obtain rfl : v53 = .agg #[.int .u64 (F : Int), .int .i64 p, .slice mb M' nc, .slice ub N' vc] := f53
                  have hbel := h.below
                  clear h
                  refine gives_by rfl act.eval rfl ?_
                  generalize act.eval = ρ at *
                  intro hf hc
                  go_simp
                  refine (HLB.out wx (HK4.out.below hbel).1).mono ?_
                  rintro r wy ⟨u, rfl, hb, a, c, h1, h2⟩
                  exact ⟨_, rfl, hb, a, c, h1, own_of_le h2 hbel.size⟩
                · intro act wx h
                  obtain ⟨v52, e52, f52⟩ := h.val 1 52 (by kernel_rfl)
                  obtain ⟨a52, q52, rfl, O52⟩ := f52
                  obtain ⟨v54, e54, f54⟩ := h.val 3 54 (by kernel_rfl)
                  obtain ⟨a54, q54, rfl, O54⟩ := f54
                  have hbel := h.below
                  clear h
                  refine gives_by rfl act.eval rfl ?_
                  generalize act.eval = ρ at *
                  intro hf hc
                  go_simp
                  exact ⟨(Below.refl _ wx).alloc (Nat.le_refl _) _, wx.heap.size, a52, q52, a54, q54, rfl, hbel.size, Blk.new wx _ [_, _], own_keep O52 ((Below.refl _ wx).alloc (Nat.le_refl _) _), own_keep O54 ((Below.refl _ wx).alloc (Nat.le_refl _) _)⟩
                · intro act wx h
                  obtain ⟨v55, e55, f55⟩ := h.val 4 55 (by kernel_rfl)
                  obtain ⟨gg, pa, pc1, pb, pc2, rfl, hg1, hg2, hg3, hg4⟩ := f55
                  have hbel := h.below
                  clear h
                  refine gives_by rfl act.eval rfl ?_
                  generalize act.eval = ρ at *
                  intro hf hc
                  go_simp
                  exact ⟨Below.refl _ _, ⟨gg, pa, pc1, pb, pc2, rfl, hg1, hg2, hg3, hg4⟩⟩
              · intro vals w7 hb7 hvv
                obtain ⟨C, pa, pc1, pb, pc2, hv5, hgC, C7, O7, P7⟩ : isPair w4.heap.size LA LB (vals 5) w7 := hvv 5 8 (by kernel_rfl)
                clear hvv
                generalize hact : putAll _ vals 0 _ = act
                have k7 := HK4.out.below hb7
                have hszC : w.heap.size + 1 < C := by have := HK4.out.2.2.lt; omega
                have S0 := sl_of_own_len O7 HOA.out
                have S1 := sl_of_own_len P7 HOB.out
                have HC7 := hide (HCO.out w7 _ _ _ _ (parts_in C7 S0 S1) k7.1 HCN.out)
                have HCC := hide C7
                have HSX := hide S0
                have HNX := hide (own8_ne O7 C7 (by decide))
                have HK7 := hide k7
                clear c0 c1 c2 c3 d0 d1 d2 d3
                obtain ⟨⟨c0, c1, c2, c3⟩, ⟨d0, d1, d2, d3⟩⟩ := HCK.out _ k7
                clear S0 S1 C7 O7 P7 k7 HCN HLA HLB
                subst hact
                simp only [putAll, Act.put, List.setIfInBounds_toArray, List.set_cons_zero, List.set_cons_succ, hv5, Nat.zero_add, Nat.reduceAdd]
                clear hv5
                go_wp2_with (first
                  | (go_at_call 25; refine HC7.out.mono ?_; rintro e1 w8 ⟨mz, cz, uz, dz, rfl, hv8, b8⟩; have k8 := (HK7.out.below b8).alloc (.cells #[.int .u64 (F : Int), .int .i64 p, .slice mz ns.length cz, .slice uz vs.length dz] 26); clear c0 c1 c2 c3 d0 d1 d2 d3; obtain ⟨⟨c0, c1, c2, c3⟩, ⟨d0, d1, d2, d3⟩⟩ := HCK.out _ k8; have HS8 := hide (HSB.out _ _ (hv8.val.alloc (.cells #[.int .u64 (F : Int), .int .i64 p, .slice mz ns.length cz, .slice uz vs.length dz] 26)) k8.1); have HK8 := hide k8; have HZ8 := hide (Blk.new w8 26 [.int .u64 (F : Int), .int .i64 p, .slice mz ns.length cz, .slice uz vs.length dz]); have HC8 := hide ((HCC.out.below b8 HCC.out.lt).alloc (.cells #[.int .u64 (F : Int), .int .i64 p, .slice mz ns.length cz, .slice uz vs.length dz] 26)); have HX8 := hide ((HSX.out.below b8).alloc (.cells #[.int .u64 (F : Int), .int .i64 p, .slice mz ns.length cz, .slice uz vs.length dz] 26)); have hCz : C < w8.heap.size := Nat.lt_of_lt_of_le HCC.out.lt b8.size; unfold hdV; clear HC7 HK7 HCC HSX hv8 b8 k8)
                  | (go_at_call 17; refine HS8.out.mono ?_; rintro e1 w9 ⟨rfl, b9⟩; have k9 := HK8.out.below b9; clear c0 c1 c2 c3 d0 d1 d2 d3; obtain ⟨⟨c0, c1, c2, c3⟩, ⟨d0, d1, d2, d3⟩⟩ := HCK.out _ k9; have C9 := HC8.out.below b9 HC8.out.lt; have HZ9 := hide (HZ8.out.below b9 HZ8.out.lt); have HX9 := hide (HX8.out.below b9); have HC9 := hide C9; have HK9 := hide k9; have q0 := C9.cell 1; have q1 := C9.frozen 1; simp only [List.getElem?_cons_zero, List.getElem?_cons_succ] at q0; clear HS8 HK8 HC8 HZ8 HX8 HSB b9 k9 C9))
                obtain ⟨W10, hW10⟩ : ∃ W, W = w9.setCell ⟨C, 1, none⟩ (.slice sa sp.length sc) := ⟨_, rfl⟩
                have oS : Only (fun k => k = C) w9 W10 := by rw [hW10]; exact (Only.refl _ w9).setCell ⟨C, 1, none⟩ _ (fun _ => rfl)
                have HK10 := hide (HK9.out.only oS (fun k hk => by omega))
                have HC10 : Hid (Blk W10 C 24 [.slice pa LA.length pc1, .slice sa sp.length sc]) := by
                  show Blk _ _ _ _
                  rw [hW10]
                  exact HC9.out.set 1 (.slice sa sp.length sc)
                have HZ10 := hide (HZ9.out.only oS (fun hk => by omega))
                have HX10 := hide (HX9.out.only oS (fun k hk hh => HNX.out k hk hh))
                have HS10 := hide (HSP.out W10 HK10.out.1)
                clear c0 c1 c2 c3 d0 d1 d2 d3
                obtain ⟨⟨c0, c1, c2, c3⟩, ⟨d0, d1, d2, d3⟩⟩ := HCK.out _ HK10.out
                rw [← hW10]
                clear hW10 oS HK9 HC9 HZ9 HX9 q0 q1
                have hcut : ∀ wx, (Instr.slice 40 (.slice (some ⟨C, 0, none⟩) 2 2) (some (.int .i64 1)) (some (.int .i64 2)) none).run Tryd.prog wx = .ok (.slice (some ⟨C, 1, none⟩) 1 1) wx := fun wx => cut_parts_lh C 1 (by omega) wx
                have HCP : Hid (∀ wx, Below W10.heap.size W10 wx → Calls Tryd.prog 25 #[.int .i64 p, .slice (some ⟨C, 1, none⟩) 1 1] wx fun r w2 => ∃ v, r = .returned v ∧ Below wx.heap.size wx w2 ∧ isEr (chooseS p [sp]).er v w2) := fun wx hb => by
                  refine (HCO.out wx _ _ _ _ (parts_off (HC10.out.below hb HC10.out.lt) 1 rfl (by omega) (by omega) (HS10.out.below hb)) (HK10.out.below hb).1 rfl).mono ?_
                  rintro r w2 ⟨m1, m2, m3, m4, rfl, _, hb2⟩
                  exact ⟨_, rfl, hb2, _, _, rfl⟩
                obtain ⟨E1, hE1⟩ : ∃ E, E = (chooseS p [sp]).er := ⟨_, rfl⟩
                rw [← hE1] at HCP h1e
                clear hE1
                cases hat : atB 1 sp p with
                | true =>
                  have HE2 : Hid ((chooseS p [[], sp]).er = 0) := by show _ = _; rw [h2e, hat]; rfl
                  clear h1e h2e hat HCO2 HSA
                  refine wp_region_facts (FL [isV (.pointer (some ⟨w.heap.size, 1, none⟩)), isV (.int .i64 p), isV (.slice (some ⟨C, 0, none⟩) 2 2), isV (.int .i64 1), isV (.int .i64 1), isV (.int .i64 2), isV (.slice (some ⟨C, 1, none⟩) 1 1), isEr E1, isEr E1, (fun _ _ => True), (fun _ _ => True), isV (.int .i64 E1), isV (.int .i64 E1)]) 140 (by kernel_rfl) (by kernel_rfl) (by kernel_rfl) rfl (FL_stable _ (by repeat (first | exact trivial | refine ⟨stable_isV _, ?_⟩ | refine ⟨stable_isEr _, ?_⟩ | refine ⟨stable_true, ?_⟩))) ?_ ?_
                  · refine ⟨?_, ?_, ?_, ?_, ?_, ?_, ?_, ?_, ?_, ?_, ?_, ?_, ?_, trivial⟩
                    · intro act wx h
                      have e3 : act.eval (.tmp 3) = .pointer (some ⟨w.heap.size, 0, none⟩) := h.old 3 (by kernel_rfl)
                      have hbel := h.below
                      clear h
                      refine gives_by rfl act.eval rfl ?_
                      generalize act.eval = ρ at *
                      intro hf hc
                      go_simp
                      exact ⟨Below.refl _ _, rfl⟩
                    · intro act wx h
                      obtain ⟨v89, e89, f89⟩ := h.val 0 89 (by kernel_rfl)
                      obtain rfl : v89 = .pointer (some ⟨w.heap.size, 1, none⟩) := f89
                      have hbel := h.below
                      clear h
                      obtain ⟨⟨x0, x1, x2, x3⟩, ⟨x4, x5, x6, x7⟩⟩ := HCK.out _ (HK10.out.below hbel)
                      refine gives_by rfl act.eval rfl ?_
                      generalize act.eval = ρ at *
                      intro hf hc
                      go_simp
                      exact ⟨Below.refl _ _, rfl⟩
                    · intro act wx h
                      have e8 : act.eval (.tmp 8) = .slice (some ⟨C, 0, none⟩) 2 2 := h.old 8 (by kernel_rfl)
                      have hbel := h.below
                      clear h
                      refine gives_by rfl act.eval rfl ?_
                      generalize act.eval = ρ at *
                      intro hf hc
                      go_simp
                      exact ⟨Below.refl _ _, rfl⟩
                    · intro act wx h
                      have e7 : act.eval (.tmp 7) = .int .i64 1 := h.old 7 (by kernel_rfl)
                      have hbel := h.below
                      clear h
                      refine gives_by rfl act.eval rfl ?_
                      generalize act.eval = ρ at *
                      intro hf hc
                      go_simp
                      exact ⟨Below.refl _ _, rfl⟩
                    · intro act wx h
                      have e7 : act.eval (.tmp 7) = .int .i64 1 := h.old 7 (by kernel_rfl)
                      have hbel := h.below
                      clear h
                      refine gives_by rfl act.eval rfl ?_
                      generalize act.eval = ρ at *
                      intro hf hc
                      go_simp
                      exact ⟨Below.refl _ _, rfl⟩
                    · intro act wx h
                      obtain ⟨v93, e93, f93⟩ := h.val 4 93 (by kernel_rfl)
                      obtain rfl : v93 = .int .i64 1 := f93
                      have hbel := h.below
                      clear h
                      refine gives_by rfl act.eval rfl ?_
                      generalize act.eval = ρ at *
                      intro hf hc
                      go_simp
                      exact ⟨Below.refl _ _, rfl⟩
                    · intro act wx h
                      obtain ⟨v91, e91, f91⟩ := h.val 2 91 (by kernel_rfl)
                      obtain rfl : v91 = .slice (some ⟨C, 0, none⟩) 2 2 := f91
                      obtain ⟨v92, e92, f92⟩ := h.val 3 92 (by kernel_rfl)
                      obtain rfl : v92 = .int .i64 1 := f92
                      obtain ⟨v94, e94, f94⟩ := h.val 5 94 (by kernel_rfl)
                      obtain rfl : v94 = .int .i64 2 := f94
                      have hbel := h.below
                      clear h
                      refine gives_by rfl act.eval rfl ?_
                      generalize act.eval = ρ at *
                      intro hf hc
                      go_simp
                      exact ⟨Below.refl _ _, rfl⟩
                    · intro act wx h
                      obtain ⟨v90, e90, f90⟩ := h.val 1 90 (by kernel_rfl)
                      obtain rfl : v90 = .int .i64 p := f90
                      obtain ⟨v95, e95, f95⟩ := h.val 6 95 (by kernel_rfl)
                      obtain rfl : v95 = .slice (some ⟨C, 1, none⟩) 1 1 := f95
                      have hbel := h.below
                      clear h
                      refine gives_by rfl act.eval rfl ?_
                      generalize act.eval = ρ at *
                      intro hf hc
                      go_simp
                      exact HCP.out wx hbel
                    · intro act wx h
                      obtain ⟨v96, e96, f96⟩ := h.val 7 96 (by kernel_rfl)
                      obtain ⟨t1, t2, rfl⟩ := f96
                      have hbel := h.below
                      clear h
                      refine gives_by rfl act.eval rfl ?_
                      generalize act.eval = ρ at *
                      intro hf hc
                      go_simp
                      exact ⟨Below.refl _ _, ⟨t1, t2, rfl⟩⟩
                    · intro act wx h
                      obtain ⟨v88, e88, f88⟩ := h.val 8 88 (by kernel_rfl)
                      obtain ⟨t1, t2, rfl⟩ := f88
                      have hbel := h.below
                      clear h
                      refine gives_by rfl act.eval rfl ?_
                      generalize act.eval = ρ at *
                      intro hf hc
                      go_simp
                      exact ⟨Below.refl _ _, trivial⟩
                    · intro act wx h
                      obtain ⟨v88, e88, f88⟩ := h.val 8 88 (by kernel_rfl)
                      obtain ⟨t1, t2, rfl⟩ := f88
                      have hbel := h.below
                      clear h
                      refine gives_by rfl act.eval rfl ?_
                      generalize act.eval = ρ at *
                      intro hf hc
                      go_simp
                      exact ⟨Below.refl _ _, trivial⟩
                    · intro act wx h
                      obtain ⟨v88, e88, f88⟩ := h.val 8 88 (by kernel_rfl)
                      obtain ⟨t1, t2, rfl⟩ := f88
                      have hbel := h.below
                      clear h
                      refine gives_by rfl act.eval rfl ?_
                      generalize act.eval = ρ at *
                      intro hf hc
                      go_simp
                      exact ⟨Below.refl _ _, rfl⟩
                    · intro act wx h
                      obtain ⟨v99, e99, f99⟩ := h.val 11 99 (by kernel_rfl)
                      obtain rfl : v99 = .int .i64 E1 := f99
                      have hbel := h.below
                      clear h
                      refine gives_by rfl act.eval rfl ?_
                      generalize act.eval = ρ at *
                      intro hf hc
                      go_simp
                      exact ⟨Below.refl _ _, rfl⟩
                  · intro vals3 w11 hb11 hvv
                    have hv12 : vals3 12 = .int .i64 E1 := hvv 12 11 (by kernel_rfl)
                    clear hvv
                    generalize hact : putAll _ vals3 0 _ = act
                    have HK11 := hide (HK10.out.below hb11)
                    have HC11 := hide (HC10.out.below hb11 HC10.out.lt)
                    have HZ11 := hide (HZ10.out.below hb11 HZ10.out.lt)
                    have HX11 := hide (HX10.out.below hb11)
                    have HS11 := hide (HS10.out.below hb11)
                    clear c0 c1 c2 c3 d0 d1 d2 d3
                    obtain ⟨⟨c0, c1, c2, c3⟩, ⟨d0, d1, d2, d3⟩⟩ := HCK.out _ HK11.out
                    clear hb11 HK10 HC10 HZ10 HX10 HS10 HCP hcut
                    subst hact
                    simp only [putAll, Act.put, List.setIfInBounds_toArray, List.set_cons_zero, List.set_cons_succ, hv12, Nat.zero_add, Nat.reduceAdd]
                    clear hv12
                    have HCY : Hid (Calls Tryd.prog 25 #[.int .i64 p, .slice (some ⟨w11.heap.size, 0, none⟩) 2 2] (w11.alloc (.cells #[.slice none 0 0, .slice sa sp.length sc] 24)) fun r w2 => ∃ x y, r = .returned (.tuple #[x, y, .int .i64 0]) ∧ Below (w11.alloc (.cells #[.slice none 0 0, .slice sa sp.length sc] 24)).heap.size (w11.alloc (.cells #[.slice none 0 0, .slice sa sp.length sc] 24)) w2) := by
                      refine (HCO.out (w11.alloc (.cells #[.slice none 0 0, .slice sa sp.length sc] 24)) _ _ _ _ (parts_two (Sl.nil w11) HS11.out) (HK11.out.alloc _).1 rfl).mono ?_
                      rintro r w2 ⟨m1, m2, m3, m4, rfl, _, hb2⟩
                      exact ⟨_, _, by rw [HE2.out], hb2⟩
                    go_wp2_with (first
                      | (go_at_call 25; refine HCY.out.mono ?_; rintro e1 w12 ⟨x12, y12, rfl, b12⟩; have k12 := (HK11.out.alloc (.cells #[.slice none 0 0, .slice sa sp.length sc] 24)).below b12; clear c0 c1 c2 c3 d0 d1 d2 d3; obtain ⟨⟨c0, c1, c2, c3⟩, ⟨d0, d1, d2, d3⟩⟩ := HCK.out _ k12; have HK12 := hide k12; have HZ12 := hide ((HZ11.out.alloc (.cells #[.slice none 0 0, .slice sa sp.length sc] 24)).below b12 (HZ11.out.alloc (.cells #[.slice none 0 0, .slice sa sp.length sc] 24)).lt); have HC12 := hide ((HC11.out.alloc (.cells #[.slice none 0 0, .slice sa sp.length sc] 24)).below b12 (HC11.out.alloc (.cells #[.slice none 0 0, .slice sa sp.length sc] 24)).lt); have HX12 := hide ((HX11.out.alloc (.cells #[.slice none 0 0, .slice sa sp.length sc] 24)).below b12); have HS12 := hide ((HS11.out.alloc (.cells #[.slice none 0 0, .slice sa sp.length sc] 24)).below b12); have HZL : Hid (w8.heap.size < w12.heap.size) := HZ12.out.lt; clear HCY HK11 HZ11 HC11 HX11 HS11 b12 k12))
                    go_ret
                    exact ⟨rfl, HK12.out.1⟩
                | false =>
                  have HE2 : Hid ((chooseS p [[], sp]).er = 60) := by show _ = _; rw [h2e, hat]; rfl
                  have HCO2 := hide (HCO2.out hat)
                  clear h1e h2e hat
                  refine wp_region_facts (FL [isV (.pointer (some ⟨w.heap.size, 1, none⟩)), isV (.int .i64 p), isV (.slice (some ⟨C, 0, none⟩) 2 2), isV (.int .i64 1), isV (.int .i64 1), isV (.int .i64 2), isV (.slice (some ⟨C, 1, none⟩) 1 1), isEr E1, isEr E1, (fun _ _ => True), (fun _ _ => True), isV (.int .i64 E1), isV (.int .i64 E1)]) 140 (by kernel_rfl) (by kernel_rfl) (by kernel_rfl) rfl (FL_stable _ (by repeat (first | exact trivial | refine ⟨stable_isV _, ?_⟩ | refine ⟨stable_isEr _, ?_⟩ | refine ⟨stable_true, ?_⟩))) ?_ ?_
                  · refine ⟨?_, ?_, ?_, ?_, ?_, ?_, ?_, ?_, ?_, ?_, ?_, ?_, ?_, trivial⟩
                    · intro act wx h
                      have e3 : act.eval (.tmp 3) = .pointer (some ⟨w.heap.size, 0, none⟩) := h.old 3 (by kernel_rfl)
                      have hbel := h.below
                      clear h
                      refine gives_by rfl act.eval rfl ?_
                      generalize act.eval = ρ at *
                      intro hf hc
                      go_simp
                      exact ⟨Below.refl _ _, rfl⟩
                    · intro act wx h
                      obtain ⟨v89, e89, f89⟩ := h.val 0 89 (by kernel_rfl)
                      obtain rfl : v89 = .pointer (some ⟨w.heap.size, 1, none⟩) := f89
                      have hbel := h.below
                      clear h
                      obtain ⟨⟨x0, x1, x2, x3⟩, ⟨x4, x5, x6, x7⟩⟩ := HCK.out _ (HK10.out.below hbel)
                      refine gives_by rfl act.eval rfl ?_
                      generalize act.eval = ρ at *
                      intro hf hc
                      go_simp
                      exact ⟨Below.refl _ _, rfl⟩
                    · intro act wx h
                      have e8 : act.eval (.tmp 8) = .slice (some ⟨C, 0, none⟩) 2 2 := h.old 8 (by kernel_rfl)
                      have hbel := h.below
                      clear h
                      refine gives_by rfl act.eval rfl ?_
                      generalize act.eval = ρ at *
                      intro hf hc
                      go_simp
                      exact ⟨Below.refl _ _, rfl⟩
                    · intro act wx h
                      have e7 : act.eval (.tmp 7) = .int .i64 1 := h.old 7 (by kernel_rfl)
                      have hbel := h.below
                      clear h
                      refine gives_by rfl act.eval rfl ?_
                      generalize act.eval = ρ at *
                      intro hf hc
                      go_simp
                      exact ⟨Below.refl _ _, rfl⟩
                    · intro act wx h
                      have e7 : act.eval (.tmp 7) = .int .i64 1 := h.old 7 (by kernel_rfl)
                      have hbel := h.below
                      clear h
                      refine gives_by rfl act.eval rfl ?_
                      generalize act.eval = ρ at *
                      intro hf hc
                      go_simp
                      exact ⟨Below.refl _ _, rfl⟩
                    · intro act wx h
                      obtain ⟨v93, e93, f93⟩ := h.val 4 93 (by kernel_rfl)
                      obtain rfl : v93 = .int .i64 1 := f93
                      have hbel := h.below
                      clear h
                      refine gives_by rfl act.eval rfl ?_
                      generalize act.eval = ρ at *
                      intro hf hc
                      go_simp
                      exact ⟨Below.refl _ _, rfl⟩
                    · intro act wx h
                      obtain ⟨v91, e91, f91⟩ := h.val 2 91 (by kernel_rfl)
                      obtain rfl : v91 = .slice (some ⟨C, 0, none⟩) 2 2 := f91
                      obtain ⟨v92, e92, f92⟩ := h.val 3 92 (by kernel_rfl)
                      obtain rfl : v92 = .int .i64 1 := f92
                      obtain ⟨v94, e94, f94⟩ := h.val 5 94 (by kernel_rfl)
                      obtain rfl : v94 = .int .i64 2 := f94
                      have hbel := h.below
                      clear h
                      refine gives_by rfl act.eval rfl ?_
                      generalize act.eval = ρ at *
                      intro hf hc
                      go_simp
                      exact ⟨Below.refl _ _, rfl⟩
                    · intro act wx h
                      obtain ⟨v90, e90, f90⟩ := h.val 1 90 (by kernel_rfl)
                      obtain rfl : v90 = .int .i64 p := f90
                      obtain ⟨v95, e95, f95⟩ := h.val 6 95 (by kernel_rfl)
                      obtain rfl : v95 = .slice (some ⟨C, 1, none⟩) 1 1 := f95
                      have hbel := h.below
                      clear h
                      refine gives_by rfl act.eval rfl ?_
                      generalize act.eval = ρ at *
                      intro hf hc
                      go_simp
                      exact HCP.out wx hbel
                    · intro act wx h
                      obtain ⟨v96, e96, f96⟩ := h.val 7 96 (by kernel_rfl)
                      obtain ⟨t1, t2, rfl⟩ := f96
                      have hbel := h.below
                      clear h
                      refine gives_by rfl act.eval rfl ?_
                      generalize act.eval = ρ at *
                      intro hf hc
                      go_simp
                      exact ⟨Below.refl _ _, ⟨t1, t2, rfl⟩⟩
                    · intro act wx h
                      obtain ⟨v88, e88, f88⟩ := h.val 8 88 (by kernel_rfl)
                      obtain ⟨t1, t2, rfl⟩ := f88
                      have hbel := h.below
                      clear h
                      refine gives_by rfl act.eval rfl ?_
                      generalize act.eval = ρ at *
                      intro hf hc
                      go_simp
                      exact ⟨Below.refl _ _, trivial⟩
                    · intro act wx h
                      obtain ⟨v88, e88, f88⟩ := h.val 8 88 (by kernel_rfl)
                      obtain ⟨t1, t2, rfl⟩ := f88
                      have hbel := h.below
                      clear h
                      refine gives_by rfl act.eval rfl ?_
                      generalize act.eval = ρ at *
                      intro hf hc
                      go_simp
                      exact ⟨Below.refl _ _, trivial⟩
                    · intro act wx h
                      obtain ⟨v88, e88, f88⟩ := h.val 8 88 (by kernel_rfl)
                      obtain ⟨t1, t2, rfl⟩ := f88
                      have hbel := h.below
                      clear h
                      refine gives_by rfl act.eval rfl ?_
                      generalize act.eval = ρ at *
                      intro hf hc
                      go_simp
                      exact ⟨Below.refl _ _, rfl⟩
                    · intro act wx h
                      obtain ⟨v99, e99, f99⟩ := h.val 11 99 (by kernel_rfl)
                      obtain rfl : v99 = .int .i64 E1 := f99
                      have hbel := h.below
                      clear h
                      refine gives_by rfl act.eval rfl ?_
                      generalize act.eval = ρ at *
                      intro hf hc
                      go_simp
                      exact ⟨Below.refl _ _, rfl⟩
                  · intro vals3 w11 hb11 hvv
                    have hv12 : vals3 12 = .int .i64 E1 := hvv 12 11 (by kernel_rfl)
                    clear hvv
                    generalize hact : putAll _ vals3 0 _ = act
                    have HK11 := hide (HK10.out.below hb11)
                    have HC11 := hide (HC10.out.below hb11 HC10.out.lt)
                    have HZ11 := hide (HZ10.out.below hb11 HZ10.out.lt)
                    have HX11 := hide (HX10.out.below hb11)
                    have HS11 := hide (HS10.out.below hb11)
                    clear c0 c1 c2 c3 d0 d1 d2 d3
                    obtain ⟨⟨c0, c1, c2, c3⟩, ⟨d0, d1, d2, d3⟩⟩ := HCK.out _ HK11.out
                    clear hb11 HK10 HC10 HZ10 HX10 HS10 HCP hcut
                    subst hact
                    simp only [putAll, Act.put, List.setIfInBounds_toArray, List.set_cons_zero, List.set_cons_succ, hv12, Nat.zero_add, Nat.reduceAdd]
                    clear hv12
                    have HCY : Hid (Calls Tryd.prog 25 #[.int .i64 p, .slice (some ⟨w11.heap.size, 0, none⟩) 2 2] (w11.alloc (.cells #[.slice none 0 0, .slice sa sp.length sc] 24)) fun r w2 => ∃ x y, r = .returned (.tuple #[x, y, .int .i64 60]) ∧ Below (w11.alloc (.cells #[.slice none 0 0, .slice sa sp.length sc] 24)).heap.size (w11.alloc (.cells #[.slice none 0 0, .slice sa sp.length sc] 24)) w2) := by
                      refine (HCO.out (w11.alloc (.cells #[.slice none 0 0, .slice sa sp.length sc] 24)) _ _ _ _ (parts_two (Sl.nil w11) HS11.out) (HK11.out.alloc _).1 rfl).mono ?_
                      rintro r w2 ⟨m1, m2, m3, m4, rfl, _, hb2⟩
                      exact ⟨_, _, by rw [HE2.out], hb2⟩
                    go_wp2_with (first
                      | (go_at_call 25; refine HCY.out.mono ?_; rintro e1 w12 ⟨x12, y12, rfl, b12⟩; have k12 := (HK11.out.alloc (.cells #[.slice none 0 0, .slice sa sp.length sc] 24)).below b12; clear c0 c1 c2 c3 d0 d1 d2 d3; obtain ⟨⟨c0, c1, c2, c3⟩, ⟨d0, d1, d2, d3⟩⟩ := HCK.out _ k12; have HK12 := hide k12; have HZ12 := hide ((HZ11.out.alloc (.cells #[.slice none 0 0, .slice sa sp.length sc] 24)).below b12 (HZ11.out.alloc (.cells #[.slice none 0 0, .slice sa sp.length sc] 24)).lt); have HC12 := hide ((HC11.out.alloc (.cells #[.slice none 0 0, .slice sa sp.length sc] 24)).below b12 (HC11.out.alloc (.cells #[.slice none 0 0, .slice sa sp.length sc] 24)).lt); have HX12 := hide ((HX11.out.alloc (.cells #[.slice none 0 0, .slice sa sp.length sc] 24)).below b12); have HS12 := hide ((HS11.out.alloc (.cells #[.slice none 0 0, .slice sa sp.length sc] 24)).below b12); have HZL : Hid (w8.heap.size < w12.heap.size) := HZ12.out.lt; have HLC := hide (HCO.out w12 _ _ _ _ (parts_in HC12.out HX12.out HS12.out) HK12.out.1 HCO2.out); clear HCY HK11 HZ11 HC11 HX11 HS11 b12 k12)
                      | (go_at_call 25; refine HLC.out.mono ?_; rintro e1 w13 ⟨mf, cf, uf, df, rfl, hv13, b13⟩; have k13 := HK12.out.below b13; clear c0 c1 c2 c3 d0 d1 d2 d3; obtain ⟨⟨c0, c1, c2, c3⟩, ⟨d0, d1, d2, d3⟩⟩ := HCK.out _ k13; have hZ13 := HZ12.out.below b13 HZ12.out.lt; obtain ⟨⟨g0, g1, g2, g3⟩, f0, f1, f2, f3⟩ := head_cells hZ13; have oZ := laidH_only w13 w8.heap.size (.int .u64 (e : Int)) (.int .i64 p) (.slice mf ms.length cf) (.slice uf us.length df); have HZB := hide (laidH_blk hZ13 (.int .u64 (e : Int)) (.int .i64 p) (.slice mf ms.length cf) (.slice uf us.length df)); have k14 := k13.only oZ (fun k hk => by omega); have hv14 := hv13.only oZ (fun k hk => by have := HZL.out; omega); have HS14 := hide (HSA.out _ _ hv14.val k14.1); have HCL := hide (HCK.out _ k14); have HK14 := hide k14; unfold hdV; clear HLC HK12 HZ12 HSA hv13 b13 k13 hZ13 oZ k14 hv14)
                      | (go_at_call 17; refine HS14.out.mono ?_; rintro e1 w15 ⟨rfl, b15⟩; have HB15 := hide (HK14.out.below b15).1; clear HS14 HK14 b15))
                    go_ret
                    exact ⟨rfl, HB15.out⟩
            · have HCN := hide (hnf hR)
              have HCO2 := hide (hof (by have := HFE.out; omega))
              have hRi : (F : Int) % 2 = 0 := by omega
              clear hnf hns hof hos hR
              go_enter Tryd.func8, Tryd.ntmps8
              go_wp2_with (first
                | (go_at_call 9; refine (HL.out _ HN0.out).mono ?_; rintro e1 w1 ⟨rfl, b1⟩; have HS1 := hide (HS.out w1 b1); obtain ⟨⟨c0, c1, c2, c3⟩, ⟨d0, d1, d2, d3⟩, z0, z1⟩ := HCE.out _ b1; clear HN0 HS b1)
                | (go_at_call 10; refine HS1.out.mono ?_; rintro e1 w2 ⟨rfl, b2⟩; clear c0 c1 c2 c3 d0 d1 d2 d3 z0 z1; obtain ⟨⟨c0, c1, c2, c3⟩, ⟨d0, d1, d2, d3⟩, z0, z1⟩ := HCE.out _ b2; have k2 := HKS.out w2 b2; have HK2 := hide k2; have HA2 := hide (HKA.out _ k2.1); clear HS1 HKA b2 k2)
                | (go_at_call 15; refine HA2.out.mono ?_; rintro e1 w3 ⟨rfl, b3⟩; have k3 := HK2.out.below b3; clear c0 c1 c2 c3 d0 d1 d2 d3 z0 z1; obtain ⟨⟨c0, c1, c2, c3⟩, ⟨d0, d1, d2, d3⟩⟩ := HCK.out _ k3; have HK3 := hide k3; have HA3 := hide (HKB.out _ k3.1); clear HA2 HK2 HKB b3 k3)
                | (go_at_call 15; refine HA3.out.mono ?_; rintro e1 w4 ⟨rfl, b4⟩; have k4 := HK3.out.below b4; clear c0 c1 c2 c3 d0 d1 d2 d3; obtain ⟨⟨c0, c1, c2, c3⟩, ⟨d0, d1, d2, d3⟩⟩ := HCK.out _ k4; have HK4 := hide k4; clear HA3 HK3 b4 k4))
              refine wp_region_facts (FL [isV (.agg #[.int .u64 e, .int .i64 p, .slice ma M mc, .slice ua N uc]), isOwnN w4.heap.size LA, isV (.agg #[.int .u64 (F : Int), .int .i64 p, .slice mb M' nc, .slice ub N' vc]), isOwnN w4.heap.size LB, isPair w4.heap.size LA LB, isPair w4.heap.size LA LB]) 140 (by kernel_rfl) (by kernel_rfl) (by kernel_rfl) rfl (FL_stable _ (by repeat (first | exact trivial | refine ⟨stable_isV _, ?_⟩ | refine ⟨stable_isPair _ _ _, ?_⟩ | refine ⟨stable_isOwnN _ _, ?_⟩))) ?_ ?_
              · refine ⟨?_, ?_, ?_, ?_, ?_, ?_, trivial⟩
                · intro act wx h
                  have e3 : act.eval (.tmp 3) = .pointer (some ⟨w.heap.size, 0, none⟩) := h.old 3 (by kernel_rfl)
                  have hbel := h.below
                  clear h
                  obtain ⟨⟨x0, x1, x2, x3⟩, ⟨x4, x5, x6, x7⟩⟩ := HCK.out _ (HK4.out.below hbel)
                  refine gives_by rfl act.eval rfl ?_
                  generalize act.eval = ρ at *
                  intro hf hc
                  go_simp
                  exact ⟨Below.refl _ _, rfl⟩
                · intro act wx h
                  obtain ⟨v51, e51, f51⟩ := h.val 0 51 (by kernel_rfl)
                  obtain rfl : v51 = .agg #[.int .u64 e, .int .i64 p, .slice ma M mc, .slice ua N uc] := f51
                  have hbel := h.below
                  clear h
                  refine gives_by rfl act.eval rfl ?_
                  generalize act.eval = ρ at *
                  intro hf hc
                  go_simp
                  refine (HLA.out wx (HK4.out.below hbel).1).mono ?_
                  rintro r wy ⟨u, rfl, hb, a, c, h1, h2⟩
                  exact ⟨_, rfl, hb, a, c, h1, own_of_le h2 hbel.size⟩
                · intro act wx h
                  have e4 : act.eval (.tmp 4) = .pointer (some ⟨w.heap.size + 1, 0, none⟩) := h.old 4 (by kernel_rfl)
                  have hbel := h.below
                  clear h
                  obtain ⟨⟨x0, x1, x2, x3⟩, ⟨x4, x5, x6, x7⟩⟩ := HCK.out _ (HK4.out.below hbel)
                  refine gives_by rfl act.eval rfl ?_
                  generalize act.eval = ρ at *
                  intro hf hc
                  go_simp
                  exact ⟨Below.refl _ _, rfl⟩
                · intro act wx h
                  obtain ⟨v53, e53, f53⟩ := h.val 2 53 (by kernel_rfl)
                  obtain rfl : v53 = .agg #[.int .u64 (F : Int), .int .i64 p, .slice mb M' nc, .slice ub N' vc] := f53
                  have hbel := h.below
                  clear h
                  refine gives_by rfl act.eval rfl ?_
                  generalize act.eval = ρ at *
                  intro hf hc
                  go_simp
                  refine (HLB.out wx (HK4.out.below hbel).1).mono ?_
                  rintro r wy ⟨u, rfl, hb, a, c, h1, h2⟩
                  exact ⟨_, rfl, hb, a, c, h1, own_of_le h2 hbel.size⟩
                · intro act wx h
                  obtain ⟨v52, e52, f52⟩ := h.val 1 52 (by kernel_rfl)
                  obtain ⟨a52, q52, rfl, O52⟩ := f52
                  obtain ⟨v54, e54, f54⟩ := h.val 3 54 (by kernel_rfl)
                  obtain ⟨a54, q54, rfl, O54⟩ := f54
                  have hbel := h.below
                  clear h
                  refine gives_by rfl act.eval rfl ?_
                  generalize act.eval = ρ at *
                  intro hf hc
                  go_simp
                  exact ⟨(Below.refl _ wx).alloc (Nat.le_refl _) _, wx.heap.size, a52, q52, a54, q54, rfl, hbel.size, Blk.new wx _ [_, _], own_keep O52 ((Below.refl _ wx).alloc (Nat.le_refl _) _), own_keep O54 ((Below.refl _ wx).alloc (Nat.le_refl _) _)⟩
                · intro act wx h
                  obtain ⟨v55, e55, f55⟩ := h.val 4 55 (by kernel_rfl)
                  obtain ⟨gg, pa, pc1, pb, pc2, rfl, hg1, hg2, hg3, hg4⟩ := f55
                  have hbel := h.below
                  clear h
                  refine gives_by rfl act.eval rfl ?_
                  generalize act.eval = ρ at *
                  intro hf hc
                  go_simp
                  exact ⟨Below.refl _ _, ⟨gg, pa, pc1, pb, pc2, rfl, hg1, hg2, hg3, hg4⟩⟩
              · intro vals w7 hb7 hvv
                obtain ⟨C', pa', pc1', pb', pc2', hv5', _⟩ : isPair w4.heap.size LA LB (vals 5) w7 := hvv 5 8 (by kernel_rfl)
                clear hvv
                generalize hact : putAll _ vals 0 _ = act
                have HK6 := hide (HK4.out.below hb7)
                clear c0 c1 c2 c3 d0 d1 d2 d3
                obtain ⟨⟨c0, c1, c2, c3⟩, ⟨d0, d1, d2, d3⟩⟩ := HCK.out _ HK6.out
                clear hb7 HK4
                subst hact
                simp only [putAll, Act.put, List.setIfInBounds_toArray, List.set_cons_zero, List.set_cons_succ, hv5', Nat.zero_add, Nat.reduceAdd]
                clear hv5'
                go_wp2
                refine wp_region_facts (FL [isV (.agg #[.int .u64 (F : Int), .int .i64 p, .slice mb M' nc, .slice ub N' vc]), isOwnN w7.heap.size LB, isV (.agg #[.int .u64 e, .int .i64 p, .slice ma M mc, .slice ua N uc]), isOwnN w7.heap.size LA, isPair w7.heap.size LB LA, isPair w7.heap.size LB LA]) 140 (by kernel_rfl) (by kernel_rfl) (by kernel_rfl) rfl (FL_stable _ (by repeat (first | exact trivial | refine ⟨stable_isV _, ?_⟩ | refine ⟨stable_isPair _ _ _, ?_⟩ | refine ⟨stable_isOwnN _ _, ?_⟩))) ?_ ?_
                · refine ⟨?_, ?_, ?_, ?_, ?_, ?_, trivial⟩
                  · intro act wx h
                    have e4 : act.eval (.tmp 4) = .pointer (some ⟨w.heap.size + 1, 0, none⟩) := h.old 4 (by kernel_rfl)
                    have hbel := h.below
                    clear h
                    obtain ⟨⟨x0, x1, x2, x3⟩, ⟨x4, x5, x6, x7⟩⟩ := HCK.out _ (HK6.out.below hbel)
                    refine gives_by rfl act.eval rfl ?_
                    generalize act.eval = ρ at *
                    intro hf hc
                    go_simp
                    exact ⟨Below.refl _ _, rfl⟩
                  · intro act wx h
                    obtain ⟨v58, e58, f58⟩ := h.val 0 58 (by kernel_rfl)
                    obtain rfl : v58 = .agg #[.int .u64 (F : Int), .int .i64 p, .slice mb M' nc, .slice ub N' vc] := f58
                    have hbel := h.below
                    clear h
                    refine gives_by rfl act.eval rfl ?_
                    generalize act.eval = ρ at *
                    intro hf hc
                    go_simp
                    refine (HLB.out wx (HK6.out.below hbel).1).mono ?_
                    rintro r wy ⟨u, rfl, hb, a, c, h1, h2⟩
                    exact ⟨_, rfl, hb, a, c, h1, own_of_le h2 hbel.size⟩
                  · intro act wx h
                    have e3 : act.eval (.tmp 3) = .pointer (some ⟨w.heap.size, 0, none⟩) := h.old 3 (by kernel_rfl)
                    have hbel := h.below
                    clear h
                    obtain ⟨⟨x0, x1, x2, x3⟩, ⟨x4, x5, x6, x7⟩⟩ := HCK.out _ (HK6.out.below hbel)
                    refine gives_by rfl act.eval rfl ?_
                    generalize act.eval = ρ at *
                    intro hf hc
                    go_simp
                    exact ⟨Below.refl _ _, rfl⟩
                  · intro act wx h
                    obtain ⟨v60, e60, f60⟩ := h.val 2 60 (by kernel_rfl)
                    obtain rfl : v60 = .agg #[.int .u64 e, .int .i64 p, .slice ma M mc, .slice ua N uc] := f60
                    have hbel := h.below
                    clear h
                    refine gives_by rfl act.eval rfl ?_
                    generalize act.eval = ρ at *
                    intro hf hc
                    go_simp
                    refine (HLA.out wx (HK6.out.below hbel).1).mono ?_
                    rintro r wy ⟨u, rfl, hb, a, c, h1, h2⟩
                    exact ⟨_, rfl, hb, a, c, h1, own_of_le h2 hbel.size⟩
                  · intro act wx h
                    obtain ⟨v59, e59, f59⟩ := h.val 1 59 (by kernel_rfl)
                    obtain ⟨a59, q59, rfl, O59⟩ := f59
                    obtain ⟨v61, e61, f61⟩ := h.val 3 61 (by kernel_rfl)
                    obtain ⟨a61, q61, rfl, O61⟩ := f61
                    have hbel := h.below
                    clear h
                    refine gives_by rfl act.eval rfl ?_
                    generalize act.eval = ρ at *
                    intro hf hc
                    go_simp
                    exact ⟨(Below.refl _ wx).alloc (Nat.le_refl _) _, wx.heap.size, a59, q59, a61, q61, rfl, hbel.size, Blk.new wx _ [_, _], own_keep O59 ((Below.refl _ wx).alloc (Nat.le_refl _) _), own_keep O61 ((Below.refl _ wx).alloc (Nat.le_refl _) _)⟩
                  · intro act wx h
                    obtain ⟨v62, e62, f62⟩ := h.val 4 62 (by kernel_rfl)
                    obtain ⟨gg, pa, pc1, pb, pc2, rfl, hg1, hg2, hg3, hg4⟩ := f62
                    have hbel := h.below
                    clear h
                    refine gives_by rfl act.eval rfl ?_
                    generalize act.eval = ρ at *
                    intro hf hc
                    go_simp
                    exact ⟨Below.refl _ _, ⟨gg, pa, pc1, pb, pc2, rfl, hg1, hg2, hg3, hg4⟩⟩
                · intro vals2 w7b hb7b hvv
                  obtain ⟨C, pa, pc1, pb, pc2, hv5, hgC, C7, O7, P7⟩ : isPair w7.heap.size LB LA (vals2 5) w7b := hvv 5 8 (by kernel_rfl)
                  clear hvv
                  generalize hact : putAll _ vals2 0 _ = act
                  have k7 := HK6.out.below hb7b
                  have hszC : w.heap.size + 1 < C := by have := HK6.out.2.2.lt; omega
                  have S0 := sl_of_own_len O7 HOB.out
                  have S1 := sl_of_own_len P7 HOA.out
                  have HC7 := hide (HCO.out w7b _ _ _ _ (parts_in C7 S0 S1) k7.1 HCN.out)
                  have HCC := hide C7
                  have HSX := hide S1
                  have HNX := hide (own8_ne P7 C7 (by decide))
                  have HK7 := hide k7
                  clear c0 c1 c2 c3 d0 d1 d2 d3
                  obtain ⟨⟨c0, c1, c2, c3⟩, ⟨d0, d1, d2, d3⟩⟩ := HCK.out _ k7
                  clear S0 S1 C7 O7 P7 k7 HCN HLA HLB
                  subst hact
                  simp only [putAll, Act.put, List.setIfInBounds_toArray, List.set_cons_zero, List.set_cons_succ, hv5, Nat.zero_add, Nat.reduceAdd]
                  clear hv5
                  go_wp2_with (first
                    | (go_at_call 25; refine HC7.out.mono ?_; rintro e1 w8 ⟨mz, cz, uz, dz, rfl, hv8, b8⟩; have k8 := (HK7.out.below b8).alloc (.cells #[.int .u64 (F : Int), .int .i64 p, .slice mz ns.length cz, .slice uz vs.length dz] 26); clear c0 c1 c2 c3 d0 d1 d2 d3; obtain ⟨⟨c0, c1, c2, c3⟩, ⟨d0, d1, d2, d3⟩⟩ := HCK.out _ k8; have HS8 := hide (HSB.out _ _ (hv8.val.alloc (.cells #[.int .u64 (F : Int), .int .i64 p, .slice mz ns.length cz, .slice uz vs.length dz] 26)) k8.1); have HK8 := hide k8; have HZ8 := hide (Blk.new w8 26 [.int .u64 (F : Int), .int .i64 p, .slice mz ns.length cz, .slice uz vs.length dz]); have HC8 := hide ((HCC.out.below b8 HCC.out.lt).alloc (.cells #[.int .u64 (F : Int), .int .i64 p, .slice mz ns.length cz, .slice uz vs.length dz] 26)); have HX8 := hide ((HSX.out.below b8).alloc (.cells #[.int .u64 (F : Int), .int .i64 p, .slice mz ns.length cz, .slice uz vs.length dz] 26)); have hCz : C < w8.heap.size := Nat.lt_of_lt_of_le HCC.out.lt b8.size; unfold hdV; clear HC7 HK7 HCC HSX hv8 b8 k8)
                    | (go_at_call 17; refine HS8.out.mono ?_; rintro e1 w9 ⟨rfl, b9⟩; have k9 := HK8.out.below b9; clear c0 c1 c2 c3 d0 d1 d2 d3; obtain ⟨⟨c0, c1, c2, c3⟩, ⟨d0, d1, d2, d3⟩⟩ := HCK.out _ k9; have C9 := HC8.out.below b9 HC8.out.lt; have HZ9 := hide (HZ8.out.below b9 HZ8.out.lt); have HX9 := hide (HX8.out.below b9); have HC9 := hide C9; have HK9 := hide k9; have q0 := C9.cell 0; have q1 := C9.frozen 0; simp only [List.getElem?_cons_zero] at q0; clear HS8 HK8 HC8 HZ8 HX8 HSB b9 k9 C9))
                  obtain ⟨W10, hW10⟩ : ∃ W, W = w9.setCell ⟨C, 0, none⟩ (.slice sa sp.length sc) := ⟨_, rfl⟩
                  have oS : Only (fun k => k = C) w9 W10 := by rw [hW10]; exact (Only.refl _ w9).setCell ⟨C, 0, none⟩ _ (fun _ => rfl)
                  have HK10 := hide (HK9.out.only oS (fun k hk => by omega))
                  have HC10 : Hid (Blk W10 C 24 [.slice sa sp.length sc, .slice pb LA.length pc2]) := by
                    show Blk _ _ _ _
                    rw [hW10]
                    exact HC9.out.set 0 (.slice sa sp.length sc)
                  have HZ10 := hide (HZ9.out.only oS (fun hk => by omega))
                  have HX10 := hide (HX9.out.only oS (fun k hk hh => HNX.out k hk hh))
                  have HS10 := hide (HSP.out W10 HK10.out.1)
                  clear c0 c1 c2 c3 d0 d1 d2 d3
                  obtain ⟨⟨c0, c1, c2, c3⟩, ⟨d0, d1, d2, d3⟩⟩ := HCK.out _ HK10.out
                  rw [← hW10]
                  clear hW10 oS HK9 HC9 HZ9 HX9 q0 q1
                  have hcut : ∀ wx, (Instr.slice 40 (.slice (some ⟨C, 0, none⟩) 2 2) (some (.int .i64 0)) (some (.int .i64 1)) none).run Tryd.prog wx = .ok (.slice (some ⟨C, 0, none⟩) 1 2) wx := fun wx => cut_parts_lh C 0 (by omega) wx
                  have HCP : Hid (∀ wx, Below W10.heap.size W10 wx → Calls Tryd.prog 25 #[.int .i64 p, .slice (some ⟨C, 0, none⟩) 1 2] wx fun r w2 => ∃ v, r = .returned v ∧ Below wx.heap.size wx w2 ∧ isEr (chooseS p [sp]).er v w2) := fun wx hb => by
                    refine (HCO.out wx _ _ _ _ (parts_off (HC10.out.below hb HC10.out.lt) 2 rfl (by omega) (by omega) (HS10.out.below hb)) (HK10.out.below hb).1 rfl).mono ?_
                    rintro r w2 ⟨m1, m2, m3, m4, rfl, _, hb2⟩
                    exact ⟨_, rfl, hb2, _, _, rfl⟩
                  obtain ⟨E1, hE1⟩ : ∃ E, E = (chooseS p [sp]).er := ⟨_, rfl⟩
                  rw [← hE1] at HCP h1e
                  clear hE1
                  cases hat : atB 0 sp p with
                  | true =>
                    have hE10 : E1 = 0 := by rw [h1e, hat]; rfl
                    subst hE10
                    clear h1e h2e hat HCO2 HSA
                    refine wp_region_facts (FL [isV (.pointer (some ⟨w.heap.size, 1, none⟩)), isV (.int .i64 p), isV (.slice (some ⟨C, 0, none⟩) 2 2), isV (.int .i64 0), isV (.int .i64 0), isV (.int .i64 1), isV (.slice (some ⟨C, 0, none⟩) 1 2), isEr 0, isEr 0, (fun _ _ => True), (fun _ _ => True), isV (.int .i64 0), isV (.int .i64 0)]) 140 (by kernel_rfl) (by kernel_rfl) (by kernel_rfl) rfl (FL_stable _ (by repeat (first | exact trivial | refine ⟨stable_isV _, ?_⟩ | refine ⟨stable_isEr _, ?_⟩ | refine ⟨stable_true, ?_⟩))) ?_ ?_
                    · refine ⟨?_, ?_, ?_, ?_, ?_, ?_, ?_, ?_, ?_, ?_, ?_, ?_, ?_, trivial⟩
                      · intro act wx h
                        have e3 : act.eval (.tmp 3) = .pointer (some ⟨w.heap.size, 0, none⟩) := h.old 3 (by kernel_rfl)
                        have hbel := h.below
                        clear h
                        refine gives_by rfl act.eval rfl ?_
                        generalize act.eval = ρ at *
                        intro hf hc
                        go_simp
                        exact ⟨Below.refl _ _, rfl⟩
                      · intro act wx h
                        obtain ⟨v89, e89, f89⟩ := h.val 0 89 (by kernel_rfl)
                        obtain rfl : v89 = .pointer (some ⟨w.heap.size, 1, none⟩) := f89
                        have hbel := h.below
                        clear h
                        obtain ⟨⟨x0, x1, x2, x3⟩, ⟨x4, x5, x6, x7⟩⟩ := HCK.out _ (HK10.out.below hbel)
                        refine gives_by rfl act.eval rfl ?_
                        generalize act.eval = ρ at *
                        intro hf hc
                        go_simp
                        exact ⟨Below.refl _ _, rfl⟩
                      · intro act wx h
                        have e8 : act.eval (.tmp 8) = .slice (some ⟨C, 0, none⟩) 2 2 := h.old 8 (by kernel_rfl)
                        have hbel := h.below
                        clear h
                        refine gives_by rfl act.eval rfl ?_
                        generalize act.eval = ρ at *
                        intro hf hc
                        go_simp
                        exact ⟨Below.refl _ _, rfl⟩
                      · intro act wx h
                        have e7 : act.eval (.tmp 7) = .int .i64 0 := h.old 7 (by kernel_rfl)
                        have hbel := h.below
                        clear h
                        refine gives_by rfl act.eval rfl ?_
                        generalize act.eval = ρ at *
                        intro hf hc
                        go_simp
                        exact ⟨Below.refl _ _, rfl⟩
                      · intro act wx h
                        have e7 : act.eval (.tmp 7) = .int .i64 0 := h.old 7 (by kernel_rfl)
                        have hbel := h.below
                        clear h
                        refine gives_by rfl act.eval rfl ?_
                        generalize act.eval = ρ at *
                        intro hf hc
                        go_simp
                        exact ⟨Below.refl _ _, rfl⟩
                      · intro act wx h
                        obtain ⟨v93, e93, f93⟩ := h.val 4 93 (by kernel_rfl)
                        obtain rfl : v93 = .int .i64 0 := f93
                        have hbel := h.below
                        clear h
                        refine gives_by rfl act.eval rfl ?_
                        generalize act.eval = ρ at *
                        intro hf hc
                        go_simp
                        exact ⟨Below.refl _ _, rfl⟩
                      · intro act wx h
                        obtain ⟨v91, e91, f91⟩ := h.val 2 91 (by kernel_rfl)
                        obtain rfl : v91 = .slice (some ⟨C, 0, none⟩) 2 2 := f91
                        obtain ⟨v92, e92, f92⟩ := h.val 3 92 (by kernel_rfl)
                        obtain rfl : v92 = .int .i64 0 := f92
                        obtain ⟨v94, e94, f94⟩ := h.val 5 94 (by kernel_rfl)
                        obtain rfl : v94 = .int .i64 1 := f94
                        have hbel := h.below
                        clear h
                        refine gives_by rfl act.eval rfl ?_
                        generalize act.eval = ρ at *
                        intro hf hc
                        go_simp
                        exact ⟨Below.refl _ _, rfl⟩
                      · intro act wx h
                        obtain ⟨v90, e90, f90⟩ := h.val 1 90 (by kernel_rfl)
                        obtain rfl : v90 = .int .i64 p := f90
                        obtain ⟨v95, e95, f95⟩ := h.val 6 95 (by kernel_rfl)
                        obtain rfl : v95 = .slice (some ⟨C, 0, none⟩) 1 2 := f95
                        have hbel := h.below
                        clear h
                        refine gives_by rfl act.eval rfl ?_
                        generalize act.eval = ρ at *
                        intro hf hc
                        go_simp
                        exact HCP.out wx hbel
                      · intro act wx h
                        obtain ⟨v96, e96, f96⟩ := h.val 7 96 (by kernel_rfl)
                        obtain ⟨t1, t2, rfl⟩ := f96
                        have hbel := h.below
                        clear h
                        refine gives_by rfl act.eval rfl ?_
                        generalize act.eval = ρ at *
                        intro hf hc
                        go_simp
                        exact ⟨Below.refl _ _, ⟨t1, t2, rfl⟩⟩
                      · intro act wx h
                        obtain ⟨v88, e88, f88⟩ := h.val 8 88 (by kernel_rfl)
                        obtain ⟨t1, t2, rfl⟩ := f88
                        have hbel := h.below
                        clear h
                        refine gives_by rfl act.eval rfl ?_
                        generalize act.eval = ρ at *
                        intro hf hc
                        go_simp
                        exact ⟨Below.refl _ _, trivial⟩
                      · intro act wx h
                        obtain ⟨v88, e88, f88⟩ := h.val 8 88 (by kernel_rfl)
                        obtain ⟨t1, t2, rfl⟩ := f88
                        have hbel := h.below
                        clear h
                        refine gives_by rfl act.eval rfl ?_
                        generalize act.eval = ρ at *
                        intro hf hc
                        go_simp
                        exact ⟨Below.refl _ _, trivial⟩
                      · intro act wx h
                        obtain ⟨v88, e88, f88⟩ := h.val 8 88 (by kernel_rfl)
                        obtain ⟨t1, t2, rfl⟩ := f88
                        have hbel := h.below
                        clear h
                        refine gives_by rfl act.eval rfl ?_
                        generalize act.eval = ρ at *
                        intro hf hc
                        go_simp
                        exact ⟨Below.refl _ _, rfl⟩
                      · intro act wx h
                        obtain ⟨v99, e99, f99⟩ := h.val 11 99 (by kernel_rfl)
                        obtain rfl : v99 = .int .i64 0 := f99
                        have hbel := h.below
                        clear h
                        refine gives_by rfl act.eval rfl ?_
                        generalize act.eval = ρ at *
                        intro hf hc
                        go_simp
                        exact ⟨Below.refl _ _, rfl⟩
                    · intro vals3 w11 hb11 hvv
                      have hv12 : vals3 12 = .int .i64 0 := hvv 12 11 (by kernel_rfl)
                      clear hvv
                      generalize hact : putAll _ vals3 0 _ = act
                      have HK11 := hide (HK10.out.below hb11)
                      have HC11 := hide (HC10.out.below hb11 HC10.out.lt)
                      have HZ11 := hide (HZ10.out.below hb11 HZ10.out.lt)
                      have HX11 := hide (HX10.out.below hb11)
                      have HS11 := hide (HS10.out.below hb11)
                      clear c0 c1 c2 c3 d0 d1 d2 d3
                      obtain ⟨⟨c0, c1, c2, c3⟩, ⟨d0, d1, d2, d3⟩⟩ := HCK.out _ HK11.out
                      clear hb11 HK10 HC10 HZ10 HX10 HS10 HCP hcut
                      subst hact
                      simp only [putAll, Act.put, List.setIfInBounds_toArray, List.set_cons_zero, List.set_cons_succ, hv12, Nat.zero_add, Nat.reduceAdd]
                      clear hv12
                      go_wp2
                      go_ret
                      exact ⟨rfl, HK11.out.1⟩
                  | false =>
                    have hE10 : E1 = 60 := by rw [h1e, hat]; rfl
                    subst hE10
                    have HCO2 := hide (HCO2.out hat)
                    clear h1e h2e hat
                    refine wp_region_facts (FL [isV (.pointer (some ⟨w.heap.size, 1, none⟩)), isV (.int .i64 p), isV (.slice (some ⟨C, 0, none⟩) 2 2), isV (.int .i64 0), isV (.int .i64 0), isV (.int .i64 1), isV (.slice (some ⟨C, 0, none⟩) 1 2), isEr 60, isEr 60, (fun _ _ => True), (fun _ _ => True), isV (.int .i64 60), isV (.int .i64 60)]) 140 (by kernel_rfl) (by kernel_rfl) (by kernel_rfl) rfl (FL_stable _ (by repeat (first | exact trivial | refine ⟨stable_isV _, ?_⟩ | refine ⟨stable_isEr _, ?_⟩ | refine ⟨stable_true, ?_⟩))) ?_ ?_
                    · refine ⟨?_, ?_, ?_, ?_, ?_, ?_, ?_, ?_, ?_, ?_, ?_, ?_, ?_, trivial⟩
                      · intro act wx h
                        have e3 : act.eval (.tmp 3) = .pointer (some ⟨w.heap.size, 0, none⟩) := h.old 3 (by kernel_rfl)
                        have hbel := h.below
                        clear h
                        refine gives_by rfl act.eval rfl ?_
                        generalize act.eval = ρ at *
                        intro hf hc
                        go_simp
                        exact ⟨Below.refl _ _, rfl⟩
                      · intro act wx h
                        obtain ⟨v89, e89, f89⟩ := h.val 0 89 (by kernel_rfl)
                        obtain rfl : v89 = .pointer (some ⟨w.heap.size, 1, none⟩) := f89
                        have hbel := h.below
                        clear h
                        obtain ⟨⟨x0, x1, x2, x3⟩, ⟨x4, x5, x6, x7⟩⟩ := HCK.out _ (HK10.out.below hbel)
                        refine gives_by rfl act.eval rfl ?_
                        generalize act.eval = ρ at *
                        intro hf hc
                        go_simp
                        exact ⟨Below.refl _ _, rfl⟩
                      · intro act wx h
                        have e8 : act.eval (.tmp 8) = .slice (some ⟨C, 0, none⟩) 2 2 := h.old 8 (by kernel_rfl)
                        have hbel := h.below
                        clear h
                        refine gives_by rfl act.eval rfl ?_
                        generalize act.eval = ρ at *
                        intro hf hc
                        go_simp
                        exact ⟨Below.refl _ _, rfl⟩
                      · intro act wx h
                        have e7 : act.eval (.tmp 7) = .int .i64 0 := h.old 7 (by kernel_rfl)
                        have hbel := h.below
                        clear h
                        refine gives_by rfl act.eval rfl ?_
                        generalize act.eval = ρ at *
                        intro hf hc
                        go_simp
                        exact ⟨Below.refl _ _, rfl⟩
                      · intro act wx h
                        have e7 : act.eval (.tmp 7) = .int .i64 0 := h.old 7 (by kernel_rfl)
                        have hbel := h.below
                        clear h
                        refine gives_by rfl act.eval rfl ?_
                        generalize act.eval = ρ at *
                        intro hf hc
                        go_simp
                        exact ⟨Below.refl _ _, rfl⟩
                      · intro act wx h
                        obtain ⟨v93, e93, f93⟩ := h.val 4 93 (by kernel_rfl)
                        obtain rfl : v93 = .int .i64 0 := f93
                        have hbel := h.below
                        clear h
                        refine gives_by rfl act.eval rfl ?_
                        generalize act.eval = ρ at *
                        intro hf hc
                        go_simp
                        exact ⟨Below.refl _ _, rfl⟩
                      · intro act wx h
                        obtain ⟨v91, e91, f91⟩ := h.val 2 91 (by kernel_rfl)
                        obtain rfl : v91 = .slice (some ⟨C, 0, none⟩) 2 2 := f91
                        obtain ⟨v92, e92, f92⟩ := h.val 3 92 (by kernel_rfl)
                        obtain rfl : v92 = .int .i64 0 := f92
                        obtain ⟨v94, e94, f94⟩ := h.val 5 94 (by kernel_rfl)
                        obtain rfl : v94 = .int .i64 1 := f94
                        have hbel := h.below
                        clear h
                        refine gives_by rfl act.eval rfl ?_
                        generalize act.eval = ρ at *
                        intro hf hc
                        go_simp
                        exact ⟨Below.refl _ _, rfl⟩
                      · intro act wx h
                        obtain ⟨v90, e90, f90⟩ := h.val 1 90 (by kernel_rfl)
                        obtain rfl : v90 = .int .i64 p := f90
                        obtain ⟨v95, e95, f95⟩ := h.val 6 95 (by kernel_rfl)
                        obtain rfl : v95 = .slice (some ⟨C, 0, none⟩) 1 2 := f95
                        have hbel := h.below
                        clear h
                        refine gives_by rfl act.eval rfl ?_
                        generalize act.eval = ρ at *
                        intro hf hc
                        go_simp
                        exact HCP.out wx hbel
                      · intro act wx h
                        obtain ⟨v96, e96, f96⟩ := h.val 7 96 (by kernel_rfl)
                        obtain ⟨t1, t2, rfl⟩ := f96
                        have hbel := h.below
                        clear h
                        refine gives_by rfl act.eval rfl ?_
                        generalize act.eval = ρ at *
                        intro hf hc
                        go_simp
                        exact ⟨Below.refl _ _, ⟨t1, t2, rfl⟩⟩
                      · intro act wx h
                        obtain ⟨v88, e88, f88⟩ := h.val 8 88 (by kernel_rfl)
                        obtain ⟨t1, t2, rfl⟩ := f88
                        have hbel := h.below
                        clear h
                        refine gives_by rfl act.eval rfl ?_
                        generalize act.eval = ρ at *
                        intro hf hc
                        go_simp
                        exact ⟨Below.refl _ _, trivial⟩
                      · intro act wx h
                        obtain ⟨v88, e88, f88⟩ := h.val 8 88 (by kernel_rfl)
                        obtain ⟨t1, t2, rfl⟩ := f88
                        have hbel := h.below
                        clear h
                        refine gives_by rfl act.eval rfl ?_
                        generalize act.eval = ρ at *
                        intro hf hc
                        go_simp
                        exact ⟨Below.refl _ _, trivial⟩
                      · intro act wx h
                        obtain ⟨v88, e88, f88⟩ := h.val 8 88 (by kernel_rfl)
                        obtain ⟨t1, t2, rfl⟩ := f88
                        have hbel := h.below
                        clear h
                        refine gives_by rfl act.eval rfl ?_
                        generalize act.eval = ρ at *
                        intro hf hc
                        go_simp
                        exact ⟨Below.refl _ _, rfl⟩
                      · intro act wx h
                        obtain ⟨v99, e99, f99⟩ := h.val 11 99 (by kernel_rfl)
                        obtain rfl : v99 = .int .i64 60 := f99
                        have hbel := h.below
                        clear h
                        refine gives_by rfl act.eval rfl ?_
                        generalize act.eval = ρ at *
                        intro hf hc
                        go_simp
                        exact ⟨Below.refl _ _, rfl⟩
                    · intro vals3 w11 hb11 hvv
                      have hv12 : vals3 12 = .int .i64 60 := hvv 12 11 (by kernel_rfl)
                      clear hvv
                      generalize hact : putAll _ vals3 0 _ = act
                      have HK11 := hide (HK10.out.below hb11)
                      have HC11 := hide (HC10.out.below hb11 HC10.out.lt)
                      have HZ11 := hide (HZ10.out.below hb11 HZ10.out.lt)
                      have HX11 := hide (HX10.out.below hb11)
                      have HS11 := hide (HS10.out.below hb11)
                      clear c0 c1 c2 c3 d0 d1 d2 d3
                      obtain ⟨⟨c0, c1, c2, c3⟩, ⟨d0, d1, d2, d3⟩⟩ := HCK.out _ HK11.out
                      clear hb11 HK10 HC10 HZ10 HX10 HS10 HCP hcut
                      subst hact
                      simp only [putAll, Act.put, List.setIfInBounds_toArray, List.set_cons_zero, List.set_cons_succ, hv12, Nat.zero_add, Nat.reduceAdd]
                      clear hv12
                      have HK12 := HK11
                      have HZ12 := HZ11
                      have HZL : Hid (w8.heap.size < w11.heap.size) := HZ11.out.lt
                      have HLC := hide (HCO.out w11 _ _ _ _ (parts_in HC11.out HS11.out HX11.out) HK11.out.1 HCO2.out)
                      go_wp2_with (first
                        | (go_at_call 25; refine HLC.out.mono ?_; rintro e1 w13 ⟨mf, cf, uf, df, rfl, hv13, b13⟩; have k13 := HK12.out.below b13; clear c0 c1 c2 c3 d0 d1 d2 d3; obtain ⟨⟨c0, c1, c2, c3⟩, ⟨d0, d1, d2, d3⟩⟩ := HCK.out _ k13; have hZ13 := HZ12.out.below b13 HZ12.out.lt; obtain ⟨⟨g0, g1, g2, g3⟩, f0, f1, f2, f3⟩ := head_cells hZ13; have oZ := laidH_only w13 w8.heap.size (.int .u64 (e : Int)) (.int .i64 p) (.slice mf ms.length cf) (.slice uf us.length df); have HZB := hide (laidH_blk hZ13 (.int .u64 (e : Int)) (.int .i64 p) (.slice mf ms.length cf) (.slice uf us.length df)); have k14 := k13.only oZ (fun k hk => by omega); have hv14 := hv13.only oZ (fun k hk => by have := HZL.out; omega); have HS14 := hide (HSA.out _ _ hv14.val k14.1); have HCL := hide (HCK.out _ k14); have HK14 := hide k14; unfold hdV; clear HLC HK12 HZ12 HSA hv13 b13 k13 hZ13 oZ k14 hv14)
                        | (go_at_call 17; refine HS14.out.mono ?_; rintro e1 w15 ⟨rfl, b15⟩; have HB15 := hide (HK14.out.below b15).1; clear HS14 HK14 b15))
                      go_ret
                      exact ⟨rfl, HB15.out⟩
          · obtain ⟨E2, hE2⟩ : ∃ E, E = hcheckS p ns vs.length := ⟨_, rfl⟩
            rw [← hE2] at HKB hcb
            have hne : (E2 != 0) = true := by simpa using hcb
            clear hE2
            go_enter Tryd.func8, Tryd.ntmps8
            go_wp2_with (first
              | (go_at_call 9; refine (HL.out _ HN0.out).mono ?_; rintro e1 w1 ⟨rfl, b1⟩; have HS1 := hide (HS.out w1 b1); obtain ⟨⟨c0, c1, c2, c3⟩, ⟨d0, d1, d2, d3⟩, z0, z1⟩ := HCE.out _ b1; clear HN0 HS b1)
              | (go_at_call 10; refine HS1.out.mono ?_; rintro e1 w2 ⟨rfl, b2⟩; clear c0 c1 c2 c3 d0 d1 d2 d3 z0 z1; obtain ⟨⟨c0, c1, c2, c3⟩, ⟨d0, d1, d2, d3⟩, z0, z1⟩ := HCE.out _ b2; have k2 := HKS.out w2 b2; have HK2 := hide k2; have HA2 := hide (HKA.out _ k2.1); clear HS1 HKA b2 k2)
              | (go_at_call 15; refine HA2.out.mono ?_; rintro e1 w3 ⟨rfl, b3⟩; have k3 := HK2.out.below b3; clear c0 c1 c2 c3 d0 d1 d2 d3 z0 z1; obtain ⟨⟨c0, c1, c2, c3⟩, ⟨d0, d1, d2, d3⟩⟩ := HCK.out _ k3; have HK3 := hide k3; have HA3 := hide (HKB.out _ k3.1); clear HA2 HK2 HKB b3 k3)
              | (go_at_call 15; refine HA3.out.mono ?_; rintro e1 w4 ⟨rfl, b4⟩; have k4 := HK3.out.below b4; clear c0 c1 c2 c3 d0 d1 d2 d3; obtain ⟨⟨c0, c1, c2, c3⟩, ⟨d0, d1, d2, d3⟩⟩ := HCK.out _ k4; have HK4 := hide k4; clear HA3 HK3 b4 k4))
            go_ret
            exact ⟨rfl, HK4.out.1⟩
        · obtain ⟨E1, hE1⟩ : ∃ E, E = hcheckS p ms us.length := ⟨_, rfl⟩
          rw [← hE1] at HKA hca
          have hne : (E1 != 0) = true := by simpa using hca
          clear hE1
          go_enter Tryd.func8, Tryd.ntmps8
          go_wp2_with (first
            | (go_at_call 9; refine (HL.out _ HN0.out).mono ?_; rintro e1 w1 ⟨rfl, b1⟩; have HS1 := hide (HS.out w1 b1); obtain ⟨⟨c0, c1, c2, c3⟩, ⟨d0, d1, d2, d3⟩, z0, z1⟩ := HCE.out _ b1; clear HN0 HS b1)
            | (go_at_call 10; refine HS1.out.mono ?_; rintro e1 w2 ⟨rfl, b2⟩; clear c0 c1 c2 c3 d0 d1 d2 d3 z0 z1; obtain ⟨⟨c0, c1, c2, c3⟩, ⟨d0, d1, d2, d3⟩, z0, z1⟩ := HCE.out _ b2; have k2 := HKS.out w2 b2; have HK2 := hide k2; have HA2 := hide (HKA.out _ k2.1); clear HS1 HKA b2 k2)
            | (go_at_call 15; refine HA2.out.mono ?_; rintro e1 w3 ⟨rfl, b3⟩; have k3 := HK2.out.below b3; clear c0 c1 c2 c3 d0 d1 d2 d3 z0 z1; obtain ⟨⟨c0, c1, c2, c3⟩, ⟨d0, d1, d2, d3⟩⟩ := HCK.out _ k3; have HK3 := hide k3; have HA3 := hide (HKB.out _ k3.1); clear HA2 HK2 HKB b3 k3))
          go_ret
          exact ⟨rfl, HK3.out.1⟩
    · have hbi : (3000 : Int) < (sp.length : Int) := by omega
      go_enter Tryd.func8, Tryd.ntmps8
      go_wp2_with (first
        | (go_at_call 9; refine (HL.out _ HN0.out).mono ?_; rintro e1 w1 ⟨rfl, b1⟩; have HS1 := hide (HS.out w1 b1); obtain ⟨⟨c0, c1, c2, c3⟩, ⟨d0, d1, d2, d3⟩, z0, z1⟩ := HCE.out _ b1; clear HN0 HS b1)
        | (go_at_call 10; refine HS1.out.mono ?_; rintro e1 w2 ⟨rfl, b2⟩; clear c0 c1 c2 c3 d0 d1 d2 d3 z0 z1; obtain ⟨⟨c0, c1, c2, c3⟩, ⟨d0, d1, d2, d3⟩, z0, z1⟩ := HCE.out _ b2; have HB2 := hide b2; clear HS1 b2)
        | (go_at_call 9; refine (HL.out _ HB2.out).mono ?_; rintro e1 w3 ⟨rfl, b3⟩; clear HB2))
      go_ret
      exact ⟨rfl, b3.1⟩
  · rw [decide_eq_false hsh] at HS
    go_enter Tryd.func8, Tryd.ntmps8
    go_wp2_with (first
      | (go_at_call 9; refine (HL.out _ HN0.out).mono ?_; rintro e1 w1 ⟨rfl, b1⟩; have HS1 := hide (HS.out w1 b1); obtain ⟨⟨c0, c1, c2, c3⟩, ⟨d0, d1, d2, d3⟩, z0, z1⟩ := HCE.out _ b1; clear HN0 HS b1)
      | (go_at_call 10; refine HS1.out.mono ?_; rintro e1 w2 ⟨rfl, b2⟩; clear c0 c1 c2 c3 d0 d1 d2 d3 z0 z1; obtain ⟨⟨c0, c1, c2, c3⟩, ⟨d0, d1, d2, d3⟩, z0, z1⟩ := HCE.out _ b2; have HB2 := hide b2; clear HS1 b2)
      | (go_at_call 9; refine (HL.out _ HB2.out).mono ?_; rintro e1 w3 ⟨rfl, b3⟩; clear HB2))
    go_ret
    exact ⟨rfl, b3.1⟩

end Go.Proofs.YtmeiahmolmneeaaDoor
