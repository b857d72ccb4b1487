/- Contract: the head that bytes are at a page, and whether it counts (head.headAt). -/
import Derived.Test.YtmeiahmolmneeaaDoorJHRd
namespace Go.Proofs.YtmeiahmolmneeaaDoor
set_option maxRecDepth 20000
open Go.RowKit
set_option linter.unusedVariables false

theorem wantS_data {zs : List Int} {q : Int} {ks : List Int} (h : ByteOk zs) : ByteOk (wantS zs q ks).data ∧ ((wantS zs q ks).err = 0 → (wantS zs q ks).epoch < 18446744073709551616 ∧ (wantS zs q ks).data.length = 240) := by
  have h0 : ByteOk ([] : List Int) := by intro z hz; cases hz
  by_cases he : (getS zs q).err = 0
  · obtain ⟨k, p, e, _, _, h3, _, hg, hl, _⟩ := getS_back zs q h he
    by_cases hk : (getS zs q).kind ∈ ks
    · rw [wantS_yes he hk, hg]
      exact ⟨(h.drop 4).drop 12, fun _ => ⟨h3, hl⟩⟩
    · rw [wantS_no he hk]
      exact ⟨h0, fun h => absurd h (by simp [noFr])⟩
  · rw [wantS_err ks he]
    exact ⟨h0, fun h => absurd h he⟩

/-- a head that was answered, and whether it counts -/
def GivesB (w : World) (h : Hd) (b : Bool) (r : Ending) (w' : World) : Prop :=
  ∃ ma mc ua uc, r = .returned (.tuple #[hdV h.e h.p ma h.ms.length mc ua h.us.length uc, .bool b]) ∧ HdO w' (w.heap.size + 1) (hdV h.e h.p ma h.ms.length mc ua h.us.length uc) h ∧ Below w.heap.size w w'
theorem GivesB.no {w w' : World} (hb : Below w.heap.size w w') : GivesB w noHd false (.returned (.tuple #[hdV 0 0 none 0 0 none 0 0, .bool false])) w' := ⟨none, 0, none, 0, rfl, HdO.no w' _, hb⟩

theorem is_one (w : World) : Is (w.alloc (.cells #[.int .i64 1] 3)) (.slice (some ⟨w.heap.size, 0, none⟩) 1 1) [1] := by
  refine ⟨some ⟨w.heap.size, 0, none⟩, 1, rfl, Nat.le_refl _, by simp [maxLen], fun _ => ⟨w.heap.size, 0, rfl, fun i hi => ?_⟩⟩
  have hi0 : i = 0 := by simp at hi; omega
  subst hi0
  exact (Blk.new w 3 [.int .i64 1]).cell 0

theorem at_form (i : Nat) (zs : List Int) (pages : Int) : atB i zs pages = (decide ((wantS zs i [1]).err = 0) && getB (wantS zs i [1]).epoch (wantS zs i [1]).data && decide ((wantS zs i [1]).epoch % 2 = i) && decide ((getH (wantS zs i [1]).epoch (wantS zs i [1]).data).p = pages)) ∧
    (atB i zs pages = true → atH i zs pages = getH (wantS zs i [1]).epoch (wantS zs i [1]).data) ∧ (atB i zs pages = false → atH i zs pages = noHd) := by
  refine ⟨rfl, fun h => ?_, fun h => ?_⟩
  · unfold atH; rw [if_pos h]
  · unfold atH; rw [if_neg (by rw [h]; simp)]

set_option maxHeartbeats 4000000 in
theorem headAt_any (w : World) (i : Nat) (v : Value) (zs : List Int) (pages : Int) (h : Sl w v zs) (hT : Tab w) :
    Calls Tryd.prog 39 #[.int .i64 i, v, .int .i64 pages] w (GivesB w (atH i zs pages) (atB i zs pages)) := by
  have hn := Hs.new w
  have HWA := hide (want_any _ v zs i _ [1] ((h.below hn.1).alloc (.cells #[.int .i64 1] 3)) (is_one _) ((hT.below hn.1).alloc _))
  have HN := hide (hn.alloc (.cells #[.int .i64 1] 3))
  rw [World.size_alloc] at HWA
  obtain ⟨hda, hep⟩ := wantS_data (q := i) (ks := [1]) h.bytes
  obtain ⟨ha1, ha2, ha3⟩ := at_form i zs pages
  obtain ⟨ao, cap, rfl⟩ := sl_form' h
  obtain ⟨A, hA⟩ : ∃ A, A = atH i zs pages := ⟨_, rfl⟩
  obtain ⟨B, hB⟩ : ∃ B, B = atB i zs pages := ⟨_, rfl⟩
  rw [← hA] at ha2 ha3 ⊢
  rw [← hB] at ha1 ha2 ha3 ⊢
  obtain ⟨W, hW⟩ : ∃ W, W = wantS zs i [1] := ⟨_, rfl⟩
  rw [← hW] at HWA hda hep ha1 ha2
  obtain ⟨er, k, p, ep, D⟩ := W
  simp only at hda hep ha1 ha2
  have hza := zeroHeadRun
  have hzf := zeroFrameRun
  clear h hT hA hB hW hn
  by_cases h0 : er = 0
  · subst h0
    obtain ⟨hep1, hdl⟩ := hep rfl
    have HGE : Hid (∀ w1 a n c, w1.ownsRow (w.heap.size + 2) 5 1 (.slice a n c) D.length (D.map (Value.int .u8)) → Calls Tryd.prog 23 #[.int .u64 ep, .slice a n c] w1 (GivesH w1 (getH ep D) (getE ep D))) := fun w1 a n c ho => hget_any w1 ep _ D (sl_of_own_len ho hda) (by omega) hep1
    cases hg : getB ep D with
    | false =>
      have hEq : getE ep D = 60 := by unfold getE; rw [hg]; rfl
      have hHq : getH ep D = noHd := by unfold getH; rw [hg]; rfl
      rw [hEq, hHq] at HGE
      rw [hg] at ha1
      have hBf : B = false := by rw [ha1]; simp
      subst hBf
      rw [ha3 rfl]
      clear ha1 ha2 ha3 hEq hHq hg hda hep
      go_enter Tryd.func39, Tryd.ntmps39
      go_wp2_with (first
        | (go_at_call 62; refine HWA.out.mono ?_; rintro e3 w2 ⟨a2, n2, c2, rfl, O2, bel2⟩; have hs2 := HN.out.below bel2; have hs3 := hs2.alloc (.cells #[.int .i64 k, .int .i64 p, .int .u64 ep, .slice a2 n2 c2] 59); have HG3 := hide (HGE.out _ a2 n2 c2 (own_keep (own_of_le O2 (by simp)) ((Below.refl _ w2).alloc (Nat.le_refl _) (.cells #[.int .i64 k, .int .i64 p, .int .u64 ep, .slice a2 n2 c2] 59)))); have HS3 := hide hs3; clear HWA HGE HN O2 bel2 hs2 hs3)
        | (go_at_call 23; refine HG3.out.mono ?_; rintro e3 w4 ⟨ma, mc, ua, uc, rfl, hv4, bel4⟩; have hs4 := (HS3.out.below bel4).alloc (.cells #[.int .u64 0, .int .i64 0, .slice ma 0 mc, .slice ua 0 uc] 26); obtain ⟨⟨d0, d1, d2, d3⟩, k0, k1, k2, k3⟩ := head_cells hs4.2; have HS4 := hide hs4; unfold hdV noHd; clear HG3 HS3 hs4 bel4 hv4))
      (try simp only [Exit.inBlock, Exit.then])
      obtain ⟨s1, s2, s3⟩ := HS4.out.store (.int .u64 0) (.int .i64 0) (.slice none 0 0) (.slice none 0 0)
      refine bodyPost_ret (ret_head1 rfl _ _ w.heap.size _ _ _ _ _ rfl rfl s1) rfl ?_
      exact GivesB.no s2
    | true =>
      have hEq : getE ep D = 0 := by unfold getE; rw [hg]; rfl
      have hge := (getH_yes hg).2.2
      rw [hEq] at HGE
      rw [hg] at ha1
      have HPG := hide (fun wx => hpage_any wx ep)
      obtain ⟨G, hG⟩ : ∃ G, G = getH ep D := ⟨_, rfl⟩
      rw [← hG] at HGE ha1 ha2 hge
      obtain ⟨ge, gp, gms, gus⟩ := G
      simp only at hge ha1
      subst hge
      obtain ⟨R, hR⟩ : ∃ R, R = ge % 2 := ⟨_, rfl⟩
      rw [← hR] at HPG ha1
      clear hEq hG hg hda hep hR
      by_cases h1 : R = i
      · have hi1 : ((R : Int) != (i : Int)) = false := by rw [h1]; simp
        by_cases h2 : gp = pages
        · have hBt : B = true := by rw [ha1, h1, h2]; simp
          subst hBt
          rw [ha2 rfl]
          subst h2
          have HI := hide h1
          clear ha1 ha2 ha3 h1
          go_enter Tryd.func39, Tryd.ntmps39
          go_wp2_with (first
            | (go_at_call 62; refine HWA.out.mono ?_; rintro e3 w2 ⟨a2, n2, c2, rfl, O2, bel2⟩; have hs2 := HN.out.below bel2; have hs3 := hs2.alloc (.cells #[.int .i64 k, .int .i64 p, .int .u64 ge, .slice a2 n2 c2] 59); have HG3 := hide (HGE.out _ a2 n2 c2 (own_keep (own_of_le O2 (by simp)) ((Below.refl _ w2).alloc (Nat.le_refl _) (.cells #[.int .i64 k, .int .i64 p, .int .u64 ge, .slice a2 n2 c2] 59)))); have HS3 := hide hs3; clear HWA HGE HN O2 bel2 hs2 hs3)
            | (go_at_call 23; refine HG3.out.mono ?_; rintro e3 w4 ⟨ma, mc, ua, uc, rfl, hv4, bel4⟩; have hs4 := (HS3.out.below bel4).alloc (.cells #[.int .u64 ge, .int .i64 gp, .slice ma gms.length mc, .slice ua gus.length uc] 26); obtain ⟨⟨d0, d1, d2, d3⟩, k0, k1, k2, k3⟩ := head_cells hs4.2; have HS4 := hide hs4; have HV4 := hide (hv4.alloc (.cells #[.int .u64 ge, .int .i64 gp, .slice ma gms.length mc, .slice ua gus.length uc] 26)); have HZ3 : Hid (w.heap.size < (w2.alloc (.cells #[.int .i64 k, .int .i64 p, .int .u64 ge, .slice a2 n2 c2] 59)).heap.size) := HS3.out.2.lt; unfold hdV; clear HG3 HS3 hs4 bel4 hv4)
            | (go_at_call 20; refine (HPG.out _).mono ?_; rintro e3 w5 ⟨rfl, hw⟩; subst w5; clear HPG))
          (try simp only [Exit.inBlock, Exit.then])
          obtain ⟨s1, s2, s3⟩ := HS4.out.store (.int .u64 ge) (.int .i64 gp) (.slice ma gms.length mc) (.slice ua gus.length uc)
          refine bodyPost_ret (ret_head1 rfl _ _ w.heap.size _ _ _ _ _ rfl rfl s1) rfl ?_
          refine ⟨ma, mc, ua, uc, rfl, ?_, s2⟩
          exact (HV4.out.only (laidH_only _ w.heap.size _ _ _ _) (fun k hk => by have := HZ3.out; omega)).le (by have := HZ3.out; omega)
        · have hne : (gp != pages) = true := by simpa using h2
          have hBf : B = false := by rw [ha1]; simp [h2]
          subst hBf
          rw [ha3 rfl]
          clear ha1 ha2 ha3 h1
          go_enter Tryd.func39, Tryd.ntmps39
          go_wp2_with (first
            | (go_at_call 62; refine HWA.out.mono ?_; rintro e3 w2 ⟨a2, n2, c2, rfl, O2, bel2⟩; have hs2 := HN.out.below bel2; have hs3 := hs2.alloc (.cells #[.int .i64 k, .int .i64 p, .int .u64 ge, .slice a2 n2 c2] 59); have HG3 := hide (HGE.out _ a2 n2 c2 (own_keep (own_of_le O2 (by simp)) ((Below.refl _ w2).alloc (Nat.le_refl _) (.cells #[.int .i64 k, .int .i64 p, .int .u64 ge, .slice a2 n2 c2] 59)))); have HS3 := hide hs3; clear HWA HGE HN O2 bel2 hs2 hs3)
            | (go_at_call 23; refine HG3.out.mono ?_; rintro e3 w4 ⟨ma, mc, ua, uc, rfl, hv4, bel4⟩; have hs4 := (HS3.out.below bel4).alloc (.cells #[.int .u64 ge, .int .i64 gp, .slice ma gms.length mc, .slice ua gus.length uc] 26); obtain ⟨⟨d0, d1, d2, d3⟩, k0, k1, k2, k3⟩ := head_cells hs4.2; have HS4 := hide hs4; have HV4 := hide (hv4.alloc (.cells #[.int .u64 ge, .int .i64 gp, .slice ma gms.length mc, .slice ua gus.length uc] 26)); have HZ3 : Hid (w.heap.size < (w2.alloc (.cells #[.int .i64 k, .int .i64 p, .int .u64 ge, .slice a2 n2 c2] 59)).heap.size) := HS3.out.2.lt; unfold hdV; clear HG3 HS3 hs4 bel4 hv4)
            | (go_at_call 20; refine (HPG.out _).mono ?_; rintro e3 w5 ⟨rfl, hw⟩; subst w5; clear HPG))
          (try simp only [Exit.inBlock, Exit.then])
          obtain ⟨s1, s2, s3⟩ := HS4.out.store (.int .u64 0) (.int .i64 0) (.slice none 0 0) (.slice none 0 0)
          refine bodyPost_ret (ret_head1 rfl _ _ w.heap.size _ _ _ _ _ rfl rfl s1) rfl ?_
          exact GivesB.no s2
      · have hi1 : ((R : Int) != (i : Int)) = true := by simp; omega
        have hBf : B = false := by rw [ha1]; simp [h1]
        subst hBf
        rw [ha3 rfl]
        clear ha1 ha2 ha3 h1
        go_enter Tryd.func39, Tryd.ntmps39
        go_wp2_with (first
          | (go_at_call 62; refine HWA.out.mono ?_; rintro e3 w2 ⟨a2, n2, c2, rfl, O2, bel2⟩; have hs2 := HN.out.below bel2; have hs3 := hs2.alloc (.cells #[.int .i64 k, .int .i64 p, .int .u64 ge, .slice a2 n2 c2] 59); have HG3 := hide (HGE.out _ a2 n2 c2 (own_keep (own_of_le O2 (by simp)) ((Below.refl _ w2).alloc (Nat.le_refl _) (.cells #[.int .i64 k, .int .i64 p, .int .u64 ge, .slice a2 n2 c2] 59)))); have HS3 := hide hs3; clear HWA HGE HN O2 bel2 hs2 hs3)
          | (go_at_call 23; refine HG3.out.mono ?_; rintro e3 w4 ⟨ma, mc, ua, uc, rfl, hv4, bel4⟩; have hs4 := (HS3.out.below bel4).alloc (.cells #[.int .u64 ge, .int .i64 gp, .slice ma gms.length mc, .slice ua gus.length uc] 26); obtain ⟨⟨d0, d1, d2, d3⟩, k0, k1, k2, k3⟩ := head_cells hs4.2; have HS4 := hide hs4; have HV4 := hide (hv4.alloc (.cells #[.int .u64 ge, .int .i64 gp, .slice ma gms.length mc, .slice ua gus.length uc] 26)); have HZ3 : Hid (w.heap.size < (w2.alloc (.cells #[.int .i64 k, .int .i64 p, .int .u64 ge, .slice a2 n2 c2] 59)).heap.size) := HS3.out.2.lt; unfold hdV; clear HG3 HS3 hs4 bel4 hv4)
          | (go_at_call 20; refine (HPG.out _).mono ?_; rintro e3 w5 ⟨rfl, hw⟩; subst w5; clear HPG))
        (try simp only [Exit.inBlock, Exit.then])
        obtain ⟨s1, s2, s3⟩ := HS4.out.store (.int .u64 0) (.int .i64 0) (.slice none 0 0) (.slice none 0 0)
        refine bodyPost_ret (ret_head1 rfl _ _ w.heap.size _ _ _ _ _ rfl rfl s1) rfl ?_
        exact GivesB.no s2
  · have hne : (er != 0) = true := by simpa using h0
    have hBf : B = false := by rw [ha1]; simp [h0]
    subst hBf
    rw [ha3 rfl]
    clear ha1 ha2 ha3 hep
    go_enter Tryd.func39, Tryd.ntmps39
    go_wp2_with (first
      | (go_at_call 62; refine HWA.out.mono ?_; rintro e3 w2 ⟨a2, n2, c2, rfl, O2, bel2⟩; have hs2 := HN.out.below bel2; have hs3 := hs2.alloc (.cells #[.int .i64 k, .int .i64 p, .int .u64 ep, .slice a2 n2 c2] 59); obtain ⟨⟨d0, d1, d2, d3⟩, k0, k1, k2, k3⟩ := head_cells hs3.2; have HS3 := hide hs3; clear HWA HN O2 bel2 hs2 hs3))
    (try simp only [Exit.inBlock, Exit.then])
    obtain ⟨s1, s2, s3⟩ := HS3.out.store (.int .u64 0) (.int .i64 0) (.slice none 0 0) (.slice none 0 0)
    refine bodyPost_ret (ret_head1 rfl _ _ w.heap.size _ _ _ _ _ rfl rfl s1) rfl ?_
    exact GivesB.no s2

end Go.Proofs.YtmeiahmolmneeaaDoor
/- Contract: the newest head of copies (head.Choose). -/
namespace Go.Proofs.YtmeiahmolmneeaaDoor
set_option maxRecDepth 20000
open Go.RowKit
set_option linter.unusedVariables false

theorem tyParts : Tryd.prog.underlying 40 = some (.slice (Tryd.prog.elem 40)) := by kernel_rfl
theorem szParts (wx : World) : (Go.sizeOf (Tryd.prog.elem 40)).run Tryd.prog wx = .ok 1 wx := by kernel_rfl
theorem cut_parts (ao : Option Addr) (n cap h : Nat) (h2 : h ≤ cap) (wx : World) :
    (Instr.slice 40 (.slice ao n cap) none (some (.int .i64 h)) none).run Tryd.prog wx = .ok (.slice ao h cap) wx := by
  rw [run_slice_h wx 40 ao n cap tyParts .i64 h (by omega) (by omega), szParts]
  simp only [Result.andThen, sliced, Int.toNat_natCast]
  by_cases hc : cap = 0
  · rw [if_pos hc]; rfl
  · rw [if_neg hc]
    cases ao with
    | none => rfl
    | some x => simp [Addr.add]

theorem Parts.at {w : World} {ao : Option Addr} {n cap : Nat} {vs : List Value} {pss : List (List Int)} (h : Parts w (.slice ao n cap) vs pss) (i : Nat) (hi : i < vs.length) :
    ∃ b off, ao = some ⟨b, off, none⟩ ∧ w.cell? ⟨b, off + i, none⟩ = some (vs.getD i (.slice none 0 0)) ∧ Sl w (vs.getD i (.slice none 0 0)) (pss.getD i []) := by
  obtain ⟨_, ao', cap', he, h1, h2, h3, h4⟩ := h
  simp only [Value.slice.injEq] at he
  obtain ⟨rfl, rfl, rfl⟩ := he
  obtain ⟨b, off, rfl, hc⟩ := h4 (by intro h; simp [h] at hi)
  exact ⟨b, off, rfl, hc i hi, h3 i hi⟩

/-- a head that was chosen -/
def GivesC (w : World) (c : Ch) (r : Ending) (w' : World) : Prop :=
  ∃ ma mc ua uc, r = .returned (.tuple #[hdV c.h.e c.h.p ma c.h.ms.length mc ua c.h.us.length uc, .int .i64 c.at', .int .i64 c.er]) ∧ HdO w' (w.heap.size + 2) (hdV c.h.e c.h.p ma c.h.ms.length mc ua c.h.us.length uc) c.h ∧ Below w.heap.size w w'

/-- how far it is chosen: the result's block, the newest one's -/
structure Cs (w : World) (c : Ch) (ma : Option Addr) (mc : Nat) (ua : Option Addr) (uc : Nat) (wr : World) : Prop where
  st : Hs w wr
  blk : Blk wr (w.heap.size + 1) 26 [.int .u64 c.h.e, .int .i64 c.h.p, .slice ma c.h.ms.length mc, .slice ua c.h.us.length uc]
  val : HdO wr (w.heap.size + 2) (hdV c.h.e c.h.p ma c.h.ms.length mc ua c.h.us.length uc) c.h
theorem Cs.below {w wr w2 : World} {c : Ch} {ma : Option Addr} {mc : Nat} {ua : Option Addr} {uc : Nat} (h : Cs w c ma mc ua uc wr) (hb : Below wr.heap.size wr w2) : Cs w c ma mc ua uc w2 :=
  ⟨h.st.below hb, h.blk.below hb h.blk.lt, h.val.below hb⟩
theorem Cs.take {w wr : World} {c : Ch} {ma ma' : Option Addr} {mc mc' : Nat} {ua ua' : Option Addr} {uc uc' : Nat} (h : Cs w c ma mc ua uc wr) (g : Hd) (i : Int) (hv : HdO wr (w.heap.size + 2) (hdV g.e g.p ma' g.ms.length mc' ua' g.us.length uc') g) :
    Cs w ⟨g, i, 0⟩ ma' mc' ua' uc' (laidH wr (w.heap.size + 1) (.int .u64 g.e) (.int .i64 g.p) (.slice ma' g.ms.length mc') (.slice ua' g.us.length uc')) := by
  have ho := laidH_only wr (w.heap.size + 1) (.int .u64 g.e) (.int .i64 g.p) (.slice ma' g.ms.length mc') (.slice ua' g.us.length uc')
  exact ⟨h.st.only ho (fun k hk => by omega), laidH_blk h.blk _ _ _ _, hv.only ho (fun k hk => by omega)⟩
theorem Cs.done {w wr : World} {c : Ch} {ma : Option Addr} {mc : Nat} {ua : Option Addr} {uc : Nat} (h : Cs w c ma mc ua uc wr) :
    Blk (laidH wr w.heap.size (.int .u64 c.h.e) (.int .i64 c.h.p) (.slice ma c.h.ms.length mc) (.slice ua c.h.us.length uc)) w.heap.size 26 [.int .u64 c.h.e, .int .i64 c.h.p, .slice ma c.h.ms.length mc, .slice ua c.h.us.length uc] ∧
      HdO (laidH wr w.heap.size (.int .u64 c.h.e) (.int .i64 c.h.p) (.slice ma c.h.ms.length mc) (.slice ua c.h.us.length uc)) (w.heap.size + 2) (hdV c.h.e c.h.p ma c.h.ms.length mc ua c.h.us.length uc) c.h ∧ Below w.heap.size w (laidH wr w.heap.size (.int .u64 c.h.e) (.int .i64 c.h.p) (.slice ma c.h.ms.length mc) (.slice ua c.h.us.length uc)) := by
  obtain ⟨s1, s2, s3⟩ := h.st.store (.int .u64 c.h.e) (.int .i64 c.h.p) (.slice ma c.h.ms.length mc) (.slice ua c.h.us.length uc)
  exact ⟨s1, h.val.only (laidH_only wr w.heap.size _ _ _ _) (fun k hk => by omega), s2⟩

theorem stepC_yes {c : Ch} {i : Nat} {b : Bool} {h : Hd} (h1 : b = true) (h2 : c.er ≠ 0 ∨ c.h.e < h.e) : stepC c i b h = ⟨h, i, 0⟩ := by unfold stepC; rw [if_pos ⟨h1, h2⟩]
theorem stepC_no {c : Ch} {i : Nat} {b : Bool} {h : Hd} (h1 : ¬ (b = true ∧ (c.er ≠ 0 ∨ c.h.e < h.e))) : stepC c i b h = c := by unfold stepC; rw [if_neg h1]

set_option maxHeartbeats 4000000 in
theorem choose_any (w : World) (pages : Int) (v : Value) (vs : List Value) (pss : List (List Int)) (h : Parts w v vs pss) (hT : Tab w) :
    Calls Tryd.prog 25 #[.int .i64 pages, v] w (GivesC w (chooseS pages pss)) := by
  have HLN := hide h.1
  have hP := h
  obtain ⟨-, ao, cap, rfl, h1, h2, -, -⟩ := h
  unfold maxLen at h2
  obtain ⟨K, hK⟩ : ∃ K, K = min vs.length 2 := ⟨_, rfl⟩
  have HCH : Hid (chooseS pages pss = chooseN pages pss K) := by show chooseS pages pss = _; unfold chooseS; rw [hK, HLN.out]
  have hcut := cut_parts ao vs.length cap K (by omega)
  have hmin : ∀ (ts : Array TypeId) (t : TypeId) (wx : World), (Builtin.min_ ts t #[.int .i64 (vs.length : Int), .int .i64 2]).run Tryd.prog wx = .ok (.int .i64 (K : Int)) wx := by
    intro ts t wx
    rw [run_min_int2]
    congr 2
    split <;> omega
  have hza := zeroHeadRun
  have hs1 := (Hs.new w).alloc (.cells #[.int .u64 0, .int .i64 0, .slice none 0 0, .slice none 0 0] 26)
  have hb1 := Blk.new (w.alloc (.cells #[.int .u64 0, .int .i64 0, .slice none 0 0, .slice none 0 0] 26)) 26 [.int .u64 0, .int .i64 0, .slice none 0 0, .slice none 0 0]
  rw [World.size_alloc] at hb1
  have HC0 : Hid (Cs w ⟨noHd, 0, 60⟩ none 0 none 0 ((w.alloc (.cells #[.int .u64 0, .int .i64 0, .slice none 0 0, .slice none 0 0] 26)).alloc (.cells #[.int .u64 0, .int .i64 0, .slice none 0 0, .slice none 0 0] 26))) := ⟨hs1, hb1, HdO.no _ _⟩
  have HAT : Hid (∀ (wr : World) (j : Nat) (u : Value) (zs : List Int), Below w.heap.size w wr → Sl w u zs → Calls Tryd.prog 39 #[.int .i64 j, u, .int .i64 pages] wr (GivesB wr (atH j zs pages) (atB j zs pages))) := fun wr j u zs hb hs => headAt_any wr j u zs pages (hs.below hb) (hT.below hb)
  have HP := hide hP
  have hK2 : K ≤ vs.length := by omega
  clear hT hP hs1 hb1 hK
  go_enter Tryd.func25, Tryd.ntmps25
  go_wp2
  clear hmin hcut
  go_loopg [8, 9, 20] K (fun g at9 e9 i wr => ∃ (j : Nat) (ma : Option Addr) (mc : Nat) (ua : Option Addr) (uc : Nat), g + j = K ∧ i = .int .i64 j ∧ at9 = .int .i64 (chooseN pages pss j).at' ∧ e9 = .int .i64 (chooseN pages pss j).er ∧ Cs w (chooseN pages pss j) ma mc ua uc wr)
  case atStart => exact ⟨0, none, 0, none, 0, by omega, rfl, rfl, rfl, HC0.out⟩
  case round =>
    obtain ⟨j, ma, mc, ua, uc, hj, rfl, rfl, rfl, hcs⟩ := hrel
    have HCS := hide hcs
    clear HC0 hcs
    cases gk with
    | zero =>
      obtain rfl : j = K := by omega
      obtain ⟨c, hc⟩ : ∃ c, c = chooseN pages pss j := ⟨_, rfl⟩
      have HCC : Hid (chooseS pages pss = c) := HCH.out.trans hc.symm
      rw [← hc] at HCS ⊢
      obtain ⟨⟨ge, gp, gms, gus⟩, at0, er0⟩ := c
      obtain ⟨⟨c0, c1, c2, c3⟩, _⟩ := head_cells HCS.out.blk
      obtain ⟨⟨d0, d1, d2, d3⟩, k0, k1, k2, k3⟩ := head_cells HCS.out.st.2
      have HD := hide HCS.out.done
      simp only at c0 c1 c2 c3 HD
      clear hc HCS
      go_wp2
      (try simp only [Exit.inBlock, Exit.then])
      refine bodyPost_ret (ret_head2 rfl _ _ w.heap.size _ _ _ _ _ _ rfl rfl rfl HD.out.1) rfl ?_
      rw [HCC.out]
      exact ⟨ma, mc, ua, uc, rfl, HD.out.2.1, HD.out.2.2⟩
    | succ g =>
      have hjK : j < K := by omega
      have hjv : j < vs.length := by omega
      have hji : (j : Int) < (K : Int) := by omega
      obtain ⟨b, off, rfl, cj, sj⟩ := HP.out.at j hjv
      have hcj : wr.cell? ⟨b, off + j, none⟩ = some (vs.getD j (.slice none 0 0)) := by
        rw [World.cell?_of_block (w := w) (HCS.out.st.1.block b (World.block_lt_of_cell? w _ cj))]
        exact cj
      have HA2 := hide (HAT.out wr j _ _ HCS.out.st.1 sj)
      obtain ⟨uj, huj⟩ : ∃ u, u = vs.getD j (.slice none 0 0) := ⟨_, rfl⟩
      rw [← huj] at hcj HA2 sj
      obtain ⟨ja, jn, jc, rfl⟩ := sl_form sj
      have HST : Hid (chooseN pages pss (j + 1) = stepC (chooseN pages pss j) j (atB j (pss.getD j []) pages) (atH j (pss.getD j []) pages)) := rfl
      obtain ⟨cB, hcB⟩ : ∃ x, x = atB j (pss.getD j []) pages := ⟨_, rfl⟩
      obtain ⟨cH, hcH⟩ : ∃ x, x = atH j (pss.getD j []) pages := ⟨_, rfl⟩
      rw [← hcB, ← hcH] at HA2 HST
      obtain ⟨c, hc⟩ : ∃ c, c = chooseN pages pss j := ⟨_, rfl⟩
      rw [← hc] at HCS HST ⊢
      obtain ⟨⟨ge, gp, gms, gus⟩, at0, er0⟩ := c
      obtain ⟨he, hp, hms, hus⟩ := cH
      have hszw := HCS.out.blk.lt
      have HSZ := hide hszw
      clear hcB hcH hc huj cj sj hszw
      by_cases hy : cB = true ∧ (er0 ≠ 0 ∨ ge < he)
      · have HNX : Hid (chooseN pages pss (j + 1) = ⟨⟨he, hp, hms, hus⟩, (j : Int), 0⟩) := HST.out.trans (stepC_yes hy.1 hy.2)
        obtain ⟨rfl, hy2⟩ := hy
        clear HST
        by_cases h0 : er0 = 0
        · subst h0
          have hlt : ge < he := hy2.resolve_left (by simp)
          have hli : (ge : Int) < (he : Int) := by omega
          go_wp2_with (go_at_call 39; refine HA2.out.mono ?_; rintro e3 w4 ⟨ma', mc', ua', uc', rfl, hv4, bel4⟩; have cs4 := (HCS.out.below bel4).below ((Below.refl _ w4).alloc (Nat.le_refl _) (.cells #[.int .u64 he, .int .i64 hp, .slice ma' hms.length mc', .slice ua' hus.length uc'] 26)); have hv5 := (hv4.alloc (.cells #[.int .u64 he, .int .i64 hp, .slice ma' hms.length mc', .slice ua' hus.length uc'] 26)).le (B' := w.heap.size + 2) (by have := HSZ.out; omega); obtain ⟨⟨c0, c1, c2, c3⟩, k0, k1, k2, k3⟩ := head_cells cs4.blk; have HCS4 := hide cs4; have HV5 := hide hv5; simp only at c0 c1 c2 c3; unfold hdV; clear HA2 HCS hv4 bel4 cs4 hv5)
          go_roundg g
          case measure => omega
          case rel => exact ⟨j + 1, ma', mc', ua', uc', by omega, by go_num, by rw [HNX.out], by rw [HNX.out], by rw [HNX.out]; exact HCS4.out.take _ _ HV5.out⟩
        · have hne : (er0 != 0) = true := by simpa using h0
          clear hy2
          go_wp2_with (go_at_call 39; refine HA2.out.mono ?_; rintro e3 w4 ⟨ma', mc', ua', uc', rfl, hv4, bel4⟩; have cs4 := (HCS.out.below bel4).below ((Below.refl _ w4).alloc (Nat.le_refl _) (.cells #[.int .u64 he, .int .i64 hp, .slice ma' hms.length mc', .slice ua' hus.length uc'] 26)); have hv5 := (hv4.alloc (.cells #[.int .u64 he, .int .i64 hp, .slice ma' hms.length mc', .slice ua' hus.length uc'] 26)).le (B' := w.heap.size + 2) (by have := HSZ.out; omega); obtain ⟨⟨c0, c1, c2, c3⟩, k0, k1, k2, k3⟩ := head_cells cs4.blk; have HCS4 := hide cs4; have HV5 := hide hv5; simp only at c0 c1 c2 c3; unfold hdV; clear HA2 HCS hv4 bel4 cs4 hv5)
          go_roundg g
          case measure => omega
          case rel => exact ⟨j + 1, ma', mc', ua', uc', by omega, by go_num, by rw [HNX.out], by rw [HNX.out], by rw [HNX.out]; exact HCS4.out.take _ _ HV5.out⟩
      · have HNX : Hid (chooseN pages pss (j + 1) = ⟨⟨ge, gp, gms, gus⟩, at0, er0⟩) := HST.out.trans (stepC_no hy)
        clear HST
        cases cB with
        | false =>
          clear hy
          go_wp2_with (go_at_call 39; refine HA2.out.mono ?_; rintro e3 w4 ⟨ma', mc', ua', uc', rfl, hv4, bel4⟩; have cs4 := (HCS.out.below bel4).below ((Below.refl _ w4).alloc (Nat.le_refl _) (.cells #[.int .u64 he, .int .i64 hp, .slice ma' hms.length mc', .slice ua' hus.length uc'] 26)); have hv5 := (hv4.alloc (.cells #[.int .u64 he, .int .i64 hp, .slice ma' hms.length mc', .slice ua' hus.length uc'] 26)).le (B' := w.heap.size + 2) (by have := HSZ.out; omega); obtain ⟨⟨c0, c1, c2, c3⟩, k0, k1, k2, k3⟩ := head_cells cs4.blk; have HCS4 := hide cs4; have HV5 := hide hv5; simp only at c0 c1 c2 c3; unfold hdV; clear HA2 HCS hv4 bel4 cs4 hv5)
          go_roundg g
          case measure => omega
          case rel => exact ⟨j + 1, ma, mc, ua, uc, by omega, by go_num, by rw [HNX.out], by rw [HNX.out], by rw [HNX.out]; exact HCS4.out⟩
        | true =>
          have h0 : er0 = 0 := Classical.byContradiction (fun h => hy ⟨rfl, .inl h⟩)
          have hge : ¬ ge < he := fun h => hy ⟨rfl, .inr h⟩
          subst h0
          have hdi : decide (ge < he) = false := decide_eq_false hge
          clear hy hge
          go_wp2_with (go_at_call 39; refine HA2.out.mono ?_; rintro e3 w4 ⟨ma', mc', ua', uc', rfl, hv4, bel4⟩; have cs4 := (HCS.out.below bel4).below ((Below.refl _ w4).alloc (Nat.le_refl _) (.cells #[.int .u64 he, .int .i64 hp, .slice ma' hms.length mc', .slice ua' hus.length uc'] 26)); have hv5 := (hv4.alloc (.cells #[.int .u64 he, .int .i64 hp, .slice ma' hms.length mc', .slice ua' hus.length uc'] 26)).le (B' := w.heap.size + 2) (by have := HSZ.out; omega); obtain ⟨⟨c0, c1, c2, c3⟩, k0, k1, k2, k3⟩ := head_cells cs4.blk; have HCS4 := hide cs4; have HV5 := hide hv5; simp only at c0 c1 c2 c3; unfold hdV; clear HA2 HCS hv4 bel4 cs4 hv5)
          go_roundg g
          case measure => omega
          case rel => exact ⟨j + 1, ma, mc, ua, uc, by omega, by go_num, by rw [HNX.out], by rw [HNX.out], by rw [HNX.out]; exact HCS4.out⟩

end Go.Proofs.YtmeiahmolmneeaaDoor
