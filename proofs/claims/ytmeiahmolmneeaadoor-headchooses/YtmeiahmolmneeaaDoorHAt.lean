/- Contract: the head that bytes are at a page, and whether it counts (head.headAt). -/
import Derived.Test.YtmeiahmolmneeaaDoorHGet
namespace Go.Proofs.YtmeiahmolmneeaaDoor
set_option maxRecDepth 20000
open Go.RowKit
set_option linter.unusedVariables false

theorem wantS_data {zs : List Int} {q : Int} {ks : List Int} (h : ByteOk zs) : ByteOk (wantS zs q ks).data ∧ ((wantS zs q ks).err = 0 → (wantS zs q ks).epoch < 18446744073709551616 ∧ (wantS zs q ks).data.length = 240) := by
  have h0 : ByteOk ([] : List Int) := by intro z hz; cases hz
  by_cases he : (getS zs q).err = 0
  · obtain ⟨k, p, e, _, _, h3, _, hg, hl, _⟩ := getS_back zs q h he
    by_cases hk : (getS zs q).kind ∈ ks
    · rw [wantS_yes he hk, hg]
      exact ⟨(h.drop 4).drop 12, fun _ => ⟨h3, hl⟩⟩
    · rw [wantS_no he hk]
      exact ⟨h0, fun h => absurd h (by simp [noFr])⟩
  · rw [wantS_err ks he]
    exact ⟨h0, fun h => absurd h he⟩

/-- a head that was answered, and whether it counts -/
def GivesB (w : World) (h : Hd) (b : Bool) (r : Ending) (w' : World) : Prop :=
  ∃ ma mc ua uc, r = .returned (.tuple #[hdV h.e h.p ma h.ms.length mc ua h.us.length uc, .bool b]) ∧ HdO w' (w.heap.size + 1) (hdV h.e h.p ma h.ms.length mc ua h.us.length uc) h ∧ Below w.heap.size w w'
theorem GivesB.no {w w' : World} (hb : Below w.heap.size w w') : GivesB w noHd false (.returned (.tuple #[hdV 0 0 none 0 0 none 0 0, .bool false])) w' := ⟨none, 0, none, 0, rfl, HdO.no w' _, hb⟩

theorem is_one (w : World) : Is (w.alloc (.cells #[.int .i64 1] 3)) (.slice (some ⟨w.heap.size, 0, none⟩) 1 1) [1] := by
  refine ⟨some ⟨w.heap.size, 0, none⟩, 1, rfl, Nat.le_refl _, by simp [maxLen], fun _ => ⟨w.heap.size, 0, rfl, fun i hi => ?_⟩⟩
  have hi0 : i = 0 := by simp at hi; omega
  subst hi0
  exact (Blk.new w 3 [.int .i64 1]).cell 0

theorem at_form (i : Nat) (zs : List Int) (pages : Int) : atB i zs pages = (decide ((wantS zs i [1]).err = 0) && getB (wantS zs i [1]).epoch (wantS zs i [1]).data && decide ((wantS zs i [1]).epoch % 2 = i) && decide ((getH (wantS zs i [1]).epoch (wantS zs i [1]).data).p = pages)) ∧
    (atB i zs pages = true → atH i zs pages = getH (wantS zs i [1]).epoch (wantS zs i [1]).data) ∧ (atB i zs pages = false → atH i zs pages = noHd) := by
  refine ⟨rfl, fun h => ?_, fun h => ?_⟩
  · unfold atH; rw [if_pos h]
  · unfold atH; rw [if_neg (by rw [h]; simp)]

set_option maxHeartbeats 4000000 in
theorem headAt_any (w : World) (i : Nat) (v : Value) (zs : List Int) (pages : Int) (h : Sl w v zs) (hT : Tab w) :
    Calls Tryd.prog 39 #[.int .i64 i, v, .int .i64 pages] w (GivesB w (atH i zs pages) (atB i zs pages)) := by
  have hn := Hs.new w
  have HWA := hide (want_any _ v zs i _ [1] ((h.below hn.1).alloc (.cells #[.int .i64 1] 3)) (is_one _) ((hT.below hn.1).alloc _))
  have HN := hide (hn.alloc (.cells #[.int .i64 1] 3))
  rw [World.size_alloc] at HWA
  obtain ⟨hda, hep⟩ := wantS_data (q := i) (ks := [1]) h.bytes
  obtain ⟨ha1, ha2, ha3⟩ := at_form i zs pages
  obtain ⟨ao, cap, rfl⟩ := sl_form' h
  obtain ⟨A, hA⟩ : ∃ A, A = atH i zs pages := ⟨_, rfl⟩
  obtain ⟨B, hB⟩ : ∃ B, B = atB i zs pages := ⟨_, rfl⟩
  rw [← hA] at ha2 ha3 ⊢
  rw [← hB] at ha1 ha2 ha3 ⊢
  obtain ⟨W, hW⟩ : ∃ W, W = wantS zs i [1] := ⟨_, rfl⟩
  rw [← hW] at HWA hda hep ha1 ha2
  obtain ⟨er, k, p, ep, D⟩ := W
  simp only at hda hep ha1 ha2
  have hza := zeroHeadRun
  have hzf := zeroFrameRun
  clear h hT hA hB hW hn
  by_cases h0 : er = 0
  · subst h0
    obtain ⟨hep1, hdl⟩ := hep rfl
    have HGE : Hid (∀ w1 a n c, w1.ownsRow (w.heap.size + 2) 5 1 (.slice a n c) D.length (D.map (Value.int .u8)) → Calls Tryd.prog 23 #[.int .u64 ep, .slice a n c] w1 (GivesH w1 (getH ep D) (getE ep D))) := fun w1 a n c ho => hget_any w1 ep _ D (sl_of_own_len ho hda) (by omega) hep1
    cases hg : getB ep D with
    | false =>
      have hEq : getE ep D = 60 := by unfold getE; rw [hg]; rfl
      have hHq : getH ep D = noHd := by unfold getH; rw [hg]; rfl
      rw [hEq, hHq] at HGE
      rw [hg] at ha1
      have hBf : B = false := by rw [ha1]; simp
      subst hBf
      rw [ha3 rfl]
      clear ha1 ha2 ha3 hEq hHq hg hda hep
      go_enter Tryd.func39, Tryd.ntmps39
      go_wp2_with (first
        | (go_at_call 62; refine HWA.out.mono ?_; rintro e3 w2 ⟨a2, n2, c2, rfl, O2, bel2⟩; have hs2 := HN.out.below bel2; have hs3 := hs2.alloc (.cells #[.int .i64 k, .int .i64 p, .int .u64 ep, .slice a2 n2 c2] 59); have HG3 := hide (HGE.out _ a2 n2 c2 (own_keep (own_of_le O2 (by simp)) ((Below.refl _ w2).alloc (Nat.le_refl _) (.cells #[.int .i64 k, .int .i64 p, .int .u64 ep, .slice a2 n2 c2] 59)))); have HS3 := hide hs3; clear HWA HGE HN O2 bel2 hs2 hs3)
        | (go_at_call 23; refine HG3.out.mono ?_; rintro e3 w4 ⟨ma, mc, ua, uc, rfl, hv4, bel4⟩; have hs4 := (HS3.out.below bel4).alloc (.cells #[.int .u64 0, .int .i64 0, .slice ma 0 mc, .slice ua 0 uc] 26); obtain ⟨⟨d0, d1, d2, d3⟩, k0, k1, k2, k3⟩ := head_cells hs4.2; have HS4 := hide hs4; unfold hdV noHd; clear HG3 HS3 hs4 bel4 hv4))
      (try simp only [Exit.inBlock, Exit.then])
      obtain ⟨s1, s2, s3⟩ := HS4.out.store (.int .u64 0) (.int .i64 0) (.slice none 0 0) (.slice none 0 0)
      refine bodyPost_ret (ret_head1 rfl _ _ w.heap.size _ _ _ _ _ rfl rfl s1) rfl ?_
      exact GivesB.no s2
    | true =>
      have hEq : getE ep D = 0 := by unfold getE; rw [hg]; rfl
      have hge := (getH_yes hg).2.2
      rw [hEq] at HGE
      rw [hg] at ha1
      have HPG := hide (fun wx => hpage_any wx ep)
      obtain ⟨G, hG⟩ : ∃ G, G = getH ep D := ⟨_, rfl⟩
      rw [← hG] at HGE ha1 ha2 hge
      obtain ⟨ge, gp, gms, gus⟩ := G
      simp only at hge ha1
      subst hge
      obtain ⟨R, hR⟩ : ∃ R, R = ge % 2 := ⟨_, rfl⟩
      rw [← hR] at HPG ha1
      clear hEq hG hg hda hep hR
      by_cases h1 : R = i
      · have hi1 : ((R : Int) != (i : Int)) = false := by rw [h1]; simp
        by_cases h2 : gp = pages
        · have hBt : B = true := by rw [ha1, h1, h2]; simp
          subst hBt
          rw [ha2 rfl]
          subst h2
          have HI := hide h1
          clear ha1 ha2 ha3 h1
          go_enter Tryd.func39, Tryd.ntmps39
          go_wp2_with (first
            | (go_at_call 62; refine HWA.out.mono ?_; rintro e3 w2 ⟨a2, n2, c2, rfl, O2, bel2⟩; have hs2 := HN.out.below bel2; have hs3 := hs2.alloc (.cells #[.int .i64 k, .int .i64 p, .int .u64 ge, .slice a2 n2 c2] 59); have HG3 := hide (HGE.out _ a2 n2 c2 (own_keep (own_of_le O2 (by simp)) ((Below.refl _ w2).alloc (Nat.le_refl _) (.cells #[.int .i64 k, .int .i64 p, .int .u64 ge, .slice a2 n2 c2] 59)))); have HS3 := hide hs3; clear HWA HGE HN O2 bel2 hs2 hs3)
            | (go_at_call 23; refine HG3.out.mono ?_; rintro e3 w4 ⟨ma, mc, ua, uc, rfl, hv4, bel4⟩; have hs4 := (HS3.out.below bel4).alloc (.cells #[.int .u64 ge, .int .i64 gp, .slice ma gms.length mc, .slice ua gus.length uc] 26); obtain ⟨⟨d0, d1, d2, d3⟩, k0, k1, k2, k3⟩ := head_cells hs4.2; have HS4 := hide hs4; have HV4 := hide (hv4.alloc (.cells #[.int .u64 ge, .int .i64 gp, .slice ma gms.length mc, .slice ua gus.length uc] 26)); have HZ3 : Hid (w.heap.size < (w2.alloc (.cells #[.int .i64 k, .int .i64 p, .int .u64 ge, .slice a2 n2 c2] 59)).heap.size) := HS3.out.2.lt; unfold hdV; clear HG3 HS3 hs4 bel4 hv4)
            | (go_at_call 20; refine (HPG.out _).mono ?_; rintro e3 w5 ⟨rfl, hw⟩; subst w5; clear HPG))
          (try simp only [Exit.inBlock, Exit.then])
          obtain ⟨s1, s2, s3⟩ := HS4.out.store (.int .u64 ge) (.int .i64 gp) (.slice ma gms.length mc) (.slice ua gus.length uc)
          refine bodyPost_ret (ret_head1 rfl _ _ w.heap.size _ _ _ _ _ rfl rfl s1) rfl ?_
          refine ⟨ma, mc, ua, uc, rfl, ?_, s2⟩
          exact (HV4.out.only (laidH_only _ w.heap.size _ _ _ _) (fun k hk => by have := HZ3.out; omega)).le (by have := HZ3.out; omega)
        · have hne : (gp != pages) = true := by simpa using h2
          have hBf : B = false := by rw [ha1]; simp [h2]
          subst hBf
          rw [ha3 rfl]
          clear ha1 ha2 ha3 h1
          go_enter Tryd.func39, Tryd.ntmps39
          go_wp2_with (first
            | (go_at_call 62; refine HWA.out.mono ?_; rintro e3 w2 ⟨a2, n2, c2, rfl, O2, bel2⟩; have hs2 := HN.out.below bel2; have hs3 := hs2.alloc (.cells #[.int .i64 k, .int .i64 p, .int .u64 ge, .slice a2 n2 c2] 59); have HG3 := hide (HGE.out _ a2 n2 c2 (own_keep (own_of_le O2 (by simp)) ((Below.refl _ w2).alloc (Nat.le_refl _) (.cells #[.int .i64 k, .int .i64 p, .int .u64 ge, .slice a2 n2 c2] 59)))); have HS3 := hide hs3; clear HWA HGE HN O2 bel2 hs2 hs3)
            | (go_at_call 23; refine HG3.out.mono ?_; rintro e3 w4 ⟨ma, mc, ua, uc, rfl, hv4, bel4⟩; have hs4 := (HS3.out.below bel4).alloc (.cells #[.int .u64 ge, .int .i64 gp, .slice ma gms.length mc, .slice ua gus.length uc] 26); obtain ⟨⟨d0, d1, d2, d3⟩, k0, k1, k2, k3⟩ := head_cells hs4.2; have HS4 := hide hs4; have HV4 := hide (hv4.alloc (.cells #[.int .u64 ge, .int .i64 gp, .slice ma gms.length mc, .slice ua gus.length uc] 26)); have HZ3 : Hid (w.heap.size < (w2.alloc (.cells #[.int .i64 k, .int .i64 p, .int .u64 ge, .slice a2 n2 c2] 59)).heap.size) := HS3.out.2.lt; unfold hdV; clear HG3 HS3 hs4 bel4 hv4)
            | (go_at_call 20; refine (HPG.out _).mono ?_; rintro e3 w5 ⟨rfl, hw⟩; subst w5; clear HPG))
          (try simp only [Exit.inBlock, Exit.then])
          obtain ⟨s1, s2, s3⟩ := HS4.out.store (.int .u64 0) (.int .i64 0) (.slice none 0 0) (.slice none 0 0)
          refine bodyPost_ret (ret_head1 rfl _ _ w.heap.size _ _ _ _ _ rfl rfl s1) rfl ?_
          exact GivesB.no s2
      · have hi1 : ((R : Int) != (i : Int)) = true := by simp; omega
        have hBf : B = false := by rw [ha1]; simp [h1]
        subst hBf
        rw [ha3 rfl]
        clear ha1 ha2 ha3 h1
        go_enter Tryd.func39, Tryd.ntmps39
        go_wp2_with (first
          | (go_at_call 62; refine HWA.out.mono ?_; rintro e3 w2 ⟨a2, n2, c2, rfl, O2, bel2⟩; have hs2 := HN.out.below bel2; have hs3 := hs2.alloc (.cells #[.int .i64 k, .int .i64 p, .int .u64 ge, .slice a2 n2 c2] 59); have HG3 := hide (HGE.out _ a2 n2 c2 (own_keep (own_of_le O2 (by simp)) ((Below.refl _ w2).alloc (Nat.le_refl _) (.cells #[.int .i64 k, .int .i64 p, .int .u64 ge, .slice a2 n2 c2] 59)))); have HS3 := hide hs3; clear HWA HGE HN O2 bel2 hs2 hs3)
          | (go_at_call 23; refine HG3.out.mono ?_; rintro e3 w4 ⟨ma, mc, ua, uc, rfl, hv4, bel4⟩; have hs4 := (HS3.out.below bel4).alloc (.cells #[.int .u64 ge, .int .i64 gp, .slice ma gms.length mc, .slice ua gus.length uc] 26); obtain ⟨⟨d0, d1, d2, d3⟩, k0, k1, k2, k3⟩ := head_cells hs4.2; have HS4 := hide hs4; have HV4 := hide (hv4.alloc (.cells #[.int .u64 ge, .int .i64 gp, .slice ma gms.length mc, .slice ua gus.length uc] 26)); have HZ3 : Hid (w.heap.size < (w2.alloc (.cells #[.int .i64 k, .int .i64 p, .int .u64 ge, .slice a2 n2 c2] 59)).heap.size) := HS3.out.2.lt; unfold hdV; clear HG3 HS3 hs4 bel4 hv4)
          | (go_at_call 20; refine (HPG.out _).mono ?_; rintro e3 w5 ⟨rfl, hw⟩; subst w5; clear HPG))
        (try simp only [Exit.inBlock, Exit.then])
        obtain ⟨s1, s2, s3⟩ := HS4.out.store (.int .u64 0) (.int .i64 0) (.slice none 0 0) (.slice none 0 0)
        refine bodyPost_ret (ret_head1 rfl _ _ w.heap.size _ _ _ _ _ rfl rfl s1) rfl ?_
        exact GivesB.no s2
  · have hne : (er != 0) = true := by simpa using h0
    have hBf : B = false := by rw [ha1]; simp [h0]
    subst hBf
    rw [ha3 rfl]
    clear ha1 ha2 ha3 hep
    go_enter Tryd.func39, Tryd.ntmps39
    go_wp2_with (first
      | (go_at_call 62; refine HWA.out.mono ?_; rintro e3 w2 ⟨a2, n2, c2, rfl, O2, bel2⟩; have hs2 := HN.out.below bel2; have hs3 := hs2.alloc (.cells #[.int .i64 k, .int .i64 p, .int .u64 ep, .slice a2 n2 c2] 59); obtain ⟨⟨d0, d1, d2, d3⟩, k0, k1, k2, k3⟩ := head_cells hs3.2; have HS3 := hide hs3; clear HWA HN O2 bel2 hs2 hs3))
    (try simp only [Exit.inBlock, Exit.then])
    obtain ⟨s1, s2, s3⟩ := HS3.out.store (.int .u64 0) (.int .i64 0) (.slice none 0 0) (.slice none 0 0)
    refine bodyPost_ret (ret_head1 rfl _ _ w.heap.size _ _ _ _ _ rfl rfl s1) rfl ?_
    exact GivesB.no s2

end Go.Proofs.YtmeiahmolmneeaaDoor
