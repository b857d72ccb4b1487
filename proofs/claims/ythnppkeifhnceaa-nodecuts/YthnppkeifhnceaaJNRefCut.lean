/- Contract: the document's Cut. -/
import Derived.Test.YthnppkeifhnceaaJNHalP
import Derived.Test.YthnppkeifhnceaaJNRefAt
import Derived.Test.YthnppkeifhnceaaJNGood
import Derived.Test.YthnppkeifhnceaaJNRefL
import Derived.Test.YthnppkeifhnceaaNPutI
namespace Go.Proofs.Ythnppkeifhnceaa
set_option maxRecDepth 20000
open Go.RowKit Go.Shelf
set_option linter.unusedVariables false
set_option linter.unusedSimpArgs false
set_option maxRecDepth 100000
attribute [local go_sem] Oper.semAt_some

theorem mid_one (lf : Bool) (l : List Nat) : midK lf l 1 = (0, 0) := by
  rw [midK, if_pos (.inl (by simp [fstC]))]
  rfl
theorem few_sum {n : Nd} (h : few1 n = true) : n.ks.length + n.cs.length ≤ 9223372036854775807 := by
  simp only [few1, Bool.and_eq_true, decide_eq_true_iff] at h
  omega
theorem halfK_short {n : Nd} (hm : mayN n = true) (i : Nat) : (halfK n i).length ≤ 1000 := by
  have hb := may_bounds hm
  unfold halfK
  split
  · by_cases hi : i < n.ps.length
    · have := hb.2.2.2.1 (n.ps.getD i ([], [])) (by simp only [List.getD, List.getElem?_eq_getElem hi]; exact List.getElem_mem hi)
      omega
    · simp [List.getD, Nat.le_of_not_lt hi]
  · by_cases hi : i < n.ks.length
    · have := hb.2.2.2.2 (n.ks.getD i []) (by simp only [List.getD, List.getElem?_eq_getElem hi]; exact List.getElem_mem hi)
      omega
    · simp [List.getD, Nat.le_of_not_lt hi]
theorem most_le {n : Nd} (hm : mayN n = true) : mostN n ≤ 1000 ∧ (0 < cutM n → cutM n < mostN n) := by
  have hb := may_bounds hm
  constructor
  · unfold mostN; split <;> omega
  · intro h0
    have h1 := mid_bounds hm h0
    unfold mostN
    cases hl : n.lf with
    | true => exact (h1.1 hl).1
    | false => have := (h1.2 hl).1; simp only [Bool.false_eq_true, if_false]; omega
theorem cut_pos {n : Nd} (hm : mayN n = true) (h0 : 0 < cutM n) : cutA n = halfA n (cutM n) ∧ cutK n = halfK n (cutM n) ∧ cutB n = halfB n (cutM n) ∧ cutE n = 0 := by
  have he : cutE n = 0 := by unfold cutE; rw [hm, if_pos rfl, if_pos h0]
  obtain ⟨a, b, c⟩ := cut_is he
  exact ⟨a, c, b, he⟩
theorem cut_neg {n : Nd} (hm : mayN n = true) (h0 : ¬ 0 < cutM n) : cutA n = noNd ∧ cutK n = [] ∧ cutB n = noNd ∧ cutE n = 4 := by
  have he : cutE n = 4 := by unfold cutE; rw [hm, if_pos rfl, if_neg h0]
  refine ⟨?_, ?_, ?_, he⟩
  · unfold cutA; rw [if_neg (by omega)]
  · unfold cutK; rw [if_neg (by omega)]
  · unfold cutB; rw [if_neg (by omega)]

set_option maxHeartbeats 8000000 in
theorem refCut_any (w : World) (v : Value) (n : Nd) (h : NdV w v n) (hq : n.ks.length + n.cs.length ≤ 9223372036854775807) : Calls Try.prog 42 #[v] w (GivesX w (cutA n) (cutK n) (cutB n) (cutE n)) := by
  have HM : Hid (∀ w1, Below w.heap.size w w1 → Calls Try.prog 25 #[v] w1 fun e w' => e = .returned (.bool (mayN n)) ∧ Below w1.heap.size w1 w') := fun w1 hb => refMay_any w1 v n (h.below hb) hq
  have HHA : Hid (mayN n = true → ∀ i, 0 < i → i < mostN n → ∀ w1, Below w.heap.size w w1 → Calls Try.prog 83 #[v, .int .i64 (i : Int)] w1 fun e w' => ∃ l p a b kx c d q r s k1 k2 k3 l' p' a' b' kx' c' d' q' r' s', e = .returned (.tuple #[.agg #[.bool l, .slice p a b, .slice kx c d, .slice q r s], .slice k1 k2 k3, .agg #[.bool l', .slice p' a' b', .slice kx' c' d', .slice q' r' s']]) ∧ NdV w (.agg #[.bool l, .slice p a b, .slice kx c d, .slice q r s]) (halfA n i) ∧ Sl w (.slice k1 k2 k3) (halfK n i) ∧ NdV w (.agg #[.bool l', .slice p' a' b', .slice kx' c' d', .slice q' r' s']) (halfB n i) ∧ Below w1.heap.size w1 w') := fun hm i h0 hi w1 hb => by
    refine (refAt_any w w1 hb v n h i h0 (cut_place hm i h0 hi).1 (cut_place hm i h0 hi).2).mono ?_
    rintro e w' ⟨u1, k1, k2, k3, u2, rfl, h1, h2, h3, h4⟩
    obtain ⟨l, p, a, b, kx, c, d, q, r, s, rfl, -⟩ := nd_open h1
    obtain ⟨l', p', a', b', kx', c', d', q', r', s', rfl, -⟩ := nd_open h3
    exact ⟨l, p, a, b, kx, c, d, q, r, s, k1, k2, k3, l', p', a', b', kx', c', d', q', r', s', rfl, h1, h2, h3, h4⟩
  have HCL : Hid (mayN n = true → (few1 (halfA n (cutM n)) = true ∧ few1 (halfB n (cutM n)) = true) ∧ (halfK n (cutM n)).length ≤ 1000) := fun hm => ⟨few_half _ (may_few hm), halfK_short hm _⟩
  have HSZA : Hid (mayN n = true → ∀ i w1, Below w.heap.size w w1 → ∀ u, NdV w u (halfA n i) → Calls Try.prog 15 #[u] w1 fun e w' => e = .returned (.int .i64 (sizeN (halfA n i))) ∧ Below w1.heap.size w1 w') := fun hm i w1 hb u hu => refSize_any w1 u _ (hu.below hb) (few_sum (few_half i (may_few hm)).1)
  have HSZB : Hid (mayN n = true → ∀ i w1, Below w.heap.size w w1 → ∀ u, NdV w u (halfB n i) → Calls Try.prog 15 #[u] w1 fun e w' => e = .returned (.int .i64 (sizeN (halfB n i))) ∧ Below w1.heap.size w1 w') := fun hm i w1 hb u hu => refSize_any w1 u _ (hu.below hb) (few_sum (few_half i (may_few hm)).2)
  have HEE : Hid (cutE n = if mayN n then (if 0 < cutM n then 0 else 4) else 100) := rfl
  have HAA : Hid (cutA n = if cutE n = 0 then halfA n (cutM n) else noNd) := rfl
  have HBB : Hid (cutB n = if cutE n = 0 then halfB n (cutM n) else noNd) := rfl
  have HKK : Hid (cutK n = if cutE n = 0 then halfK n (cutM n) else []) := rfl
  have hza : ∀ wx : World, (zeroValue 26).run Try.prog wx = .ok (.agg #[.bool false, .slice none 0 0, .slice none 0 0, .slice none 0 0]) wx := fun wx => by kernel_rfl
  obtain ⟨lf, pa, np, pc, ka, nk, kc, ca, nc, cc, rfl, hlf, hnp, hnk, -⟩ := nd_open h
  obtain ⟨w1, hw1⟩ : ∃ w1, ((w.alloc (.cells #[.bool lf, .slice pa np pc, .slice ka nk kc, .slice ca nc cc] 26)).alloc (.cells #[.bool false, .slice none 0 0, .slice none 0 0, .slice none 0 0] 26)).alloc (.cells #[.bool false, .slice none 0 0, .slice none 0 0, .slice none 0 0] 26) = w1 := ⟨_, rfl⟩
  have HX1 : Hid (Below w.heap.size w w1 ∧ blkN w1 w.heap.size [.bool lf, .slice pa np pc, .slice ka nk kc, .slice ca nc cc] ∧ blkN w1 (w.heap.size + 1) zeroC ∧ blkN w1 (w.heap.size + 1 + 1) zeroC) := by
    rw [← hw1]
    refine ⟨(((Below.refl _ w).alloc (Nat.le_refl _) _).alloc (by simp) _).alloc (by simp <;> omega) _, ((Blk.new w _ _).alloc _).alloc _, ?_, ?_⟩
    · have := (Blk.new (w.alloc (.cells #[.bool lf, .slice pa np pc, .slice ka nk kc, .slice ca nc cc] 26)) 26 zeroC).alloc (.cells #[.bool false, .slice none 0 0, .slice none 0 0, .slice none 0 0] 26)
      rw [World.size_alloc] at this
      exact this
    · have := Blk.new ((w.alloc (.cells #[.bool lf, .slice pa np pc, .slice ka nk kc, .slice ca nc cc] 26)).alloc (.cells #[.bool false, .slice none 0 0, .slice none 0 0, .slice none 0 0] 26)) 26 zeroC
      rw [World.size_alloc, World.size_alloc] at this
      exact this
  have HKP : Hid (∀ {W W' : World}, (Below w.heap.size w W ∧ blkN W w.heap.size [.bool lf, .slice pa np pc, .slice ka nk kc, .slice ca nc cc] ∧ blkN W (w.heap.size + 1) zeroC ∧ blkN W (w.heap.size + 1 + 1) zeroC) → Below W.heap.size W W' → (Below w.heap.size w W' ∧ blkN W' w.heap.size [.bool lf, .slice pa np pc, .slice ka nk kc, .slice ca nc cc] ∧ blkN W' (w.heap.size + 1) zeroC ∧ blkN W' (w.heap.size + 1 + 1) zeroC)) := fun hx hb => ⟨hx.1.trans (hb.mono hx.1.size), hx.2.1.below hb hx.2.1.lt, hx.2.2.1.below hb hx.2.2.1.lt, hx.2.2.2.below hb hx.2.2.2.lt⟩
  obtain ⟨⟨z0, z1, z2, z3⟩, _⟩ := node_cells HX1.out.2.1
  cases hm : mayN n with
  | false =>
    rw [hm] at HEE HM
    simp only [Bool.false_eq_true, if_false] at HEE
    rw [HEE.out] at HAA HBB HKK ⊢
    rw [if_neg (by omega)] at HAA HBB HKK
    rw [HAA.out, HBB.out, HKK.out]
    clear HHA HCL HEE HAA HBB HKK HSZA HSZB hm
    go_enter Try.func42, Try.ntmps42
    go_wp2_with (go_at_call 25; refine (HM.out w1 HX1.out.1).mono ?_; rintro e w2 ⟨rfl, hb2⟩; have HX2 := hide (HKP.out HX1.out hb2); obtain ⟨⟨d0, d1, d2, d3⟩, k0, k1, k2, k3⟩ := node_cells HX2.out.2.2.1; have hb4 := HX2.out.2.2.2.only (laidN_only w2 (w.heap.size + 1) (.bool false) (.slice none 0 0) (.slice none 0 0) (.slice none 0 0)) (by omega); obtain ⟨⟨g0, g1, g2, g3⟩, q0, q1, q2, q3⟩ := node_cells hb4; unfold laidN at g0 g1 g2 g3 q0 q1 q2 q3; have HB4 := hide hb4; clear HM hb2 hb4)
    (try simp only [Exit.inBlock, Exit.then])
    have h3 := laidN_blk HB4.out (.bool false) (.slice none 0 0) (.slice none 0 0) (.slice none 0 0)
    have o1 := laidN_only w2 (w.heap.size + 1) (.bool false) (.slice none 0 0) (.slice none 0 0) (.slice none 0 0)
    have o2 := laidN_only (laidN w2 (w.heap.size + 1) (.bool false) (.slice none 0 0) (.slice none 0 0) (.slice none 0 0)) (w.heap.size + 1 + 1) (.bool false) (.slice none 0 0) (.slice none 0 0) (.slice none 0 0)
    have h2 := (laidN_blk HX2.out.2.2.1 (.bool false) (.slice none 0 0) (.slice none 0 0) (.slice none 0 0)).only o2 (by omega)
    refine bodyPost_ret (ret_node4 rfl _ _ (w.heap.size + 1) (w.heap.size + 1 + 1) _ _ _ _ _ _ _ _ _ _ rfl rfl rfl rfl h2 h3) rfl ?_
    exact ⟨_, none, 0, 0, _, rfl, NdN.none _ _, Sl.nil _, NdN.none _ _, (HX2.out.1.trans (o1.below HX2.out.1.size (fun j hj e => by omega))).trans (o2.below (by have := HX2.out.1.size; have := o1.size; omega) (fun j hj e => by omega))⟩
  | true =>
    obtain ⟨hMO, hcm⟩ := most_le hm
    have HCM := hide hcm
    have HPOS := hide (@cut_pos n hm)
    have HNEG := hide (@cut_neg n hm)
    have HST := hide (@cut_step n hm)
    have HEND := hide (cut_end hm)
    have HSML := hide (@cut_small n hm)
    have HM1 := hide (mid_one n.lf (partsN n))
    have HA1 := hide (HHA.out hm)
    have HZA := hide (HSZA.out hm)
    have HZB := hide (HSZB.out hm)
    obtain ⟨⟨hfa, hfb⟩, hkl⟩ := HCL.out hm
    have HMO : Hid (mostN n = if n.lf then n.ps.length else n.ks.length - 1) := rfl
    have HNK : Hid (n.lf = false → 1 ≤ n.ks.length) := fun hl => by rw [mayN_in hl] at hm; exact (innerB_ps hm).2.1
    rw [hlf, hnp, hnk] at HMO
    rw [hlf, hnk] at HNK
    rw [hm] at HM
    have hnkb : nk ≤ 1000 := by have := may_bounds hm; omega
    clear HHA HSZA HSZB HCL HEE HAA HBB HKK h hlf hnp hnk hm hcm hq
    generalize midK n.lf (partsN n) = MK at *
    generalize cutA n = CA at *
    generalize cutB n = CB at *
    generalize cutK n = CK at *
    generalize cutE n = CE at *
    generalize cutM n = CM at *
    generalize mostN n = MO at *
    generalize halfA n = HAf at *
    generalize halfB n = HBf at *
    generalize halfK n = HKf at *
    obtain ⟨MX, hMXe⟩ : ∃ x, x = max MO 1 := ⟨_, rfl⟩
    rw [← hMXe] at HEND
    have hMX : (MX = MO ∧ 1 < MO) ∨ (MX = 1 ∧ MO ≤ 1) := by omega
    clear hMXe
    cases lf with
    | true =>
      have hmo : MO = np := HMO.out
      subst hmo
      clear HMO HNK
      go_enter Try.func42, Try.ntmps42
      go_wp2_with (go_at_call 25; refine (HM.out w1 HX1.out.1).mono ?_; rintro e w2 ⟨rfl, hb2⟩; have HX2 := hide (HKP.out HX1.out hb2); clear z0 z1 z2 z3; obtain ⟨⟨z0, z1, z2, z3⟩, _⟩ := node_cells HX2.out.2.1; clear HM hb2)
      go_loopg [7, 8, 9, 10, 11, 12, 13] (MX - 1) (fun g s7 s8 s9 s10 s11 s12 s13 wr => ∃ j : Nat, g + j = MX ∧ 1 ≤ j ∧ s9 = .int .i64 (j : Int) ∧ s7 = .int .i64 ((MK j).1 : Nat) ∧ s8 = .int .i64 ((MK j).2 : Nat) ∧ (Below w.heap.size w wr ∧ blkN wr w.heap.size [.bool true, .slice pa MO pc, .slice ka nk kc, .slice ca nc cc] ∧ blkN wr (w.heap.size + 1) zeroC ∧ blkN wr (w.heap.size + 1 + 1) zeroC))
      case atStart => exact ⟨1, by omega, by omega, rfl, by rw [HM1.out]; rfl, by rw [HM1.out]; rfl, HX2.out⟩
      case round =>
        obtain ⟨j, hgj, hj1, rfl, rfl, rfl, hx⟩ := hrel
        obtain ⟨W1, rfl⟩ : ∃ x, x = wr := ⟨_, rfl⟩
        have HXR := hide hx
        clear hx HX1 HX2 z0 z1 z2 z3
        obtain ⟨⟨z0, z1, z2, z3⟩, _⟩ := node_cells HXR.out.2.1
        cases gk with
        | succ g =>
          have hj : j < MO := by omega
          obtain ⟨A, hA, hsa, hsb, hst⟩ := HST.out j (by omega) hj
          obtain ⟨hb1, hb2⟩ := HSML.out j (by omega)
          have HAT := hide (HA1.out j (by omega) hj)
          have HSA := hide (HZA.out j)
          have HSB := hide (HZB.out j)
          have hji : (j : Int) < (MO : Int) := by omega
          have HSTEP := hide hst
          clear hst HST HSML HA1 HZA HZB HPOS HNEG HEND HCM HM1 hfa hfb hkl
          generalize sizeN (HAf j) = SA at *
          generalize sizeN (HBf j) = SB at *
          generalize HAf j = NA at *
          generalize HBf j = NB at *
          generalize HKf j = NK at *
          obtain ⟨M2, hM2⟩ : ∃ x, x = MK (j + 1) := ⟨_, rfl⟩
          rw [← hM2] at HSTEP
          have HM2 := hide hM2
          clear hM2
          generalize MK j = mk at *
          obtain ⟨bst, lst⟩ := mk
          simp only at hb1 hb2 HSTEP ⊢
          obtain ⟨DD, hDD⟩ : ∃ x : Int, (SA : Int) - (SB : Int) = x := ⟨_, rfl⟩
          have hwD : IntKind.i64.wrap DD = DD := IntWalk.i64_in _ (by omega)
          have hDA : (DD < 0 ∧ -DD = (A : Int)) ∨ (¬ DD < 0 ∧ DD = (A : Int)) := by omega
          have hAb : A ≤ 26013 := by omega
          clear hA
          go_wp2_with (go_at_call 83; refine (HAT.out W1 HXR.out.1).mono ?_; rintro e w4 ⟨l, p, a, b, kx, c, d, q, r, s, k1, k2, k3, l', p', a', b', kx', c', d', q', r', s', rfl, hva, hsk, hvb, hb4⟩; have HX4 := hide (HKP.out HXR.out hb4); have HVA := hide hva; have HVB := hide hvb; have HSK := hide hsk; clear HAT hb4 hva hvb hsk)
          obtain ⟨W, hW⟩ : ∃ W, W = (w4.alloc (.cells #[.bool l, .slice p a b, .slice kx c d, .slice q r s] 26)).alloc (.cells #[.bool l', .slice p' a' b', .slice kx' c' d', .slice q' r' s'] 26) := ⟨_, rfl⟩
          obtain ⟨ab, hab⟩ : ∃ x, x = w4.heap.size := ⟨_, rfl⟩
          obtain ⟨bb, hbb⟩ : ∃ x, x = ab + 1 := ⟨_, rfl⟩
          have hs4 : w.heap.size + 3 ≤ w4.heap.size := by have := HX4.out.2.2.2.lt; omega
          have HXW := hide (HKP.out HX4.out (show Below w4.heap.size w4 W by rw [hW]; exact ((Below.refl _ w4).alloc (Nat.le_refl _) _).alloc (by simp) _))
          have HC0 : Hid (CtB w ab bb [.bool l, .slice p a b, .slice kx c d, .slice q r s] [.bool l', .slice p' a' b', .slice kx' c' d', .slice q' r' s'] W ∧ blkN W (w.heap.size + 1) zeroC ∧ blkN W (w.heap.size + 1 + 1) zeroC) := by
            have hb : Below w4.heap.size w4 W := by rw [hW]; exact ((Below.refl _ w4).alloc (Nat.le_refl _) _).alloc (by simp) _
            have hx := HKP.out HX4.out hb
            refine ⟨⟨hx.1, by have := hb.size; omega, ?_, ?_⟩, hx.2.2.1, hx.2.2.2⟩
            · rw [hab, hW]; exact (Blk.new w4 _ _).alloc _
            · rw [hbb, hab, hW]
              have := Blk.new (w4.alloc (.cells #[.bool l, .slice p a b, .slice kx c d, .slice q r s] 26)) 26 [.bool l', .slice p' a' b', .slice kx' c' d', .slice q' r' s']
              rw [World.size_alloc] at this
              exact this
          have hab3 : w.heap.size + 3 ≤ ab := by omega
          have hbb3 : w.heap.size + 3 ≤ bb := by omega
          simp only [← hab, ← hW]
          simp only [← hbb]
          clear hW hab hbb HX4 z0 z1 z2 z3
          (try go_wp2)
          refine wp_region_facts (FL [isV (.agg #[.bool l, .slice p a b, .slice kx c d, .slice q r s]), isV (.int .i64 (SA : Int)), isV (.agg #[.bool l', .slice p' a' b', .slice kx' c' d', .slice q' r' s']), isV (.int .i64 (SB : Int)), isV (.int .i64 DD), isV (.int .i64 DD)]) 79 (by kernel_rfl) (by kernel_rfl) (by kernel_rfl) rfl (FL_stable _ (by repeat (first | exact trivial | refine ⟨stable_isV _, ?_⟩))) ?_ ?_
          · refine ⟨?_, ?_, ?_, ?_, ?_, ?_, trivial⟩
            · intro act wx h
              have e10 : act.eval (.tmp 10) = .pointer (some ⟨ab, 0, none⟩) := h.old 10 (by kernel_rfl)
              have hbel := h.below
              clear h
              have hB := HC0.out.1.ba.below hbel HC0.out.1.ba.lt
              obtain ⟨⟨x0, x1, x2, x3⟩, _⟩ := node_cells hB
              refine gives_by rfl act.eval rfl ?_
              generalize act.eval = ρ at *
              intro hf hc
              go_simp
              exact ⟨Below.refl _ _, rfl⟩
            · intro act wx h
              obtain ⟨v44, e44, f44⟩ := h.val 0 44 (by kernel_rfl)
              obtain rfl : v44 = .agg #[.bool l, .slice p a b, .slice kx c d, .slice q r s] := f44
              have hbel := h.below
              clear h
              refine gives_by rfl act.eval rfl ?_
              generalize act.eval = ρ at *
              intro hf hc
              go_simp
              exact call_gives (HSA.out wx (HXW.out.1.trans (hbel.mono HXW.out.1.size)) _ HVA.out) (fun _ => rfl)
            · intro act wx h
              have e12 : act.eval (.tmp 12) = .pointer (some ⟨bb, 0, none⟩) := h.old 12 (by kernel_rfl)
              have hbel := h.below
              clear h
              have hB := HC0.out.1.bb.below hbel HC0.out.1.bb.lt
              obtain ⟨⟨x0, x1, x2, x3⟩, _⟩ := node_cells hB
              refine gives_by rfl act.eval rfl ?_
              generalize act.eval = ρ at *
              intro hf hc
              go_simp
              exact ⟨Below.refl _ _, rfl⟩
            · intro act wx h
              obtain ⟨v46, e46, f46⟩ := h.val 2 46 (by kernel_rfl)
              obtain rfl : v46 = .agg #[.bool l', .slice p' a' b', .slice kx' c' d', .slice q' r' s'] := f46
              have hbel := h.below
              clear h
              refine gives_by rfl act.eval rfl ?_
              generalize act.eval = ρ at *
              intro hf hc
              go_simp
              exact call_gives (HSB.out wx (HXW.out.1.trans (hbel.mono HXW.out.1.size)) _ HVB.out) (fun _ => rfl)
            · intro act wx h
              obtain ⟨v45, e45, f45⟩ := h.val 1 45 (by kernel_rfl)
              obtain rfl : v45 = .int .i64 (SA : Int) := f45
              obtain ⟨v47, e47, f47⟩ := h.val 3 47 (by kernel_rfl)
              obtain rfl : v47 = .int .i64 (SB : Int) := f47
              have hbel := h.below
              clear h
              refine gives_by rfl act.eval rfl ?_
              generalize act.eval = ρ at *
              intro hf hc
              go_simp
              exact ⟨Below.refl _ _, rfl⟩
            · intro act wx h
              obtain ⟨v48, e48, f48⟩ := h.val 4 48 (by kernel_rfl)
              obtain rfl : v48 = .int .i64 DD := f48
              have hbel := h.below
              clear h
              refine gives_by rfl act.eval rfl ?_
              generalize act.eval = ρ at *
              intro hf hc
              go_simp
              exact ⟨Below.refl _ _, rfl⟩
          · intro vals w8 hb8 hv
            have hv13 : vals 5 = .int .i64 DD := hv 5 13 (by kernel_rfl)
            clear hv
            generalize hact : putAll _ vals 0 _ = act
            have HX8 := hide (HKP.out HXW.out hb8)
            clear hb8
            subst hact
            simp only [putAll, Act.put, List.setIfInBounds_toArray, List.set_cons_zero, List.set_cons_succ, hv13, Nat.zero_add, Nat.reduceAdd]
            clear hv13 HSA HSB HVA HVB HSK HC0 HXW HXR hDD
            rcases hDA with ⟨hd, hng⟩ | ⟨hd, hng⟩
            · have hwA : IntKind.i64.wrap (A : Int) = (A : Int) := IntWalk.i64_in _ (by omega)
              by_cases hb0 : bst = 0
              · have hbe : ((bst : Int) == 0) = true := by simp; omega
                go_wp2
                go_roundg g
                case measure => omega
                case rel => exact ⟨j + 1, by omega, by omega, by go_num, by rw [← HM2.out, HSTEP.out, if_neg (by omega)], by rw [← HM2.out, HSTEP.out, if_neg (by omega)], HX8.out⟩
              · have hbe : ((bst : Int) == 0) = false := by simp; omega
                by_cases hl : (A : Int) < (lst : Int)
                · skip
                  go_wp2
                  go_roundg g
                  case measure => omega
                  case rel => exact ⟨j + 1, by omega, by omega, by go_num, by rw [← HM2.out, HSTEP.out, if_neg (by omega)], by rw [← HM2.out, HSTEP.out, if_neg (by omega)], HX8.out⟩
                · skip
                  go_wp2
                  go_roundg g
                  case measure => omega
                  case rel => exact ⟨j + 1, by omega, by omega, by go_num, by rw [← HM2.out, HSTEP.out, if_pos ⟨by omega, by omega⟩], by rw [← HM2.out, HSTEP.out, if_pos ⟨by omega, by omega⟩], HX8.out⟩
            · subst hng
              by_cases hb0 : bst = 0
              · have hbe : ((bst : Int) == 0) = true := by simp; omega
                go_wp2
                go_roundg g
                case measure => omega
                case rel => exact ⟨j + 1, by omega, by omega, by go_num, by rw [← HM2.out, HSTEP.out, if_neg (by omega)], by rw [← HM2.out, HSTEP.out, if_neg (by omega)], HX8.out⟩
              · have hbe : ((bst : Int) == 0) = false := by simp; omega
                by_cases hl : (A : Int) < (lst : Int)
                · skip
                  go_wp2
                  go_roundg g
                  case measure => omega
                  case rel => exact ⟨j + 1, by omega, by omega, by go_num, by rw [← HM2.out, HSTEP.out, if_neg (by omega)], by rw [← HM2.out, HSTEP.out, if_neg (by omega)], HX8.out⟩
                · skip
                  go_wp2
                  go_roundg g
                  case measure => omega
                  case rel => exact ⟨j + 1, by omega, by omega, by go_num, by rw [← HM2.out, HSTEP.out, if_pos ⟨by omega, by omega⟩], by rw [← HM2.out, HSTEP.out, if_pos ⟨by omega, by omega⟩], HX8.out⟩
        | zero =>
          have hjM : j = MX := by omega
          have e1 : (MK j).1 = CM := by rw [hjM]; exact HEND.out
          have hjn : ¬ ((j : Int) < (MO : Int)) := by omega
          rw [e1]
          generalize (MK j).2 = LS at *
          clear hjM e1 HEND HST HSML HZA HZB HM1
          by_cases h0 : 0 < CM
          · have hc0 : ((CM : Int) == 0) = false := by simp; omega
            have HAT := hide (HA1.out CM h0 (HCM.out h0))
            have hcb : CM ≤ 1000 := by have := HCM.out h0; omega
            clear HA1 HCM HNEG
            generalize HAf CM = A at *
            generalize HBf CM = B at *
            generalize HKf CM = K at *
            go_wp2_with (go_at_call 83; refine (HAT.out W1 HXR.out.1).mono ?_; rintro e w4 ⟨l, p, a, b, kx, c, d, q, r, s, k1, k2, k3, l', p', a', b', kx', c', d', q', r', s', rfl, hva, hsk, hvb, hb4⟩; have HX4 := hide (HKP.out HXR.out hb4); have HVA := hide hva; have HVB := hide hvb; have HSK := hide hsk; clear HAT hb4 hva hvb hsk)
            obtain ⟨W, hW⟩ : ∃ W, W = (w4.alloc (.cells #[.bool l, .slice p a b, .slice kx c d, .slice q r s] 26)).alloc (.cells #[.bool l', .slice p' a' b', .slice kx' c' d', .slice q' r' s'] 26) := ⟨_, rfl⟩
            obtain ⟨ab, hab⟩ : ∃ x, x = w4.heap.size := ⟨_, rfl⟩
            obtain ⟨bb, hbb⟩ : ∃ x, x = ab + 1 := ⟨_, rfl⟩
            have hs4 : w.heap.size + 3 ≤ w4.heap.size := by have := HX4.out.2.2.2.lt; omega
            have HXW := hide (HKP.out HX4.out (show Below w4.heap.size w4 W by rw [hW]; exact ((Below.refl _ w4).alloc (Nat.le_refl _) _).alloc (by simp) _))
            have HC0 : Hid (CtB w ab bb [.bool l, .slice p a b, .slice kx c d, .slice q r s] [.bool l', .slice p' a' b', .slice kx' c' d', .slice q' r' s'] W ∧ blkN W (w.heap.size + 1) zeroC ∧ blkN W (w.heap.size + 1 + 1) zeroC) := by
              have hb : Below w4.heap.size w4 W := by rw [hW]; exact ((Below.refl _ w4).alloc (Nat.le_refl _) _).alloc (by simp) _
              have hx := HKP.out HX4.out hb
              refine ⟨⟨hx.1, by have := hb.size; omega, ?_, ?_⟩, hx.2.2.1, hx.2.2.2⟩
              · rw [hab, hW]; exact (Blk.new w4 _ _).alloc _
              · rw [hbb, hab, hW]
                have := Blk.new (w4.alloc (.cells #[.bool l, .slice p a b, .slice kx c d, .slice q r s] 26)) 26 [.bool l', .slice p' a' b', .slice kx' c' d', .slice q' r' s']
                rw [World.size_alloc] at this
                exact this
            have hab3 : w.heap.size + 3 ≤ ab := by omega
            have hbb3 : w.heap.size + 3 ≤ bb := by omega
            simp only [← hab, ← hW]
            simp only [← hbb]
            clear hW hab hbb HX4 z0 z1 z2 z3
            (try go_wp2)
            refine wp_region_chain [some (.agg #[.bool l, .slice p a b, .slice kx c d, .slice q r s]), none, some (.slice k1 k2 k3), none, some (.agg #[.bool l', .slice p' a' b', .slice kx' c' d', .slice q' r' s']), none, none, none, none, none] [1, 3, 5, 6, 7, 8, 9] (CtS w ab bb [.bool l, .slice p a b, .slice kx c d, .slice q r s] [.bool l', .slice p' a' b', .slice kx' c' d', .slice q' r' s'] A B K) 79 (by kernel_rfl) (by kernel_rfl) (by kernel_rfl) (by kernel_rfl) rfl ?_ ?_ ?_
            · intro vals0
              have ho := (Only.refl (fun _ => False) W).drew
              exact (⟨HC0.out.1.only ho (fun _ h => h.elim) (fun h => h) (fun h => h), HC0.out.2.1.only ho (fun h => h), HC0.out.2.2.only ho (fun h => h)⟩ : CtB w ab bb [.bool l, .slice p a b, .slice kx c d, .slice q r s] [.bool l', .slice p' a' b', .slice kx' c' d', .slice q' r' s'] W.drew ∧ blkN W.drew (w.heap.size + 1) zeroC ∧ blkN W.drew (w.heap.size + 1 + 1) zeroC)
            · refine ⟨?_, ?_, ?_, ?_, ?_, ?_, ?_, ?_, ?_, ?_, trivial⟩
              · intro k vals act wx hk h hs
                have e14 : act.eval (.tmp 14) = .pointer (some ⟨ab, 0, none⟩) := h.old 14 (by kernel_rfl)
                clear h
                have hC : CtB w ab bb [.bool l, .slice p a b, .slice kx c d, .slice q r s] [.bool l', .slice p' a' b', .slice kx' c' d', .slice q' r' s'] wx := hs.1
                obtain ⟨⟨x0, x1, x2, x3⟩, _⟩ := node_cells hC.ba
                refine gives_by rfl act.eval rfl ?_
                generalize act.eval = ρ at *
                intro hf hc
                go_simp
                exact ⟨rfl, hs⟩
              · intro vals act wx h hs
                have e73 : act.eval (.tmp 73) = .agg #[.bool l, .slice p a b, .slice kx c d, .slice q r s] := h.q 0 73 (by kernel_rfl) rfl
                clear h
                obtain ⟨hC, hZ1, hZ2⟩ : CtB w ab bb [.bool l, .slice p a b, .slice kx c d, .slice q r s] [.bool l', .slice p' a' b', .slice kx' c' d', .slice q' r' s'] wx ∧ blkN wx (w.heap.size + 1) zeroC ∧ blkN wx (w.heap.size + 1 + 1) zeroC := hs
                refine gives_by rfl act.eval rfl ?_
                generalize act.eval = ρ at *
                intro hf hc
                go_simp
                refine (refClone_any wx _ A (HVA.out.below hC.below) hfa).mono ?_
                rintro e w' ⟨u, he, hn, hb'⟩
                have ho : Only (fun _ => False) wx w' := Only.of_below _ hb'
                obtain ⟨pa3, np3, pc3, ka3, nk3, kc3, ca3, nc3, cc3, rfl⟩ := hn.form
                exact ⟨_, he, (⟨hC.only ho (fun _ h => h.elim) (fun h => h) (fun h => h), ⟨hZ1.only ho (fun h => h), hZ2.only ho (fun h => h)⟩, ⟨_, _, _, _, _, _, _, _, _, _, rfl, hn.le hC.size⟩⟩ : CtB w ab bb [.bool l, .slice p a b, .slice kx c d, .slice q r s] [.bool l', .slice p' a' b', .slice kx' c' d', .slice q' r' s'] w' ∧ (blkN w' (w.heap.size + 1) zeroC ∧ blkN w' (w.heap.size + 1 + 1) zeroC) ∧ ndO (w.heap.size + 3) A (.agg #[.bool A.lf, .slice pa3 np3 pc3, .slice ka3 nk3 kc3, .slice ca3 nc3 cc3]) w')⟩
              · intro k vals act wx hk h hs
                have e15 : act.eval (.tmp 15) = .slice k1 k2 k3 := h.old 15 (by kernel_rfl)
                clear h
                refine gives_by rfl act.eval rfl ?_
                generalize act.eval = ρ at *
                intro hf hc
                go_simp
                exact ⟨rfl, hs⟩
              · intro vals act wx h hs
                have e75 : act.eval (.tmp 75) = .slice k1 k2 k3 := h.q 2 75 (by kernel_rfl) rfl
                clear h
                obtain ⟨hC, ⟨hZ1, hZ2⟩, h1⟩ : CtB w ab bb [.bool l, .slice p a b, .slice kx c d, .slice q r s] [.bool l', .slice p' a' b', .slice kx' c' d', .slice q' r' s'] wx ∧ (blkN wx (w.heap.size + 1) zeroC ∧ blkN wx (w.heap.size + 1 + 1) zeroC) ∧ ndO (w.heap.size + 3) A (vals 1) wx := hs
                refine gives_by rfl act.eval rfl ?_
                generalize act.eval = ρ at *
                intro hf hc
                go_simp
                refine (own_any wx _ K (HSK.out.below hC.below) hkl).mono ?_
                rintro e w' ⟨u, he, hn, hb'⟩
                have ho : Only (fun _ => False) wx w' := Only.of_below _ hb'
                obtain ⟨ua, uc, rfl⟩ := own_form' hn
                exact ⟨_, he, (⟨hC.only ho (fun _ h => h.elim) (fun h => h) (fun h => h), ⟨hZ1.only ho (fun h => h), hZ2.only ho (fun h => h)⟩, h1.only ho (fun _ h => h.elim), ⟨_, _, _, rfl, own_le' hn hC.size⟩⟩ : CtB w ab bb [.bool l, .slice p a b, .slice kx c d, .slice q r s] [.bool l', .slice p' a' b', .slice kx' c' d', .slice q' r' s'] w' ∧ (blkN w' (w.heap.size + 1) zeroC ∧ blkN w' (w.heap.size + 1 + 1) zeroC) ∧ ndO (w.heap.size + 3) A (vals 1) w' ∧ byO (w.heap.size + 3) K (.slice ua K.length uc) w')⟩
              · intro k vals act wx hk h hs
                have e16 : act.eval (.tmp 16) = .pointer (some ⟨bb, 0, none⟩) := h.old 16 (by kernel_rfl)
                clear h
                have hC : CtB w ab bb [.bool l, .slice p a b, .slice kx c d, .slice q r s] [.bool l', .slice p' a' b', .slice kx' c' d', .slice q' r' s'] wx := hs.1
                obtain ⟨⟨x0, x1, x2, x3⟩, _⟩ := node_cells hC.bb
                refine gives_by rfl act.eval rfl ?_
                generalize act.eval = ρ at *
                intro hf hc
                go_simp
                exact ⟨rfl, hs⟩
              · intro vals act wx h hs
                have e77 : act.eval (.tmp 77) = .agg #[.bool l', .slice p' a' b', .slice kx' c' d', .slice q' r' s'] := h.q 4 77 (by kernel_rfl) rfl
                clear h
                obtain ⟨hC, ⟨hZ1, hZ2⟩, h1, h3⟩ : CtB w ab bb [.bool l, .slice p a b, .slice kx c d, .slice q r s] [.bool l', .slice p' a' b', .slice kx' c' d', .slice q' r' s'] wx ∧ (blkN wx (w.heap.size + 1) zeroC ∧ blkN wx (w.heap.size + 1 + 1) zeroC) ∧ ndO (w.heap.size + 3) A (vals 1) wx ∧ byO (w.heap.size + 3) K (vals 3) wx := hs
                refine gives_by rfl act.eval rfl ?_
                generalize act.eval = ρ at *
                intro hf hc
                go_simp
                refine (refClone_any wx _ B (HVB.out.below hC.below) hfb).mono ?_
                rintro e w' ⟨u, he, hn, hb'⟩
                have ho : Only (fun _ => False) wx w' := Only.of_below _ hb'
                obtain ⟨pa3, np3, pc3, ka3, nk3, kc3, ca3, nc3, cc3, rfl⟩ := hn.form
                exact ⟨_, he, (⟨hC.only ho (fun _ h => h.elim) (fun h => h) (fun h => h), ⟨hZ1.only ho (fun h => h), hZ2.only ho (fun h => h)⟩, h1.only ho (fun _ h => h.elim), h3.only ho (fun _ h => h.elim), ⟨_, _, _, _, _, _, _, _, _, _, rfl, hn.le hC.size⟩⟩ : CtB w ab bb [.bool l, .slice p a b, .slice kx c d, .slice q r s] [.bool l', .slice p' a' b', .slice kx' c' d', .slice q' r' s'] w' ∧ (blkN w' (w.heap.size + 1) zeroC ∧ blkN w' (w.heap.size + 1 + 1) zeroC) ∧ ndO (w.heap.size + 3) A (vals 1) w' ∧ byO (w.heap.size + 3) K (vals 3) w' ∧ ndO (w.heap.size + 3) B (.agg #[.bool B.lf, .slice pa3 np3 pc3, .slice ka3 nk3 kc3, .slice ca3 nc3 cc3]) w')⟩
              · intro vals act wx h hs
                have e2 : act.eval (.tmp 2) = .pointer (some ⟨w.heap.size + 1, 0, none⟩) := h.old 2 (by kernel_rfl)
                have e74 : act.eval (.tmp 74) = vals 1 := h.val 1 74 (by kernel_rfl)
                clear h
                obtain ⟨hC, ⟨hZ1, hZ2⟩, h1, h3, h5⟩ : CtB w ab bb [.bool l, .slice p a b, .slice kx c d, .slice q r s] [.bool l', .slice p' a' b', .slice kx' c' d', .slice q' r' s'] wx ∧ (blkN wx (w.heap.size + 1) zeroC ∧ blkN wx (w.heap.size + 1 + 1) zeroC) ∧ ndO (w.heap.size + 3) A (vals 1) wx ∧ byO (w.heap.size + 3) K (vals 3) wx ∧ ndO (w.heap.size + 3) B (vals 5) wx := hs
                obtain ⟨l9, pa9, np9, pc9, ka9, nk9, kc9, ca9, nc9, cc9, hv9, hn9⟩ := h1
                rw [hv9] at e74
                obtain ⟨⟨d0, d1, d2, d3⟩, f0, f1, f2, f3⟩ := node_cells hZ1
                have ho := laidN_only wx (w.heap.size + 1) (.bool l9) (.slice pa9 np9 pc9) (.slice ka9 nk9 kc9) (.slice ca9 nc9 cc9)
                have hfin : CtB w ab bb [.bool l, .slice p a b, .slice kx c d, .slice q r s] [.bool l', .slice p' a' b', .slice kx' c' d', .slice q' r' s'] (laidN wx (w.heap.size + 1) (.bool l9) (.slice pa9 np9 pc9) (.slice ka9 nk9 kc9) (.slice ca9 nc9 cc9)) ∧ (ndS (w.heap.size + 3) (w.heap.size + 1) A (laidN wx (w.heap.size + 1) (.bool l9) (.slice pa9 np9 pc9) (.slice ka9 nk9 kc9) (.slice ca9 nc9 cc9)) ∧ blkN (laidN wx (w.heap.size + 1) (.bool l9) (.slice pa9 np9 pc9) (.slice ka9 nk9 kc9) (.slice ca9 nc9 cc9)) (w.heap.size + 1 + 1) zeroC) ∧ byO (w.heap.size + 3) K (vals 3) (laidN wx (w.heap.size + 1) (.bool l9) (.slice pa9 np9 pc9) (.slice ka9 nk9 kc9) (.slice ca9 nc9 cc9)) ∧ ndO (w.heap.size + 3) B (vals 5) (laidN wx (w.heap.size + 1) (.bool l9) (.slice pa9 np9 pc9) (.slice ka9 nk9 kc9) (.slice ca9 nc9 cc9)) := ⟨hC.only ho (fun j hj => by omega) (by omega) (by omega), ⟨⟨_, _, _, _, _, _, _, _, _, _, laidN_blk hZ1 _ _ _ _, hn9.only ho (fun j hj => by omega)⟩, hZ2.only ho (by omega)⟩, h3.only ho (fun j hj => by omega), h5.only ho (fun j hj => by omega)⟩
                clear hC hZ1 hZ2 hv9 hn9 h3 h5
                refine gives_by rfl act.eval rfl ?_
                generalize act.eval = ρ at *
                intro hf hc
                go_simp
                exact hfin
              · intro vals act wx h hs
                have e76 : act.eval (.tmp 76) = vals 3 := h.val 3 76 (by kernel_rfl)
                clear h
                obtain ⟨hC, hZ, h3, h5⟩ : CtB w ab bb [.bool l, .slice p a b, .slice kx c d, .slice q r s] [.bool l', .slice p' a' b', .slice kx' c' d', .slice q' r' s'] wx ∧ (ndS (w.heap.size + 3) (w.heap.size + 1) A wx ∧ blkN wx (w.heap.size + 1 + 1) zeroC) ∧ byO (w.heap.size + 3) K (vals 3) wx ∧ ndO (w.heap.size + 3) B (vals 5) wx := hs
                obtain ⟨ua, un, uc, hu, h3'⟩ := h3
                rw [hu] at e76
                refine gives_by rfl act.eval rfl ?_
                generalize act.eval = ρ at *
                intro hf hc
                go_simp
                exact (⟨hC, hZ, ⟨ua, un, uc, rfl, h3'⟩, h5⟩ : CtB w ab bb [.bool l, .slice p a b, .slice kx c d, .slice q r s] [.bool l', .slice p' a' b', .slice kx' c' d', .slice q' r' s'] wx ∧ (ndS (w.heap.size + 3) (w.heap.size + 1) A wx ∧ blkN wx (w.heap.size + 1 + 1) zeroC) ∧ byO (w.heap.size + 3) K (.slice ua un uc) wx ∧ ndO (w.heap.size + 3) B (vals 5) wx)
              · intro vals act wx h hs
                have e4 : act.eval (.tmp 4) = .pointer (some ⟨w.heap.size + 1 + 1, 0, none⟩) := h.old 4 (by kernel_rfl)
                have e78 : act.eval (.tmp 78) = vals 5 := h.val 5 78 (by kernel_rfl)
                clear h
                obtain ⟨hC, ⟨hS1, hZ2⟩, h3, h5⟩ : CtB w ab bb [.bool l, .slice p a b, .slice kx c d, .slice q r s] [.bool l', .slice p' a' b', .slice kx' c' d', .slice q' r' s'] wx ∧ (ndS (w.heap.size + 3) (w.heap.size + 1) A wx ∧ blkN wx (w.heap.size + 1 + 1) zeroC) ∧ byO (w.heap.size + 3) K (vals 7) wx ∧ ndO (w.heap.size + 3) B (vals 5) wx := hs
                obtain ⟨l9, pa9, np9, pc9, ka9, nk9, kc9, ca9, nc9, cc9, hv9, hn9⟩ := h5
                rw [hv9] at e78
                obtain ⟨⟨d0, d1, d2, d3⟩, f0, f1, f2, f3⟩ := node_cells hZ2
                have ho := laidN_only wx (w.heap.size + 1 + 1) (.bool l9) (.slice pa9 np9 pc9) (.slice ka9 nk9 kc9) (.slice ca9 nc9 cc9)
                have hfin : CtB w ab bb [.bool l, .slice p a b, .slice kx c d, .slice q r s] [.bool l', .slice p' a' b', .slice kx' c' d', .slice q' r' s'] (laidN wx (w.heap.size + 1 + 1) (.bool l9) (.slice pa9 np9 pc9) (.slice ka9 nk9 kc9) (.slice ca9 nc9 cc9)) ∧ (ndS (w.heap.size + 3) (w.heap.size + 1) A (laidN wx (w.heap.size + 1 + 1) (.bool l9) (.slice pa9 np9 pc9) (.slice ka9 nk9 kc9) (.slice ca9 nc9 cc9)) ∧ ndS (w.heap.size + 3) (w.heap.size + 1 + 1) B (laidN wx (w.heap.size + 1 + 1) (.bool l9) (.slice pa9 np9 pc9) (.slice ka9 nk9 kc9) (.slice ca9 nc9 cc9))) ∧ byO (w.heap.size + 3) K (vals 7) (laidN wx (w.heap.size + 1 + 1) (.bool l9) (.slice pa9 np9 pc9) (.slice ka9 nk9 kc9) (.slice ca9 nc9 cc9)) := ⟨hC.only ho (fun j hj => by omega) (by omega) (by omega), ⟨hS1.only ho (fun j hj => by omega) (by omega), ⟨_, _, _, _, _, _, _, _, _, _, laidN_blk hZ2 _ _ _ _, hn9.only ho (fun j hj => by omega)⟩⟩, h3.only ho (fun j hj => by omega)⟩
                clear hC hZ2 hv9 hn9 h3 hS1
                refine gives_by rfl act.eval rfl ?_
                generalize act.eval = ρ at *
                intro hf hc
                go_simp
                exact hfin
              · intro vals act wx h hs
                clear h
                obtain ⟨hC, hZ, h3⟩ : CtB w ab bb [.bool l, .slice p a b, .slice kx c d, .slice q r s] [.bool l', .slice p' a' b', .slice kx' c' d', .slice q' r' s'] wx ∧ (ndS (w.heap.size + 3) (w.heap.size + 1) A wx ∧ ndS (w.heap.size + 3) (w.heap.size + 1 + 1) B wx) ∧ byO (w.heap.size + 3) K (vals 7) wx := hs
                refine gives_by rfl act.eval rfl ?_
                generalize act.eval = ρ at *
                intro hf hc
                go_simp
                exact (⟨hC, hZ, h3, rfl⟩ : CtB w ab bb [.bool l, .slice p a b, .slice kx c d, .slice q r s] [.bool l', .slice p' a' b', .slice kx' c' d', .slice q' r' s'] wx ∧ (ndS (w.heap.size + 3) (w.heap.size + 1) A wx ∧ ndS (w.heap.size + 3) (w.heap.size + 1 + 1) B wx) ∧ byO (w.heap.size + 3) K (vals 7) wx ∧ (.int .i64 0 : Value) = .int .i64 0)
            · intro vals w' hq hs
              obtain ⟨hC, ⟨hS1, hS2⟩, h7, h9⟩ : CtB w ab bb [.bool l, .slice p a b, .slice kx c d, .slice q r s] [.bool l', .slice p' a' b', .slice kx' c' d', .slice q' r' s'] w' ∧ (ndS (w.heap.size + 3) (w.heap.size + 1) A w' ∧ ndS (w.heap.size + 3) (w.heap.size + 1 + 1) B w') ∧ byO (w.heap.size + 3) K (vals 7) w' ∧ (vals 9) = .int .i64 0 := hs
              obtain ⟨ua, un, uc, hu, h7'⟩ := h7
              obtain ⟨l9, pa9, np9, pc9, ka9, nk9, kc9, ca9, nc9, cc9, hB1, hN1⟩ := hS1
              obtain ⟨l8, pa8, np8, pc8, ka8, nk8, kc8, ca8, nc8, cc8, hB2, hN2⟩ := hS2
              have HB1 := hide hB1
              have HB2 := hide hB2
              have HN1 := hide hN1
              have HN2 := hide hN2
              have HO7 := hide h7'
              have HCC := hide hC
              clear hq hC hB1 hB2 hN1 hN2 h7'
              simp only [putAll, Act.put, List.setIfInBounds_toArray, List.set_cons_zero, List.set_cons_succ, Nat.zero_add, Nat.reduceAdd, hu, h9]
              (try go_wp2)
              (try simp only [Exit.inBlock, Exit.then])
              refine bodyPost_ret (ret_node4 rfl _ _ (w.heap.size + 1) (w.heap.size + 1 + 1) _ _ _ _ _ _ _ _ _ _ rfl rfl rfl rfl HB1.out HB2.out) rfl ?_
              obtain ⟨q1, q2, q3, q4⟩ := HPOS.out h0
              rw [q1, q2, q3, q4]
              exact ⟨_, ua, un, uc, _, rfl, HN1.out.le (by omega), sl_of_own_len HO7.out HSK.out.bytes, HN2.out.le (by omega), HCC.out.below⟩
          · have hc0 : ((CM : Int) == 0) = true := by simp; omega
            obtain ⟨W2, hW2⟩ : ∃ x, x = W1 := ⟨_, rfl⟩
            have HX2 := hide HXR.out
            obtain ⟨⟨d0, d1, d2, d3⟩, k0, k1, k2, k3⟩ := node_cells HX2.out.2.2.1
            have hb4 := HX2.out.2.2.2.only (laidN_only W1 (w.heap.size + 1) (.bool false) (.slice none 0 0) (.slice none 0 0) (.slice none 0 0)) (by omega)
            obtain ⟨⟨g0, g1, g2, g3⟩, q0, q1, q2, q3⟩ := node_cells hb4
            unfold laidN at g0 g1 g2 g3 q0 q1 q2 q3
            have HB4 := hide hb4
            clear hb4 hW2 HXR
            go_wp2
            (try simp only [Exit.inBlock, Exit.then])
            have h3 := laidN_blk HB4.out (.bool false) (.slice none 0 0) (.slice none 0 0) (.slice none 0 0)
            have o1 := laidN_only W1 (w.heap.size + 1) (.bool false) (.slice none 0 0) (.slice none 0 0) (.slice none 0 0)
            have o2 := laidN_only (laidN W1 (w.heap.size + 1) (.bool false) (.slice none 0 0) (.slice none 0 0) (.slice none 0 0)) (w.heap.size + 1 + 1) (.bool false) (.slice none 0 0) (.slice none 0 0) (.slice none 0 0)
            have h2 := (laidN_blk HX2.out.2.2.1 (.bool false) (.slice none 0 0) (.slice none 0 0) (.slice none 0 0)).only o2 (by omega)
            refine bodyPost_ret (ret_node4 rfl _ _ (w.heap.size + 1) (w.heap.size + 1 + 1) _ _ _ _ _ _ _ _ _ _ rfl rfl rfl rfl h2 h3) rfl ?_
            obtain ⟨q1', q2', q3', q4'⟩ := HNEG.out h0
            rw [q1', q2', q3', q4']
            exact ⟨_, none, 0, 0, _, rfl, NdN.none _ _, Sl.nil _, NdN.none _ _, (HX2.out.1.trans (o1.below HX2.out.1.size (fun j hj e => by omega))).trans (o2.below (by have := HX2.out.1.size; have := o1.size; omega) (fun j hj e => by omega))⟩
    | false =>
      have hmo : MO = nk - 1 := HMO.out
      have hk1 := HNK.out rfl
      have hmi : (nk : Int) - 1 = (MO : Int) := by omega
      have hwm : IntKind.i64.wrap (MO : Int) = (MO : Int) := IntWalk.i64_in _ (by omega)
      clear hmo HMO HNK hk1
      go_enter Try.func42, Try.ntmps42
      go_wp2_with (go_at_call 25; refine (HM.out w1 HX1.out.1).mono ?_; rintro e w2 ⟨rfl, hb2⟩; have HX2 := hide (HKP.out HX1.out hb2); clear z0 z1 z2 z3; obtain ⟨⟨z0, z1, z2, z3⟩, _⟩ := node_cells HX2.out.2.1; clear HM hb2)
      clear hmi hwm
      go_loopg [7, 8, 9, 10, 11, 12, 13] (MX - 1) (fun g s7 s8 s9 s10 s11 s12 s13 wr => ∃ j : Nat, g + j = MX ∧ 1 ≤ j ∧ s9 = .int .i64 (j : Int) ∧ s7 = .int .i64 ((MK j).1 : Nat) ∧ s8 = .int .i64 ((MK j).2 : Nat) ∧ (Below w.heap.size w wr ∧ blkN wr w.heap.size [.bool false, .slice pa np pc, .slice ka nk kc, .slice ca nc cc] ∧ blkN wr (w.heap.size + 1) zeroC ∧ blkN wr (w.heap.size + 1 + 1) zeroC))
      case atStart => exact ⟨1, by omega, by omega, rfl, by rw [HM1.out]; rfl, by rw [HM1.out]; rfl, HX2.out⟩
      case round =>
        obtain ⟨j, hgj, hj1, rfl, rfl, rfl, hx⟩ := hrel
        obtain ⟨W1, rfl⟩ : ∃ x, x = wr := ⟨_, rfl⟩
        have HXR := hide hx
        clear hx HX1 HX2 z0 z1 z2 z3
        obtain ⟨⟨z0, z1, z2, z3⟩, _⟩ := node_cells HXR.out.2.1
        cases gk with
        | succ g =>
          have hj : j < MO := by omega
          obtain ⟨A, hA, hsa, hsb, hst⟩ := HST.out j (by omega) hj
          obtain ⟨hb1, hb2⟩ := HSML.out j (by omega)
          have HAT := hide (HA1.out j (by omega) hj)
          have HSA := hide (HZA.out j)
          have HSB := hide (HZB.out j)
          have hji : (j : Int) < (MO : Int) := by omega
          have HSTEP := hide hst
          clear hst HST HSML HA1 HZA HZB HPOS HNEG HEND HCM HM1 hfa hfb hkl
          generalize sizeN (HAf j) = SA at *
          generalize sizeN (HBf j) = SB at *
          generalize HAf j = NA at *
          generalize HBf j = NB at *
          generalize HKf j = NK at *
          obtain ⟨M2, hM2⟩ : ∃ x, x = MK (j + 1) := ⟨_, rfl⟩
          rw [← hM2] at HSTEP
          have HM2 := hide hM2
          clear hM2
          generalize MK j = mk at *
          obtain ⟨bst, lst⟩ := mk
          simp only at hb1 hb2 HSTEP ⊢
          obtain ⟨DD, hDD⟩ : ∃ x : Int, (SA : Int) - (SB : Int) = x := ⟨_, rfl⟩
          have hwD : IntKind.i64.wrap DD = DD := IntWalk.i64_in _ (by omega)
          have hDA : (DD < 0 ∧ -DD = (A : Int)) ∨ (¬ DD < 0 ∧ DD = (A : Int)) := by omega
          have hAb : A ≤ 26013 := by omega
          clear hA
          go_wp2_with (go_at_call 83; refine (HAT.out W1 HXR.out.1).mono ?_; rintro e w4 ⟨l, p, a, b, kx, c, d, q, r, s, k1, k2, k3, l', p', a', b', kx', c', d', q', r', s', rfl, hva, hsk, hvb, hb4⟩; have HX4 := hide (HKP.out HXR.out hb4); have HVA := hide hva; have HVB := hide hvb; have HSK := hide hsk; clear HAT hb4 hva hvb hsk)
          obtain ⟨W, hW⟩ : ∃ W, W = (w4.alloc (.cells #[.bool l, .slice p a b, .slice kx c d, .slice q r s] 26)).alloc (.cells #[.bool l', .slice p' a' b', .slice kx' c' d', .slice q' r' s'] 26) := ⟨_, rfl⟩
          obtain ⟨ab, hab⟩ : ∃ x, x = w4.heap.size := ⟨_, rfl⟩
          obtain ⟨bb, hbb⟩ : ∃ x, x = ab + 1 := ⟨_, rfl⟩
          have hs4 : w.heap.size + 3 ≤ w4.heap.size := by have := HX4.out.2.2.2.lt; omega
          have HXW := hide (HKP.out HX4.out (show Below w4.heap.size w4 W by rw [hW]; exact ((Below.refl _ w4).alloc (Nat.le_refl _) _).alloc (by simp) _))
          have HC0 : Hid (CtB w ab bb [.bool l, .slice p a b, .slice kx c d, .slice q r s] [.bool l', .slice p' a' b', .slice kx' c' d', .slice q' r' s'] W ∧ blkN W (w.heap.size + 1) zeroC ∧ blkN W (w.heap.size + 1 + 1) zeroC) := by
            have hb : Below w4.heap.size w4 W := by rw [hW]; exact ((Below.refl _ w4).alloc (Nat.le_refl _) _).alloc (by simp) _
            have hx := HKP.out HX4.out hb
            refine ⟨⟨hx.1, by have := hb.size; omega, ?_, ?_⟩, hx.2.2.1, hx.2.2.2⟩
            · rw [hab, hW]; exact (Blk.new w4 _ _).alloc _
            · rw [hbb, hab, hW]
              have := Blk.new (w4.alloc (.cells #[.bool l, .slice p a b, .slice kx c d, .slice q r s] 26)) 26 [.bool l', .slice p' a' b', .slice kx' c' d', .slice q' r' s']
              rw [World.size_alloc] at this
              exact this
          have hab3 : w.heap.size + 3 ≤ ab := by omega
          have hbb3 : w.heap.size + 3 ≤ bb := by omega
          simp only [← hab, ← hW]
          simp only [← hbb]
          clear hW hab hbb HX4 z0 z1 z2 z3
          (try go_wp2)
          refine wp_region_facts (FL [isV (.agg #[.bool l, .slice p a b, .slice kx c d, .slice q r s]), isV (.int .i64 (SA : Int)), isV (.agg #[.bool l', .slice p' a' b', .slice kx' c' d', .slice q' r' s']), isV (.int .i64 (SB : Int)), isV (.int .i64 DD), isV (.int .i64 DD)]) 79 (by kernel_rfl) (by kernel_rfl) (by kernel_rfl) rfl (FL_stable _ (by repeat (first | exact trivial | refine ⟨stable_isV _, ?_⟩))) ?_ ?_
          · refine ⟨?_, ?_, ?_, ?_, ?_, ?_, trivial⟩
            · intro act wx h
              have e10 : act.eval (.tmp 10) = .pointer (some ⟨ab, 0, none⟩) := h.old 10 (by kernel_rfl)
              have hbel := h.below
              clear h
              have hB := HC0.out.1.ba.below hbel HC0.out.1.ba.lt
              obtain ⟨⟨x0, x1, x2, x3⟩, _⟩ := node_cells hB
              refine gives_by rfl act.eval rfl ?_
              generalize act.eval = ρ at *
              intro hf hc
              go_simp
              exact ⟨Below.refl _ _, rfl⟩
            · intro act wx h
              obtain ⟨v44, e44, f44⟩ := h.val 0 44 (by kernel_rfl)
              obtain rfl : v44 = .agg #[.bool l, .slice p a b, .slice kx c d, .slice q r s] := f44
              have hbel := h.below
              clear h
              refine gives_by rfl act.eval rfl ?_
              generalize act.eval = ρ at *
              intro hf hc
              go_simp
              exact call_gives (HSA.out wx (HXW.out.1.trans (hbel.mono HXW.out.1.size)) _ HVA.out) (fun _ => rfl)
            · intro act wx h
              have e12 : act.eval (.tmp 12) = .pointer (some ⟨bb, 0, none⟩) := h.old 12 (by kernel_rfl)
              have hbel := h.below
              clear h
              have hB := HC0.out.1.bb.below hbel HC0.out.1.bb.lt
              obtain ⟨⟨x0, x1, x2, x3⟩, _⟩ := node_cells hB
              refine gives_by rfl act.eval rfl ?_
              generalize act.eval = ρ at *
              intro hf hc
              go_simp
              exact ⟨Below.refl _ _, rfl⟩
            · intro act wx h
              obtain ⟨v46, e46, f46⟩ := h.val 2 46 (by kernel_rfl)
              obtain rfl : v46 = .agg #[.bool l', .slice p' a' b', .slice kx' c' d', .slice q' r' s'] := f46
              have hbel := h.below
              clear h
              refine gives_by rfl act.eval rfl ?_
              generalize act.eval = ρ at *
              intro hf hc
              go_simp
              exact call_gives (HSB.out wx (HXW.out.1.trans (hbel.mono HXW.out.1.size)) _ HVB.out) (fun _ => rfl)
            · intro act wx h
              obtain ⟨v45, e45, f45⟩ := h.val 1 45 (by kernel_rfl)
              obtain rfl : v45 = .int .i64 (SA : Int) := f45
              obtain ⟨v47, e47, f47⟩ := h.val 3 47 (by kernel_rfl)
              obtain rfl : v47 = .int .i64 (SB : Int) := f47
              have hbel := h.below
              clear h
              refine gives_by rfl act.eval rfl ?_
              generalize act.eval = ρ at *
              intro hf hc
              go_simp
              exact ⟨Below.refl _ _, rfl⟩
            · intro act wx h
              obtain ⟨v48, e48, f48⟩ := h.val 4 48 (by kernel_rfl)
              obtain rfl : v48 = .int .i64 DD := f48
              have hbel := h.below
              clear h
              refine gives_by rfl act.eval rfl ?_
              generalize act.eval = ρ at *
              intro hf hc
              go_simp
              exact ⟨Below.refl _ _, rfl⟩
          · intro vals w8 hb8 hv
            have hv13 : vals 5 = .int .i64 DD := hv 5 13 (by kernel_rfl)
            clear hv
            generalize hact : putAll _ vals 0 _ = act
            have HX8 := hide (HKP.out HXW.out hb8)
            clear hb8
            subst hact
            simp only [putAll, Act.put, List.setIfInBounds_toArray, List.set_cons_zero, List.set_cons_succ, hv13, Nat.zero_add, Nat.reduceAdd]
            clear hv13 HSA HSB HVA HVB HSK HC0 HXW HXR hDD
            rcases hDA with ⟨hd, hng⟩ | ⟨hd, hng⟩
            · have hwA : IntKind.i64.wrap (A : Int) = (A : Int) := IntWalk.i64_in _ (by omega)
              by_cases hb0 : bst = 0
              · have hbe : ((bst : Int) == 0) = true := by simp; omega
                go_wp2
                go_roundg g
                case measure => omega
                case rel => exact ⟨j + 1, by omega, by omega, by go_num, by rw [← HM2.out, HSTEP.out, if_neg (by omega)], by rw [← HM2.out, HSTEP.out, if_neg (by omega)], HX8.out⟩
              · have hbe : ((bst : Int) == 0) = false := by simp; omega
                by_cases hl : (A : Int) < (lst : Int)
                · skip
                  go_wp2
                  go_roundg g
                  case measure => omega
                  case rel => exact ⟨j + 1, by omega, by omega, by go_num, by rw [← HM2.out, HSTEP.out, if_neg (by omega)], by rw [← HM2.out, HSTEP.out, if_neg (by omega)], HX8.out⟩
                · skip
                  go_wp2
                  go_roundg g
                  case measure => omega
                  case rel => exact ⟨j + 1, by omega, by omega, by go_num, by rw [← HM2.out, HSTEP.out, if_pos ⟨by omega, by omega⟩], by rw [← HM2.out, HSTEP.out, if_pos ⟨by omega, by omega⟩], HX8.out⟩
            · subst hng
              by_cases hb0 : bst = 0
              · have hbe : ((bst : Int) == 0) = true := by simp; omega
                go_wp2
                go_roundg g
                case measure => omega
                case rel => exact ⟨j + 1, by omega, by omega, by go_num, by rw [← HM2.out, HSTEP.out, if_neg (by omega)], by rw [← HM2.out, HSTEP.out, if_neg (by omega)], HX8.out⟩
              · have hbe : ((bst : Int) == 0) = false := by simp; omega
                by_cases hl : (A : Int) < (lst : Int)
                · skip
                  go_wp2
                  go_roundg g
                  case measure => omega
                  case rel => exact ⟨j + 1, by omega, by omega, by go_num, by rw [← HM2.out, HSTEP.out, if_neg (by omega)], by rw [← HM2.out, HSTEP.out, if_neg (by omega)], HX8.out⟩
                · skip
                  go_wp2
                  go_roundg g
                  case measure => omega
                  case rel => exact ⟨j + 1, by omega, by omega, by go_num, by rw [← HM2.out, HSTEP.out, if_pos ⟨by omega, by omega⟩], by rw [← HM2.out, HSTEP.out, if_pos ⟨by omega, by omega⟩], HX8.out⟩
        | zero =>
          have hjM : j = MX := by omega
          have e1 : (MK j).1 = CM := by rw [hjM]; exact HEND.out
          have hjn : ¬ ((j : Int) < (MO : Int)) := by omega
          rw [e1]
          generalize (MK j).2 = LS at *
          clear hjM e1 HEND HST HSML HZA HZB HM1
          by_cases h0 : 0 < CM
          · have hc0 : ((CM : Int) == 0) = false := by simp; omega
            have HAT := hide (HA1.out CM h0 (HCM.out h0))
            have hcb : CM ≤ 1000 := by have := HCM.out h0; omega
            clear HA1 HCM HNEG
            generalize HAf CM = A at *
            generalize HBf CM = B at *
            generalize HKf CM = K at *
            go_wp2_with (go_at_call 83; refine (HAT.out W1 HXR.out.1).mono ?_; rintro e w4 ⟨l, p, a, b, kx, c, d, q, r, s, k1, k2, k3, l', p', a', b', kx', c', d', q', r', s', rfl, hva, hsk, hvb, hb4⟩; have HX4 := hide (HKP.out HXR.out hb4); have HVA := hide hva; have HVB := hide hvb; have HSK := hide hsk; clear HAT hb4 hva hvb hsk)
            obtain ⟨W, hW⟩ : ∃ W, W = (w4.alloc (.cells #[.bool l, .slice p a b, .slice kx c d, .slice q r s] 26)).alloc (.cells #[.bool l', .slice p' a' b', .slice kx' c' d', .slice q' r' s'] 26) := ⟨_, rfl⟩
            obtain ⟨ab, hab⟩ : ∃ x, x = w4.heap.size := ⟨_, rfl⟩
            obtain ⟨bb, hbb⟩ : ∃ x, x = ab + 1 := ⟨_, rfl⟩
            have hs4 : w.heap.size + 3 ≤ w4.heap.size := by have := HX4.out.2.2.2.lt; omega
            have HXW := hide (HKP.out HX4.out (show Below w4.heap.size w4 W by rw [hW]; exact ((Below.refl _ w4).alloc (Nat.le_refl _) _).alloc (by simp) _))
            have HC0 : Hid (CtB w ab bb [.bool l, .slice p a b, .slice kx c d, .slice q r s] [.bool l', .slice p' a' b', .slice kx' c' d', .slice q' r' s'] W ∧ blkN W (w.heap.size + 1) zeroC ∧ blkN W (w.heap.size + 1 + 1) zeroC) := by
              have hb : Below w4.heap.size w4 W := by rw [hW]; exact ((Below.refl _ w4).alloc (Nat.le_refl _) _).alloc (by simp) _
              have hx := HKP.out HX4.out hb
              refine ⟨⟨hx.1, by have := hb.size; omega, ?_, ?_⟩, hx.2.2.1, hx.2.2.2⟩
              · rw [hab, hW]; exact (Blk.new w4 _ _).alloc _
              · rw [hbb, hab, hW]
                have := Blk.new (w4.alloc (.cells #[.bool l, .slice p a b, .slice kx c d, .slice q r s] 26)) 26 [.bool l', .slice p' a' b', .slice kx' c' d', .slice q' r' s']
                rw [World.size_alloc] at this
                exact this
            have hab3 : w.heap.size + 3 ≤ ab := by omega
            have hbb3 : w.heap.size + 3 ≤ bb := by omega
            simp only [← hab, ← hW]
            simp only [← hbb]
            clear hW hab hbb HX4 z0 z1 z2 z3
            (try go_wp2)
            refine wp_region_chain [some (.agg #[.bool l, .slice p a b, .slice kx c d, .slice q r s]), none, some (.slice k1 k2 k3), none, some (.agg #[.bool l', .slice p' a' b', .slice kx' c' d', .slice q' r' s']), none, none, none, none, none] [1, 3, 5, 6, 7, 8, 9] (CtS w ab bb [.bool l, .slice p a b, .slice kx c d, .slice q r s] [.bool l', .slice p' a' b', .slice kx' c' d', .slice q' r' s'] A B K) 79 (by kernel_rfl) (by kernel_rfl) (by kernel_rfl) (by kernel_rfl) rfl ?_ ?_ ?_
            · intro vals0
              have ho := (Only.refl (fun _ => False) W).drew
              exact (⟨HC0.out.1.only ho (fun _ h => h.elim) (fun h => h) (fun h => h), HC0.out.2.1.only ho (fun h => h), HC0.out.2.2.only ho (fun h => h)⟩ : CtB w ab bb [.bool l, .slice p a b, .slice kx c d, .slice q r s] [.bool l', .slice p' a' b', .slice kx' c' d', .slice q' r' s'] W.drew ∧ blkN W.drew (w.heap.size + 1) zeroC ∧ blkN W.drew (w.heap.size + 1 + 1) zeroC)
            · refine ⟨?_, ?_, ?_, ?_, ?_, ?_, ?_, ?_, ?_, ?_, trivial⟩
              · intro k vals act wx hk h hs
                have e14 : act.eval (.tmp 14) = .pointer (some ⟨ab, 0, none⟩) := h.old 14 (by kernel_rfl)
                clear h
                have hC : CtB w ab bb [.bool l, .slice p a b, .slice kx c d, .slice q r s] [.bool l', .slice p' a' b', .slice kx' c' d', .slice q' r' s'] wx := hs.1
                obtain ⟨⟨x0, x1, x2, x3⟩, _⟩ := node_cells hC.ba
                refine gives_by rfl act.eval rfl ?_
                generalize act.eval = ρ at *
                intro hf hc
                go_simp
                exact ⟨rfl, hs⟩
              · intro vals act wx h hs
                have e73 : act.eval (.tmp 73) = .agg #[.bool l, .slice p a b, .slice kx c d, .slice q r s] := h.q 0 73 (by kernel_rfl) rfl
                clear h
                obtain ⟨hC, hZ1, hZ2⟩ : CtB w ab bb [.bool l, .slice p a b, .slice kx c d, .slice q r s] [.bool l', .slice p' a' b', .slice kx' c' d', .slice q' r' s'] wx ∧ blkN wx (w.heap.size + 1) zeroC ∧ blkN wx (w.heap.size + 1 + 1) zeroC := hs
                refine gives_by rfl act.eval rfl ?_
                generalize act.eval = ρ at *
                intro hf hc
                go_simp
                refine (refClone_any wx _ A (HVA.out.below hC.below) hfa).mono ?_
                rintro e w' ⟨u, he, hn, hb'⟩
                have ho : Only (fun _ => False) wx w' := Only.of_below _ hb'
                obtain ⟨pa3, np3, pc3, ka3, nk3, kc3, ca3, nc3, cc3, rfl⟩ := hn.form
                exact ⟨_, he, (⟨hC.only ho (fun _ h => h.elim) (fun h => h) (fun h => h), ⟨hZ1.only ho (fun h => h), hZ2.only ho (fun h => h)⟩, ⟨_, _, _, _, _, _, _, _, _, _, rfl, hn.le hC.size⟩⟩ : CtB w ab bb [.bool l, .slice p a b, .slice kx c d, .slice q r s] [.bool l', .slice p' a' b', .slice kx' c' d', .slice q' r' s'] w' ∧ (blkN w' (w.heap.size + 1) zeroC ∧ blkN w' (w.heap.size + 1 + 1) zeroC) ∧ ndO (w.heap.size + 3) A (.agg #[.bool A.lf, .slice pa3 np3 pc3, .slice ka3 nk3 kc3, .slice ca3 nc3 cc3]) w')⟩
              · intro k vals act wx hk h hs
                have e15 : act.eval (.tmp 15) = .slice k1 k2 k3 := h.old 15 (by kernel_rfl)
                clear h
                refine gives_by rfl act.eval rfl ?_
                generalize act.eval = ρ at *
                intro hf hc
                go_simp
                exact ⟨rfl, hs⟩
              · intro vals act wx h hs
                have e75 : act.eval (.tmp 75) = .slice k1 k2 k3 := h.q 2 75 (by kernel_rfl) rfl
                clear h
                obtain ⟨hC, ⟨hZ1, hZ2⟩, h1⟩ : CtB w ab bb [.bool l, .slice p a b, .slice kx c d, .slice q r s] [.bool l', .slice p' a' b', .slice kx' c' d', .slice q' r' s'] wx ∧ (blkN wx (w.heap.size + 1) zeroC ∧ blkN wx (w.heap.size + 1 + 1) zeroC) ∧ ndO (w.heap.size + 3) A (vals 1) wx := hs
                refine gives_by rfl act.eval rfl ?_
                generalize act.eval = ρ at *
                intro hf hc
                go_simp
                refine (own_any wx _ K (HSK.out.below hC.below) hkl).mono ?_
                rintro e w' ⟨u, he, hn, hb'⟩
                have ho : Only (fun _ => False) wx w' := Only.of_below _ hb'
                obtain ⟨ua, uc, rfl⟩ := own_form' hn
                exact ⟨_, he, (⟨hC.only ho (fun _ h => h.elim) (fun h => h) (fun h => h), ⟨hZ1.only ho (fun h => h), hZ2.only ho (fun h => h)⟩, h1.only ho (fun _ h => h.elim), ⟨_, _, _, rfl, own_le' hn hC.size⟩⟩ : CtB w ab bb [.bool l, .slice p a b, .slice kx c d, .slice q r s] [.bool l', .slice p' a' b', .slice kx' c' d', .slice q' r' s'] w' ∧ (blkN w' (w.heap.size + 1) zeroC ∧ blkN w' (w.heap.size + 1 + 1) zeroC) ∧ ndO (w.heap.size + 3) A (vals 1) w' ∧ byO (w.heap.size + 3) K (.slice ua K.length uc) w')⟩
              · intro k vals act wx hk h hs
                have e16 : act.eval (.tmp 16) = .pointer (some ⟨bb, 0, none⟩) := h.old 16 (by kernel_rfl)
                clear h
                have hC : CtB w ab bb [.bool l, .slice p a b, .slice kx c d, .slice q r s] [.bool l', .slice p' a' b', .slice kx' c' d', .slice q' r' s'] wx := hs.1
                obtain ⟨⟨x0, x1, x2, x3⟩, _⟩ := node_cells hC.bb
                refine gives_by rfl act.eval rfl ?_
                generalize act.eval = ρ at *
                intro hf hc
                go_simp
                exact ⟨rfl, hs⟩
              · intro vals act wx h hs
                have e77 : act.eval (.tmp 77) = .agg #[.bool l', .slice p' a' b', .slice kx' c' d', .slice q' r' s'] := h.q 4 77 (by kernel_rfl) rfl
                clear h
                obtain ⟨hC, ⟨hZ1, hZ2⟩, h1, h3⟩ : CtB w ab bb [.bool l, .slice p a b, .slice kx c d, .slice q r s] [.bool l', .slice p' a' b', .slice kx' c' d', .slice q' r' s'] wx ∧ (blkN wx (w.heap.size + 1) zeroC ∧ blkN wx (w.heap.size + 1 + 1) zeroC) ∧ ndO (w.heap.size + 3) A (vals 1) wx ∧ byO (w.heap.size + 3) K (vals 3) wx := hs
                refine gives_by rfl act.eval rfl ?_
                generalize act.eval = ρ at *
                intro hf hc
                go_simp
                refine (refClone_any wx _ B (HVB.out.below hC.below) hfb).mono ?_
                rintro e w' ⟨u, he, hn, hb'⟩
                have ho : Only (fun _ => False) wx w' := Only.of_below _ hb'
                obtain ⟨pa3, np3, pc3, ka3, nk3, kc3, ca3, nc3, cc3, rfl⟩ := hn.form
                exact ⟨_, he, (⟨hC.only ho (fun _ h => h.elim) (fun h => h) (fun h => h), ⟨hZ1.only ho (fun h => h), hZ2.only ho (fun h => h)⟩, h1.only ho (fun _ h => h.elim), h3.only ho (fun _ h => h.elim), ⟨_, _, _, _, _, _, _, _, _, _, rfl, hn.le hC.size⟩⟩ : CtB w ab bb [.bool l, .slice p a b, .slice kx c d, .slice q r s] [.bool l', .slice p' a' b', .slice kx' c' d', .slice q' r' s'] w' ∧ (blkN w' (w.heap.size + 1) zeroC ∧ blkN w' (w.heap.size + 1 + 1) zeroC) ∧ ndO (w.heap.size + 3) A (vals 1) w' ∧ byO (w.heap.size + 3) K (vals 3) w' ∧ ndO (w.heap.size + 3) B (.agg #[.bool B.lf, .slice pa3 np3 pc3, .slice ka3 nk3 kc3, .slice ca3 nc3 cc3]) w')⟩
              · intro vals act wx h hs
                have e2 : act.eval (.tmp 2) = .pointer (some ⟨w.heap.size + 1, 0, none⟩) := h.old 2 (by kernel_rfl)
                have e74 : act.eval (.tmp 74) = vals 1 := h.val 1 74 (by kernel_rfl)
                clear h
                obtain ⟨hC, ⟨hZ1, hZ2⟩, h1, h3, h5⟩ : CtB w ab bb [.bool l, .slice p a b, .slice kx c d, .slice q r s] [.bool l', .slice p' a' b', .slice kx' c' d', .slice q' r' s'] wx ∧ (blkN wx (w.heap.size + 1) zeroC ∧ blkN wx (w.heap.size + 1 + 1) zeroC) ∧ ndO (w.heap.size + 3) A (vals 1) wx ∧ byO (w.heap.size + 3) K (vals 3) wx ∧ ndO (w.heap.size + 3) B (vals 5) wx := hs
                obtain ⟨l9, pa9, np9, pc9, ka9, nk9, kc9, ca9, nc9, cc9, hv9, hn9⟩ := h1
                rw [hv9] at e74
                obtain ⟨⟨d0, d1, d2, d3⟩, f0, f1, f2, f3⟩ := node_cells hZ1
                have ho := laidN_only wx (w.heap.size + 1) (.bool l9) (.slice pa9 np9 pc9) (.slice ka9 nk9 kc9) (.slice ca9 nc9 cc9)
                have hfin : CtB w ab bb [.bool l, .slice p a b, .slice kx c d, .slice q r s] [.bool l', .slice p' a' b', .slice kx' c' d', .slice q' r' s'] (laidN wx (w.heap.size + 1) (.bool l9) (.slice pa9 np9 pc9) (.slice ka9 nk9 kc9) (.slice ca9 nc9 cc9)) ∧ (ndS (w.heap.size + 3) (w.heap.size + 1) A (laidN wx (w.heap.size + 1) (.bool l9) (.slice pa9 np9 pc9) (.slice ka9 nk9 kc9) (.slice ca9 nc9 cc9)) ∧ blkN (laidN wx (w.heap.size + 1) (.bool l9) (.slice pa9 np9 pc9) (.slice ka9 nk9 kc9) (.slice ca9 nc9 cc9)) (w.heap.size + 1 + 1) zeroC) ∧ byO (w.heap.size + 3) K (vals 3) (laidN wx (w.heap.size + 1) (.bool l9) (.slice pa9 np9 pc9) (.slice ka9 nk9 kc9) (.slice ca9 nc9 cc9)) ∧ ndO (w.heap.size + 3) B (vals 5) (laidN wx (w.heap.size + 1) (.bool l9) (.slice pa9 np9 pc9) (.slice ka9 nk9 kc9) (.slice ca9 nc9 cc9)) := ⟨hC.only ho (fun j hj => by omega) (by omega) (by omega), ⟨⟨_, _, _, _, _, _, _, _, _, _, laidN_blk hZ1 _ _ _ _, hn9.only ho (fun j hj => by omega)⟩, hZ2.only ho (by omega)⟩, h3.only ho (fun j hj => by omega), h5.only ho (fun j hj => by omega)⟩
                clear hC hZ1 hZ2 hv9 hn9 h3 h5
                refine gives_by rfl act.eval rfl ?_
                generalize act.eval = ρ at *
                intro hf hc
                go_simp
                exact hfin
              · intro vals act wx h hs
                have e76 : act.eval (.tmp 76) = vals 3 := h.val 3 76 (by kernel_rfl)
                clear h
                obtain ⟨hC, hZ, h3, h5⟩ : CtB w ab bb [.bool l, .slice p a b, .slice kx c d, .slice q r s] [.bool l', .slice p' a' b', .slice kx' c' d', .slice q' r' s'] wx ∧ (ndS (w.heap.size + 3) (w.heap.size + 1) A wx ∧ blkN wx (w.heap.size + 1 + 1) zeroC) ∧ byO (w.heap.size + 3) K (vals 3) wx ∧ ndO (w.heap.size + 3) B (vals 5) wx := hs
                obtain ⟨ua, un, uc, hu, h3'⟩ := h3
                rw [hu] at e76
                refine gives_by rfl act.eval rfl ?_
                generalize act.eval = ρ at *
                intro hf hc
                go_simp
                exact (⟨hC, hZ, ⟨ua, un, uc, rfl, h3'⟩, h5⟩ : CtB w ab bb [.bool l, .slice p a b, .slice kx c d, .slice q r s] [.bool l', .slice p' a' b', .slice kx' c' d', .slice q' r' s'] wx ∧ (ndS (w.heap.size + 3) (w.heap.size + 1) A wx ∧ blkN wx (w.heap.size + 1 + 1) zeroC) ∧ byO (w.heap.size + 3) K (.slice ua un uc) wx ∧ ndO (w.heap.size + 3) B (vals 5) wx)
              · intro vals act wx h hs
                have e4 : act.eval (.tmp 4) = .pointer (some ⟨w.heap.size + 1 + 1, 0, none⟩) := h.old 4 (by kernel_rfl)
                have e78 : act.eval (.tmp 78) = vals 5 := h.val 5 78 (by kernel_rfl)
                clear h
                obtain ⟨hC, ⟨hS1, hZ2⟩, h3, h5⟩ : CtB w ab bb [.bool l, .slice p a b, .slice kx c d, .slice q r s] [.bool l', .slice p' a' b', .slice kx' c' d', .slice q' r' s'] wx ∧ (ndS (w.heap.size + 3) (w.heap.size + 1) A wx ∧ blkN wx (w.heap.size + 1 + 1) zeroC) ∧ byO (w.heap.size + 3) K (vals 7) wx ∧ ndO (w.heap.size + 3) B (vals 5) wx := hs
                obtain ⟨l9, pa9, np9, pc9, ka9, nk9, kc9, ca9, nc9, cc9, hv9, hn9⟩ := h5
                rw [hv9] at e78
                obtain ⟨⟨d0, d1, d2, d3⟩, f0, f1, f2, f3⟩ := node_cells hZ2
                have ho := laidN_only wx (w.heap.size + 1 + 1) (.bool l9) (.slice pa9 np9 pc9) (.slice ka9 nk9 kc9) (.slice ca9 nc9 cc9)
                have hfin : CtB w ab bb [.bool l, .slice p a b, .slice kx c d, .slice q r s] [.bool l', .slice p' a' b', .slice kx' c' d', .slice q' r' s'] (laidN wx (w.heap.size + 1 + 1) (.bool l9) (.slice pa9 np9 pc9) (.slice ka9 nk9 kc9) (.slice ca9 nc9 cc9)) ∧ (ndS (w.heap.size + 3) (w.heap.size + 1) A (laidN wx (w.heap.size + 1 + 1) (.bool l9) (.slice pa9 np9 pc9) (.slice ka9 nk9 kc9) (.slice ca9 nc9 cc9)) ∧ ndS (w.heap.size + 3) (w.heap.size + 1 + 1) B (laidN wx (w.heap.size + 1 + 1) (.bool l9) (.slice pa9 np9 pc9) (.slice ka9 nk9 kc9) (.slice ca9 nc9 cc9))) ∧ byO (w.heap.size + 3) K (vals 7) (laidN wx (w.heap.size + 1 + 1) (.bool l9) (.slice pa9 np9 pc9) (.slice ka9 nk9 kc9) (.slice ca9 nc9 cc9)) := ⟨hC.only ho (fun j hj => by omega) (by omega) (by omega), ⟨hS1.only ho (fun j hj => by omega) (by omega), ⟨_, _, _, _, _, _, _, _, _, _, laidN_blk hZ2 _ _ _ _, hn9.only ho (fun j hj => by omega)⟩⟩, h3.only ho (fun j hj => by omega)⟩
                clear hC hZ2 hv9 hn9 h3 hS1
                refine gives_by rfl act.eval rfl ?_
                generalize act.eval = ρ at *
                intro hf hc
                go_simp
                exact hfin
              · intro vals act wx h hs
                clear h
                obtain ⟨hC, hZ, h3⟩ : CtB w ab bb [.bool l, .slice p a b, .slice kx c d, .slice q r s] [.bool l', .slice p' a' b', .slice kx' c' d', .slice q' r' s'] wx ∧ (ndS (w.heap.size + 3) (w.heap.size + 1) A wx ∧ ndS (w.heap.size + 3) (w.heap.size + 1 + 1) B wx) ∧ byO (w.heap.size + 3) K (vals 7) wx := hs
                refine gives_by rfl act.eval rfl ?_
                generalize act.eval = ρ at *
                intro hf hc
                go_simp
                exact (⟨hC, hZ, h3, rfl⟩ : CtB w ab bb [.bool l, .slice p a b, .slice kx c d, .slice q r s] [.bool l', .slice p' a' b', .slice kx' c' d', .slice q' r' s'] wx ∧ (ndS (w.heap.size + 3) (w.heap.size + 1) A wx ∧ ndS (w.heap.size + 3) (w.heap.size + 1 + 1) B wx) ∧ byO (w.heap.size + 3) K (vals 7) wx ∧ (.int .i64 0 : Value) = .int .i64 0)
            · intro vals w' hq hs
              obtain ⟨hC, ⟨hS1, hS2⟩, h7, h9⟩ : CtB w ab bb [.bool l, .slice p a b, .slice kx c d, .slice q r s] [.bool l', .slice p' a' b', .slice kx' c' d', .slice q' r' s'] w' ∧ (ndS (w.heap.size + 3) (w.heap.size + 1) A w' ∧ ndS (w.heap.size + 3) (w.heap.size + 1 + 1) B w') ∧ byO (w.heap.size + 3) K (vals 7) w' ∧ (vals 9) = .int .i64 0 := hs
              obtain ⟨ua, un, uc, hu, h7'⟩ := h7
              obtain ⟨l9, pa9, np9, pc9, ka9, nk9, kc9, ca9, nc9, cc9, hB1, hN1⟩ := hS1
              obtain ⟨l8, pa8, np8, pc8, ka8, nk8, kc8, ca8, nc8, cc8, hB2, hN2⟩ := hS2
              have HB1 := hide hB1
              have HB2 := hide hB2
              have HN1 := hide hN1
              have HN2 := hide hN2
              have HO7 := hide h7'
              have HCC := hide hC
              clear hq hC hB1 hB2 hN1 hN2 h7'
              simp only [putAll, Act.put, List.setIfInBounds_toArray, List.set_cons_zero, List.set_cons_succ, Nat.zero_add, Nat.reduceAdd, hu, h9]
              (try go_wp2)
              (try simp only [Exit.inBlock, Exit.then])
              refine bodyPost_ret (ret_node4 rfl _ _ (w.heap.size + 1) (w.heap.size + 1 + 1) _ _ _ _ _ _ _ _ _ _ rfl rfl rfl rfl HB1.out HB2.out) rfl ?_
              obtain ⟨q1, q2, q3, q4⟩ := HPOS.out h0
              rw [q1, q2, q3, q4]
              exact ⟨_, ua, un, uc, _, rfl, HN1.out.le (by omega), sl_of_own_len HO7.out HSK.out.bytes, HN2.out.le (by omega), HCC.out.below⟩
          · have hc0 : ((CM : Int) == 0) = true := by simp; omega
            obtain ⟨W2, hW2⟩ : ∃ x, x = W1 := ⟨_, rfl⟩
            have HX2 := hide HXR.out
            obtain ⟨⟨d0, d1, d2, d3⟩, k0, k1, k2, k3⟩ := node_cells HX2.out.2.2.1
            have hb4 := HX2.out.2.2.2.only (laidN_only W1 (w.heap.size + 1) (.bool false) (.slice none 0 0) (.slice none 0 0) (.slice none 0 0)) (by omega)
            obtain ⟨⟨g0, g1, g2, g3⟩, q0, q1, q2, q3⟩ := node_cells hb4
            unfold laidN at g0 g1 g2 g3 q0 q1 q2 q3
            have HB4 := hide hb4
            clear hb4 hW2 HXR
            go_wp2
            (try simp only [Exit.inBlock, Exit.then])
            have h3 := laidN_blk HB4.out (.bool false) (.slice none 0 0) (.slice none 0 0) (.slice none 0 0)
            have o1 := laidN_only W1 (w.heap.size + 1) (.bool false) (.slice none 0 0) (.slice none 0 0) (.slice none 0 0)
            have o2 := laidN_only (laidN W1 (w.heap.size + 1) (.bool false) (.slice none 0 0) (.slice none 0 0) (.slice none 0 0)) (w.heap.size + 1 + 1) (.bool false) (.slice none 0 0) (.slice none 0 0) (.slice none 0 0)
            have h2 := (laidN_blk HX2.out.2.2.1 (.bool false) (.slice none 0 0) (.slice none 0 0) (.slice none 0 0)).only o2 (by omega)
            refine bodyPost_ret (ret_node4 rfl _ _ (w.heap.size + 1) (w.heap.size + 1 + 1) _ _ _ _ _ _ _ _ _ _ rfl rfl rfl rfl h2 h3) rfl ?_
            obtain ⟨q1', q2', q3', q4'⟩ := HNEG.out h0
            rw [q1', q2', q3', q4']
            exact ⟨_, none, 0, 0, _, rfl, NdN.none _ _, Sl.nil _, NdN.none _ _, (HX2.out.1.trans (o1.below HX2.out.1.size (fun j hj e => by omega))).trans (o2.below (by have := HX2.out.1.size; have := o1.size; omega) (fun j hj e => by omega))⟩

end Go.Proofs.Ythnppkeifhnceaa
