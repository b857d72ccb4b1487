/- Contracts: the document's bytes, Size and Check of a node (incipitref10.lay, Size, Check). -/
import Derived.Test.YtoamdbjailpgdaaNRefI
import Derived.Test.YtoamdbjailpgdaaNKid
import Derived.Test.YtoamdbjailpgdaaRegion
import Derived.Test.YtoamdbjailpgdaaNPutI
namespace Go.Proofs.Ytoamdbjailpgdaa
set_option maxRecDepth 20000
open Go.RowKit Go.Shelf
set_option linter.unusedVariables false
set_option linter.unusedSimpArgs false
set_option maxRecDepth 100000
attribute [local go_sem] Oper.semAt_some

theorem refLay_any (w : World) (v : Value) (n : Nd) (h : NdV w v n) (hm : mayN n = true) :
    Calls Try.prog 51 #[v] w fun e w' => ∃ u, e = .returned u ∧ ownsB w' w.heap.size u (bytesN n) ∧ Below w.heap.size w w' := by
  unfold bytesN
  by_cases hl : n.lf = true
  · rw [if_pos hl]
    obtain ⟨a1, _, _, a4, _⟩ := may_bounds hm
    exact refLay_leaf w v n h hl a1 a4
  · have hf : n.lf = false := by simpa using hl
    rw [if_neg hl]
    exact refLay_inner w v n h hf (by rw [← mayN_in hf]; exact hm)

theorem refSize_any (w : World) (v : Value) (n : Nd) (h : NdV w v n) (hq : n.ks.length + n.cs.length ≤ 9223372036854775807) :
    Calls Try.prog 15 #[v] w fun e w' => e = .returned (.int .i64 (sizeN n)) ∧ Below w.heap.size w w' := by
  have HM : Hid (∀ w1, Below w.heap.size w w1 → Calls Try.prog 25 #[v] w1 fun e w' => e = .returned (.bool (mayN n)) ∧ Below w1.heap.size w1 w') := fun w1 hb => refMay_any w1 v n (h.below hb) hq
  have HP : Hid (mayN n = true → ∀ w1, Below w.heap.size w w1 → Calls Try.prog 51 #[v] w1 fun e w' => ∃ a c, e = .returned (.slice a (sizeN n) c) ∧ Below w1.heap.size w1 w') := fun hm w1 hb => by
    refine (refLay_any w1 v n (h.below hb) hm).mono ?_
    rintro e w' ⟨u, rfl, ho, hb'⟩
    obtain ⟨a, c, rfl⟩ := own_sliceN ho
    rw [bytesN_len hm]
    exact ⟨a, c, rfl, hb'⟩
  have HS : Hid (mayN n = false → sizeN n = 0) := fun hh => by unfold sizeN; rw [hh]; rfl
  obtain ⟨lf, pa, np, pc, ka, nk, kc, ca, nc, cc, rfl, -⟩ := nd_open h
  generalize sizeN n = S at *
  generalize mayN n = M at *
  obtain ⟨w1, hw1, HB1, HBB, z0, z1, z2, z3⟩ := nd_box w lf (.slice pa np pc) (.slice ka nk kc) (.slice ca nc cc)
  clear h hq
  cases M with
  | false =>
    have HS0 := hide (HS.out rfl)
    clear HS HP
    go_enter Try.func15, Try.ntmps15
    go_wp2_with (go_at_call 25; refine (HM.out w1 HB1.out).mono ?_; rintro e w2 ⟨rfl, hb2⟩; have HB2 := hide hb2; clear HM hb2)
    go_ret
    exact ⟨ret_int (by rw [HS0.out]; rfl), HB1.out.trans (HB2.out.mono HB1.out.size)⟩
  | true =>
    have HPP := hide (HP.out rfl)
    clear HS HP
    go_enter Try.func15, Try.ntmps15
    go_wp2_with (first
      | (go_at_call 25; refine (HM.out w1 HB1.out).mono ?_; rintro e w2 ⟨rfl, hb2⟩; have HB2 := hide (HB1.out.trans (hb2.mono HB1.out.size)); obtain ⟨y0, y1, y2, y3⟩ := box_ndc (HBB.out.below hb2 HBB.out.lt); clear HM hb2)
      | (go_at_call 51; refine (HPP.out w2 HB2.out).mono ?_; rintro e w3 ⟨a, c, rfl, hb3⟩; have HB3 := hide (HB2.out.trans (hb3.mono HB2.out.size)); clear HPP hb3))
    go_ret
    exact ⟨ret_int rfl, HB3.out⟩

theorem refCheck_any (w : World) (v : Value) (n : Nd) (h : NdV w v n) (hq : n.ks.length + n.cs.length ≤ 9223372036854775807) :
    Calls Try.prog 13 #[v] w fun e w' => e = .returned (.int .i64 (checkN n)) ∧ Below w.heap.size w w' := by
  have HM : Hid (∀ w1, Below w.heap.size w w1 → Calls Try.prog 25 #[v] w1 fun e w' => e = .returned (.bool (mayN n)) ∧ Below w1.heap.size w1 w') := fun w1 hb => refMay_any w1 v n (h.below hb) hq
  have HS : Hid (∀ w1, Below w.heap.size w w1 → Calls Try.prog 15 #[v] w1 fun e w' => e = .returned (.int .i64 (sizeN n)) ∧ Below w1.heap.size w1 w') := fun w1 hb => refSize_any w1 v n (h.below hb) hq
  have HC : Hid (checkN n = if mayN n then (if sizeN n ≤ 240 then 0 else 3) else 100) := rfl
  obtain ⟨lf, pa, np, pc, ka, nk, kc, ca, nc, cc, rfl, -⟩ := nd_open h
  generalize checkN n = C at *
  generalize mayN n = M at *
  generalize sizeN n = S at *
  obtain ⟨w1, hw1, HB1, HBB, z0, z1, z2, z3⟩ := nd_box w lf (.slice pa np pc) (.slice ka nk kc) (.slice ca nc cc)
  clear h hq
  cases M with
  | false =>
    go_enter Try.func13, Try.ntmps13
    go_wp2_with (go_at_call 25; refine (HM.out w1 HB1.out).mono ?_; rintro e w2 ⟨rfl, hb2⟩; have HB2 := hide hb2; clear HM hb2)
    go_ret
    exact ⟨ret_int (by rw [HC.out]; rfl), HB1.out.trans (HB2.out.mono HB1.out.size)⟩
  | true =>
    by_cases hs : S ≤ 240
    · have hsi : ¬ (240 : Int) < (S : Int) := by omega
      go_enter Try.func13, Try.ntmps13
      go_wp2_with (first
        | (go_at_call 25; refine (HM.out w1 HB1.out).mono ?_; rintro e w2 ⟨rfl, hb2⟩; have HB2 := hide (HB1.out.trans (hb2.mono HB1.out.size)); obtain ⟨y0, y1, y2, y3⟩ := box_ndc (HBB.out.below hb2 HBB.out.lt); clear HM hb2)
        | (go_at_call 15; refine (HS.out w2 HB2.out).mono ?_; rintro e w3 ⟨rfl, hb3⟩; have HB3 := hide (HB2.out.trans (hb3.mono HB2.out.size)); clear HS hb3))
      go_ret
      exact ⟨ret_int (by rw [HC.out]; simp [hs]), HB3.out⟩
    · have hsi : (240 : Int) < (S : Int) := by omega
      go_enter Try.func13, Try.ntmps13
      go_wp2_with (first
        | (go_at_call 25; refine (HM.out w1 HB1.out).mono ?_; rintro e w2 ⟨rfl, hb2⟩; have HB2 := hide (HB1.out.trans (hb2.mono HB1.out.size)); obtain ⟨y0, y1, y2, y3⟩ := box_ndc (HBB.out.below hb2 HBB.out.lt); clear HM hb2)
        | (go_at_call 15; refine (HS.out w2 HB2.out).mono ?_; rintro e w3 ⟨rfl, hb3⟩; have HB3 := hide (HB2.out.trans (hb3.mono HB2.out.size)); clear HS hb3))
      go_ret
      exact ⟨ret_int (by rw [HC.out]; simp [hs]), HB3.out⟩

end Go.Proofs.Ytoamdbjailpgdaa
/- Contract: where a key stands in a leaf, by the document (incipitref10.Find). -/
namespace Go.Proofs.Ytoamdbjailpgdaa
set_option maxRecDepth 20000
open Go.RowKit
set_option linter.unusedVariables false
set_option linter.unusedSimpArgs false
set_option maxRecDepth 100000

theorem map_fst_getD (ps : List (List Int × List Int)) (m : Nat) (hm : m < ps.length) : (ps.map (·.1)).getD m [] = (ps.getD m ([], [])).1 := by simp [List.getD, hm]
theorem find_spec {n : Nd} (key : List Int) (h : mayN n = true) : (∀ m, m < n.ps.length → (cmp (n.ps.getD m ([], [])).1 key < 0 ↔ m < findN n key)) ∧ findN n key ≤ n.ps.length ∧ (findB n key = (decide (findN n key < n.ps.length) && decide ((n.ps.getD (findN n key) ([], [])).1 = key))) := by
  unfold findN findB
  by_cases hl : leafB n = true
  · rw [if_pos hl, if_pos hl]
    have hr := ((riseP_iff [] n.ps).1 (leafB_ps hl).2.2.2).1
    have hle : cntK (n.ps.map (·.1)) key ≤ n.ps.length := by have := cntK_le (n.ps.map (·.1)) key; rwa [List.length_map] at this
    refine ⟨fun m hm => ?_, hle, ?_⟩
    · rw [← map_fst_getD n.ps m hm]
      exact cnt_cmp hr (by rw [List.length_map]; exact hm)
    · unfold isK
      rw [List.length_map]
      by_cases hlt : cntK (n.ps.map (·.1)) key < n.ps.length
      · rw [map_fst_getD n.ps _ hlt]
      · rw [decide_eq_false hlt]; rfl
  · rw [if_neg hl, if_neg hl]
    have hi : innerB n = true := by
      simp only [mayN, Bool.or_eq_true] at h
      exact h.resolve_left hl
    have h0 := (innerB_ps hi).1
    rw [h0]
    exact ⟨fun m hm => absurd hm (by simp), by simp, by simp⟩
theorem find_none {n : Nd} (key : List Int) (h : mayN n = false) : findN n key = 0 ∧ findB n key = false := by
  have hl : ¬ leafB n = true := fun hl => by simp only [mayN, hl, Bool.true_or] at h; cases h
  unfold findN findB
  rw [if_neg hl, if_neg hl]
  exact ⟨rfl, rfl⟩

set_option maxHeartbeats 2000000 in
theorem refFind_any (w : World) (v : Value) (n : Nd) (h : NdV w v n) (kv : Value) (key : List Int) (hkv : Sl w kv key) (hq : n.ks.length + n.cs.length ≤ 9223372036854775807) :
    Calls Try.prog 24 #[v, kv] w fun e w' => e = .returned (.tuple #[.int .i64 (findN n key), .bool (findB n key)]) ∧ Below w.heap.size w w' := by
  have HM : Hid (∀ w1, Below w.heap.size w w1 → Calls Try.prog 25 #[v] w1 fun e w' => e = .returned (.bool (mayN n)) ∧ Below w1.heap.size w1 w') := fun w1 hb => refMay_any w1 v n (h.below hb) hq
  have HSP := hide (@find_spec n key)
  have HNO := hide (@find_none n key)
  obtain ⟨pa, pc, ka, kc, ca, cc, xs, ys, rfl, hp1, hk1, hc1, hp2, hk2, hc2, hP, hK, hC⟩ := h.open
  have HP := hide hP
  have HKV := hide hkv
  unfold ndv at HM ⊢
  obtain ⟨np, hnp⟩ : ∃ m, n.ps.length = m := ⟨_, rfl⟩
  have HNP := hide hnp
  rw [hnp] at HP HM HSP hp1 ⊢
  generalize n.ks.length = nk at *
  generalize n.cs.length = nc at *
  generalize n.lf = lf at *
  generalize findN n key = F at *
  generalize findB n key = FB at *
  generalize mayN n = M at *
  obtain ⟨ak, nkk, ck, rfl⟩ := sl_form hkv
  obtain ⟨w1, hw1, HB1, HBB, z0, z1, z2, z3⟩ := nd_box w lf (.slice pa np pc) (.slice ka nk kc) (.slice ca nc cc)
  clear h hq hP hK hC hnp hkv
  cases M with
  | false =>
    obtain ⟨rfl, rfl⟩ := HNO.out rfl
    clear HNO HSP
    go_enter Try.func24, Try.ntmps24
    go_wp2_with (go_at_call 25; refine (HM.out w1 HB1.out).mono ?_; rintro e w2 ⟨rfl, hb2⟩; have HB2 := hide (HB1.out.trans (hb2.mono HB1.out.size)); clear HM hb2)
    go_ret2
    exact ⟨rfl, HB2.out⟩
  | true =>
    obtain ⟨s1, s2, s3⟩ := HSP.out rfl
    have HS1 := hide s1
    have HS3 := hide s3
    clear HSP HNO s1 s3
    go_enter Try.func24, Try.ntmps24
    go_wp2_with (go_at_call 25; refine (HM.out w1 HB1.out).mono ?_; rintro e w2 ⟨rfl, hb2⟩; have HB2 := hide (HB1.out.trans (hb2.mono HB1.out.size)); have HX2 := hide (HBB.out.below hb2 HBB.out.lt); clear HM hb2)
    go_loopg [6] np (fun g i wr => ∃ k : Nat, g + k = np ∧ i = .int .i64 k ∧ k ≤ F ∧ Below w2.heap.size w2 wr)
    case atStart => exact ⟨0, by omega, rfl, by omega, Below.refl _ _⟩
    case round =>
      obtain ⟨k, hgk, rfl, hkF, hbr⟩ := hrel
      obtain ⟨W1, rfl⟩ : ∃ x, x = wr := ⟨_, rfl⟩
      have HBR := hide hbr
      obtain ⟨y0, y1, y2, y3⟩ := box_ndc (HX2.out.below hbr HX2.out.lt)
      have HBW := hide (HB2.out.trans (hbr.mono HB2.out.size))
      clear hbr z0 z1 z2 z3
      by_cases hk : k < np
      · have hki : (k : Int) < (np : Int) := by omega
        have hkl : k < n.ps.length := by rw [HNP.out]; exact hk
        obtain ⟨ba, oa, rfl, r1, g1, g2⟩ := (HP.out.below HBW.out).at k hkl
        have hcm := HS1.out k hk
        obtain ⟨p, hp⟩ : ∃ p, n.ps.getD k ([], []) = p := ⟨_, rfl⟩
        rw [hp] at g1 g2 hcm
        have HPK := hide hp
        generalize xs.getD k nil2 = x at *
        obtain ⟨u1, u2⟩ := x
        obtain ⟨p1, p2⟩ := p
        simp only at r1 g1 g2 hcm
        have c1 : W1.cell? ⟨ba, oa + k * 2, none⟩ = some u1 := r1 0 _ rfl
        obtain ⟨sx, sy, cv1, cv2, hless, hsame⟩ := two_less g1 (HKV.out.below HBW.out)
        have HLS := hide hless
        have HSA := hide hsame
        have HCM := hide hcm
        obtain ⟨f1, m1, l1, rfl⟩ := sl_form g1
        clear r1 g1 g2 hp hless hsame hcm
        by_cases hc : k < F
        · have hls : Op.bytesLess sx.toList sy.toList = true := by rw [HLS.out]; exact decide_eq_true (HCM.out.2 hc)
          have hge := fun m => str_lss sx sy (W1.drewN m)
          rw [hls] at hge
          go_wp2
          go_quiet (fail)
          go_wp2
          go_roundg (gk - 1)
          case measure => omega
          case rel => exact ⟨k + 1, by omega, by go_num, by omega, HBR.out.trans ((below_q W1 _).mono HBR.out.size)⟩
        · have hls : Op.bytesLess sx.toList sy.toList = false := by rw [HLS.out]; exact decide_eq_false (fun e => hc (HCM.out.1 e))
          have hge := fun m => str_lss sx sy (W1.drewN m)
          rw [hls] at hge
          have HFk : Hid (F = k) := by show _ = _; omega
          by_cases he : p1 = key
          · have HJ : Hid (sx.toList = sy.toList) := HSA.out.2 he
            go_wp2
            go_quiet (fail)
            have j1 := HJ.out
            clear hls hge
            go_wp2
            go_quiet (fail)
            go_wp2
            go_ret2
            exact ⟨by rw [HS3.out, HFk.out, HPK.out]; simp [hk, he], HBW.out.trans (((below_q W1 _).trans (below_q (W1.drewN _) _)).mono HBW.out.size)⟩
          · have j1 : (sx.toList == sy.toList) = false := by rw [Bool.eq_false_iff]; intro hh; exact he (HSA.out.1 (by simpa using hh))
            go_wp2
            go_quiet (fail)
            go_wp2
            go_quiet (fail)
            go_wp2
            go_ret2
            exact ⟨by rw [HS3.out, HFk.out, HPK.out]; simp [hk, he], HBW.out.trans (((below_q W1 _).trans (below_q (W1.drewN _) _)).mono HBW.out.size)⟩
      · have hki : decide ((k : Int) < (np : Int)) = false := decide_eq_false (by omega)
        have HFk : Hid (F = k) := by show _ = _; omega
        go_wp2
        go_quiet (fail)
        go_wp2
        go_quiet (fail)
        go_wp2
        go_ret2
        exact ⟨by rw [HS3.out, HFk.out]; simp [hk], HBW.out.trans (((below_q W1 _).trans (below_q (W1.drewN _) _)).mono HBW.out.size)⟩

end Go.Proofs.Ytoamdbjailpgdaa
/- Contract: which child leads to a key, by the document (incipitref10.Kid). -/
namespace Go.Proofs.Ytoamdbjailpgdaa
set_option maxRecDepth 20000
open Go.RowKit
set_option linter.unusedVariables false
set_option linter.unusedSimpArgs false
set_option maxRecDepth 100000

theorem str_leq (sx sy : ByteArray) (w : World) : (binOp .leq 9 (.string sx) (.string sy)).run Try.prog w = .ok (.bool (Op.bytesLess sx.toList sy.toList || sx.toList == sy.toList)) w := by kernel_rfl
theorem kid_none {n : Nd} (key : List Int) (h : mayN n = false) : kidN n key = 0 := by
  have hl : ¬ innerB n = true := fun hl => by simp only [mayN, hl, Bool.or_true] at h; cases h
  unfold kidN
  rw [if_neg hl]
theorem kid_spec {n : Nd} (key : List Int) (h : mayN n = true) : (∀ m, m < n.ks.length → (cmp (n.ks.getD m []) key ≤ 0 ↔ m < kidN n key)) ∧ kidN n key ≤ n.ks.length := by
  unfold kidN
  by_cases hi : innerB n = true
  · rw [if_pos hi]
    have hr := (innerB_ps hi).2.2.2.2.1
    obtain ⟨s1, s2⟩ := cntK_spec [] n.ks key hr
    have hle := cntK_le n.ks key
    have hlt := rise_lt [] n.ks hr
    have hsw := cmp_swap
    by_cases hk : isK n.ks key = true
    · rw [if_pos hk]
      have hk2 := hk
      simp only [isK, Bool.and_eq_true, decide_eq_true_iff] at hk2
      refine ⟨fun m hm => ⟨fun hc => ?_, fun hc => ?_⟩, by omega⟩
      · by_cases hmc : m ≤ cntK n.ks key
        · omega
        · have := hlt (cntK n.ks key) m (by omega) hm
          rw [hk2.2] at this
          have := hsw key (n.ks.getD m [])
          omega
      · by_cases hmc : m < cntK n.ks key
        · have := s1 m hmc; omega
        · obtain rfl : m = cntK n.ks key := by omega
          rw [hk2.2, cmp_self]; omega
    · rw [if_neg hk]
      refine ⟨fun m hm => ⟨fun hc => ?_, fun hc => ?_⟩, by omega⟩
      · by_cases hmc : m < cntK n.ks key
        · omega
        · exfalso
          have h0 := s2 m (by omega) hm
          have he : n.ks.getD m [] = key := cmp_eq_zero _ _ (by omega)
          by_cases hme : m = cntK n.ks key
          · exact hk (by simp only [isK, Bool.and_eq_true, decide_eq_true_iff]; rw [← hme]; exact ⟨hm, he⟩)
          · have h1 := hlt (cntK n.ks key) m (by omega) hm
            rw [he] at h1
            have h2 := s2 (cntK n.ks key) (Nat.le_refl _) (by omega)
            omega
      · have := s1 m (by omega); omega
  · rw [if_neg hi]
    have hl : leafB n = true := by
      simp only [mayN, Bool.or_eq_true] at h
      exact h.resolve_right hi
    have h0 := (leafB_ps hl).2.1
    rw [h0]
    exact ⟨fun m hm => absurd hm (by simp), by simp⟩

set_option maxHeartbeats 4000000 in
theorem refKid_any (w : World) (v : Value) (n : Nd) (h : NdV w v n) (kv : Value) (key : List Int) (hkv : Sl w kv key) (hq : n.ks.length + n.cs.length ≤ 9223372036854775807) :
    Calls Try.prog 27 #[v, kv] w fun e w' => e = .returned (.int .i64 (kidN n key)) ∧ Below w.heap.size w w' := by
  have HM : Hid (∀ w1, Below w.heap.size w w1 → Calls Try.prog 25 #[v] w1 fun e w' => e = .returned (.bool (mayN n)) ∧ Below w1.heap.size w1 w') := fun w1 hb => refMay_any w1 v n (h.below hb) hq
  have HSP := hide (@kid_spec n key)
  have HNO := hide (@kid_none n key)
  obtain ⟨pa, pc, ka, kc, ca, cc, xs, ys, rfl, hp1, hk1, hc1, hp2, hk2, hc2, hP, hK, hC⟩ := h.open
  have HK := hide hK
  have HKV := hide hkv
  unfold ndv at HM ⊢
  obtain ⟨nk, hnk⟩ : ∃ m, n.ks.length = m := ⟨_, rfl⟩
  have HNK := hide hnk
  rw [hnk] at HK HM HSP hk1 ⊢
  generalize n.ps.length = np at *
  generalize n.cs.length = nc at *
  generalize n.lf = lf at *
  generalize kidN n key = F at *
  generalize mayN n = M at *
  obtain ⟨ak, nkk, ck, rfl⟩ := sl_form hkv
  obtain ⟨w1, hw1, HB1, HBB, z0, z1, z2, z3⟩ := nd_box w lf (.slice pa np pc) (.slice ka nk kc) (.slice ca nc cc)
  have hF0 : M = false → F = 0 := HNO.out
  have hFk : F ≤ nk := by
    cases M with
    | false => rw [hF0 rfl]; exact Nat.zero_le _
    | true => exact (HSP.out rfl).2
  clear h hq hP hK hC hnk hkv
  go_enter Try.func27, Try.ntmps27
  go_wp2
  go_loopg [5] nk (fun g i wr => ∃ k : Nat, g + k = nk ∧ i = .int .i64 k ∧ k ≤ F ∧ Below w1.heap.size w1 wr)
  case atStart => exact ⟨0, by omega, rfl, by omega, Below.refl _ _⟩
  case round =>
    obtain ⟨k, hgk, rfl, hkF, hbr⟩ := hrel
    obtain ⟨W1, rfl⟩ : ∃ x, x = wr := ⟨_, rfl⟩
    have HBR := hide hbr
    have HXR := hide (HBB.out.below hbr HBB.out.lt)
    have HBW := hide (HB1.out.trans (hbr.mono HB1.out.size))
    have HMR : Hid (∀ wx, Below W1.heap.size W1 wx → Calls Try.prog 25 #[.agg #[.bool lf, .slice pa np pc, .slice ka nk kc, .slice ca nc cc]] wx fun e w' => e = .returned (.bool M) ∧ Below wx.heap.size wx w') := fun wx hb => HM.out wx (HBW.out.trans (hb.mono HBW.out.size))
    clear hbr z0 z1 z2 z3 HM
    cases M with
    | false =>
      have HFk : Hid (F = k) := by show _ = _; have := hF0 rfl; omega
      go_wp2
      refine wp_region_facts (FL [isV (.agg #[.bool lf, .slice pa np pc, .slice ka nk kc, .slice ca nc cc]), isV (.bool false), isV (.bool false), isV (undef), isV (undef), isV (undef), isV (undef), isV (undef), isV (.bool false), isV (.bool false), isV (undef), isV (undef), isV (undef), isV (undef), isV (undef), isV (undef), isV (undef), isV (undef), isV (undef), isV (.bool false)]) 29 (by kernel_rfl) (by kernel_rfl) (by kernel_rfl) rfl (FL_stable _ (by repeat (first | exact trivial | refine ⟨stable_isV _, ?_⟩))) ?_ ?_
      · refine ⟨?_, ?_, ?_, ?_, ?_, ?_, ?_, ?_, ?_, ?_, ?_, ?_, ?_, ?_, ?_, ?_, ?_, ?_, ?_, ?_, trivial⟩
        · intro act wx h
          have e2 : act.eval (.tmp 2) = .pointer (some ⟨w.heap.size, 0, none⟩) := h.old 2 (by kernel_rfl)
          have hbel := h.below
          clear h
          obtain ⟨x0, x1, x2, x3⟩ := box_ndc (HXR.out.below hbel HXR.out.lt)
          refine gives_by rfl act.eval rfl ?_
          generalize act.eval = ρ at *
          intro hf hc
          go_simp
          exact ⟨Below.refl _ _, rfl⟩
        · intro act wx h
          obtain ⟨v6, e6, f6⟩ := h.val 0 6 (by kernel_rfl)
          obtain rfl : v6 = .agg #[.bool lf, .slice pa np pc, .slice ka nk kc, .slice ca nc cc] := f6
          have hbel := h.below
          clear h
          refine gives_by rfl act.eval rfl ?_
          generalize act.eval = ρ at *
          intro hf hc
          go_simp
          exact call_gives (HMR.out wx hbel) (fun _ => rfl)
        · intro act wx h
          obtain ⟨v7, e7, f7⟩ := h.val 1 7 (by kernel_rfl)
          obtain rfl : v7 = .bool false := f7
          have hbel := h.below
          clear h
          refine gives_by rfl act.eval rfl ?_
          generalize act.eval = ρ at *
          intro hf hc
          go_simp
          exact ⟨Below.refl _ _, rfl⟩
        · intro act wx h
          have hg := h.guard 2 8 (by kernel_rfl) false (fun v hv => hv)
          clear h
          exact gives_off (by simp only [Region.wanted, hg]; rfl) ⟨Below.refl _ _, rfl⟩
        · intro act wx h
          have hg := h.guard 2 8 (by kernel_rfl) false (fun v hv => hv)
          clear h
          exact gives_off (by simp only [Region.wanted, hg]; rfl) ⟨Below.refl _ _, rfl⟩
        · intro act wx h
          have hg := h.guard 2 8 (by kernel_rfl) false (fun v hv => hv)
          clear h
          exact gives_off (by simp only [Region.wanted, hg]; rfl) ⟨Below.refl _ _, rfl⟩
        · intro act wx h
          have hg := h.guard 2 8 (by kernel_rfl) false (fun v hv => hv)
          clear h
          exact gives_off (by simp only [Region.wanted, hg]; rfl) ⟨Below.refl _ _, rfl⟩
        · intro act wx h
          have hg := h.guard 2 8 (by kernel_rfl) false (fun v hv => hv)
          clear h
          exact gives_off (by simp only [Region.wanted, hg]; rfl) ⟨Below.refl _ _, rfl⟩
        · intro act wx h
          obtain ⟨v8, e8, f8⟩ := h.val 2 8 (by kernel_rfl)
          obtain rfl : v8 = .bool false := f8
          obtain ⟨v13, e13, f13⟩ := h.val 7 13 (by kernel_rfl)
          obtain rfl : v13 = undef := f13
          have hbel := h.below
          clear h
          refine gives_by rfl act.eval rfl ?_
          generalize act.eval = ρ at *
          intro hf hc
          go_simp
          exact ⟨Below.refl _ _, rfl⟩
        · intro act wx h
          obtain ⟨v14, e14, f14⟩ := h.val 8 14 (by kernel_rfl)
          obtain rfl : v14 = .bool false := f14
          have hbel := h.below
          clear h
          refine gives_by rfl act.eval rfl ?_
          generalize act.eval = ρ at *
          intro hf hc
          go_simp
          exact ⟨Below.refl _ _, rfl⟩
        · intro act wx h
          have hg := h.guard 9 15 (by kernel_rfl) false (fun v hv => hv)
          clear h
          exact gives_off (by simp only [Region.wanted, hg]; rfl) ⟨Below.refl _ _, rfl⟩
        · intro act wx h
          have hg := h.guard 9 15 (by kernel_rfl) false (fun v hv => hv)
          clear h
          exact gives_off (by simp only [Region.wanted, hg]; rfl) ⟨Below.refl _ _, rfl⟩
        · intro act wx h
          have hg := h.guard 9 15 (by kernel_rfl) false (fun v hv => hv)
          clear h
          exact gives_off (by simp only [Region.wanted, hg]; rfl) ⟨Below.refl _ _, rfl⟩
        · intro act wx h
          have hg := h.guard 9 15 (by kernel_rfl) false (fun v hv => hv)
          clear h
          exact gives_off (by simp only [Region.wanted, hg]; rfl) ⟨Below.refl _ _, rfl⟩
        · intro act wx h
          have hg := h.guard 9 15 (by kernel_rfl) false (fun v hv => hv)
          clear h
          exact gives_off (by simp only [Region.wanted, hg]; rfl) ⟨Below.refl _ _, rfl⟩
        · intro act wx h
          have hg := h.guard 9 15 (by kernel_rfl) false (fun v hv => hv)
          clear h
          exact gives_off (by simp only [Region.wanted, hg]; rfl) ⟨Below.refl _ _, rfl⟩
        · intro act wx h
          have hg := h.guard 9 15 (by kernel_rfl) false (fun v hv => hv)
          clear h
          exact gives_off (by simp only [Region.wanted, hg]; rfl) ⟨Below.refl _ _, rfl⟩
        · intro act wx h
          have hg := h.guard 9 15 (by kernel_rfl) false (fun v hv => hv)
          clear h
          exact gives_off (by simp only [Region.wanted, hg]; rfl) ⟨Below.refl _ _, rfl⟩
        · intro act wx h
          have hg := h.guard 9 15 (by kernel_rfl) false (fun v hv => hv)
          clear h
          exact gives_off (by simp only [Region.wanted, hg]; rfl) ⟨Below.refl _ _, rfl⟩
        · intro act wx h
          obtain ⟨v15, e15, f15⟩ := h.val 9 15 (by kernel_rfl)
          obtain rfl : v15 = .bool false := f15
          obtain ⟨v24, e24, f24⟩ := h.val 18 24 (by kernel_rfl)
          obtain rfl : v24 = undef := f24
          have hbel := h.below
          clear h
          refine gives_by rfl act.eval rfl ?_
          generalize act.eval = ρ at *
          intro hf hc
          go_simp
          exact ⟨Below.refl _ _, rfl⟩
      · intro vals w8 hb8 hv
        have hv25 : vals 19 = .bool false := hv 19 25 (by kernel_rfl)
        clear hv
        generalize hact : putAll _ vals 0 _ = act
        have HB8 := hide hb8
        clear hb8
        subst hact
        simp only [putAll, Act.put, List.setIfInBounds_toArray, List.set_cons_zero, List.set_cons_succ, hv25, Nat.zero_add, Nat.reduceAdd]
        clear hv25
        go_wp2
        go_ret
        exact ⟨ret_int (by rw [HFk.out]), HBW.out.trans (HB8.out.mono HBW.out.size)⟩

    | true =>
      by_cases hk : k < nk
      · have HKN : Hid ((k : Int) < (nk : Int)) := by show _ < _; omega
        obtain ⟨ba, oa, rfl, r1, g1⟩ := (HK.out.below HBW.out).at k (by rw [HNK.out]; exact hk)
        have hcm := (HSP.out rfl).1 k hk
        obtain ⟨q, hqk⟩ : ∃ q, n.ks.getD k [] = q := ⟨_, rfl⟩
        rw [hqk] at g1 hcm
        generalize ys.getD k nilS = u1 at *
        obtain ⟨sx, hsx⟩ : ∃ s, s = strOfNums q := ⟨_, rfl⟩
        obtain ⟨sy, hsy⟩ : ∃ s, s = strOfNums key := ⟨_, rfl⟩
        have HC1 : Hid (∀ wx, Below W1.heap.size W1 wx → wx.cell? ⟨ba, oa + k, none⟩ = some u1) := fun wx hb => (hb.cell (p := ⟨ba, oa + k, none⟩) (World.block_lt_of_cell? W1 _ r1)).trans r1
        have HV1 : Hid (∀ wx, Below W1.heap.size W1 wx → (convert 34 9 u1).run Try.prog wx = .ok (.string sx) wx) := fun wx hb => by
          rw [hsx]; exact run_convert_sl (P := Try.prog) wx 34 5 9 Try.underlying34 Try.underlying5 Try.underlying9 u1 q (g1.below hb)
        have HV2 : Hid (∀ wx, Below W1.heap.size W1 wx → (convert 34 9 (.slice ak nkk ck)).run Try.prog wx = .ok (.string sy) wx) := fun wx hb => by
          rw [hsy]; exact run_convert_sl (P := Try.prog) wx 34 5 9 Try.underlying34 Try.underlying5 Try.underlying9 _ key (HKV.out.below (HBW.out.trans (hb.mono HBW.out.size)))
        have hle : (Op.bytesLess sx.toList sy.toList || sx.toList == sy.toList) = decide (cmp q key ≤ 0) := by
          have e1 : Op.bytesLess sx.toList sy.toList = decide (cmp q key < 0) := by
            rw [hsx, hsy, ByteArray.toList_eq, ByteArray.toList_eq, strOfNums_data, strOfNums_data]
            exact less_cmp q key g1.bytes HKV.out.bytes
          have e2 : (sx.toList = sy.toList) ↔ q = key := by
            rw [hsx, hsy, toList_same]
            exact strOfNums_inj g1.bytes HKV.out.bytes
          rw [e1, Bool.eq_iff_iff]
          simp only [Bool.or_eq_true, decide_eq_true_iff, beq_iff_eq, e2, ← cmp_zero_iff]
          omega
        obtain ⟨f1, m1, l1, rfl⟩ := sl_form g1
        clear r1 g1 hqk hsx hsy
        by_cases hc : k < F
        · have HLE : Hid ((Op.bytesLess sx.toList sy.toList || sx.toList == sy.toList) = true) := by show _ = _; rw [hle]; exact decide_eq_true (hcm.2 hc)
          clear hle hcm
          go_wp2
          refine wp_region_facts (FL [isV (.agg #[.bool lf, .slice pa np pc, .slice (some ⟨ba, oa, none⟩) nk kc, .slice ca nc cc]), isV (.bool true), isV (.bool true), isV (.int .i64 (k : Int)), isV (.pointer (some ⟨w.heap.size, 2, none⟩)), isV (.slice (some ⟨ba, oa, none⟩) nk kc), isV (.int .i64 (nk : Int)), isV (.bool true), isV (.bool true), isV (.bool true), isV (.pointer (some ⟨w.heap.size, 2, none⟩)), isV (.slice (some ⟨ba, oa, none⟩) nk kc), isV (.int .i64 (k : Int)), isV (.pointer (some ⟨ba, oa + k, none⟩)), isV (.slice f1 m1 l1), isV (.string sx), isV (.slice ak nkk ck), isV (.string sy), isV (.bool true), isV (.bool true)]) 29 (by kernel_rfl) (by kernel_rfl) (by kernel_rfl) rfl (FL_stable _ (by repeat (first | exact trivial | refine ⟨stable_isV _, ?_⟩))) ?_ ?_
          · refine ⟨?_, ?_, ?_, ?_, ?_, ?_, ?_, ?_, ?_, ?_, ?_, ?_, ?_, ?_, ?_, ?_, ?_, ?_, ?_, ?_, trivial⟩
            · intro act wx h
              have e2 : act.eval (.tmp 2) = .pointer (some ⟨w.heap.size, 0, none⟩) := h.old 2 (by kernel_rfl)
              have hbel := h.below
              clear h
              obtain ⟨x0, x1, x2, x3⟩ := box_ndc (HXR.out.below hbel HXR.out.lt)
              refine gives_by rfl act.eval rfl ?_
              generalize act.eval = ρ at *
              intro hf hc
              go_simp
              exact ⟨Below.refl _ _, rfl⟩
            · intro act wx h
              obtain ⟨v6, e6, f6⟩ := h.val 0 6 (by kernel_rfl)
              obtain rfl : v6 = .agg #[.bool lf, .slice pa np pc, .slice (some ⟨ba, oa, none⟩) nk kc, .slice ca nc cc] := f6
              have hbel := h.below
              clear h
              refine gives_by rfl act.eval rfl ?_
              generalize act.eval = ρ at *
              intro hf hc
              go_simp
              exact call_gives (HMR.out wx hbel) (fun _ => rfl)
            · intro act wx h
              obtain ⟨v7, e7, f7⟩ := h.val 1 7 (by kernel_rfl)
              obtain rfl : v7 = .bool true := f7
              have hbel := h.below
              clear h
              refine gives_by rfl act.eval rfl ?_
              generalize act.eval = ρ at *
              intro hf hc
              go_simp
              exact ⟨Below.refl _ _, rfl⟩
            · intro act wx h
              have e5 : act.eval (.tmp 5) = .int .i64 (k : Int) := h.old 5 (by kernel_rfl)
              have hg := h.guard 2 8 (by kernel_rfl) true (fun v hv => hv)
              have hbel := h.below
              clear h
              refine gives_by (by simp only [Region.wanted, hg]; rfl) act.eval rfl ?_
              generalize act.eval = ρ at *
              intro hf hc
              go_simp
              exact ⟨Below.refl _ _, rfl⟩
            · intro act wx h
              have e2 : act.eval (.tmp 2) = .pointer (some ⟨w.heap.size, 0, none⟩) := h.old 2 (by kernel_rfl)
              have hg := h.guard 2 8 (by kernel_rfl) true (fun v hv => hv)
              have hbel := h.below
              clear h
              refine gives_by (by simp only [Region.wanted, hg]; rfl) act.eval rfl ?_
              generalize act.eval = ρ at *
              intro hf hc
              go_simp
              exact ⟨Below.refl _ _, rfl⟩
            · intro act wx h
              obtain ⟨v10, e10, f10⟩ := h.val 4 10 (by kernel_rfl)
              obtain rfl : v10 = .pointer (some ⟨w.heap.size, 2, none⟩) := f10
              have hg := h.guard 2 8 (by kernel_rfl) true (fun v hv => hv)
              have hbel := h.below
              clear h
              obtain ⟨x0, x1, x2, x3⟩ := box_ndc (HXR.out.below hbel HXR.out.lt)
              refine gives_by (by simp only [Region.wanted, hg]; rfl) act.eval rfl ?_
              generalize act.eval = ρ at *
              intro hf hc
              go_simp
              exact ⟨Below.refl _ _, rfl⟩
            · intro act wx h
              obtain ⟨v11, e11, f11⟩ := h.val 5 11 (by kernel_rfl)
              obtain rfl : v11 = .slice (some ⟨ba, oa, none⟩) nk kc := f11
              have hg := h.guard 2 8 (by kernel_rfl) true (fun v hv => hv)
              have hbel := h.below
              clear h
              refine gives_by (by simp only [Region.wanted, hg]; rfl) act.eval rfl ?_
              generalize act.eval = ρ at *
              intro hf hc
              go_simp
              exact ⟨Below.refl _ _, rfl⟩
            · intro act wx h
              obtain ⟨v9, e9, f9⟩ := h.val 3 9 (by kernel_rfl)
              obtain rfl : v9 = .int .i64 (k : Int) := f9
              obtain ⟨v12, e12, f12⟩ := h.val 6 12 (by kernel_rfl)
              obtain rfl : v12 = .int .i64 (nk : Int) := f12
              have hg := h.guard 2 8 (by kernel_rfl) true (fun v hv => hv)
              have hbel := h.below
              clear h
              refine gives_by (by simp only [Region.wanted, hg]; rfl) act.eval rfl ?_
              generalize act.eval = ρ at *
              intro hf hc
              go_simp
              exact ⟨Below.refl _ _, by first | (simp [FL, isV]; done) | (simp [FL, isV]; omega)⟩
            · intro act wx h
              obtain ⟨v8, e8, f8⟩ := h.val 2 8 (by kernel_rfl)
              obtain rfl : v8 = .bool true := f8
              obtain ⟨v13, e13, f13⟩ := h.val 7 13 (by kernel_rfl)
              obtain rfl : v13 = .bool true := f13
              have hbel := h.below
              clear h
              refine gives_by rfl act.eval rfl ?_
              generalize act.eval = ρ at *
              intro hf hc
              go_simp
              exact ⟨Below.refl _ _, rfl⟩
            · intro act wx h
              obtain ⟨v14, e14, f14⟩ := h.val 8 14 (by kernel_rfl)
              obtain rfl : v14 = .bool true := f14
              have hbel := h.below
              clear h
              refine gives_by rfl act.eval rfl ?_
              generalize act.eval = ρ at *
              intro hf hc
              go_simp
              exact ⟨Below.refl _ _, rfl⟩
            · intro act wx h
              have e2 : act.eval (.tmp 2) = .pointer (some ⟨w.heap.size, 0, none⟩) := h.old 2 (by kernel_rfl)
              have hg := h.guard 9 15 (by kernel_rfl) true (fun v hv => hv)
              have hbel := h.below
              clear h
              refine gives_by (by simp only [Region.wanted, hg]; rfl) act.eval rfl ?_
              generalize act.eval = ρ at *
              intro hf hc
              go_simp
              exact ⟨Below.refl _ _, rfl⟩
            · intro act wx h
              obtain ⟨v16, e16, f16⟩ := h.val 10 16 (by kernel_rfl)
              obtain rfl : v16 = .pointer (some ⟨w.heap.size, 2, none⟩) := f16
              have hg := h.guard 9 15 (by kernel_rfl) true (fun v hv => hv)
              have hbel := h.below
              clear h
              obtain ⟨x0, x1, x2, x3⟩ := box_ndc (HXR.out.below hbel HXR.out.lt)
              refine gives_by (by simp only [Region.wanted, hg]; rfl) act.eval rfl ?_
              generalize act.eval = ρ at *
              intro hf hc
              go_simp
              exact ⟨Below.refl _ _, rfl⟩
            · intro act wx h
              have e5 : act.eval (.tmp 5) = .int .i64 (k : Int) := h.old 5 (by kernel_rfl)
              have hg := h.guard 9 15 (by kernel_rfl) true (fun v hv => hv)
              have hbel := h.below
              clear h
              refine gives_by (by simp only [Region.wanted, hg]; rfl) act.eval rfl ?_
              generalize act.eval = ρ at *
              intro hf hc
              go_simp
              exact ⟨Below.refl _ _, rfl⟩
            · intro act wx h
              obtain ⟨v17, e17, f17⟩ := h.val 11 17 (by kernel_rfl)
              obtain rfl : v17 = .slice (some ⟨ba, oa, none⟩) nk kc := f17
              obtain ⟨v18, e18, f18⟩ := h.val 12 18 (by kernel_rfl)
              obtain rfl : v18 = .int .i64 (k : Int) := f18
              have hg := h.guard 9 15 (by kernel_rfl) true (fun v hv => hv)
              have hbel := h.below
              clear h
              have hkn := HKN.out
              refine gives_by (by simp only [Region.wanted, hg]; rfl) act.eval rfl ?_
              generalize act.eval = ρ at *
              intro hf hc
              go_simp
              exact ⟨Below.refl _ _, rfl⟩
            · intro act wx h
              obtain ⟨v19, e19, f19⟩ := h.val 13 19 (by kernel_rfl)
              obtain rfl : v19 = .pointer (some ⟨ba, oa + k, none⟩) := f19
              have hg := h.guard 9 15 (by kernel_rfl) true (fun v hv => hv)
              have hbel := h.below
              clear h
              have c1 := HC1.out wx hbel
              refine gives_by (by simp only [Region.wanted, hg]; rfl) act.eval rfl ?_
              generalize act.eval = ρ at *
              intro hf hc
              go_simp
              exact ⟨Below.refl _ _, rfl⟩
            · intro act wx h
              obtain ⟨v20, e20, f20⟩ := h.val 14 20 (by kernel_rfl)
              obtain rfl : v20 = .slice f1 m1 l1 := f20
              have hg := h.guard 9 15 (by kernel_rfl) true (fun v hv => hv)
              have hbel := h.below
              clear h
              have cv1 := HV1.out wx hbel
              refine gives_by (by simp only [Region.wanted, hg]; rfl) act.eval rfl ?_
              generalize act.eval = ρ at *
              intro hf hc
              go_simp
              exact ⟨Below.refl _ _, rfl⟩
            · intro act wx h
              have e1 : act.eval (.tmp 1) = .slice ak nkk ck := h.old 1 (by kernel_rfl)
              have hg := h.guard 9 15 (by kernel_rfl) true (fun v hv => hv)
              have hbel := h.below
              clear h
              refine gives_by (by simp only [Region.wanted, hg]; rfl) act.eval rfl ?_
              generalize act.eval = ρ at *
              intro hf hc
              go_simp
              exact ⟨Below.refl _ _, rfl⟩
            · intro act wx h
              obtain ⟨v22, e22, f22⟩ := h.val 16 22 (by kernel_rfl)
              obtain rfl : v22 = .slice ak nkk ck := f22
              have hg := h.guard 9 15 (by kernel_rfl) true (fun v hv => hv)
              have hbel := h.below
              clear h
              have cv2 := HV2.out wx hbel
              refine gives_by (by simp only [Region.wanted, hg]; rfl) act.eval rfl ?_
              generalize act.eval = ρ at *
              intro hf hc
              go_simp
              exact ⟨Below.refl _ _, rfl⟩
            · intro act wx h
              obtain ⟨v21, e21, f21⟩ := h.val 15 21 (by kernel_rfl)
              obtain rfl : v21 = .string sx := f21
              obtain ⟨v23, e23, f23⟩ := h.val 17 23 (by kernel_rfl)
              obtain rfl : v23 = .string sy := f23
              have hg := h.guard 9 15 (by kernel_rfl) true (fun v hv => hv)
              have hbel := h.below
              clear h
              have hle := str_leq sx sy wx
              rw [HLE.out] at hle
              refine gives_by (by simp only [Region.wanted, hg]; rfl) act.eval rfl ?_
              generalize act.eval = ρ at *
              intro hf hc
              go_simp
              exact ⟨Below.refl _ _, rfl⟩
            · intro act wx h
              obtain ⟨v15, e15, f15⟩ := h.val 9 15 (by kernel_rfl)
              obtain rfl : v15 = .bool true := f15
              obtain ⟨v24, e24, f24⟩ := h.val 18 24 (by kernel_rfl)
              obtain rfl : v24 = .bool true := f24
              have hbel := h.below
              clear h
              refine gives_by rfl act.eval rfl ?_
              generalize act.eval = ρ at *
              intro hf hc
              go_simp
              exact ⟨Below.refl _ _, rfl⟩
          · intro vals w8 hb8 hv
            have hv25 : vals 19 = .bool true := hv 19 25 (by kernel_rfl)
            clear hv
            generalize hact : putAll _ vals 0 _ = act
            have HB8 := hide hb8
            clear hb8
            subst hact
            simp only [putAll, Act.put, List.setIfInBounds_toArray, List.set_cons_zero, List.set_cons_succ, hv25, Nat.zero_add, Nat.reduceAdd]
            clear hv25
            go_wp2
            go_roundg (gk - 1)
            case measure => omega
            case rel => exact ⟨k + 1, by omega, by go_num, by omega, HBR.out.trans (HB8.out.mono HBR.out.size)⟩

        · have HLE : Hid ((Op.bytesLess sx.toList sy.toList || sx.toList == sy.toList) = false) := by show _ = _; rw [hle]; exact decide_eq_false (fun e => hc (hcm.1 e))
          have HFk : Hid (F = k) := by show _ = _; omega
          clear hle hcm
          go_wp2
          refine wp_region_facts (FL [isV (.agg #[.bool lf, .slice pa np pc, .slice (some ⟨ba, oa, none⟩) nk kc, .slice ca nc cc]), isV (.bool true), isV (.bool true), isV (.int .i64 (k : Int)), isV (.pointer (some ⟨w.heap.size, 2, none⟩)), isV (.slice (some ⟨ba, oa, none⟩) nk kc), isV (.int .i64 (nk : Int)), isV (.bool true), isV (.bool true), isV (.bool true), isV (.pointer (some ⟨w.heap.size, 2, none⟩)), isV (.slice (some ⟨ba, oa, none⟩) nk kc), isV (.int .i64 (k : Int)), isV (.pointer (some ⟨ba, oa + k, none⟩)), isV (.slice f1 m1 l1), isV (.string sx), isV (.slice ak nkk ck), isV (.string sy), isV (.bool false), isV (.bool false)]) 29 (by kernel_rfl) (by kernel_rfl) (by kernel_rfl) rfl (FL_stable _ (by repeat (first | exact trivial | refine ⟨stable_isV _, ?_⟩))) ?_ ?_
          · refine ⟨?_, ?_, ?_, ?_, ?_, ?_, ?_, ?_, ?_, ?_, ?_, ?_, ?_, ?_, ?_, ?_, ?_, ?_, ?_, ?_, trivial⟩
            · intro act wx h
              have e2 : act.eval (.tmp 2) = .pointer (some ⟨w.heap.size, 0, none⟩) := h.old 2 (by kernel_rfl)
              have hbel := h.below
              clear h
              obtain ⟨x0, x1, x2, x3⟩ := box_ndc (HXR.out.below hbel HXR.out.lt)
              refine gives_by rfl act.eval rfl ?_
              generalize act.eval = ρ at *
              intro hf hc
              go_simp
              exact ⟨Below.refl _ _, rfl⟩
            · intro act wx h
              obtain ⟨v6, e6, f6⟩ := h.val 0 6 (by kernel_rfl)
              obtain rfl : v6 = .agg #[.bool lf, .slice pa np pc, .slice (some ⟨ba, oa, none⟩) nk kc, .slice ca nc cc] := f6
              have hbel := h.below
              clear h
              refine gives_by rfl act.eval rfl ?_
              generalize act.eval = ρ at *
              intro hf hc
              go_simp
              exact call_gives (HMR.out wx hbel) (fun _ => rfl)
            · intro act wx h
              obtain ⟨v7, e7, f7⟩ := h.val 1 7 (by kernel_rfl)
              obtain rfl : v7 = .bool true := f7
              have hbel := h.below
              clear h
              refine gives_by rfl act.eval rfl ?_
              generalize act.eval = ρ at *
              intro hf hc
              go_simp
              exact ⟨Below.refl _ _, rfl⟩
            · intro act wx h
              have e5 : act.eval (.tmp 5) = .int .i64 (k : Int) := h.old 5 (by kernel_rfl)
              have hg := h.guard 2 8 (by kernel_rfl) true (fun v hv => hv)
              have hbel := h.below
              clear h
              refine gives_by (by simp only [Region.wanted, hg]; rfl) act.eval rfl ?_
              generalize act.eval = ρ at *
              intro hf hc
              go_simp
              exact ⟨Below.refl _ _, rfl⟩
            · intro act wx h
              have e2 : act.eval (.tmp 2) = .pointer (some ⟨w.heap.size, 0, none⟩) := h.old 2 (by kernel_rfl)
              have hg := h.guard 2 8 (by kernel_rfl) true (fun v hv => hv)
              have hbel := h.below
              clear h
              refine gives_by (by simp only [Region.wanted, hg]; rfl) act.eval rfl ?_
              generalize act.eval = ρ at *
              intro hf hc
              go_simp
              exact ⟨Below.refl _ _, rfl⟩
            · intro act wx h
              obtain ⟨v10, e10, f10⟩ := h.val 4 10 (by kernel_rfl)
              obtain rfl : v10 = .pointer (some ⟨w.heap.size, 2, none⟩) := f10
              have hg := h.guard 2 8 (by kernel_rfl) true (fun v hv => hv)
              have hbel := h.below
              clear h
              obtain ⟨x0, x1, x2, x3⟩ := box_ndc (HXR.out.below hbel HXR.out.lt)
              refine gives_by (by simp only [Region.wanted, hg]; rfl) act.eval rfl ?_
              generalize act.eval = ρ at *
              intro hf hc
              go_simp
              exact ⟨Below.refl _ _, rfl⟩
            · intro act wx h
              obtain ⟨v11, e11, f11⟩ := h.val 5 11 (by kernel_rfl)
              obtain rfl : v11 = .slice (some ⟨ba, oa, none⟩) nk kc := f11
              have hg := h.guard 2 8 (by kernel_rfl) true (fun v hv => hv)
              have hbel := h.below
              clear h
              refine gives_by (by simp only [Region.wanted, hg]; rfl) act.eval rfl ?_
              generalize act.eval = ρ at *
              intro hf hc
              go_simp
              exact ⟨Below.refl _ _, rfl⟩
            · intro act wx h
              obtain ⟨v9, e9, f9⟩ := h.val 3 9 (by kernel_rfl)
              obtain rfl : v9 = .int .i64 (k : Int) := f9
              obtain ⟨v12, e12, f12⟩ := h.val 6 12 (by kernel_rfl)
              obtain rfl : v12 = .int .i64 (nk : Int) := f12
              have hg := h.guard 2 8 (by kernel_rfl) true (fun v hv => hv)
              have hbel := h.below
              clear h
              refine gives_by (by simp only [Region.wanted, hg]; rfl) act.eval rfl ?_
              generalize act.eval = ρ at *
              intro hf hc
              go_simp
              exact ⟨Below.refl _ _, by first | (simp [FL, isV]; done) | (simp [FL, isV]; omega)⟩
            · intro act wx h
              obtain ⟨v8, e8, f8⟩ := h.val 2 8 (by kernel_rfl)
              obtain rfl : v8 = .bool true := f8
              obtain ⟨v13, e13, f13⟩ := h.val 7 13 (by kernel_rfl)
              obtain rfl : v13 = .bool true := f13
              have hbel := h.below
              clear h
              refine gives_by rfl act.eval rfl ?_
              generalize act.eval = ρ at *
              intro hf hc
              go_simp
              exact ⟨Below.refl _ _, rfl⟩
            · intro act wx h
              obtain ⟨v14, e14, f14⟩ := h.val 8 14 (by kernel_rfl)
              obtain rfl : v14 = .bool true := f14
              have hbel := h.below
              clear h
              refine gives_by rfl act.eval rfl ?_
              generalize act.eval = ρ at *
              intro hf hc
              go_simp
              exact ⟨Below.refl _ _, rfl⟩
            · intro act wx h
              have e2 : act.eval (.tmp 2) = .pointer (some ⟨w.heap.size, 0, none⟩) := h.old 2 (by kernel_rfl)
              have hg := h.guard 9 15 (by kernel_rfl) true (fun v hv => hv)
              have hbel := h.below
              clear h
              refine gives_by (by simp only [Region.wanted, hg]; rfl) act.eval rfl ?_
              generalize act.eval = ρ at *
              intro hf hc
              go_simp
              exact ⟨Below.refl _ _, rfl⟩
            · intro act wx h
              obtain ⟨v16, e16, f16⟩ := h.val 10 16 (by kernel_rfl)
              obtain rfl : v16 = .pointer (some ⟨w.heap.size, 2, none⟩) := f16
              have hg := h.guard 9 15 (by kernel_rfl) true (fun v hv => hv)
              have hbel := h.below
              clear h
              obtain ⟨x0, x1, x2, x3⟩ := box_ndc (HXR.out.below hbel HXR.out.lt)
              refine gives_by (by simp only [Region.wanted, hg]; rfl) act.eval rfl ?_
              generalize act.eval = ρ at *
              intro hf hc
              go_simp
              exact ⟨Below.refl _ _, rfl⟩
            · intro act wx h
              have e5 : act.eval (.tmp 5) = .int .i64 (k : Int) := h.old 5 (by kernel_rfl)
              have hg := h.guard 9 15 (by kernel_rfl) true (fun v hv => hv)
              have hbel := h.below
              clear h
              refine gives_by (by simp only [Region.wanted, hg]; rfl) act.eval rfl ?_
              generalize act.eval = ρ at *
              intro hf hc
              go_simp
              exact ⟨Below.refl _ _, rfl⟩
            · intro act wx h
              obtain ⟨v17, e17, f17⟩ := h.val 11 17 (by kernel_rfl)
              obtain rfl : v17 = .slice (some ⟨ba, oa, none⟩) nk kc := f17
              obtain ⟨v18, e18, f18⟩ := h.val 12 18 (by kernel_rfl)
              obtain rfl : v18 = .int .i64 (k : Int) := f18
              have hg := h.guard 9 15 (by kernel_rfl) true (fun v hv => hv)
              have hbel := h.below
              clear h
              have hkn := HKN.out
              refine gives_by (by simp only [Region.wanted, hg]; rfl) act.eval rfl ?_
              generalize act.eval = ρ at *
              intro hf hc
              go_simp
              exact ⟨Below.refl _ _, rfl⟩
            · intro act wx h
              obtain ⟨v19, e19, f19⟩ := h.val 13 19 (by kernel_rfl)
              obtain rfl : v19 = .pointer (some ⟨ba, oa + k, none⟩) := f19
              have hg := h.guard 9 15 (by kernel_rfl) true (fun v hv => hv)
              have hbel := h.below
              clear h
              have c1 := HC1.out wx hbel
              refine gives_by (by simp only [Region.wanted, hg]; rfl) act.eval rfl ?_
              generalize act.eval = ρ at *
              intro hf hc
              go_simp
              exact ⟨Below.refl _ _, rfl⟩
            · intro act wx h
              obtain ⟨v20, e20, f20⟩ := h.val 14 20 (by kernel_rfl)
              obtain rfl : v20 = .slice f1 m1 l1 := f20
              have hg := h.guard 9 15 (by kernel_rfl) true (fun v hv => hv)
              have hbel := h.below
              clear h
              have cv1 := HV1.out wx hbel
              refine gives_by (by simp only [Region.wanted, hg]; rfl) act.eval rfl ?_
              generalize act.eval = ρ at *
              intro hf hc
              go_simp
              exact ⟨Below.refl _ _, rfl⟩
            · intro act wx h
              have e1 : act.eval (.tmp 1) = .slice ak nkk ck := h.old 1 (by kernel_rfl)
              have hg := h.guard 9 15 (by kernel_rfl) true (fun v hv => hv)
              have hbel := h.below
              clear h
              refine gives_by (by simp only [Region.wanted, hg]; rfl) act.eval rfl ?_
              generalize act.eval = ρ at *
              intro hf hc
              go_simp
              exact ⟨Below.refl _ _, rfl⟩
            · intro act wx h
              obtain ⟨v22, e22, f22⟩ := h.val 16 22 (by kernel_rfl)
              obtain rfl : v22 = .slice ak nkk ck := f22
              have hg := h.guard 9 15 (by kernel_rfl) true (fun v hv => hv)
              have hbel := h.below
              clear h
              have cv2 := HV2.out wx hbel
              refine gives_by (by simp only [Region.wanted, hg]; rfl) act.eval rfl ?_
              generalize act.eval = ρ at *
              intro hf hc
              go_simp
              exact ⟨Below.refl _ _, rfl⟩
            · intro act wx h
              obtain ⟨v21, e21, f21⟩ := h.val 15 21 (by kernel_rfl)
              obtain rfl : v21 = .string sx := f21
              obtain ⟨v23, e23, f23⟩ := h.val 17 23 (by kernel_rfl)
              obtain rfl : v23 = .string sy := f23
              have hg := h.guard 9 15 (by kernel_rfl) true (fun v hv => hv)
              have hbel := h.below
              clear h
              have hle := str_leq sx sy wx
              rw [HLE.out] at hle
              refine gives_by (by simp only [Region.wanted, hg]; rfl) act.eval rfl ?_
              generalize act.eval = ρ at *
              intro hf hc
              go_simp
              exact ⟨Below.refl _ _, rfl⟩
            · intro act wx h
              obtain ⟨v15, e15, f15⟩ := h.val 9 15 (by kernel_rfl)
              obtain rfl : v15 = .bool true := f15
              obtain ⟨v24, e24, f24⟩ := h.val 18 24 (by kernel_rfl)
              obtain rfl : v24 = .bool false := f24
              have hbel := h.below
              clear h
              refine gives_by rfl act.eval rfl ?_
              generalize act.eval = ρ at *
              intro hf hc
              go_simp
              exact ⟨Below.refl _ _, rfl⟩
          · intro vals w8 hb8 hv
            have hv25 : vals 19 = .bool false := hv 19 25 (by kernel_rfl)
            clear hv
            generalize hact : putAll _ vals 0 _ = act
            have HB8 := hide hb8
            clear hb8
            subst hact
            simp only [putAll, Act.put, List.setIfInBounds_toArray, List.set_cons_zero, List.set_cons_succ, hv25, Nat.zero_add, Nat.reduceAdd]
            clear hv25
            go_wp2
            go_ret
            exact ⟨ret_int (by rw [HFk.out]), HBW.out.trans (HB8.out.mono HBW.out.size)⟩

      · have HFk : Hid (F = k) := by show _ = _; omega
        go_wp2
        refine wp_region_facts (FL [isV (.agg #[.bool lf, .slice pa np pc, .slice ka nk kc, .slice ca nc cc]), isV (.bool true), isV (.bool true), isV (.int .i64 (k : Int)), isV (.pointer (some ⟨w.heap.size, 2, none⟩)), isV (.slice ka nk kc), isV (.int .i64 (nk : Int)), isV (.bool false), isV (.bool false), isV (.bool false), isV (undef), isV (undef), isV (undef), isV (undef), isV (undef), isV (undef), isV (undef), isV (undef), isV (undef), isV (.bool false)]) 29 (by kernel_rfl) (by kernel_rfl) (by kernel_rfl) rfl (FL_stable _ (by repeat (first | exact trivial | refine ⟨stable_isV _, ?_⟩))) ?_ ?_
        · refine ⟨?_, ?_, ?_, ?_, ?_, ?_, ?_, ?_, ?_, ?_, ?_, ?_, ?_, ?_, ?_, ?_, ?_, ?_, ?_, ?_, trivial⟩
          · intro act wx h
            have e2 : act.eval (.tmp 2) = .pointer (some ⟨w.heap.size, 0, none⟩) := h.old 2 (by kernel_rfl)
            have hbel := h.below
            clear h
            obtain ⟨x0, x1, x2, x3⟩ := box_ndc (HXR.out.below hbel HXR.out.lt)
            refine gives_by rfl act.eval rfl ?_
            generalize act.eval = ρ at *
            intro hf hc
            go_simp
            exact ⟨Below.refl _ _, rfl⟩
          · intro act wx h
            obtain ⟨v6, e6, f6⟩ := h.val 0 6 (by kernel_rfl)
            obtain rfl : v6 = .agg #[.bool lf, .slice pa np pc, .slice ka nk kc, .slice ca nc cc] := f6
            have hbel := h.below
            clear h
            refine gives_by rfl act.eval rfl ?_
            generalize act.eval = ρ at *
            intro hf hc
            go_simp
            exact call_gives (HMR.out wx hbel) (fun _ => rfl)
          · intro act wx h
            obtain ⟨v7, e7, f7⟩ := h.val 1 7 (by kernel_rfl)
            obtain rfl : v7 = .bool true := f7
            have hbel := h.below
            clear h
            refine gives_by rfl act.eval rfl ?_
            generalize act.eval = ρ at *
            intro hf hc
            go_simp
            exact ⟨Below.refl _ _, rfl⟩
          · intro act wx h
            have e5 : act.eval (.tmp 5) = .int .i64 (k : Int) := h.old 5 (by kernel_rfl)
            have hg := h.guard 2 8 (by kernel_rfl) true (fun v hv => hv)
            have hbel := h.below
            clear h
            refine gives_by (by simp only [Region.wanted, hg]; rfl) act.eval rfl ?_
            generalize act.eval = ρ at *
            intro hf hc
            go_simp
            exact ⟨Below.refl _ _, rfl⟩
          · intro act wx h
            have e2 : act.eval (.tmp 2) = .pointer (some ⟨w.heap.size, 0, none⟩) := h.old 2 (by kernel_rfl)
            have hg := h.guard 2 8 (by kernel_rfl) true (fun v hv => hv)
            have hbel := h.below
            clear h
            refine gives_by (by simp only [Region.wanted, hg]; rfl) act.eval rfl ?_
            generalize act.eval = ρ at *
            intro hf hc
            go_simp
            exact ⟨Below.refl _ _, rfl⟩
          · intro act wx h
            obtain ⟨v10, e10, f10⟩ := h.val 4 10 (by kernel_rfl)
            obtain rfl : v10 = .pointer (some ⟨w.heap.size, 2, none⟩) := f10
            have hg := h.guard 2 8 (by kernel_rfl) true (fun v hv => hv)
            have hbel := h.below
            clear h
            obtain ⟨x0, x1, x2, x3⟩ := box_ndc (HXR.out.below hbel HXR.out.lt)
            refine gives_by (by simp only [Region.wanted, hg]; rfl) act.eval rfl ?_
            generalize act.eval = ρ at *
            intro hf hc
            go_simp
            exact ⟨Below.refl _ _, rfl⟩
          · intro act wx h
            obtain ⟨v11, e11, f11⟩ := h.val 5 11 (by kernel_rfl)
            obtain rfl : v11 = .slice ka nk kc := f11
            have hg := h.guard 2 8 (by kernel_rfl) true (fun v hv => hv)
            have hbel := h.below
            clear h
            refine gives_by (by simp only [Region.wanted, hg]; rfl) act.eval rfl ?_
            generalize act.eval = ρ at *
            intro hf hc
            go_simp
            exact ⟨Below.refl _ _, rfl⟩
          · intro act wx h
            obtain ⟨v9, e9, f9⟩ := h.val 3 9 (by kernel_rfl)
            obtain rfl : v9 = .int .i64 (k : Int) := f9
            obtain ⟨v12, e12, f12⟩ := h.val 6 12 (by kernel_rfl)
            obtain rfl : v12 = .int .i64 (nk : Int) := f12
            have hg := h.guard 2 8 (by kernel_rfl) true (fun v hv => hv)
            have hbel := h.below
            clear h
            refine gives_by (by simp only [Region.wanted, hg]; rfl) act.eval rfl ?_
            generalize act.eval = ρ at *
            intro hf hc
            go_simp
            exact ⟨Below.refl _ _, by first | (simp [FL, isV]; done) | (simp [FL, isV]; omega)⟩
          · intro act wx h
            obtain ⟨v8, e8, f8⟩ := h.val 2 8 (by kernel_rfl)
            obtain rfl : v8 = .bool true := f8
            obtain ⟨v13, e13, f13⟩ := h.val 7 13 (by kernel_rfl)
            obtain rfl : v13 = .bool false := f13
            have hbel := h.below
            clear h
            refine gives_by rfl act.eval rfl ?_
            generalize act.eval = ρ at *
            intro hf hc
            go_simp
            exact ⟨Below.refl _ _, rfl⟩
          · intro act wx h
            obtain ⟨v14, e14, f14⟩ := h.val 8 14 (by kernel_rfl)
            obtain rfl : v14 = .bool false := f14
            have hbel := h.below
            clear h
            refine gives_by rfl act.eval rfl ?_
            generalize act.eval = ρ at *
            intro hf hc
            go_simp
            exact ⟨Below.refl _ _, rfl⟩
          · intro act wx h
            have hg := h.guard 9 15 (by kernel_rfl) false (fun v hv => hv)
            clear h
            exact gives_off (by simp only [Region.wanted, hg]; rfl) ⟨Below.refl _ _, rfl⟩
          · intro act wx h
            have hg := h.guard 9 15 (by kernel_rfl) false (fun v hv => hv)
            clear h
            exact gives_off (by simp only [Region.wanted, hg]; rfl) ⟨Below.refl _ _, rfl⟩
          · intro act wx h
            have hg := h.guard 9 15 (by kernel_rfl) false (fun v hv => hv)
            clear h
            exact gives_off (by simp only [Region.wanted, hg]; rfl) ⟨Below.refl _ _, rfl⟩
          · intro act wx h
            have hg := h.guard 9 15 (by kernel_rfl) false (fun v hv => hv)
            clear h
            exact gives_off (by simp only [Region.wanted, hg]; rfl) ⟨Below.refl _ _, rfl⟩
          · intro act wx h
            have hg := h.guard 9 15 (by kernel_rfl) false (fun v hv => hv)
            clear h
            exact gives_off (by simp only [Region.wanted, hg]; rfl) ⟨Below.refl _ _, rfl⟩
          · intro act wx h
            have hg := h.guard 9 15 (by kernel_rfl) false (fun v hv => hv)
            clear h
            exact gives_off (by simp only [Region.wanted, hg]; rfl) ⟨Below.refl _ _, rfl⟩
          · intro act wx h
            have hg := h.guard 9 15 (by kernel_rfl) false (fun v hv => hv)
            clear h
            exact gives_off (by simp only [Region.wanted, hg]; rfl) ⟨Below.refl _ _, rfl⟩
          · intro act wx h
            have hg := h.guard 9 15 (by kernel_rfl) false (fun v hv => hv)
            clear h
            exact gives_off (by simp only [Region.wanted, hg]; rfl) ⟨Below.refl _ _, rfl⟩
          · intro act wx h
            have hg := h.guard 9 15 (by kernel_rfl) false (fun v hv => hv)
            clear h
            exact gives_off (by simp only [Region.wanted, hg]; rfl) ⟨Below.refl _ _, rfl⟩
          · intro act wx h
            obtain ⟨v15, e15, f15⟩ := h.val 9 15 (by kernel_rfl)
            obtain rfl : v15 = .bool false := f15
            obtain ⟨v24, e24, f24⟩ := h.val 18 24 (by kernel_rfl)
            obtain rfl : v24 = undef := f24
            have hbel := h.below
            clear h
            refine gives_by rfl act.eval rfl ?_
            generalize act.eval = ρ at *
            intro hf hc
            go_simp
            exact ⟨Below.refl _ _, rfl⟩
        · intro vals w8 hb8 hv
          have hv25 : vals 19 = .bool false := hv 19 25 (by kernel_rfl)
          clear hv
          generalize hact : putAll _ vals 0 _ = act
          have HB8 := hide hb8
          clear hb8
          subst hact
          simp only [putAll, Act.put, List.setIfInBounds_toArray, List.set_cons_zero, List.set_cons_succ, hv25, Nat.zero_add, Nat.reduceAdd]
          clear hv25
          go_wp2
          go_ret
          exact ⟨ret_int (by rw [HFk.out]), HBW.out.trans (HB8.out.mono HBW.out.size)⟩


end Go.Proofs.Ytoamdbjailpgdaa
