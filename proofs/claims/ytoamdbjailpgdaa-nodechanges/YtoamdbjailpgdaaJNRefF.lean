/- Contract: where a key stands in a leaf, by the document (incipitref10.Find). -/
import Derived.Test.YtoamdbjailpgdaaJNRefL
import Derived.Test.YtoamdbjailpgdaaJNPutL
namespace Go.Proofs.Ytoamdbjailpgdaa
set_option maxRecDepth 20000
open Go.RowKit
set_option linter.unusedVariables false
set_option linter.unusedSimpArgs false
set_option maxRecDepth 100000

theorem map_fst_getD (ps : List (List Int × List Int)) (m : Nat) (hm : m < ps.length) : (ps.map (·.1)).getD m [] = (ps.getD m ([], [])).1 := by simp [List.getD, hm]
theorem find_spec {n : Nd} (key : List Int) (h : mayN n = true) : (∀ m, m < n.ps.length → (cmp (n.ps.getD m ([], [])).1 key < 0 ↔ m < findN n key)) ∧ findN n key ≤ n.ps.length ∧ (findB n key = (decide (findN n key < n.ps.length) && decide ((n.ps.getD (findN n key) ([], [])).1 = key))) := by
  unfold findN findB
  by_cases hl : leafB n = true
  · rw [if_pos hl, if_pos hl]
    have hr := ((riseP_iff [] n.ps).1 (leafB_ps hl).2.2.2).1
    have hle : cntK (n.ps.map (·.1)) key ≤ n.ps.length := by have := cntK_le (n.ps.map (·.1)) key; rwa [List.length_map] at this
    refine ⟨fun m hm => ?_, hle, ?_⟩
    · rw [← map_fst_getD n.ps m hm]
      exact cnt_cmp hr (by rw [List.length_map]; exact hm)
    · unfold isK
      rw [List.length_map]
      by_cases hlt : cntK (n.ps.map (·.1)) key < n.ps.length
      · rw [map_fst_getD n.ps _ hlt]
      · rw [decide_eq_false hlt]; rfl
  · rw [if_neg hl, if_neg hl]
    have hi : innerB n = true := by
      simp only [mayN, Bool.or_eq_true] at h
      exact h.resolve_left hl
    have h0 := (innerB_ps hi).1
    rw [h0]
    exact ⟨fun m hm => absurd hm (by simp), by simp, by simp⟩
theorem find_none {n : Nd} (key : List Int) (h : mayN n = false) : findN n key = 0 ∧ findB n key = false := by
  have hl : ¬ leafB n = true := fun hl => by simp only [mayN, hl, Bool.true_or] at h; cases h
  unfold findN findB
  rw [if_neg hl, if_neg hl]
  exact ⟨rfl, rfl⟩

set_option maxHeartbeats 2000000 in
theorem refFind_any (w : World) (v : Value) (n : Nd) (h : NdV w v n) (kv : Value) (key : List Int) (hkv : Sl w kv key) (hq : n.ks.length + n.cs.length ≤ 9223372036854775807) :
    Calls Try.prog 24 #[v, kv] w fun e w' => e = .returned (.tuple #[.int .i64 (findN n key), .bool (findB n key)]) ∧ Below w.heap.size w w' := by
  have HM : Hid (∀ w1, Below w.heap.size w w1 → Calls Try.prog 25 #[v] w1 fun e w' => e = .returned (.bool (mayN n)) ∧ Below w1.heap.size w1 w') := fun w1 hb => refMay_any w1 v n (h.below hb) hq
  have HSP := hide (@find_spec n key)
  have HNO := hide (@find_none n key)
  obtain ⟨pa, pc, ka, kc, ca, cc, xs, ys, rfl, hp1, hk1, hc1, hp2, hk2, hc2, hP, hK, hC⟩ := h.open
  have HP := hide hP
  have HKV := hide hkv
  unfold ndv at HM ⊢
  obtain ⟨np, hnp⟩ : ∃ m, n.ps.length = m := ⟨_, rfl⟩
  have HNP := hide hnp
  rw [hnp] at HP HM HSP hp1 ⊢
  generalize n.ks.length = nk at *
  generalize n.cs.length = nc at *
  generalize n.lf = lf at *
  generalize findN n key = F at *
  generalize findB n key = FB at *
  generalize mayN n = M at *
  obtain ⟨ak, nkk, ck, rfl⟩ := sl_form hkv
  obtain ⟨w1, hw1, HB1, HBB, z0, z1, z2, z3⟩ := nd_box w lf (.slice pa np pc) (.slice ka nk kc) (.slice ca nc cc)
  clear h hq hP hK hC hnp hkv
  cases M with
  | false =>
    obtain ⟨rfl, rfl⟩ := HNO.out rfl
    clear HNO HSP
    go_enter Try.func24, Try.ntmps24
    go_wp2_with (go_at_call 25; refine (HM.out w1 HB1.out).mono ?_; rintro e w2 ⟨rfl, hb2⟩; have HB2 := hide (HB1.out.trans (hb2.mono HB1.out.size)); clear HM hb2)
    go_ret2
    exact ⟨rfl, HB2.out⟩
  | true =>
    obtain ⟨s1, s2, s3⟩ := HSP.out rfl
    have HS1 := hide s1
    have HS3 := hide s3
    clear HSP HNO s1 s3
    go_enter Try.func24, Try.ntmps24
    go_wp2_with (go_at_call 25; refine (HM.out w1 HB1.out).mono ?_; rintro e w2 ⟨rfl, hb2⟩; have HB2 := hide (HB1.out.trans (hb2.mono HB1.out.size)); have HX2 := hide (HBB.out.below hb2 HBB.out.lt); clear HM hb2)
    go_loopg [6] np (fun g i wr => ∃ k : Nat, g + k = np ∧ i = .int .i64 k ∧ k ≤ F ∧ Below w2.heap.size w2 wr)
    case atStart => exact ⟨0, by omega, rfl, by omega, Below.refl _ _⟩
    case round =>
      obtain ⟨k, hgk, rfl, hkF, hbr⟩ := hrel
      obtain ⟨W1, rfl⟩ : ∃ x, x = wr := ⟨_, rfl⟩
      have HBR := hide hbr
      obtain ⟨y0, y1, y2, y3⟩ := box_ndc (HX2.out.below hbr HX2.out.lt)
      have HBW := hide (HB2.out.trans (hbr.mono HB2.out.size))
      clear hbr z0 z1 z2 z3
      by_cases hk : k < np
      · have hki : (k : Int) < (np : Int) := by omega
        have hkl : k < n.ps.length := by rw [HNP.out]; exact hk
        obtain ⟨ba, oa, rfl, r1, g1, g2⟩ := (HP.out.below HBW.out).at k hkl
        have hcm := HS1.out k hk
        obtain ⟨p, hp⟩ : ∃ p, n.ps.getD k ([], []) = p := ⟨_, rfl⟩
        rw [hp] at g1 g2 hcm
        have HPK := hide hp
        generalize xs.getD k nil2 = x at *
        obtain ⟨u1, u2⟩ := x
        obtain ⟨p1, p2⟩ := p
        simp only at r1 g1 g2 hcm
        have c1 : W1.cell? ⟨ba, oa + k * 2, none⟩ = some u1 := r1 0 _ rfl
        obtain ⟨sx, sy, cv1, cv2, hless, hsame⟩ := two_less g1 (HKV.out.below HBW.out)
        have HLS := hide hless
        have HSA := hide hsame
        have HCM := hide hcm
        obtain ⟨f1, m1, l1, rfl⟩ := sl_form g1
        clear r1 g1 g2 hp hless hsame hcm
        by_cases hc : k < F
        · have hls : Op.bytesLess sx.toList sy.toList = true := by rw [HLS.out]; exact decide_eq_true (HCM.out.2 hc)
          have hge := fun m => str_lss sx sy (W1.drewN m)
          rw [hls] at hge
          go_wp2
          go_quiet (fail)
          go_wp2
          go_roundg (gk - 1)
          case measure => omega
          case rel => exact ⟨k + 1, by omega, by go_num, by omega, HBR.out.trans ((below_q W1 _).mono HBR.out.size)⟩
        · have hls : Op.bytesLess sx.toList sy.toList = false := by rw [HLS.out]; exact decide_eq_false (fun e => hc (HCM.out.1 e))
          have hge := fun m => str_lss sx sy (W1.drewN m)
          rw [hls] at hge
          have HFk : Hid (F = k) := by show _ = _; omega
          by_cases he : p1 = key
          · have HJ : Hid (sx.toList = sy.toList) := HSA.out.2 he
            go_wp2
            go_quiet (fail)
            have j1 := HJ.out
            clear hls hge
            go_wp2
            go_quiet (fail)
            go_wp2
            go_ret2
            exact ⟨by rw [HS3.out, HFk.out, HPK.out]; simp [hk, he], HBW.out.trans (((below_q W1 _).trans (below_q (W1.drewN _) _)).mono HBW.out.size)⟩
          · have j1 : (sx.toList == sy.toList) = false := by rw [Bool.eq_false_iff]; intro hh; exact he (HSA.out.1 (by simpa using hh))
            go_wp2
            go_quiet (fail)
            go_wp2
            go_quiet (fail)
            go_wp2
            go_ret2
            exact ⟨by rw [HS3.out, HFk.out, HPK.out]; simp [hk, he], HBW.out.trans (((below_q W1 _).trans (below_q (W1.drewN _) _)).mono HBW.out.size)⟩
      · have hki : decide ((k : Int) < (np : Int)) = false := decide_eq_false (by omega)
        have HFk : Hid (F = k) := by show _ = _; omega
        go_wp2
        go_quiet (fail)
        go_wp2
        go_quiet (fail)
        go_wp2
        go_ret2
        exact ⟨by rw [HS3.out, HFk.out]; simp [hk], HBW.out.trans (((below_q W1 _).trans (below_q (W1.drewN _) _)).mono HBW.out.size)⟩

end Go.Proofs.Ytoamdbjailpgdaa
