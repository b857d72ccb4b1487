/- Contracts: package node's isInner, mayBe. -/
import Derived.Test.YtoamdbjailpgdaaNLeaf
namespace Go.Proofs.Ytoamdbjailpgdaa
set_option maxRecDepth 20000
open Go.RowKit
set_option linter.unusedVariables false
set_option linter.unusedSimpArgs false
set_option maxRecDepth 100000

theorem notKid_any (w : World) (c : Int) : Calls Try.prog 94 #[.int .i64 c] w fun e w' => e = .returned (.bool (!kidB c)) ∧ w' = w := by
  have HC := hide (isChild_any w c)
  generalize kidB c = b at HC ⊢
  go_enter Try.func94, Try.ntmps94
  go_wp2_with (go_at_call 77; refine HC.out.mono ?_; rintro e w1 ⟨rfl, hw⟩; subst w1; clear HC)
  go_ret
  exact ⟨rfl, rfl⟩

theorem all_drop (cs : List Int) (k : Nat) (h : k < cs.length) : (cs.drop k).all kidB = (kidB (cs.getD k 0) && (cs.drop (k + 1)).all kidB) := by
  rw [drop_cons cs k h, List.all_cons]

set_option maxHeartbeats 1000000 in
theorem indexFunc_any (w : World) (v : Value) (cs : List Int) (h : Is w v cs) :
    Calls Try.prog 105 #[v, .func (.func 94) #[] #[]] w fun e w' => ∃ r : Int, e = .returned (.int .i64 r) ∧ (0 ≤ r ↔ cs.all kidB = false) ∧ w' = w := by
  obtain ⟨ao, cap, rfl, hc1, hc2⟩ := h.shape
  obtain ⟨n, hn⟩ : ∃ n, cs.length = n := ⟨_, rfl⟩
  have HN := hide hn
  have HI := hide h
  rw [hn] at hc1 HI ⊢
  clear hn h
  go_enter Try.func105, Try.ntmps105
  go_wp2
  go_loopg [8] n (fun g i wr => ∃ k : Nat, g + k = n ∧ i = .int .i64 k ∧ cs.all kidB = (cs.drop k).all kidB ∧ w = wr)
  case atStart => exact ⟨0, by omega, rfl, rfl, rfl⟩
  case round =>
    obtain ⟨k, hgk, rfl, hall, rfl⟩ := hrel
    have HA := hide hall
    clear hall
    by_cases hk : k < n
    · obtain ⟨b, off, rfl, q⟩ := HI.out.at k (by rw [HN.out]; exact hk)
      have hki : (k : Int) < (n : Int) := by omega
      have hd := all_drop cs k (by rw [HN.out]; exact hk)
      have HD := hide hd
      generalize cs.getD k 0 = c at q HD
      have HC := hide (notKid_any w c)
      cases hb : kidB c with
      | true =>
        rw [hb] at HC HD
        clear hb hd
        go_wp2_with (go_at_call 94; refine HC.out.mono ?_; rintro e w1 ⟨rfl, hw⟩; subst w1; clear HC)
        go_roundg (gk - 1)
        case measure => omega
        case rel => exact ⟨k + 1, by omega, by go_num, by rw [HA.out, HD.out]; rfl, rfl⟩
      | false =>
        rw [hb] at HC HD
        clear hb hd
        go_wp2_with (go_at_call 94; refine HC.out.mono ?_; rintro e w1 ⟨rfl, hw⟩; subst w1; clear HC)
        go_ret
        exact ⟨_, rfl, by rw [HA.out, HD.out]; simp, rfl⟩
    · go_wp2
      go_ret
      refine ⟨_, rfl, ?_, rfl⟩
      rw [HA.out, List.drop_of_length_le (by have := HN.out; omega)]
      simp

theorem containsFunc_any (w : World) (v : Value) (cs : List Int) (h : Is w v cs) :
    Calls Try.prog 93 #[v, .func (.func 94) #[] #[]] w fun e w' => e = .returned (.bool (!cs.all kidB)) ∧ w' = w := by
  have HC := hide (indexFunc_any w v cs h)
  obtain ⟨ao, cap, rfl, hc1, hc2⟩ := h.shape
  go_enter Try.func93, Try.ntmps93
  go_wp2_with (go_at_call 105; refine HC.out.mono ?_; rintro e w1 ⟨r, rfl, hr, hw⟩; subst w1; have HR := hide hr; clear HC hr)
  go_ret
  refine ⟨ret_bool ?_, rfl⟩
  rw [Bool.eq_iff_iff, decide_eq_true_iff, HR.out]
  simp

set_option maxHeartbeats 2000000 in
theorem isInner_any (w : World) (v : Value) (n : Nd) (h : NdV w v n) :
    Calls Try.prog 68 #[v] w fun e w' => e = .returned (.bool (innerB n)) ∧ Below w.heap.size w w' := by
  obtain ⟨pa, pc, ka, kc, ca, cc, xs, ys, rfl, hp1, hk1, hc1, hp2, hk2, hc2, hP, hK, hC⟩ := h.open
  obtain ⟨lf, ps, ks, cs⟩ := n
  simp only at hp1 hk1 hc1 hp2 hk2 hc2 hP hK hC ⊢
  have HLB : Hid (innerB ⟨lf, ps, ks, cs⟩ = (!lf && decide (ps = []) && decide (1 ≤ ks.length) && decide (ks.length ≤ 255) && decide (cs.length = ks.length + 1) && riseK [] ks && cs.all kidB)) := rfl
  generalize innerB ⟨lf, ps, ks, cs⟩ = LB at HLB ⊢
  have HK := hide hK
  have HPZ : Hid (ps = [] ↔ ps.length = 0) := List.length_eq_zero_iff.symm
  unfold ndv
  obtain ⟨np, hnp⟩ : ∃ m, ps.length = m := ⟨_, rfl⟩
  obtain ⟨nk, hnk⟩ : ∃ m, ks.length = m := ⟨_, rfl⟩
  obtain ⟨nc, hnc⟩ : ∃ m, cs.length = m := ⟨_, rfl⟩
  have HNK := hide hnk
  rw [hnp] at hp1 hP HPZ ⊢
  rw [hnk] at hk1 hK HLB HK ⊢
  rw [hnc] at hc1 hC HLB ⊢
  obtain ⟨w1, hw1⟩ : ∃ w1, w.alloc (.cells #[.bool lf, .slice pa np pc, .slice ka nk kc, .slice ca nc cc] 26) = w1 := ⟨_, rfl⟩
  have hb1 : Below w.heap.size w w1 := by rw [← hw1]; exact (Below.refl _ w).alloc (Nat.le_refl _) _
  have hB : Blk w1 w.heap.size 26 (ndc lf (.slice pa np pc) (.slice ka nk kc) (.slice ca nc cc)) := by rw [← hw1]; exact Blk.new w _ _
  obtain ⟨z0, z1, z2, z3⟩ := box_ndc hB
  have HCF := hide (containsFunc_any w1 _ cs (hC.below hb1))
  have HB1 := hide hb1
  have HK1 := hide (hK.below hb1)
  clear hP hK hC h hb1 hB hnp hnk hnc HK
  cases lf with
  | true =>
    go_enter Try.func68, Try.ntmps68
    go_wp2
    go_ret
    exact ⟨ret_bool (by rw [HLB.out]; rfl), HB1.out⟩
  | false =>
    by_cases h1 : np = 0
    · subst h1
      by_cases h2 : 1 ≤ nk
      · have i2 : ¬ (nk : Int) < 1 := by omega
        by_cases h3 : nk ≤ 255
        · have i3 : ¬ (255 : Int) < (nk : Int) := by omega
          by_cases h4 : nc = nk + 1
          · subst h4
            have hR : LB = (riseK [] ks && cs.all kidB) := by rw [HLB.out]; simp [h2, h3, HPZ.out]
            have HR := hide hR
            clear hR HLB h2 h3
            go_enter Try.func68, Try.ntmps68
            go_wp2
            go_loopg [4, 37] nk (fun g lv i wr => ∃ (k : Nat) (lk : List Int) (a3 : Option Addr) (n3 c3 : Nat), g + k = nk ∧ i = .int .i64 k ∧ lv = .slice a3 n3 c3 ∧ Sl w1 (.slice a3 n3 c3) lk ∧ riseK [] ks = riseK lk (ks.drop k) ∧ w1 = wr)
            case atStart => exact ⟨0, [], none, 0, 0, by omega, rfl, rfl, Sl.nil _, rfl, rfl⟩
            case round =>
              obtain ⟨k, lk, a3, n3, c3, hgk, rfl, rfl, hlv, hall, hwr⟩ := hrel
              subst wr
              have HA := hide hall
              clear hall
              by_cases hk : k < nk
              · have hkl : k < ks.length := by rw [HNK.out]; exact hk
                obtain ⟨b, off, rfl, q, hs⟩ := HK1.out.at k hkl
                have hki : (k : Int) < (nk : Int) := by omega
                have hd : ks.drop k = ks.getD k [] :: ks.drop (k + 1) := by rw [List.drop_eq_getElem_cons hkl]; simp [List.getD, hkl]
                generalize ys.getD k nilS = u at q hs
                generalize ks.getD k [] = q1 at hs hd
                have HKB := hide (isKeyBehind_any w1 u _ q1 lk hs hlv)
                have HD : Hid (riseK [] ks = (behB lk q1 && riseK q1 (ks.drop (k + 1)))) := by rw [HA.out, hd]; exact rfl
                obtain ⟨a1, n1, c1, rfl⟩ := sl_form hs
                have HS := hide hs
                clear hd hs hlv hkl
                cases hb : behB lk q1 with
                | true =>
                  rw [hb] at HKB HD
                  clear hb
                  go_wp2_with (go_at_call 91; refine HKB.out.mono ?_; rintro e w2 ⟨rfl, hw⟩; subst w2; clear HKB)
                  go_roundg (gk - 1)
                  case measure => omega
                  case rel => exact ⟨k + 1, q1, _, _, _, by omega, by go_num, rfl, HS.out, by rw [HD.out]; rfl, rfl⟩
                | false =>
                  rw [hb] at HKB HD
                  clear hb
                  go_wp2_with (go_at_call 91; refine HKB.out.mono ?_; rintro e w2 ⟨rfl, hw⟩; subst w2; clear HKB)
                  go_ret
                  exact ⟨ret_bool (by rw [HR.out, HD.out]; simp), HB1.out⟩
              · have hr : riseK [] ks = true := by rw [HA.out, List.drop_of_length_le (by have := HNK.out; omega)]; rfl
                have HRR := hide hr
                clear hr hlv
                go_wp2_with (go_at_call 93; refine HCF.out.mono ?_; rintro e w2 ⟨rfl, hw⟩; subst w2; clear HCF)
                go_ret
                exact ⟨ret_bool (by rw [HR.out, HRR.out]; simp), HB1.out⟩
          · have i4 : ((nc : Int) != (nk : Int) + 1) = true := by simp; omega
            go_enter Try.func68, Try.ntmps68
            go_wp2
            go_ret
            exact ⟨ret_bool (by rw [HLB.out]; simp [h4]), HB1.out⟩
        · have i3 : (255 : Int) < (nk : Int) := by omega
          go_enter Try.func68, Try.ntmps68
          go_wp2
          go_ret
          exact ⟨ret_bool (by rw [HLB.out]; simp [h3]), HB1.out⟩
      · have i2 : (nk : Int) < 1 := by omega
        go_enter Try.func68, Try.ntmps68
        go_wp2
        go_ret
        exact ⟨ret_bool (by rw [HLB.out]; simp [h2]), HB1.out⟩
    · have i1 : (0 : Int) < (np : Int) := by omega
      go_enter Try.func68, Try.ntmps68
      go_wp2
      go_ret
      exact ⟨ret_bool (by rw [HLB.out]; simp [HPZ.out, h1]), HB1.out⟩

theorem mayBe_any (w : World) (v : Value) (n : Nd) (h : NdV w v n) :
    Calls Try.prog 49 #[v] w fun e w' => e = .returned (.bool (mayN n)) ∧ Below w.heap.size w w' := by
  have HL : Hid (∀ w1, Below w.heap.size w w1 → Calls Try.prog 62 #[v] w1 fun e w' => e = .returned (.bool (leafB n)) ∧ Below w1.heap.size w1 w') := fun w1 hb => isLeaf_any w1 v n (h.below hb)
  have HI : Hid (∀ w1, Below w.heap.size w w1 → Calls Try.prog 68 #[v] w1 fun e w' => e = .returned (.bool (innerB n)) ∧ Below w1.heap.size w1 w') := fun w1 hb => isInner_any w1 v n (h.below hb)
  obtain ⟨pa, pc, ka, kc, ca, cc, xs, ys, rfl, hp1, hk1, hc1, hp2, hk2, hc2, hP, hK, hC⟩ := h.open
  have HM : Hid (mayN n = (leafB n || innerB n)) := rfl
  generalize mayN n = M at HM ⊢
  generalize leafB n = A at HM HL
  generalize innerB n = B at HM HI
  unfold ndv at HL HI ⊢
  generalize n.lf = lf at *
  generalize n.ps.length = np at *
  generalize n.ks.length = nk at *
  generalize n.cs.length = nc at *
  obtain ⟨w1, hw1⟩ : ∃ w1, w.alloc (.cells #[.bool lf, .slice pa np pc, .slice ka nk kc, .slice ca nc cc] 26) = w1 := ⟨_, rfl⟩
  have hb1 : Below w.heap.size w w1 := by rw [← hw1]; exact (Below.refl _ w).alloc (Nat.le_refl _) _
  have hB : Blk w1 w.heap.size 26 (ndc lf (.slice pa np pc) (.slice ka nk kc) (.slice ca nc cc)) := by rw [← hw1]; exact Blk.new w _ _
  obtain ⟨z0, z1, z2, z3⟩ := box_ndc hB
  have HB1 := hide hb1
  have HBB := hide hB
  clear hP hK hC h hb1 hB hp1 hk1 hc1 hp2 hk2 hc2
  cases A with
  | true =>
    go_enter Try.func49, Try.ntmps49
    go_wp2_with (go_at_call 62; refine (HL.out w1 HB1.out).mono ?_; rintro e w2 ⟨rfl, hb2⟩; have HB2 := hide hb2; clear HL hb2)
    go_ret
    exact ⟨ret_bool (by rw [HM.out]; rfl), HB1.out.trans (HB2.out.mono HB1.out.size)⟩
  | false =>
    go_enter Try.func49, Try.ntmps49
    go_wp2_with (first
      | (go_at_call 62; refine (HL.out w1 HB1.out).mono ?_; rintro e w2 ⟨rfl, hb2⟩; have HB2 := hide hb2; obtain ⟨y0, y1, y2, y3⟩ := box_ndc (HBB.out.below hb2 HBB.out.lt); clear HL hb2)
      | (go_at_call 68; refine (HI.out w2 (HB1.out.trans (HB2.out.mono HB1.out.size))).mono ?_; rintro e w3 ⟨rfl, hb3⟩; have HB3 := hide hb3; clear HI hb3))
    go_ret
    exact ⟨ret_bool (by rw [HM.out]; rfl), (HB1.out.trans (HB2.out.mono HB1.out.size)).trans (HB3.out.mono (Nat.le_trans HB1.out.size HB2.out.size))⟩

end Go.Proofs.Ytoamdbjailpgdaa
