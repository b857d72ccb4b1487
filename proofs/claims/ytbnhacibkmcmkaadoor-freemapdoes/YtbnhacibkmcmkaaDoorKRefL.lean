/- Contracts: the document's own Need, may, List (incipitref08). -/
import Derived.Test.YtbnhacibkmcmkaaDoorKOpen
namespace Go.Proofs.YtbnhacibkmcmkaaDoor
set_option maxRecDepth 20000
open Go.RowKit
set_option linter.unusedVariables false
set_option maxRecDepth 100000

theorem refMay_any (w : World) (n : Int) : Calls Tryd.prog 39 #[.int .i64 n] w fun e w' => e = .returned (.bool (sizeB n)) ∧ w' = w := by
  by_cases h0 : 8 ≤ n
  · by_cases h1 : n ≤ 2048
    · rw [sizeB_iff.2 ⟨h0, h1⟩]
      go_enter Tryd.func39, Tryd.ntmps39
      go_wp2
      go_ret
      exact ⟨ret_bool (by simp <;> omega), rfl⟩
    · rw [sizeB_no (by omega)]
      go_enter Tryd.func39, Tryd.ntmps39
      go_wp2
      go_ret
      exact ⟨ret_bool (by simp <;> omega), rfl⟩
  · rw [sizeB_no (by omega)]
    go_enter Tryd.func39, Tryd.ntmps39
    go_wp2
    go_ret
    exact ⟨ret_bool (by simp <;> omega), rfl⟩
theorem refNeed_any (w : World) (n : Int) : Calls Tryd.prog 15 #[.int .i64 n] w fun e w' => e = .returned (.int .i64 (needN n)) ∧ w' = w := by
  have HM := refMay_any w n
  by_cases h0 : 8 ≤ n ∧ n ≤ 2048
  · rw [sizeB_iff.2 h0] at HM
    have HM := hide HM
    obtain ⟨m, rfl⟩ : ∃ m : Nat, n = (m : Int) + 1 := ⟨(n - 1).toNat, by omega⟩
    have e : needN ((m : Int) + 1) = 1 + ((m / 1024 : Nat) : Int) := by
      rw [needN, if_pos (sizeB_iff.2 (by omega))]; omega
    rw [e]
    obtain ⟨d, hd⟩ : ∃ d, m / 1024 = d := ⟨_, rfl⟩
    have hd1 : (m : Int) / 1024 = (d : Int) := by omega
    rw [hd]
    have hd2 : d < 2 := by omega
    have hm : m < 2048 := by omega
    go_enter Tryd.func15, Tryd.ntmps15
    go_wp2_with (go_at_call 39; refine HM.out.mono ?_; rintro e w2 ⟨rfl, hw⟩; subst w2; clear HM)
    go_ret
    exact ⟨rfl, rfl⟩
  · rw [needN_no h0]
    rw [sizeB_no h0] at HM
    have HM := hide HM
    go_enter Tryd.func15, Tryd.ntmps15
    go_wp2_with (go_at_call 39; refine HM.out.mono ?_; rintro e w2 ⟨rfl, hw⟩; subst w2; clear HM)
    go_ret
    exact ⟨rfl, rfl⟩

set_option maxHeartbeats 4000000 in
theorem refList_any (w : World) (n : Int) (v : Value) (ks : List Int) (hv : Is w v ks) : Calls Tryd.prog 27 #[.int .i64 n, v] w fun e w' => e = .returned (.bool (riseB n (-1) ks)) ∧ ∃ q, w' = w.drewN q := by
  obtain ⟨ao, cap, rfl⟩ : ∃ ao cap, v = .slice ao ks.length cap := by obtain ⟨ao, cap, h, _⟩ := hv; exact ⟨ao, cap, h⟩
  have HV := hide hv
  obtain ⟨_, hc1, hc2⟩ := hv.cap
  unfold maxLen at hc2
  obtain ⟨m, hm⟩ : ∃ m, ks.length = m := ⟨_, rfl⟩
  rw [hm] at HV hc1 ⊢
  have HM := hide hm
  clear hv hm
  go_enter Tryd.func27, Tryd.ntmps27
  go_wp2
  go_loopg [5] m (fun g i wr => ∃ (k q : Nat) (L : Int), g + k = m ∧ i = .int .i64 k ∧ wr = w.drewN q ∧ riseB n (-1) ks = riseB n L (ks.drop k) ∧ (k = 0 ∧ L = -1 ∨ 0 < k ∧ L = ks.getD (k - 1) 0 ∧ 0 ≤ L))
  case atStart => exact ⟨0, 0, -1, rfl, rfl, rfl, rfl, .inl ⟨rfl, rfl⟩⟩
  case round =>
    obtain ⟨k, q, L, hk, rfl, rfl, hr, hL⟩ := hrel
    have HR := hide hr
    clear hr
    have hV2 := HV.out
    cases gk with
    | zero =>
      have hkm : k = m := by omega
      have h3 : ¬ (k : Int) < (m : Int) := by omega
      have HE : Hid (ks.drop k = []) := by show _ = _; exact List.drop_of_length_le (by rw [HM.out]; omega)
      clear hkm hV2 hL
      go_wp2
      go_ret
      refine ⟨ret_bool ?_, q, rfl⟩
      rw [HR.out, HE.out]; rfl
    | succ g =>
      have h3 : (k : Int) < (m : Int) := by omega
      have hkl : k < ks.length := by rw [HM.out]; omega
      obtain ⟨b, off, hao, hcell⟩ := Is.at hV2 k hkl
      have HD : Hid (ks.drop k = ks.getD k 0 :: ks.drop (k + 1)) := by show _ = _; rw [List.drop_eq_getElem_cons hkl, getD_lt ks hkl]
      obtain ⟨x, hx⟩ : ∃ x, ks.getD k 0 = x := ⟨_, rfl⟩
      have HX := hide hx
      have HPV : Hid (0 < k → ∃ b off, ao = some ⟨b, off, none⟩ ∧ w.cell? ⟨b, off + (k - 1), none⟩ = some (.int .i64 (ks.getD (k - 1) 0))) := fun _ => Is.at hV2 (k - 1) (by omega)
      rw [hx] at HD hcell
      clear hx hV2
      by_cases hx0 : x < 0
      · have d0 : decide (x < 0) = true := decide_eq_true hx0
        subst hao
        have HF : Hid (riseB n (-1) ks = false) := by
          show _ = _
          rw [HR.out, HD.out, riseB_cons, decide_eq_false (show ¬ L < x by omega)]; rfl
        clear hkl hx0 HPV hL
        go_wp2
        go_quiet (fail)
        go_wp2
        go_ret
        refine ⟨ret_bool HF.out.symm, q + nq, by simp [World.drewN, Nat.add_assoc]⟩
      · have d0 : decide (x < 0) = false := decide_eq_false hx0
        by_cases hxn : n ≤ x
        · have d1 : decide (n ≤ x) = true := decide_eq_true hxn
          subst hao
          have HF : Hid (riseB n (-1) ks = false) := by
            show _ = _
            rw [HR.out, HD.out, riseB_cons, decide_eq_false (show ¬ x < n by omega)]; simp
          clear hkl hx0 HPV hL hxn
          go_wp2
          go_quiet (fail)
          go_wp2
          go_ret
          refine ⟨ret_bool HF.out.symm, q + nq, by simp [World.drewN, Nat.add_assoc]⟩
        · have d1 : decide (n ≤ x) = false := decide_eq_false hxn
          rcases hL with ⟨hk0, hL⟩ | ⟨hk0, hL, hL0⟩
          · subst hL
            subst hao
            have HT : Hid (riseB n (-1) ks = riseB n x (ks.drop (k + 1))) := by
              show _ = _
              rw [HR.out, HD.out, riseB_cons, decide_eq_true (show (-1 : Int) < x by omega), decide_eq_true (show x < n by omega)]; rfl
            have HXX : Hid (0 ≤ x) := by show _ ≤ _; omega
            have d2 : decide ((0 : Int) < (k : Int)) = false := decide_eq_false (by omega)
            have d2' : decide (0 < k) = false := decide_eq_false (by omega)
            clear hkl hx0 HPV hxn hk0
            go_wp2
            go_quiet (fail)
            go_wp2
            go_roundg g
            case measure => omega
            case rel => exact ⟨k + 1, q + nq, x, by omega, by go_num, by simp [World.drewN], HT.out, .inr ⟨by omega, HX.out.symm, HXX.out⟩⟩
          · obtain ⟨b', off', hao', hcell'⟩ := HPV.out hk0
            subst hao
            simp only [Option.some.injEq, Addr.mk.injEq, and_true] at hao'
            obtain ⟨rfl, rfl⟩ := hao'
            obtain ⟨j, hj⟩ : ∃ j, k - 1 = j := ⟨_, rfl⟩
            rw [hj] at hcell' hL
            rw [← hL] at hcell'
            have hsub : (k : Int) - 1 = (j : Int) := by omega
            have hjm : (j : Int) < (m : Int) := by omega
            have hjmn : j < m := by omega
            have d2 : decide ((0 : Int) < (k : Int)) = true := decide_eq_true (by omega)
            have d2' : decide (0 < k) = true := decide_eq_true hk0
            by_cases hxL : x ≤ L
            · have d3 : decide (x ≤ L) = true := decide_eq_true hxL
              have HF : Hid (riseB n (-1) ks = false) := by
                show _ = _
                rw [HR.out, HD.out, riseB_cons, decide_eq_false (show ¬ L < x by omega)]; rfl
              clear hkl hx0 HPV hxn hk0 hj hL hxL
              go_wp2
              go_quiet (fail)
              go_wp2
              go_ret
              refine ⟨ret_bool HF.out.symm, q + nq, by simp [World.drewN, Nat.add_assoc]⟩
            · have d3 : decide (x ≤ L) = false := decide_eq_false hxL
              have HT : Hid (riseB n (-1) ks = riseB n x (ks.drop (k + 1))) := by
                show _ = _
                rw [HR.out, HD.out, riseB_cons, decide_eq_true (show L < x by omega), decide_eq_true (show x < n by omega)]; rfl
              have HXX : Hid (0 ≤ x) := by show _ ≤ _; omega
              clear hkl hx0 HPV hxn hk0 hj hL hxL
              go_wp2
              go_quiet (fail)
              go_wp2
              go_roundg g
              case measure => omega
              case rel => exact ⟨k + 1, q + nq, x, by omega, by go_num, by simp [World.drewN], HT.out, .inr ⟨by omega, HX.out.symm, HXX.out⟩⟩

end Go.Proofs.YtbnhacibkmcmkaaDoor
