/- Contracts: which frames may be, by package frame and by the document's answer. -/
import Derived.Test.YtmeiahmolmneeaaDoorFMath
import Derived.Test.YtmeiahmolmneeaaDoorRegionL
namespace Go.Proofs.YtmeiahmolmneeaaDoor
set_option maxRecDepth 20000
open Go.RowKit
set_option linter.unusedVariables false

theorem isKind_any (w : World) (k : Int) :
    Calls Tryd.prog 68 #[.int .i64 k] w fun e w' => e = .returned (.bool (decide (1 ≤ k ∧ k ≤ 4))) ∧ w' = w := by
  by_cases h1 : 1 ≤ k
  · go_enter Tryd.func68, Tryd.ntmps68
    go_wp2
    go_ret
    exact ⟨ret_bool (by simp; omega), rfl⟩
  · go_enter Tryd.func68, Tryd.ntmps68
    go_wp2
    go_ret
    exact ⟨ret_bool (by simp; omega), rfl⟩

theorem isPage_any (w : World) (k : Int) :
    Calls Tryd.prog 69 #[.int .i64 k] w fun e w' => e = .returned (.bool (decide (0 ≤ k ∧ k ≤ 2047))) ∧ w' = w := by
  by_cases h1 : 0 ≤ k
  · go_enter Tryd.func69, Tryd.ntmps69
    go_wp2
    go_ret
    refine ⟨ret_bool ?_, rfl⟩
    simp [h1]
    omega
  · go_enter Tryd.func69, Tryd.ntmps69
    go_wp2
    go_ret
    exact ⟨ret_bool (by simp; omega), rfl⟩

/-- a frame's value -/
def frV (k p : Int) (e : Nat) (v : Value) : Value := .agg #[.int .i64 k, .int .i64 p, .int .u64 e, v]

theorem check_any (w : World) (k p : Int) (e n cap : Nat) (ao : Option Addr) :
    Calls Tryd.prog 50 #[frV k p e (.slice ao n cap)] w fun r w' => r = .returned (.int .i64 (checkS k p n)) ∧ Below w.heap.size w w' := by
  have HK := hide (fun wx => isKind_any wx k)
  have HP := hide (fun wx => isPage_any wx p)
  unfold frV
  by_cases h1 : 1 ≤ k ∧ k ≤ 4
  · have hd1 : decide (1 ≤ k ∧ k ≤ 4) = true := decide_eq_true h1
    rw [hd1] at HK
    by_cases h2 : 0 ≤ p ∧ p ≤ 2047
    · have hd2 : decide (0 ≤ p ∧ p ≤ 2047) = true := decide_eq_true h2
      rw [hd2] at HP
      by_cases h3 : 240 < n
      · have h3i : (240 : Int) < (n : Int) := by omega
        have es : checkS k p n = 3 := by unfold checkS; rw [if_neg (by omega), if_neg (by omega), if_pos h3]
        rw [es]
        go_enter Tryd.func50, Tryd.ntmps50
        go_wp2_with (first
          | (go_at_call 68; refine (HK.out _).mono ?_; rintro e1 w1 ⟨rfl, hw⟩; subst w1; clear HK)
          | (go_at_call 69; refine (HP.out _).mono ?_; rintro e1 w1 ⟨rfl, hw⟩; subst w1; clear HP))
        go_ret
        exact ⟨rfl, (Below.refl _ w).alloc (Nat.le_refl _) _⟩
      · have h3i : ¬ (240 : Int) < (n : Int) := by omega
        have es : checkS k p n = 0 := by unfold checkS; rw [if_neg (by omega), if_neg (by omega), if_neg h3]
        rw [es]
        go_enter Tryd.func50, Tryd.ntmps50
        go_wp2_with (first
          | (go_at_call 68; refine (HK.out _).mono ?_; rintro e1 w1 ⟨rfl, hw⟩; subst w1; clear HK)
          | (go_at_call 69; refine (HP.out _).mono ?_; rintro e1 w1 ⟨rfl, hw⟩; subst w1; clear HP))
        go_ret
        exact ⟨rfl, (Below.refl _ w).alloc (Nat.le_refl _) _⟩
    · have hd2 : decide (0 ≤ p ∧ p ≤ 2047) = false := decide_eq_false h2
      rw [hd2] at HP
      have es : checkS k p n = 41 := by unfold checkS; rw [if_neg (by omega), if_pos (by omega)]
      rw [es]
      go_enter Tryd.func50, Tryd.ntmps50
      go_wp2_with (first
        | (go_at_call 68; refine (HK.out _).mono ?_; rintro e1 w1 ⟨rfl, hw⟩; subst w1; clear HK)
        | (go_at_call 69; refine (HP.out _).mono ?_; rintro e1 w1 ⟨rfl, hw⟩; subst w1; clear HP))
      go_ret
      exact ⟨rfl, (Below.refl _ w).alloc (Nat.le_refl _) _⟩
  · have hd1 : decide (1 ≤ k ∧ k ≤ 4) = false := decide_eq_false h1
    rw [hd1] at HK
    have es : checkS k p n = 42 := by unfold checkS; rw [if_pos (by omega)]
    rw [es]
    go_enter Tryd.func50, Tryd.ntmps50
    go_wp2_with (first
      | (go_at_call 68; refine (HK.out _).mono ?_; rintro e1 w1 ⟨rfl, hw⟩; subst w1; clear HK))
    go_ret
    exact ⟨rfl, (Below.refl _ w).alloc (Nat.le_refl _) _⟩

end Go.Proofs.YtmeiahmolmneeaaDoor
