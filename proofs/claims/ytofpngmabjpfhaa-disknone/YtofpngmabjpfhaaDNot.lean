/- Contracts: what the calls answer of a device that no call made. -/
import Derived.Test.YtofpngmabjpfhaaDSmall
namespace Go.Proofs.Ytofpngmabjpfhaa
open Go.RowKit
set_option linter.unusedVariables false

/-- nil, or a zero struct -/
def NotMade (w : World) (pv : Value) : Prop := pv = .pointer none ∨ ∃ b cap ao, pv = dp b ∧ w.cell? ⟨b, 0, none⟩ = some (.slice ao 0 cap)
theorem notMade_any (w : World) (pv : Value) (h : NotMade w pv) : Calls Try.prog 39 #[pv] w fun e w' => e = .returned (.bool false) ∧ w' = w := by
  rcases h with rfl | ⟨b, cap, ao, rfl, c0⟩
  · exact made_nil w
  · exact made_any w b 0 cap ao c0
theorem notPowered_any (w : World) (pv : Value) (h : NotMade w pv) : Calls Try.prog 47 #[pv] w fun e w' => e = .returned (.int .i64 2) ∧ w' = w := by
  rcases h with rfl | ⟨b, cap, ao, rfl, c0⟩
  · exact powered_nil w
  · exact powered_zero w b cap ao c0

theorem read_not (w : World) (pv : Value) (p : Int) (h : NotMade w pv) : Calls Try.prog 23 #[pv, .int .i64 p] w fun e w' => e = .returned (.tuple #[.slice none 0 0, .int .i64 2]) ∧ w' = w := by
  have HM := hide (notMade_any w pv h)
  go_enter Try.func23, Try.ntmps23
  go_wp2_with (go_at_call 39; refine HM.out.mono ?_; rintro e w1 ⟨rfl, hw⟩; subst w1; clear HM)
  go_ret2
  exact ⟨rfl, rfl⟩
theorem write_not (w : World) (pv : Value) (p : Int) (v : Value) (h : NotMade w pv) : Calls Try.prog 15 #[pv, .int .i64 p, v] w fun e w' => e = .returned (.int .i64 2) ∧ w' = w := by
  have HM := hide (notMade_any w pv h)
  go_enter Try.func15, Try.ntmps15
  go_wp2_with (go_at_call 39; refine HM.out.mono ?_; rintro e w1 ⟨rfl, hw⟩; subst w1; clear HM)
  go_ret
  exact ⟨rfl, rfl⟩
theorem sync_not (w : World) (pv : Value) (h : NotMade w pv) : Calls Try.prog 22 #[pv] w fun e w' => e = .returned (.int .i64 2) ∧ w' = w := by
  have HM := hide (notPowered_any w pv h)
  go_enter Try.func22, Try.ntmps22
  go_wp2_with (go_at_call 47; refine HM.out.mono ?_; rintro e w1 ⟨rfl, hw⟩; subst w1; clear HM)
  go_ret
  exact ⟨rfl, rfl⟩
theorem arm_not (w : World) (pv : Value) (p : Int) (h : NotMade w pv) : Calls Try.prog 25 #[pv, .int .i64 p] w fun e w' => e = .returned (.int .i64 2) ∧ w' = w := by
  have HM := hide (notMade_any w pv h)
  go_enter Try.func25, Try.ntmps25
  go_wp2_with (go_at_call 39; refine HM.out.mono ?_; rintro e w1 ⟨rfl, hw⟩; subst w1; clear HM)
  go_ret
  exact ⟨rfl, rfl⟩
theorem calm_not (w : World) (pv : Value) (h : NotMade w pv) : Calls Try.prog 26 #[pv] w fun e w' => e = .returned (.int .i64 2) ∧ w' = w := by
  have HM := hide (notPowered_any w pv h)
  go_enter Try.func26, Try.ntmps26
  go_wp2_with (go_at_call 47; refine HM.out.mono ?_; rintro e w1 ⟨rfl, hw⟩; subst w1; clear HM)
  go_ret
  exact ⟨rfl, rfl⟩
theorem crash_not (w : World) (pv : Value) (v : Value) (h : NotMade w pv) : Calls Try.prog 17 #[pv, v] w fun e w' => e = .returned (.int .i64 2) ∧ w' = w := by
  have HM := hide (notMade_any w pv h)
  go_enter Try.func17, Try.ntmps17
  go_wp2_with (go_at_call 39; refine HM.out.mono ?_; rintro e w1 ⟨rfl, hw⟩; subst w1; clear HM)
  go_ret
  exact ⟨rfl, rfl⟩
theorem load_not (w : World) (pv : Value) (v : Value) (h : NotMade w pv) : Calls Try.prog 27 #[pv, v] w fun e w' => e = .returned (.int .i64 2) ∧ w' = w := by
  have HM := hide (notMade_any w pv h)
  go_enter Try.func27, Try.ntmps27
  go_wp2_with (go_at_call 39; refine HM.out.mono ?_; rintro e w1 ⟨rfl, hw⟩; subst w1; clear HM)
  go_ret
  exact ⟨rfl, rfl⟩
theorem on_not (w : World) (pv : Value) (h : NotMade w pv) : Calls Try.prog 28 #[pv] w fun e w' => e = .returned (.bool false) ∧ w' = w := by
  have HM := hide (notMade_any w pv h)
  go_enter Try.func28, Try.ntmps28
  go_wp2_with (go_at_call 39; refine HM.out.mono ?_; rintro e w1 ⟨rfl, hw⟩; subst w1; clear HM)
  go_ret
  exact ⟨rfl, rfl⟩
theorem pages_not (w : World) (pv : Value) (h : NotMade w pv) : Calls Try.prog 29 #[pv] w fun e w' => e = .returned (.int .i64 0) ∧ w' = w := by
  have HM := hide (notMade_any w pv h)
  go_enter Try.func29, Try.ntmps29
  go_wp2_with (go_at_call 39; refine HM.out.mono ?_; rintro e w1 ⟨rfl, hw⟩; subst w1; clear HM)
  go_ret
  exact ⟨rfl, rfl⟩
theorem waits_not (w : World) (pv : Value) (h : NotMade w pv) : Calls Try.prog 24 #[pv] w fun e w' => e = .returned (.int .i64 0) ∧ w' = w := by
  have HM := hide (notMade_any w pv h)
  go_enter Try.func24, Try.ntmps24
  go_wp2_with (go_at_call 39; refine HM.out.mono ?_; rintro e w1 ⟨rfl, hw⟩; subst w1; clear HM)
  go_ret
  exact ⟨rfl, rfl⟩
theorem ops_not (w : World) (pv : Value) (h : NotMade w pv) : Calls Try.prog 30 #[pv] w fun e w' => e = .returned (.int .i64 0) ∧ w' = w := by
  have HM := hide (notMade_any w pv h)
  go_enter Try.func30, Try.ntmps30
  go_wp2_with (go_at_call 39; refine HM.out.mono ?_; rintro e w1 ⟨rfl, hw⟩; subst w1; clear HM)
  go_ret
  exact ⟨rfl, rfl⟩
theorem image_not (w : World) (pv : Value) (h : NotMade w pv) : Calls Try.prog 19 #[pv] w fun e w' => e = .returned (.slice none 0 0) ∧ w' = w := by
  have HM := hide (notMade_any w pv h)
  go_enter Try.func19, Try.ntmps19
  go_wp2_with (go_at_call 39; refine HM.out.mono ?_; rintro e w1 ⟨rfl, hw⟩; subst w1; clear HM)
  go_ret
  exact ⟨rfl, rfl⟩
theorem clone_not (w : World) (pv : Value) (h : NotMade w pv) : Calls Try.prog 14 #[pv] w fun e w' => e = .returned (.pointer none) ∧ w' = w := by
  have HM := hide (notMade_any w pv h)
  go_enter Try.func14, Try.ntmps14
  go_wp2_with (go_at_call 39; refine HM.out.mono ?_; rintro e w1 ⟨rfl, hw⟩; subst w1; clear HM)
  go_ret
  exact ⟨rfl, rfl⟩

end Go.Proofs.Ytofpngmabjpfhaa
