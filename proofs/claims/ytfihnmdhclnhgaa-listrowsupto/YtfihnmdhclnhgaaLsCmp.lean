/- Contracts: cmp.Compare at uint32 and int; package list's byDoc, the order of a phrase's word. -/
import Derived.Test.YtfihnmdhclnhgaaLsR
namespace Go.Proofs.Ytfihnmdhclnhgaa
set_option maxRecDepth 20000
open Go.RowKit
set_option linter.unusedVariables false
set_option linter.unusedSimpArgs false
set_option maxRecDepth 100000

/-- as cmp.Compare tells it -/
def cmpI (x y : Int) : Int := if x < y then -1 else if y < x then 1 else 0
theorem cmpI_lt {x y : Int} (h : x < y) : cmpI x y = -1 := if_pos h
theorem cmpI_gt {x y : Int} (h : y < x) : cmpI x y = 1 := by unfold cmpI; rw [if_neg (by omega), if_pos h]
theorem cmpI_eq (x : Int) : cmpI x x = 0 := by unfold cmpI; rw [if_neg (by omega), if_neg (by omega)]

theorem nanU_any (w : World) (x : Int) : Calls Try.prog 85 #[.int .u32 x] w fun e w' => e = .returned (.bool false) ∧ w' = w := by
  go_enter Try.func85, Try.ntmps85
  go_wp2
  go_ret
  exact ⟨rfl, rfl⟩
theorem nanI_any (w : World) (x : Int) : Calls Try.prog 107 #[.int .i64 x] w fun e w' => e = .returned (.bool false) ∧ w' = w := by
  go_enter Try.func107, Try.ntmps107
  go_wp2
  go_ret
  exact ⟨rfl, rfl⟩
theorem cmpU_any (w : World) (x y : Int) : Calls Try.prog 66 #[.int .u32 x, .int .u32 y] w fun e w' => e = .returned (.int .i64 (cmpI x y)) ∧ w' = w := by
  have HX := hide (nanU_any w x)
  have HY := hide (nanU_any w y)
  rcases Int.lt_trichotomy x y with h | h | h
  · rw [cmpI_lt h]
    go_enter Try.func66, Try.ntmps66
    go_wp2_with (first
      | (go_at_call 85; refine HX.out.mono ?_; rintro e w1 ⟨rfl, hw⟩; subst w1; clear HX)
      | (go_at_call 85; refine HY.out.mono ?_; rintro e w1 ⟨rfl, hw⟩; subst w1; clear HY))
    go_ret
    exact ⟨rfl, rfl⟩
  · subst h
    have hxx : ¬ x < x := by omega
    rw [cmpI_eq]
    go_enter Try.func66, Try.ntmps66
    go_wp2_with (first
      | (go_at_call 85; refine HX.out.mono ?_; rintro e w1 ⟨rfl, hw⟩; subst w1; clear HX)
      | (go_at_call 85; refine HY.out.mono ?_; rintro e w1 ⟨rfl, hw⟩; subst w1; clear HY))
    go_ret
    exact ⟨rfl, rfl⟩
  · have h2 : ¬ x < y := by omega
    rw [cmpI_gt h]
    go_enter Try.func66, Try.ntmps66
    go_wp2_with (first
      | (go_at_call 85; refine HX.out.mono ?_; rintro e w1 ⟨rfl, hw⟩; subst w1; clear HX)
      | (go_at_call 85; refine HY.out.mono ?_; rintro e w1 ⟨rfl, hw⟩; subst w1; clear HY))
    go_ret
    exact ⟨rfl, rfl⟩
theorem cmpInt_any (w : World) (x y : Int) : Calls Try.prog 81 #[.int .i64 x, .int .i64 y] w fun e w' => e = .returned (.int .i64 (cmpI x y)) ∧ w' = w := by
  have HX := hide (nanI_any w x)
  have HY := hide (nanI_any w y)
  rcases Int.lt_trichotomy x y with h | h | h
  · rw [cmpI_lt h]
    go_enter Try.func81, Try.ntmps81
    go_wp2_with (first
      | (go_at_call 107; refine HX.out.mono ?_; rintro e w1 ⟨rfl, hw⟩; subst w1; clear HX)
      | (go_at_call 107; refine HY.out.mono ?_; rintro e w1 ⟨rfl, hw⟩; subst w1; clear HY))
    go_ret
    exact ⟨rfl, rfl⟩
  · subst h
    have hxx : ¬ x < x := by omega
    rw [cmpI_eq]
    go_enter Try.func81, Try.ntmps81
    go_wp2_with (first
      | (go_at_call 107; refine HX.out.mono ?_; rintro e w1 ⟨rfl, hw⟩; subst w1; clear HX)
      | (go_at_call 107; refine HY.out.mono ?_; rintro e w1 ⟨rfl, hw⟩; subst w1; clear HY))
    go_ret
    exact ⟨rfl, rfl⟩
  · have h2 : ¬ x < y := by omega
    rw [cmpI_gt h]
    go_enter Try.func81, Try.ntmps81
    go_wp2_with (first
      | (go_at_call 107; refine HX.out.mono ?_; rintro e w1 ⟨rfl, hw⟩; subst w1; clear HX)
      | (go_at_call 107; refine HY.out.mono ?_; rintro e w1 ⟨rfl, hw⟩; subst w1; clear HY))
    go_ret
    exact ⟨rfl, rfl⟩
theorem byDoc_any (w : World) (x y : Int) (u v : Value) (hu : u.oneCell' = true) (hv : v.oneCell' = true) : Calls Try.prog 53 #[.agg #[.int .u32 x, u], .agg #[.int .u32 y, v]] w fun e w' => e = .returned (.int .i64 (cmpI x y)) ∧ Below w.heap.size w w' := by
  obtain ⟨w2, hw2⟩ : ∃ w2, (w.alloc (.cells #[.int .u32 x, u] 63)).alloc (.cells #[.int .u32 y, v] 63) = w2 := ⟨_, rfl⟩
  have HB := hide (show Below w.heap.size w w2 by rw [← hw2]; exact ((Below.refl _ w).alloc (Nat.le_refl _) _).alloc (by simp) _)
  have HC := hide (cmpU_any w2 x y)
  have hA : Blk w2 w.heap.size 63 [.int .u32 x, u] := by rw [← hw2]; exact (Blk.new w _ _).alloc _
  have hB : Blk w2 (w.heap.size + 1) 63 [.int .u32 y, v] := by
    rw [← hw2]
    have := Blk.new (w.alloc (.cells #[.int .u32 x, u] 63)) 63 [.int .u32 y, v]
    rwa [World.size_alloc] at this
  obtain ⟨a0, _⟩ := box_po hA
  obtain ⟨b0, _⟩ := box_po hB
  clear hA hB
  go_enter Try.func53, Try.ntmps53
  go_wp2_with (go_at_call 66; refine HC.out.mono ?_; rintro e w1 ⟨rfl, hw⟩; subst w1; clear HC)
  go_ret
  exact ⟨rfl, HB.out⟩
theorem rowOrd_any (w : World) (Bs : Nat) (x y off : Int) (hc : w.cell? ⟨Bs, 0, none⟩ = some (.int .i64 off)) (h1 : -4611686018427387904 ≤ x ∧ x ≤ 4611686018427387904) (h2 : -4611686018427387904 < off ∧ off < 4611686018427387904) :
    Calls Try.prog 80 #[.int .i64 x, .int .i64 y, .pointer (some ⟨Bs, 0, none⟩)] w fun e w' => e = .returned (.int .i64 (cmpI (x + off) y)) ∧ w' = w := by
  have HC := hide (cmpInt_any w (x + off) y)
  have hw : IntKind.i64.wrap (x + off) = x + off := IntWalk.i64_in _ (by omega)
  go_enter Try.func80, Try.ntmps80
  go_wp2_with (go_at_call 81; refine HC.out.mono ?_; rintro e w1 ⟨rfl, hw⟩; subst w1; clear HC)
  go_ret
  exact ⟨rfl, rfl⟩

end Go.Proofs.Ytfihnmdhclnhgaa
