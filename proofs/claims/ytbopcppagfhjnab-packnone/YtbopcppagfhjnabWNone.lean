/- The walk of the statement PackNone: a reader that no call made. -/
import Derived.Test.YtbopcppagfhjnabLive
namespace Go.Proofs.Ytbopcppagfhjnab
open Go.RowKit

/-- a reader that no call made: nil, or all noughts -/
def NoRd (w : World) (r : Option Addr) : Prop :=
  r = none ∨ ∃ b, r = some ⟨b, 0, none⟩ ∧ w.cell? ⟨b, 0, none⟩ = some (.bool false) ∧ w.cell? ⟨b, 1, none⟩ = some (.slice none 0 0)

theorem noErr (w : World) (r : Option Addr) (h : NoRd w r) :
    Calls Try.prog 12 #[.pointer r] w fun e w' => e = .returned (.int .i64 2) ∧ w' = w := by
  rcases h with rfl | ⟨b, rfl, c0, c1⟩
  all_goals
    go_enter Try.func12, Try.ntmps12
    go_wp2
    go_ret
    exact ⟨rfl, rfl⟩

theorem noEnd (w : World) (r : Option Addr) (h : NoRd w r) :
    Calls Try.prog 13 #[.pointer r] w fun e w' => e = .returned (.int .i64 2) ∧ w' = w := by
  have HE := noErr w r h
  go_enter Try.func13, Try.ntmps13
  go_wp2_with (go_at_call 12; refine HE.mono ?_; rintro e w1 ⟨rfl, hw⟩; subst w1)
  go_ret
  exact ⟨rfl, rfl⟩

theorem noLeft (w : World) (r : Option Addr) (h : NoRd w r) :
    Calls Try.prog 11 #[.pointer r] w fun e w' => e = .returned (.int .i64 0) ∧ w' = w := by
  rcases h with rfl | ⟨b, rfl, c0, c1⟩
  all_goals
    go_enter Try.func11, Try.ntmps11
    go_wp2
    go_ret
    exact ⟨rfl, rfl⟩

theorem noTake (w : World) (r : Option Addr) (n : Int) (h : NoRd w r) :
    Calls Try.prog 18 #[.pointer r, .int .i64 n] w fun e w' => e = .returned (.slice none 0 0) ∧ w' = w := by
  have HE := noErr w r h
  go_enter Try.func18, Try.ntmps18
  go_wp2_with (go_at_call 12; refine HE.mono ?_; rintro e w1 ⟨rfl, hw⟩; subst w1)
  go_ret
  exact ⟨rfl, rfl⟩

theorem noNumber (w : World) (r : Option Addr) (n : Int) (h : NoRd w r) :
    Calls Try.prog 15 #[.pointer r, .int .i64 n] w fun e w' => e = .returned (.int .u64 0) ∧ w' = w := by
  have HE := noTake w r n h
  go_enter Try.func15, Try.ntmps15
  go_wp2_with (go_at_call 18; refine HE.mono ?_; rintro e w1 ⟨rfl, hw⟩; subst w1)
  go_loop [5, 12] (fun v i => v = .int .u64 0 ∧ i = .int .i64 0) (fun _ _ => 0)
  case atStart => exact ⟨rfl, rfl⟩
  case round =>
    obtain ⟨rfl, rfl⟩ := hrel
    go_wp2
    go_ret
    exact ⟨rfl, rfl⟩

theorem noVar (w : World) (r : Option Addr) (h : NoRd w r) :
    Calls Try.prog 8 #[.pointer r] w fun e w' => e = .returned (.int .u32 0) ∧ w' = w := by
  have HE := noErr w r h
  go_enter Try.func8, Try.ntmps8
  go_wp2_with (go_at_call 12; refine HE.mono ?_; rintro e w1 ⟨rfl, hw⟩; subst w1)
  go_ret
  exact ⟨rfl, rfl⟩

theorem noText (w : World) (r : Option Addr) (n : Int) (h : NoRd w r) :
    Calls Try.prog 10 #[.pointer r, .int .i64 n] w fun e w' => e = .returned (.slice none 0 0) ∧ w' = w := by
  have HE := noErr w r h
  go_enter Try.func10, Try.ntmps10
  go_wp2_with (go_at_call 12; refine HE.mono ?_; rintro e w1 ⟨rfl, hw⟩; subst w1)
  go_ret
  exact ⟨rfl, rfl⟩

theorem cloneNil (w : World) : Calls Try.prog 17 #[.slice none 0 0] w fun e w' => e = .returned (.slice none 0 0) ∧ w' = w := by
  have hen := eqNil
  go_enter Try.func17, Try.ntmps17
  go_wp2
  go_ret
  exact ⟨rfl, rfl⟩

theorem noRaw (w : World) (r : Option Addr) (n : Int) (h : NoRd w r) :
    Calls Try.prog 9 #[.pointer r, .int .i64 n] w fun e w' => e = .returned (.slice none 0 0) ∧ w' = w := by
  have HE := noTake w r n h
  have HC := cloneNil w
  go_enter Try.func9, Try.ntmps9
  go_wp2_with (first
    | (go_at_call 18; refine HE.mono ?_; rintro e w1 ⟨rfl, hw⟩; subst w1)
    | (go_at_call 17; refine HC.mono ?_; rintro e w1 ⟨rfl, hw⟩; subst w1))
  go_ret
  exact ⟨rfl, rfl⟩

theorem noU8 (w : World) (r : Option Addr) (h : NoRd w r) : Calls Try.prog 4 #[.pointer r] w fun e w' => e = .returned (.int .u8 0) ∧ w' = w := by
  have HE := noNumber w r 1 h
  go_enter Try.func4, Try.ntmps4
  go_wp2_with (go_at_call 15; refine HE.mono ?_; rintro e w1 ⟨rfl, hw⟩; subst w1)
  go_ret
  exact ⟨rfl, rfl⟩
theorem noU16 (w : World) (r : Option Addr) (h : NoRd w r) : Calls Try.prog 5 #[.pointer r] w fun e w' => e = .returned (.int .u16 0) ∧ w' = w := by
  have HE := noNumber w r 2 h
  go_enter Try.func5, Try.ntmps5
  go_wp2_with (go_at_call 15; refine HE.mono ?_; rintro e w1 ⟨rfl, hw⟩; subst w1)
  go_ret
  exact ⟨rfl, rfl⟩
theorem noU32 (w : World) (r : Option Addr) (h : NoRd w r) : Calls Try.prog 6 #[.pointer r] w fun e w' => e = .returned (.int .u32 0) ∧ w' = w := by
  have HE := noNumber w r 4 h
  go_enter Try.func6, Try.ntmps6
  go_wp2_with (go_at_call 15; refine HE.mono ?_; rintro e w1 ⟨rfl, hw⟩; subst w1)
  go_ret
  exact ⟨rfl, rfl⟩
theorem noU64 (w : World) (r : Option Addr) (h : NoRd w r) : Calls Try.prog 7 #[.pointer r] w fun e w' => e = .returned (.int .u64 0) ∧ w' = w := by
  have HE := noNumber w r 8 h
  go_enter Try.func7, Try.ntmps7
  go_wp2_with (go_at_call 15; refine HE.mono ?_; rintro e w1 ⟨rfl, hw⟩; subst w1)
  go_ret
  exact ⟨rfl, rfl⟩

theorem noRd_nil (w : World) : NoRd w none := .inl rfl
theorem noRd_zero (w : World) (o : Obj) : NoRd ((w.alloc (.cells #[.bool false, .slice none 0 0, .int .i64 0] 26)).alloc o) (some ⟨w.heap.size, 0, none⟩) :=
  .inr ⟨w.heap.size, rfl, by simp, by simp⟩

set_option maxHeartbeats 1000000 in
theorem packNone_walk (w : World) (n : Int) (_hn : (Lit.int .i64 n).wf = true) :
    Calls Try.prog 3 #[.int .i64 n] w fun e w' => e = .returned (.bool true) ∧ Below w.heap.size w w' := by
  go_enter Try.func3, Try.ntmps3
  go_wp2
  go_loop [9] (fun i => i = .int .i64 0 ∨ i = .int .i64 1 ∨ i = .int .i64 2) (fun i => (2 - intOf i).toNat)
  case atStart => exact .inl rfl
  case round =>
    rcases hrel with rfl | rfl | rfl
    · have HN := noRd_nil ((w.alloc (.cells #[.bool false, .slice none 0 0, .int .i64 0] 26)).alloc (.cells #[.pointer none, .pointer (some ⟨w.heap.size, 0, none⟩)] 22))
      go_wp2_with (first
    | (go_at_call 4; refine (noU8 _ _ HN).mono ?_; rintro e w1 ⟨rfl, hw⟩; subst w1)
    | (go_at_call 5; refine (noU16 _ _ HN).mono ?_; rintro e w1 ⟨rfl, hw⟩; subst w1)
    | (go_at_call 6; refine (noU32 _ _ HN).mono ?_; rintro e w1 ⟨rfl, hw⟩; subst w1)
    | (go_at_call 7; refine (noU64 _ _ HN).mono ?_; rintro e w1 ⟨rfl, hw⟩; subst w1)
    | (go_at_call 8; refine (noVar _ _ HN).mono ?_; rintro e w1 ⟨rfl, hw⟩; subst w1)
    | (go_at_call 9; refine (noRaw _ _ _ HN).mono ?_; rintro e w1 ⟨rfl, hw⟩; subst w1)
    | (go_at_call 10; refine (noText _ _ _ HN).mono ?_; rintro e w1 ⟨rfl, hw⟩; subst w1)
    | (go_at_call 11; refine (noLeft _ _ HN).mono ?_; rintro e w1 ⟨rfl, hw⟩; subst w1)
    | (go_at_call 12; refine (noErr _ _ HN).mono ?_; rintro e w1 ⟨rfl, hw⟩; subst w1)
    | (go_at_call 13; refine (noEnd _ _ HN).mono ?_; rintro e w1 ⟨rfl, hw⟩; subst w1)
    | (go_at_call 14; refine (live_any _).mono ?_; rintro e w1 ⟨rfl, hb1⟩))
      go_round
      case rel => exact .inr (.inl rfl)
      case measure => simp [intOf]
    · have HN := noRd_zero w (.cells #[.pointer none, .pointer (some ⟨w.heap.size, 0, none⟩)] 22)
      go_wp2_with (first
    | (go_at_call 4; refine (noU8 _ _ HN).mono ?_; rintro e w1 ⟨rfl, hw⟩; subst w1)
    | (go_at_call 5; refine (noU16 _ _ HN).mono ?_; rintro e w1 ⟨rfl, hw⟩; subst w1)
    | (go_at_call 6; refine (noU32 _ _ HN).mono ?_; rintro e w1 ⟨rfl, hw⟩; subst w1)
    | (go_at_call 7; refine (noU64 _ _ HN).mono ?_; rintro e w1 ⟨rfl, hw⟩; subst w1)
    | (go_at_call 8; refine (noVar _ _ HN).mono ?_; rintro e w1 ⟨rfl, hw⟩; subst w1)
    | (go_at_call 9; refine (noRaw _ _ _ HN).mono ?_; rintro e w1 ⟨rfl, hw⟩; subst w1)
    | (go_at_call 10; refine (noText _ _ _ HN).mono ?_; rintro e w1 ⟨rfl, hw⟩; subst w1)
    | (go_at_call 11; refine (noLeft _ _ HN).mono ?_; rintro e w1 ⟨rfl, hw⟩; subst w1)
    | (go_at_call 12; refine (noErr _ _ HN).mono ?_; rintro e w1 ⟨rfl, hw⟩; subst w1)
    | (go_at_call 13; refine (noEnd _ _ HN).mono ?_; rintro e w1 ⟨rfl, hw⟩; subst w1)
    | (go_at_call 14; refine (live_any _).mono ?_; rintro e w1 ⟨rfl, hb1⟩))
      go_round
      case rel => exact .inr (.inr rfl)
      case measure => simp [intOf]
    · have HN := noRd_nil w
      go_wp2_with (first
    | (go_at_call 4; refine (noU8 _ _ HN).mono ?_; rintro e w1 ⟨rfl, hw⟩; subst w1)
    | (go_at_call 5; refine (noU16 _ _ HN).mono ?_; rintro e w1 ⟨rfl, hw⟩; subst w1)
    | (go_at_call 6; refine (noU32 _ _ HN).mono ?_; rintro e w1 ⟨rfl, hw⟩; subst w1)
    | (go_at_call 7; refine (noU64 _ _ HN).mono ?_; rintro e w1 ⟨rfl, hw⟩; subst w1)
    | (go_at_call 8; refine (noVar _ _ HN).mono ?_; rintro e w1 ⟨rfl, hw⟩; subst w1)
    | (go_at_call 9; refine (noRaw _ _ _ HN).mono ?_; rintro e w1 ⟨rfl, hw⟩; subst w1)
    | (go_at_call 10; refine (noText _ _ _ HN).mono ?_; rintro e w1 ⟨rfl, hw⟩; subst w1)
    | (go_at_call 11; refine (noLeft _ _ HN).mono ?_; rintro e w1 ⟨rfl, hw⟩; subst w1)
    | (go_at_call 12; refine (noErr _ _ HN).mono ?_; rintro e w1 ⟨rfl, hw⟩; subst w1)
    | (go_at_call 13; refine (noEnd _ _ HN).mono ?_; rintro e w1 ⟨rfl, hw⟩; subst w1)
    | (go_at_call 14; refine (live_any _).mono ?_; rintro e w1 ⟨rfl, hb1⟩))
      go_ret
      exact ⟨rfl, after_alloc (after_alloc hb1)⟩

end Go.Proofs.Ytbopcppagfhjnab
