/- Contracts: package extent's calls of a set that no call made. -/
import Derived.Test.YtibgkmbdnelbeaaDoorELive
namespace Go.Proofs.YtibgkmbdnelbeaaDoor
set_option maxRecDepth 20000
open Go.RowKit
set_option linter.unusedVariables false
set_option maxRecDepth 100000

/-- nil, or a zero struct -/
def UM (w : World) (pv : Option Addr) : Prop := pv = none ∨ ∃ b, pv = some ⟨b, 0, none⟩ ∧ w.cell? ⟨b, 0, none⟩ = some (.int .i64 0)
theorem UM.below {w w' : World} {pv : Option Addr} (h : UM w pv) (hb : Below w.heap.size w w') : UM w' pv := by
  rcases h with h | ⟨b, h1, h2⟩
  · exact .inl h
  · exact .inr ⟨b, h1, (hb.cell (p := ⟨b, 0, none⟩) (World.block_lt_of_cell? w _ h2)).trans h2⟩
theorem UM.drewN {w : World} {pv : Option Addr} (h : UM w pv) (m : Nat) : UM (w.drewN m) pv := h
theorem UM.made {w : World} {pv : Option Addr} (h : UM w pv) : Calls Tryd.prog 31 #[.pointer pv] w fun e w' => e = .returned (.bool false) ∧ w' = w := by
  rcases h with rfl | ⟨b, rfl, h2⟩
  · exact made_nil w
  · exact made_cell w b 0 h2
theorem UM.unmade {w : World} {pv : Option Addr} (h : UM w pv) : Unmade w pv := by
  rcases h with rfl | ⟨b, rfl, h2⟩
  · exact unmade_nil w
  · exact unmade_zero w b h2
theorem UM.size {w : World} {pv : Option Addr} (h : UM w pv) : Calls Tryd.prog 25 #[.pointer pv] w fun e w' => e = .returned (.int .i64 0) ∧ w' = w := by
  have HM := hide h.made
  go_enter Tryd.func25, Tryd.ntmps25
  go_wp2_with (go_at_call 31; refine HM.out.mono ?_; rintro e w1 ⟨rfl, hw⟩; subst w1; clear HM)
  go_ret
  exact ⟨rfl, rfl⟩
theorem UM.len {w : World} {pv : Option Addr} (h : UM w pv) : Calls Tryd.prog 22 #[.pointer pv] w fun e w' => e = .returned (.int .i64 0) ∧ w' = w := by
  have HM := hide h.made
  go_enter Tryd.func22, Tryd.ntmps22
  go_wp2_with (go_at_call 31; refine HM.out.mono ?_; rintro e w1 ⟨rfl, hw⟩; subst w1; clear HM)
  go_ret
  exact ⟨rfl, rfl⟩
theorem UM.add {w : World} {pv : Option Addr} (h : UM w pv) (p : Int) : Calls Tryd.prog 12 #[.pointer pv, .int .i64 p] w fun e w' => e = .returned (.int .i64 2) ∧ w' = w := by
  have HM := hide h.made
  go_enter Tryd.func12, Tryd.ntmps12
  go_wp2_with (go_at_call 31; refine HM.out.mono ?_; rintro e w1 ⟨rfl, hw⟩; subst w1; clear HM)
  go_ret
  exact ⟨rfl, rfl⟩
theorem UM.drop {w : World} {pv : Option Addr} (h : UM w pv) (p : Int) : Calls Tryd.prog 13 #[.pointer pv, .int .i64 p] w fun e w' => e = .returned (.int .i64 2) ∧ w' = w := by
  have HM := hide h.made
  go_enter Tryd.func13, Tryd.ntmps13
  go_wp2_with (go_at_call 31; refine HM.out.mono ?_; rintro e w1 ⟨rfl, hw⟩; subst w1; clear HM)
  go_ret
  exact ⟨rfl, rfl⟩
theorem UM.has {w : World} {pv : Option Addr} (h : UM w pv) (p : Int) : Calls Tryd.prog 21 #[.pointer pv, .int .i64 p] w fun e w' => e = .returned (.bool false) ∧ Below w.heap.size w w' := by
  have HM : Hid (∀ m, Calls Tryd.prog 31 #[.pointer pv] (w.drewN m) fun e w' => e = .returned (.bool false) ∧ w' = w.drewN m) := fun m => (h.drewN m).made
  go_enter Tryd.func21, Tryd.ntmps21
  go_wp2
  go_quiet (first
    | (go_at_call 31; exact Calls.quiet_of_same (HM.out _)))
  go_wp2
  go_ret
  exact ⟨rfl, below_drewN (Below.refl _ w) _⟩
theorem UM.first {w : World} {pv : Option Addr} (h : UM w pv) (p : Int) : Calls Tryd.prog 27 #[.pointer pv, .int .i64 p] w fun e w' => e = .returned (.int .i64 (-1)) ∧ w' = w := by
  have HM := hide h.made
  go_enter Tryd.func27, Tryd.ntmps27
  go_wp2_with (go_at_call 31; refine HM.out.mono ?_; rintro e w1 ⟨rfl, hw⟩; subst w1; clear HM)
  go_ret
  exact ⟨rfl, rfl⟩
theorem UM.same {w : World} {pv : Option Addr} (h : UM w pv) : Calls Tryd.prog 26 #[.pointer pv, .pointer none] w fun e w' => e = .returned (.bool true) ∧ w' = w := by
  rcases h with rfl | ⟨b, rfl, h2⟩
  · exact same_nils w
  · exact same_nil w _ false (made_cell w b 0 h2)
theorem UM.noV {w : World} {pv : Option Addr} (h : UM w pv) (k : Nat) (W' : World) (ho : Only (fun _ => False) (w.alloc (.cells #[.pointer pv] 23)) W') : NoV w.heap.size pv k W' := fun _ W2 hb2 => by
  have hb1 : Below w.heap.size w (w.alloc (.cells #[.pointer pv] 23)) := (Below.refl _ w).alloc (Nat.le_refl _) _
  have hB := ((Blk.new w 23 [.pointer pv]).only ho (fun h => h))
  exact ⟨(hB.below hb2 hB.lt).cell 0, (((h.below hb1).below (ho.below (Nat.le_refl _) (fun _ _ h => h))).below hb2).unmade⟩
theorem UM.runs {w : World} {pv : Option Addr} (h : UM w pv) (M : Nat) (hM : M ≤ 2000000) :
    Calls Tryd.prog 19 #[.func (.func 40) #[] #[.pointer (some ⟨w.heap.size, 0, none⟩)], .int .i64 M] (w.alloc (.cells #[.pointer pv] 23)) fun e w' => ∃ ao cap u, e = .returned (.tuple #[.slice ao 0 cap, u]) ∧ Below w.heap.size w w' := by
  refine (runs_any _ _ _ [] _ enters_runs (runs_iter_none w.heap.size pv) h.noV (by simp) M hM).mono ?_
  rintro e w' ⟨v, u, rfl, h1, h2, h3⟩
  rw [List.take_nil] at h1
  obtain ⟨ao, cap, rfl⟩ := h1.shape
  exact ⟨ao, cap, u, rfl, after_alloc h3⟩
theorem UM.pages {w : World} {pv : Option Addr} (h : UM w pv) (M : Nat) (hM : M ≤ 2000000) :
    Calls Tryd.prog 28 #[.func (.func 45) #[] #[.pointer (some ⟨w.heap.size, 0, none⟩)], .int .i64 M] (w.alloc (.cells #[.pointer pv] 23)) fun e w' => ∃ ao cap, e = .returned (.slice ao 0 cap) ∧ Below w.heap.size w w' := by
  refine (pages_any _ _ _ [] _ enters_all (all_iter_none w.heap.size pv) h.noV (by simp) M hM).mono ?_
  rintro e w' ⟨v, rfl, h1, h3⟩
  rw [List.take_nil] at h1
  obtain ⟨ao, cap, rfl⟩ := h1.shape
  exact ⟨ao, cap, rfl, after_alloc h3⟩
theorem UM.run {w : World} {pv : Option Addr} (h : UM w pv) (K : Int) : Calls Tryd.prog 23 #[.pointer pv, .int .i64 K] w fun e w' => e = .returned (.int .i64 (-1)) ∧ Below w.heap.size w w' := by
  have := run_any w pv [] (fun Bs => NoV Bs pv) (fun Bs => runs_iter_none Bs pv) (fun Bs k W' hb hc _ W2 hb2 => ⟨(hb2.cell (p := ⟨Bs, 0, none⟩) (World.block_lt_of_cell? W' _ hc)).trans hc, ((h.below hb).below hb2).unmade⟩) K
  rw [show runR [] K = -1 by simp [runR, runI_nil]] at this
  exact this

end Go.Proofs.YtibgkmbdnelbeaaDoor
