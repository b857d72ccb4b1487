/- The walk of the statement CrcTwo. -/
import Derived.Test.YtaahmpoldpdbjaaDoorCrcPair
import Derived.OpenShut
namespace Go.Proofs.YtaahmpoldpdbjaaDoor
open Go.RowKit Go.ChangeShapes Go.WideShapes

set_option maxHeartbeats 400000 in
theorem crcTwo_walk (w : World) (a0 a1 a2 a3 : Int) (w0 : (Lit.int .u32 a0).wf = true) (w1 : (Lit.int .u32 a1).wf = true) (w2 : (Lit.int .u16 a2).wf = true) (w3 : (Lit.int .i8 a3).wf = true) (hT : Tab w) :
    Calls Tryd.prog 4 #[.int .u32 a0, .int .u32 a1, .int .u16 a2, .int .i8 a3] w fun e w' => e = .returned (.bool true) ∧ Below w.heap.size w w' := by
  have b0 := bounds_u32 w0
  have b1 := bounds_u32 w1
  have b2 := bounds_u16 w2
  have b3 := bounds_i8 w3
  obtain ⟨A, rfl⟩ := Int.eq_ofNat_of_zero_le b0.1
  obtain ⟨B, rfl⟩ := Int.eq_ofNat_of_zero_le b1.1
  obtain ⟨N, rfl⟩ := Int.eq_ofNat_of_zero_le b2.1
  clear w0 w1 w2 w3
  have HL := hide (live_any w hT)
  by_cases hb : a3 < 0
  · have H1 : Hid (∀ w', Calls Tryd.prog _ _ w' _) := fun w' => crcTwo_below w' A B a3 hb
    have H2 : Hid (∀ w', Calls Tryd.prog _ _ w' _) := fun w' => refTwo_below w' A B a3 hb
    go_enter Tryd.func4, Tryd.ntmps4
    go_wp2_with (first
      | (go_at_call 9; refine HL.out.mono ?_; rintro e w1 ⟨rfl, hb1⟩; clear HL)
      | (go_at_call 15; refine (H1.out _).mono ?_; rintro e w2 ⟨rfl, hw⟩; subst w2; clear H1)
      | (go_at_call 16; refine (H2.out _).mono ?_; rintro e w2 ⟨rfl, hw⟩; subst w2; clear H2))
    go_ret
    exact ⟨rfl, hb1⟩
  · have H1 : Hid (∀ w', Calls Tryd.prog _ _ w' _) := fun w' => crcTwo_any w' A B (N % 3000) (by omega) (by omega) (by omega)
    have H2 : Hid (∀ w', Calls Tryd.prog _ _ w' _) := fun w' => refTwo_any w' A B (N % 3000) (by omega) (by omega) (by omega)
    have hm : (N : Int) % 3000 = ((N % 3000 : Nat) : Int) := by omega
    obtain ⟨M, hM⟩ : ∃ M, M = N % 3000 := ⟨_, rfl⟩
    rw [← hM] at H1 H2 hm
    have hM2 : M < 3000 := by omega
    clear hM
    go_enter Tryd.func4, Tryd.ntmps4
    go_wp2_with (first
      | (go_at_call 9; refine HL.out.mono ?_; rintro e w1 ⟨rfl, hb1⟩; clear HL)
      | (go_at_call 15; refine (H1.out _).mono ?_; rintro e w2 ⟨rfl, hw⟩; subst w2; clear H1)
      | (go_at_call 16; refine (H2.out _).mono ?_; rintro e w2 ⟨rfl, hw⟩; subst w2; clear H2))
    go_ret
    exact ⟨rfl, hb1⟩

end Go.Proofs.YtaahmpoldpdbjaaDoor
