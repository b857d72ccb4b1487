/- Walk: incipitlaw13.FoldLetters. -/
import Derived.Test.YtfpphepjkpofiaaDoorFdLive
import Derived.Test.YtfpphepjkpofiaaDoorFForm
namespace Go.Proofs.YtfpphepjkpofiaaDoor
set_option maxRecDepth 20000
open Go.RowKit
set_option linter.unusedVariables false
set_option maxRecDepth 100000

theorem foldLetters_walk (w : World) (r : Int) (hr : I32 r) (hL : Let w) : Calls Tryd.prog 4 #[.int .i32 r] w fun e w' => e = .returned (.bool true) ∧ Below w.heap.size w w' := by
  have HL := hide (live_any w hL)
  have HA : Hid (∀ W, Below w.heap.size w W → Calls Tryd.prog 14 #[.int .i32 r] W fun e w' => e = .returned (.bool (letB r)) ∧ Below W.heap.size W w') := fun W hb => letter_any W r hr (hL.below hb)
  have HB := hide (fun W => refLetter_any W r hr)
  have HC := hide (fun W => width_any W r hr)
  have HD := hide (fun W => refWidth_any W r hr)
  obtain ⟨h1, h2⟩ := hr
  generalize letB r = A at *
  generalize widthN r = B at *
  clear hL
  go_enter Tryd.func4, Tryd.ntmps4
  go_wp2_with (first
    | (go_at_call 8; refine HL.out.mono ?_; rintro e w1 ⟨rfl, hb⟩; have HB1 := hide hb; clear HL hb)
    | (go_at_call 14; refine (HA.out w1 HB1.out).mono ?_; rintro e w2 ⟨rfl, hb⟩; have HB2 := hide (HB1.out.trans (hb.mono HB1.out.size)); clear HA hb)
    | (go_at_call 15; refine (HB.out w2).mono ?_; rintro e w3 ⟨rfl, hb⟩; clear HB)
    | (go_at_call 16; refine (HC.out _).mono ?_; rintro e w4 ⟨rfl, hc⟩; clear HC)
    | (go_at_call 17; refine (HD.out _).mono ?_; rintro e w5 ⟨rfl, hd⟩; clear HD))
  go_ret
  exact ⟨rfl, HB2.out.trans (hd.mono HB2.out.size)⟩

end Go.Proofs.YtfpphepjkpofiaaDoor
