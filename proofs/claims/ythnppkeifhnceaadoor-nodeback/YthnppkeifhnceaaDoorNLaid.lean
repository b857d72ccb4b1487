/- What the row's condition on Go's own tables of runes asks: a world that meets it. -/
import Derived.Test.YthnppkeifhnceaaDoorOwn
import Derived.Test.YthnppkeifhnceaaDoorTie
import Derived.Test.YthnppkeifhnceaaDoorCards
import Derived.ProofKit
import Derived.LaidMore
import Derived.OpenShut
import Derived.Stop.Joined
import Derived.Lib.LaidTab
import Derived.Stop.LaidErr
import Derived.Lay
namespace Go.Proofs.YthnppkeifhnceaaDoor
set_option maxRecDepth 20000
open Go.ChangeShapes Go.WideShapes Go.ChangeAt Go.RowKit

def laidBack : List (String × DataW Unit) := [("unicode/utf8.acceptRanges", Rows.laid_unicode_utf8_acceptRanges), ("unicode/utf8.first", Rows.laid_unicode_utf8_first)]

theorem back_met (os : Os) (args : Array Value) : laidMetH Tryd.prog laidBack ((World.laidAll Tryd.prog os laidBack).forCall (fun _ _ => 0) ⟨#[], args, []⟩).memory := by
  rw [MakeChecks.laidMetH_plain _ _ _ (by kernel_rfl)]
  exact laidMet_laidAll _ (by kernel_rfl) (by kernel_rfl)

end Go.Proofs.YthnppkeifhnceaaDoor
