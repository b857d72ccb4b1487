/- What the row's condition on package crc's table gives the walks; the door's own heap meets it. -/
import Derived.Test.YtmeiahmolmneeaaDoorCrcAdd
import Derived.Test.YtmeiahmolmneeaaDoorTie
import Derived.Test.YtmeiahmolmneeaaDoorCards
import Derived.ProofKit
import Derived.LaidMore
import Derived.OpenShut
import Derived.Stop.Joined
import Derived.Lib.LaidTab
namespace Go.Proofs.YtmeiahmolmneeaaDoor
set_option maxRecDepth 20000
open Go.ChangeShapes Go.WideShapes Go.ChangeAt Go.RowKit

def laidSteps : List (String × DataW Unit) := [("incipit/crc.steps", Rows.laid_incipit_crc_steps)]

theorem gSteps : Tryd.prog.globalNamed "incipit/crc.steps" = some 2 := by kernel_rfl
theorem tSteps : (Tryd.prog.globals[2]?).map (·.type) = some 115 := by kernel_rfl
theorem cellsU32 : Tryd.prog.cellsOf 95 = 1 := by kernel_rfl
theorem cellsSteps : Tryd.prog.cellsOf 115 = 16 := by kernel_rfl

theorem door_met (os : Os) (args : Array Value) : laidMetH Tryd.prog laidSteps ((World.doorLaid Tryd.prog 400 os).forCall (fun _ _ => 0) ⟨#[], args, []⟩).memory :=
  laidMetH_of_parts3 (fuel := 8) (laidMet_of_run' 8 (by kernel_rfl) (by kernel_rfl)) (by kernel_rfl) (by kernel_rfl)

theorem tab_of_laid {W : World} (h : laidMetH Tryd.prog laidSteps W) : Tab W := by
  rw [MakeChecks.laidMetH_plain _ _ _ (by kernel_rfl)] at h
  have hT := Lib.tabIs_of_head (k := .u32) (zs := tab) (rest := []) gSteps tSteps Tryd.underlying115 Tryd.underlying95 cellsU32 cellsSteps h
  intro i hi
  exact hT.cell gSteps i hi

end Go.Proofs.YtmeiahmolmneeaaDoor
