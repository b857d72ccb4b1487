/- What the row's condition on package crc's table, among Go's own tables of runes, gives the walk; a world that meets it. -/
import Derived.Test.YtmeiahmolmneeaaDoorCrcLaid
import Derived.Stop.LaidErr
import Derived.Lay
namespace Go.Proofs.YtmeiahmolmneeaaDoor
set_option maxRecDepth 20000
open Go.ChangeShapes Go.WideShapes Go.ChangeAt Go.RowKit

def laidSector : List (String × DataW Unit) := [("unicode/utf8.acceptRanges", Rows.laid_unicode_utf8_acceptRanges), ("incipit/crc.steps", Rows.laid_incipit_crc_steps), ("unicode/utf8.first", Rows.laid_unicode_utf8_first)]

theorem all_met (os : Os) (args : Array Value) : laidMetH Tryd.prog laidSector ((World.laidAll Tryd.prog os laidSector).forCall (fun _ _ => 0) ⟨#[], args, []⟩).memory := by
  rw [MakeChecks.laidMetH_plain _ _ _ (by kernel_rfl)]
  exact laidMet_laidAll _ (by kernel_rfl) (by kernel_rfl)

theorem tab_of_all {W : World} (h : laidMetH Tryd.prog laidSector W) : Tab W := by
  rw [MakeChecks.laidMetH_plain _ _ _ (by kernel_rfl)] at h
  have h2 := laidMet.tail h
  have hT := Lib.tabIs_of_head (k := .u32) (zs := tab) (rest := [("unicode/utf8.first", Rows.laid_unicode_utf8_first)]) gSteps tSteps Tryd.underlying115 Tryd.underlying95 cellsU32 cellsSteps h2
  intro i hi
  exact hT.cell gSteps i hi

end Go.Proofs.YtmeiahmolmneeaaDoor
