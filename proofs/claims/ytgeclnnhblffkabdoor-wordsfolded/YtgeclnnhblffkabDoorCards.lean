/-
  DERIVED. GIVEN WITH THE SEED: THE CARDS: each row of YtgeclnnhblffkabDoorRows.lean that lists a variable, with what it lists TIED to the program's text (the seventh form; the later family's looks); each row that meets fmt, with fmt's text TOLD by the authors' own Lean function (tested against real Go, not proved from fmt's source: count such statements apart). THE CARD IS WHAT COUNTS. Prove the row's statement (the work); the ties are given (YtgeclnnhblffkabDoorTie.lean); close each card by the builder's one call (the guide's Derived/Test/ToyasCard.lean, 'card_holds'). Laid BY PROGRAM, IN A SANDBOX (cutbox-door.mjs). By AI agents, Wed Nov 11 2026. No macro, syntax, notation, axiom, sorry.
-/
import Derived.Test.YtgeclnnhblffkabDoorRows
import GoSem.ClaimSeven
namespace Go.Proofs.YtgeclnnhblffkabDoor
namespace Rows

/-- THE TIED CARD OF 'incipitlaw14.WordsFolded'. -/
def wordsFoldedCard : Claim7 := { stood := { row := wordsFoldedRow, standIns := [], harness := (true, "517c7ab55c762292ef9791fdc8d22002293e39fd8fc836f1334cd909cb80926b"), looks := false }, kinds := [], alts := [], laidByText := true, laidKinds := [.data], laidTests := true, laidLooks := .later }
def WordsFoldedCardSaid : Prop := Claim7.holds Tryd.pinned (.plain (OpenSpec.ofChange wordsFoldedSpec)) wordsFoldedCard

/-- THE SECOND FORM's CARD OF 'incipitlaw14.WordsFolded'. -/
def wordsFoldedUptoCard : Claim7 := { stood := { row := wordsFoldedUptoRow, standIns := [], harness := (true, "517c7ab55c762292ef9791fdc8d22002293e39fd8fc836f1334cd909cb80926b"), looks := false }, kinds := [], alts := [], laidByText := true, laidKinds := [.data], laidTests := true, laidLooks := .later }
def WordsFoldedUptoCardSaid : Prop := Claim7.holds Tryd.pinned (.plain (OpenSpec.upto wordsFoldedSpec)) wordsFoldedUptoCard
end Rows
end Go.Proofs.YtgeclnnhblffkabDoor
