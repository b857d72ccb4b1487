/-
  DERIVED. GIVEN WITH THE SEED: THE CARDS: each row of YtfpphepjkpofiaaDoorRows.lean that lists a variable, with what it lists TIED to the program's text (the seventh form; the later family's looks); each row that meets fmt, with fmt's text TOLD by the authors' own Lean function (tested against real Go, not proved from fmt's source: count such statements apart). THE CARD IS WHAT COUNTS. Prove the row's statement (the work); the ties are given (YtfpphepjkpofiaaDoorTie.lean); close each card by the builder's one call (the guide's Derived/Test/ToyasCard.lean, 'card_holds'). Laid BY PROGRAM, IN A SANDBOX (cutbox-door.mjs). By AI agents, Wed Nov 11 2026. No macro, syntax, notation, axiom, sorry.
-/
import Derived.Test.YtfpphepjkpofiaaDoorRows
import GoSem.ClaimSeven
namespace Go.Proofs.YtfpphepjkpofiaaDoor
namespace Rows

/-- THE TIED CARD OF 'incipitlaw13.FoldRunes'. -/
def foldRunesCard : Claim7 := { stood := { row := foldRunesRow, standIns := [], harness := (true, "5a9348150326e8bb4d78ee2cc66ee67019cccb56c48a6a44222b6d45a0c8cc83"), looks := false }, kinds := [], alts := [], laidByText := true, laidKinds := [.data], laidTests := true, laidLooks := .later }
def FoldRunesCardSaid : Prop := Claim7.holds Tryd.pinned (.plain (OpenSpec.ofChange foldRunesSpec)) foldRunesCard

/-- THE TIED CARD OF 'incipitlaw13.FoldLetters'. -/
def foldLettersCard : Claim7 := { stood := { row := foldLettersRow, standIns := [], harness := (true, "5a9348150326e8bb4d78ee2cc66ee67019cccb56c48a6a44222b6d45a0c8cc83"), looks := false }, kinds := [], alts := [], laidByText := true, laidKinds := [.data], laidTests := true, laidLooks := .later }
def FoldLettersCardSaid : Prop := Claim7.holds Tryd.pinned (.plain (OpenSpec.ofChange foldLettersSpec)) foldLettersCard

/-- THE TIED CARD OF 'incipitlaw13.FoldTables'. -/
def foldTablesCard : Claim7 := { stood := { row := foldTablesRow, standIns := [], harness := (true, "5a9348150326e8bb4d78ee2cc66ee67019cccb56c48a6a44222b6d45a0c8cc83"), looks := false }, kinds := [], alts := [], laidByText := true, laidKinds := [.data], laidTests := true, laidLooks := .later }
def FoldTablesCardSaid : Prop := Claim7.holds Tryd.pinned (.plain (OpenSpec.ofChange foldTablesSpec)) foldTablesCard

/-- THE TIED CARD OF 'incipitlaw13.FoldTwice'. -/
def foldTwiceCard : Claim7 := { stood := { row := foldTwiceRow, standIns := [], harness := (true, "5a9348150326e8bb4d78ee2cc66ee67019cccb56c48a6a44222b6d45a0c8cc83"), looks := false }, kinds := [], alts := [], laidByText := true, laidKinds := [.data], laidTests := true, laidLooks := .later }
def FoldTwiceCardSaid : Prop := Claim7.holds Tryd.pinned (.plain (OpenSpec.ofChange foldTwiceSpec)) foldTwiceCard

/-- THE TIED CARD OF 'incipitlaw13.FoldPieces'. -/
def foldPiecesCard : Claim7 := { stood := { row := foldPiecesRow, standIns := [], harness := (true, "5a9348150326e8bb4d78ee2cc66ee67019cccb56c48a6a44222b6d45a0c8cc83"), looks := false }, kinds := [], alts := [], laidByText := true, laidKinds := [.data], laidTests := true, laidLooks := .later }
def FoldPiecesCardSaid : Prop := Claim7.holds Tryd.pinned (.plain (OpenSpec.ofChange foldPiecesSpec)) foldPiecesCard

/-- THE SECOND FORM's CARD OF 'incipitlaw13.FoldRunes'. -/
def foldRunesUptoCard : Claim7 := { stood := { row := foldRunesUptoRow, standIns := [], harness := (true, "5a9348150326e8bb4d78ee2cc66ee67019cccb56c48a6a44222b6d45a0c8cc83"), looks := false }, kinds := [], alts := [], laidByText := true, laidKinds := [.data], laidTests := true, laidLooks := .later }
def FoldRunesUptoCardSaid : Prop := Claim7.holds Tryd.pinned (.plain (OpenSpec.upto foldRunesSpec)) foldRunesUptoCard

/-- THE SECOND FORM's CARD OF 'incipitlaw13.FoldLetters'. -/
def foldLettersUptoCard : Claim7 := { stood := { row := foldLettersUptoRow, standIns := [], harness := (true, "5a9348150326e8bb4d78ee2cc66ee67019cccb56c48a6a44222b6d45a0c8cc83"), looks := false }, kinds := [], alts := [], laidByText := true, laidKinds := [.data], laidTests := true, laidLooks := .later }
def FoldLettersUptoCardSaid : Prop := Claim7.holds Tryd.pinned (.plain (OpenSpec.upto foldLettersSpec)) foldLettersUptoCard

/-- THE SECOND FORM's CARD OF 'incipitlaw13.FoldTables'. -/
def foldTablesUptoCard : Claim7 := { stood := { row := foldTablesUptoRow, standIns := [], harness := (true, "5a9348150326e8bb4d78ee2cc66ee67019cccb56c48a6a44222b6d45a0c8cc83"), looks := false }, kinds := [], alts := [], laidByText := true, laidKinds := [.data], laidTests := true, laidLooks := .later }
def FoldTablesUptoCardSaid : Prop := Claim7.holds Tryd.pinned (.plain (OpenSpec.upto foldTablesSpec)) foldTablesUptoCard

/-- THE SECOND FORM's CARD OF 'incipitlaw13.FoldTwice'. -/
def foldTwiceUptoCard : Claim7 := { stood := { row := foldTwiceUptoRow, standIns := [], harness := (true, "5a9348150326e8bb4d78ee2cc66ee67019cccb56c48a6a44222b6d45a0c8cc83"), looks := false }, kinds := [], alts := [], laidByText := true, laidKinds := [.data], laidTests := true, laidLooks := .later }
def FoldTwiceUptoCardSaid : Prop := Claim7.holds Tryd.pinned (.plain (OpenSpec.upto foldTwiceSpec)) foldTwiceUptoCard

/-- THE SECOND FORM's CARD OF 'incipitlaw13.FoldPieces'. -/
def foldPiecesUptoCard : Claim7 := { stood := { row := foldPiecesUptoRow, standIns := [], harness := (true, "5a9348150326e8bb4d78ee2cc66ee67019cccb56c48a6a44222b6d45a0c8cc83"), looks := false }, kinds := [], alts := [], laidByText := true, laidKinds := [.data], laidTests := true, laidLooks := .later }
def FoldPiecesUptoCardSaid : Prop := Claim7.holds Tryd.pinned (.plain (OpenSpec.upto foldPiecesSpec)) foldPiecesUptoCard
end Rows
end Go.Proofs.YtfpphepjkpofiaaDoor
