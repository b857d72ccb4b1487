/-
  DERIVED. GIVEN WITH THE SEED: THE CARDS: each row of YtimmfnjkknbofaaDoorRows.lean that lists a variable, with what it lists TIED to the program's text (the seventh form; the later family's looks); each row that meets fmt, with fmt's text TOLD by the authors' own Lean function (tested against real Go, not proved from fmt's source: count such statements apart). THE CARD IS WHAT COUNTS. Prove the row's statement (the work); the ties are given (YtimmfnjkknbofaaDoorTie.lean); close each card by the builder's one call (the guide's Derived/Test/ToyasCard.lean, 'card_holds'). Laid BY PROGRAM, IN A SANDBOX (cutbox-door.mjs). By AI agents, Wed Nov 11 2026. No macro, syntax, notation, axiom, sorry.
-/
import Derived.Test.YtimmfnjkknbofaaDoorRows
import GoSem.ClaimSeven
namespace Go.Proofs.YtimmfnjkknbofaaDoor
namespace Rows

/-- THE TIED CARD OF 'incipitlaw14.WordsMay'. -/
def wordsMayCard : Claim7 := { stood := { row := wordsMayRow, standIns := [], harness := (true, "777b3cfd3ab0f5b39e4963c70a50fad3e153ad2d8f57bdecf5523aaccb65e14d"), looks := false }, kinds := [], alts := [], laidByText := true, laidKinds := [.data], laidTests := true, laidLooks := .later }
def WordsMayCardSaid : Prop := Claim7.holds Tryd.pinned (.plain (OpenSpec.ofChange wordsMaySpec)) wordsMayCard

/-- THE TIED CARD OF 'incipitlaw14.WordsTerms'. -/
def wordsTermsCard : Claim7 := { stood := { row := wordsTermsRow, standIns := [], harness := (true, "777b3cfd3ab0f5b39e4963c70a50fad3e153ad2d8f57bdecf5523aaccb65e14d"), looks := false }, kinds := [], alts := [], laidByText := true, laidKinds := [.data], laidTests := true, laidLooks := .later }
def WordsTermsCardSaid : Prop := Claim7.holds Tryd.pinned (.plain (OpenSpec.ofChange wordsTermsSpec)) wordsTermsCard

/-- THE TIED CARD OF 'incipitlaw14.WordsBack'. -/
def wordsBackCard : Claim7 := { stood := { row := wordsBackRow, standIns := [], harness := (true, "777b3cfd3ab0f5b39e4963c70a50fad3e153ad2d8f57bdecf5523aaccb65e14d"), looks := false }, kinds := [], alts := [], laidByText := true, laidKinds := [.data], laidTests := true, laidLooks := .later }
def WordsBackCardSaid : Prop := Claim7.holds Tryd.pinned (.plain (OpenSpec.ofChange wordsBackSpec)) wordsBackCard

/-- THE SECOND FORM's CARD OF 'incipitlaw14.WordsMay'. -/
def wordsMayUptoCard : Claim7 := { stood := { row := wordsMayUptoRow, standIns := [], harness := (true, "777b3cfd3ab0f5b39e4963c70a50fad3e153ad2d8f57bdecf5523aaccb65e14d"), looks := false }, kinds := [], alts := [], laidByText := true, laidKinds := [.data], laidTests := true, laidLooks := .later }
def WordsMayUptoCardSaid : Prop := Claim7.holds Tryd.pinned (.plain (OpenSpec.upto wordsMaySpec)) wordsMayUptoCard

/-- THE SECOND FORM's CARD OF 'incipitlaw14.WordsTerms'. -/
def wordsTermsUptoCard : Claim7 := { stood := { row := wordsTermsUptoRow, standIns := [], harness := (true, "777b3cfd3ab0f5b39e4963c70a50fad3e153ad2d8f57bdecf5523aaccb65e14d"), looks := false }, kinds := [], alts := [], laidByText := true, laidKinds := [.data], laidTests := true, laidLooks := .later }
def WordsTermsUptoCardSaid : Prop := Claim7.holds Tryd.pinned (.plain (OpenSpec.upto wordsTermsSpec)) wordsTermsUptoCard

/-- THE SECOND FORM's CARD OF 'incipitlaw14.WordsBack'. -/
def wordsBackUptoCard : Claim7 := { stood := { row := wordsBackUptoRow, standIns := [], harness := (true, "777b3cfd3ab0f5b39e4963c70a50fad3e153ad2d8f57bdecf5523aaccb65e14d"), looks := false }, kinds := [], alts := [], laidByText := true, laidKinds := [.data], laidTests := true, laidLooks := .later }
def WordsBackUptoCardSaid : Prop := Claim7.holds Tryd.pinned (.plain (OpenSpec.upto wordsBackSpec)) wordsBackUptoCard
end Rows
end Go.Proofs.YtimmfnjkknbofaaDoor
