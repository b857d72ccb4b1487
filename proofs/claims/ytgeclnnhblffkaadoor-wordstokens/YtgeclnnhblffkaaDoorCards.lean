/-
  DERIVED. GIVEN WITH THE SEED: THE CARDS: each row of YtgeclnnhblffkaaDoorRows.lean that lists a variable, with what it lists TIED to the program's text (the seventh form; the later family's looks); each row that meets fmt, with fmt's text TOLD by the authors' own Lean function (tested against real Go, not proved from fmt's source: count such statements apart). THE CARD IS WHAT COUNTS. Prove the row's statement (the work); the ties are given (YtgeclnnhblffkaaDoorTie.lean); close each card by the builder's one call (the guide's Derived/Test/ToyasCard.lean, 'card_holds'). Laid BY PROGRAM, IN A SANDBOX (cutbox-door.mjs). By AI agents, Wed Nov 11 2026. No macro, syntax, notation, axiom, sorry.
-/
import Derived.Test.YtgeclnnhblffkaaDoorRows
import GoSem.ClaimSeven
namespace Go.Proofs.YtgeclnnhblffkaaDoor
namespace Rows

/-- THE TIED CARD OF 'incipitlaw14.WordsMay'. -/
def wordsMayCard : Claim7 := { stood := { row := wordsMayRow, standIns := [], harness := (true, "2011575b3425c8f1a2c90562be29bc984abfd3513dd056441c5f9d96b687c77e"), looks := false }, kinds := [], alts := [], laidByText := true, laidKinds := [.data], laidTests := true, laidLooks := .later }
def WordsMayCardSaid : Prop := Claim7.holds Tryd.pinned (.plain (OpenSpec.ofChange wordsMaySpec)) wordsMayCard

/-- THE TIED CARD OF 'incipitlaw14.WordsTokens'. -/
def wordsTokensCard : Claim7 := { stood := { row := wordsTokensRow, standIns := [], harness := (true, "2011575b3425c8f1a2c90562be29bc984abfd3513dd056441c5f9d96b687c77e"), looks := false }, kinds := [], alts := [], laidByText := true, laidKinds := [.data], laidTests := true, laidLooks := .later }
def WordsTokensCardSaid : Prop := Claim7.holds Tryd.pinned (.plain (OpenSpec.ofChange wordsTokensSpec)) wordsTokensCard

/-- THE TIED CARD OF 'incipitlaw14.WordsTerms'. -/
def wordsTermsCard : Claim7 := { stood := { row := wordsTermsRow, standIns := [], harness := (true, "2011575b3425c8f1a2c90562be29bc984abfd3513dd056441c5f9d96b687c77e"), looks := false }, kinds := [], alts := [], laidByText := true, laidKinds := [.data], laidTests := true, laidLooks := .later }
def WordsTermsCardSaid : Prop := Claim7.holds Tryd.pinned (.plain (OpenSpec.ofChange wordsTermsSpec)) wordsTermsCard

/-- THE TIED CARD OF 'incipitlaw14.WordsBack'. -/
def wordsBackCard : Claim7 := { stood := { row := wordsBackRow, standIns := [], harness := (true, "2011575b3425c8f1a2c90562be29bc984abfd3513dd056441c5f9d96b687c77e"), looks := false }, kinds := [], alts := [], laidByText := true, laidKinds := [.data], laidTests := true, laidLooks := .later }
def WordsBackCardSaid : Prop := Claim7.holds Tryd.pinned (.plain (OpenSpec.ofChange wordsBackSpec)) wordsBackCard

/-- THE TIED CARD OF 'incipitlaw14.WordsOwn'. -/
def wordsOwnCard : Claim7 := { stood := { row := wordsOwnRow, standIns := [], harness := (true, "2011575b3425c8f1a2c90562be29bc984abfd3513dd056441c5f9d96b687c77e"), looks := false }, kinds := [], alts := [], laidByText := true, laidKinds := [.data], laidTests := true, laidLooks := .later }
def WordsOwnCardSaid : Prop := Claim7.holds Tryd.pinned (.plain (OpenSpec.ofChange wordsOwnSpec)) wordsOwnCard

/-- THE TIED CARD OF 'incipitlaw14.WordsBehind'. -/
def wordsBehindCard : Claim7 := { stood := { row := wordsBehindRow, standIns := [], harness := (true, "2011575b3425c8f1a2c90562be29bc984abfd3513dd056441c5f9d96b687c77e"), looks := false }, kinds := [], alts := [], laidByText := true, laidKinds := [.data], laidTests := true, laidLooks := .later }
def WordsBehindCardSaid : Prop := Claim7.holds Tryd.pinned (.plain (OpenSpec.ofChange wordsBehindSpec)) wordsBehindCard

/-- THE SECOND FORM's CARD OF 'incipitlaw14.WordsMay'. -/
def wordsMayUptoCard : Claim7 := { stood := { row := wordsMayUptoRow, standIns := [], harness := (true, "2011575b3425c8f1a2c90562be29bc984abfd3513dd056441c5f9d96b687c77e"), looks := false }, kinds := [], alts := [], laidByText := true, laidKinds := [.data], laidTests := true, laidLooks := .later }
def WordsMayUptoCardSaid : Prop := Claim7.holds Tryd.pinned (.plain (OpenSpec.upto wordsMaySpec)) wordsMayUptoCard

/-- THE SECOND FORM's CARD OF 'incipitlaw14.WordsTokens'. -/
def wordsTokensUptoCard : Claim7 := { stood := { row := wordsTokensUptoRow, standIns := [], harness := (true, "2011575b3425c8f1a2c90562be29bc984abfd3513dd056441c5f9d96b687c77e"), looks := false }, kinds := [], alts := [], laidByText := true, laidKinds := [.data], laidTests := true, laidLooks := .later }
def WordsTokensUptoCardSaid : Prop := Claim7.holds Tryd.pinned (.plain (OpenSpec.upto wordsTokensSpec)) wordsTokensUptoCard

/-- THE SECOND FORM's CARD OF 'incipitlaw14.WordsTerms'. -/
def wordsTermsUptoCard : Claim7 := { stood := { row := wordsTermsUptoRow, standIns := [], harness := (true, "2011575b3425c8f1a2c90562be29bc984abfd3513dd056441c5f9d96b687c77e"), looks := false }, kinds := [], alts := [], laidByText := true, laidKinds := [.data], laidTests := true, laidLooks := .later }
def WordsTermsUptoCardSaid : Prop := Claim7.holds Tryd.pinned (.plain (OpenSpec.upto wordsTermsSpec)) wordsTermsUptoCard

/-- THE SECOND FORM's CARD OF 'incipitlaw14.WordsBack'. -/
def wordsBackUptoCard : Claim7 := { stood := { row := wordsBackUptoRow, standIns := [], harness := (true, "2011575b3425c8f1a2c90562be29bc984abfd3513dd056441c5f9d96b687c77e"), looks := false }, kinds := [], alts := [], laidByText := true, laidKinds := [.data], laidTests := true, laidLooks := .later }
def WordsBackUptoCardSaid : Prop := Claim7.holds Tryd.pinned (.plain (OpenSpec.upto wordsBackSpec)) wordsBackUptoCard

/-- THE SECOND FORM's CARD OF 'incipitlaw14.WordsOwn'. -/
def wordsOwnUptoCard : Claim7 := { stood := { row := wordsOwnUptoRow, standIns := [], harness := (true, "2011575b3425c8f1a2c90562be29bc984abfd3513dd056441c5f9d96b687c77e"), looks := false }, kinds := [], alts := [], laidByText := true, laidKinds := [.data], laidTests := true, laidLooks := .later }
def WordsOwnUptoCardSaid : Prop := Claim7.holds Tryd.pinned (.plain (OpenSpec.upto wordsOwnSpec)) wordsOwnUptoCard

/-- THE SECOND FORM's CARD OF 'incipitlaw14.WordsBehind'. -/
def wordsBehindUptoCard : Claim7 := { stood := { row := wordsBehindUptoRow, standIns := [], harness := (true, "2011575b3425c8f1a2c90562be29bc984abfd3513dd056441c5f9d96b687c77e"), looks := false }, kinds := [], alts := [], laidByText := true, laidKinds := [.data], laidTests := true, laidLooks := .later }
def WordsBehindUptoCardSaid : Prop := Claim7.holds Tryd.pinned (.plain (OpenSpec.upto wordsBehindSpec)) wordsBehindUptoCard
end Rows
end Go.Proofs.YtgeclnnhblffkaaDoor
