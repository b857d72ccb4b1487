/-
  NARROWER THAN 'FOR EVERY INPUT', by the rows' own cells (each row's printed sentence says how): WordsMay: laid · WordsTerms: laid · WordsBack: laid.
  DERIVED. THE GIVEN ROWS OF THIS SEAT. 3 by the template 'for every input the law returns true; each argument reads behind the call as it read before'; 0 by the template 'total and deterministic' (their statements: YtimmfnjkknbofaaDoorTotals.lean).
  GIVEN WITH THE SEED: the statements are not yours to turn. If you find one false, say at which input.
  Laid BY PROGRAM, IN A SANDBOX (cutbox-rows.mjs): the forced cells as the released guide's own fill.sh prints them over the translation accf7e3319bbbd89… (all of the seat's roots in one cut). By AI agents, Wed Nov 11 2026. No macro, syntax, notation, axiom, sorry.
-/
import Derived.Test.YtimmfnjkknbofaaDoorChecked
import GoSem.Claim
import GoSem.ClaimJoined
import GoSem.ClaimMapViews
import Derived.JoinedTies
import Derived.KernelRfl
namespace Go.Proofs.YtimmfnjkknbofaaDoor
/- THE CELL 'sum', in the pinned program and in every row, IS THE sha256 OF THE DUMP (.gsa) THAT YtimmfnjkknbofaaDoorProg.lean LOADS. Nothing in Lean hashes anything: it is a label: what it is worth is what the hold of that sum in a sandbox is worth. -/
noncomputable def Tryd.pinned : Pinned := { name := "ytimmfnjkknbofaadoor", sum := "accf7e3319bbbd89a7af4411e6dfdd2c1e207d9ee48eaaa71a16a22e18faf7e4", checked := Tryd.checked }
namespace Rows
def none {H : Type} : Left H := { results := [], args := [] }

/- WHAT THE LISTED PACKAGE-LEVEL VARIABLES READ AS WHEN THE CALL BEGINS. Each datum BY PROGRAM (the guide's laid-datum.mjs) off the statement by which the dump's own 'gosem.cut.vars' lays the variable. In a bare row this is a premise. The card (YtimmfnjkknbofaaDoorCards.lean) ties it to the program's text. -/
def laid_incipit_fold_letterRows {H : Type} : DataW H := .agg [.agg [.lit (.int .i64 48), .lit (.int .i64 57)], .agg [.lit (.int .i64 65), .lit (.int .i64 90)], .agg [.lit (.int .i64 97), .lit (.int .i64 122)], .agg [.lit (.int .i64 192), .lit (.int .i64 214)], .agg [.lit (.int .i64 216), .lit (.int .i64 246)], .agg [.lit (.int .i64 248), .lit (.int .i64 591)], .agg [.lit (.int .i64 880), .lit (.int .i64 1279)]]

/-- 'incipitlaw14.WordsMay': WHATEVER THE INPUT: true; the input reads as it did. -/
def wordsMaySpec : ChangeSpec := { name := "wordsMay", fn := fun _ => fun
  | [d1, d2, d3] => { results := [.lit (.bool true)], args := [d1, d2, d3] }
  | _ => none }
def wordsMayRow : OpenClaim := { program := "ytimmfnjkknbofaadoor", sum := "accf7e3319bbbd89a7af4411e6dfdd2c1e207d9ee48eaaa71a16a22e18faf7e4", func := "incipit/incipitlaw14.WordsMay", spec := "wordsMay", inPlace := ["internal/abi.NoEscape", "internal/bytealg.MakeNoZero"], unfollowed := true, recurses := true, named := ["incipit/fold.letterRows"], apart := false, laid := [("incipit/fold.letterRows", laid_incipit_fold_letterRows)] }
def WordsMaySaid : Prop := wordsMayRow.holds Tryd.pinned (OpenSpec.ofChange wordsMaySpec)

/-- ITS FALSE NEIGHBOUR: 'it returns false'. Refute it at one input. -/
def wordsMayWrong : ChangeSpec := { name := "wordsMay", fn := fun _ => fun
  | [d1, d2, d3] => { results := [.lit (.bool false)], args := [d1, d2, d3] }
  | _ => none }
def WordsMayWrongFalsely : Prop := wordsMayRow.holds Tryd.pinned (OpenSpec.ofChange wordsMayWrong)

/-- 'incipitlaw14.WordsTerms': WHATEVER THE INPUT: true; the input reads as it did. -/
def wordsTermsSpec : ChangeSpec := { name := "wordsTerms", fn := fun _ => fun
  | [d1, d2, d3] => { results := [.lit (.bool true)], args := [d1, d2, d3] }
  | _ => none }
def wordsTermsRow : OpenClaim := { program := "ytimmfnjkknbofaadoor", sum := "accf7e3319bbbd89a7af4411e6dfdd2c1e207d9ee48eaaa71a16a22e18faf7e4", func := "incipit/incipitlaw14.WordsTerms", spec := "wordsTerms", inPlace := ["internal/abi.NoEscape", "internal/bytealg.MakeNoZero"], unfollowed := true, recurses := true, named := ["incipit/fold.letterRows"], apart := false, laid := [("incipit/fold.letterRows", laid_incipit_fold_letterRows)] }
def WordsTermsSaid : Prop := wordsTermsRow.holds Tryd.pinned (OpenSpec.ofChange wordsTermsSpec)

/-- ITS FALSE NEIGHBOUR: 'it returns false'. Refute it at one input. -/
def wordsTermsWrong : ChangeSpec := { name := "wordsTerms", fn := fun _ => fun
  | [d1, d2, d3] => { results := [.lit (.bool false)], args := [d1, d2, d3] }
  | _ => none }
def WordsTermsWrongFalsely : Prop := wordsTermsRow.holds Tryd.pinned (OpenSpec.ofChange wordsTermsWrong)

/-- 'incipitlaw14.WordsBack': WHATEVER THE INPUT: true; the input reads as it did. -/
def wordsBackSpec : ChangeSpec := { name := "wordsBack", fn := fun _ => fun
  | [d1, d2] => { results := [.lit (.bool true)], args := [d1, d2] }
  | _ => none }
def wordsBackRow : OpenClaim := { program := "ytimmfnjkknbofaadoor", sum := "accf7e3319bbbd89a7af4411e6dfdd2c1e207d9ee48eaaa71a16a22e18faf7e4", func := "incipit/incipitlaw14.WordsBack", spec := "wordsBack", inPlace := ["internal/abi.NoEscape", "internal/bytealg.MakeNoZero"], unfollowed := true, recurses := true, named := ["incipit/fold.letterRows"], apart := false, laid := [("incipit/fold.letterRows", laid_incipit_fold_letterRows)] }
def WordsBackSaid : Prop := wordsBackRow.holds Tryd.pinned (OpenSpec.ofChange wordsBackSpec)

/-- ITS FALSE NEIGHBOUR: 'it returns false'. Refute it at one input. -/
def wordsBackWrong : ChangeSpec := { name := "wordsBack", fn := fun _ => fun
  | [d1, d2] => { results := [.lit (.bool false)], args := [d1, d2] }
  | _ => none }
def WordsBackWrongFalsely : Prop := wordsBackRow.holds Tryd.pinned (OpenSpec.ofChange wordsBackWrong)

/- THE SECOND FORM. 'bulk': how many values and letters a reading holds, each counted each time it is reached (what is shared counts as often as it is met; a slice's spare places count too). A statement '..UptoSaid' is the law's where the arguments, and the package variables that the reading takes, are together of bulk at most 1048576: NARROWER than '..Said'. Prove '..Said' where nothing that the law and all that it calls make is longer than what came in: it says more and counts as full. Else prove '..UptoSaid'. A law counts once. -/
mutual
def uptoBulk {H : Type} : DataW H → Nat
  | .lit (.string bytes) => bytes.length + 1
  | .lit _ => 1
  | .nil => 1
  | .ptr d => uptoBulk d + 1
  | .slice elems spare => uptoBulkAll elems + uptoBulkAll spare + 1
  | .agg parts => uptoBulkAll parts + 1
  | .iface _ d => uptoBulk d + 1
  | .map entries => uptoBulkEntries entries + 1
  | .held _ => 1
def uptoBulkAll {H : Type} : List (DataW H) → Nat
  | [] => 0
  | d :: r => uptoBulk d + uptoBulkAll r
def uptoBulkEntries {H : Type} : List (Lit × DataW H) → Nat
  | [] => 0
  | x :: r => uptoBulkEntry x + uptoBulkEntries r
def uptoBulkEntry {H : Type} : Lit × DataW H → Nat
  | (.string bytes, d) => bytes.length + uptoBulk d + 1
  | (_, d) => uptoBulk d + 1
 end
def uptoSmall : (H : Type) → List (DataW H) → Bool := fun _ ds => decide (uptoBulkAll ds ≤ 1048576)
def OpenSpec.upto (s : _root_.Go.ChangeSpec) : _root_.Go.OpenSpec := { _root_.Go.OpenSpec.ofChange s with cond := some uptoSmall }

/-- 'incipitlaw14.WordsMay', WHERE WHAT IT READS IS OF BULK AT MOST 1048576: true; the input reads as it did. -/
def wordsMayUptoRow : OpenClaim := { program := "ytimmfnjkknbofaadoor", sum := "accf7e3319bbbd89a7af4411e6dfdd2c1e207d9ee48eaaa71a16a22e18faf7e4", func := "incipit/incipitlaw14.WordsMay", spec := "wordsMay", inPlace := ["internal/abi.NoEscape", "internal/bytealg.MakeNoZero"], unfollowed := true, recurses := true, named := ["incipit/fold.letterRows"], apart := false, laid := [("incipit/fold.letterRows", laid_incipit_fold_letterRows)], narrowed := true }
def WordsMayUptoSaid : Prop := wordsMayUptoRow.holds Tryd.pinned (OpenSpec.upto wordsMaySpec)

/-- 'incipitlaw14.WordsTerms', WHERE WHAT IT READS IS OF BULK AT MOST 1048576: true; the input reads as it did. -/
def wordsTermsUptoRow : OpenClaim := { program := "ytimmfnjkknbofaadoor", sum := "accf7e3319bbbd89a7af4411e6dfdd2c1e207d9ee48eaaa71a16a22e18faf7e4", func := "incipit/incipitlaw14.WordsTerms", spec := "wordsTerms", inPlace := ["internal/abi.NoEscape", "internal/bytealg.MakeNoZero"], unfollowed := true, recurses := true, named := ["incipit/fold.letterRows"], apart := false, laid := [("incipit/fold.letterRows", laid_incipit_fold_letterRows)], narrowed := true }
def WordsTermsUptoSaid : Prop := wordsTermsUptoRow.holds Tryd.pinned (OpenSpec.upto wordsTermsSpec)

/-- 'incipitlaw14.WordsBack', WHERE WHAT IT READS IS OF BULK AT MOST 1048576: true; the input reads as it did. -/
def wordsBackUptoRow : OpenClaim := { program := "ytimmfnjkknbofaadoor", sum := "accf7e3319bbbd89a7af4411e6dfdd2c1e207d9ee48eaaa71a16a22e18faf7e4", func := "incipit/incipitlaw14.WordsBack", spec := "wordsBack", inPlace := ["internal/abi.NoEscape", "internal/bytealg.MakeNoZero"], unfollowed := true, recurses := true, named := ["incipit/fold.letterRows"], apart := false, laid := [("incipit/fold.letterRows", laid_incipit_fold_letterRows)], narrowed := true }
def WordsBackUptoSaid : Prop := wordsBackUptoRow.holds Tryd.pinned (OpenSpec.upto wordsBackSpec)

end Rows
end Go.Proofs.YtimmfnjkknbofaaDoor
