/-
  No cell of these rows narrows 'for every input' (looked for: loops, veiled, ifaces, maps, wideKeys, modest, calm, conditions, laid).
  DERIVED. THE GIVEN ROWS OF THIS SEAT. 6 by the template 'for every input the law returns true; each argument reads behind the call as it read before'; 0 by the template 'total and deterministic' (their statements: YtbopcppagfhjnaaTotals.lean).
  GIVEN WITH THE SEED: the statements are not yours to turn. If you find one false, say at which input.
  Laid BY PROGRAM, IN A SANDBOX (cutbox-rows.mjs): the forced cells as the released guide's own fill.sh prints them over the translation 411b63cbcf390faf… (all of the seat's roots in one cut). By AI agents, Wed Nov 11 2026. No macro, syntax, notation, axiom, sorry.
-/
import Derived.Test.YtbopcppagfhjnaaChecked
import GoSem.Claim
import GoSem.ClaimJoined
import GoSem.ClaimMapViews
import Derived.JoinedTies
import Derived.KernelRfl
namespace Go.Proofs.Ytbopcppagfhjnaa
/- THE CELL 'sum', in the pinned program and in every row, IS THE sha256 OF THE DUMP (.gsa) THAT YtbopcppagfhjnaaProg.lean LOADS. Nothing in Lean hashes anything: it is a label: what it is worth is what the hold of that sum in a sandbox is worth. -/
noncomputable def Try.pinned : Pinned := { name := "ytbopcppagfhjnaa", sum := "411b63cbcf390faf090ba9e2ffcec44754c2b083fd0213f7d5dfac3973ebdf2f", checked := Try.checked }
namespace Rows
def none {H : Type} : Left H := { results := [], args := [] }

/-- 'incipitlaw01.PackPuts': WHATEVER THE INPUT: true; the input reads as it did. -/
def packPutsSpec : ChangeSpec := { name := "packPuts", fn := fun _ => fun
  | [d1, d2, d3] => { results := [.lit (.bool true)], args := [d1, d2, d3] }
  | _ => none }
def packPutsRow : OpenClaim := { program := "ytbopcppagfhjnaa", sum := "411b63cbcf390faf090ba9e2ffcec44754c2b083fd0213f7d5dfac3973ebdf2f", func := "incipit/incipitlaw01.PackPuts", spec := "packPuts", inPlace := ["internal/bytealg.Compare"], apart := false }
def PackPutsSaid : Prop := packPutsRow.holds Try.pinned (OpenSpec.ofChange packPutsSpec)

/-- ITS FALSE NEIGHBOUR: 'it returns false'. Refute it at one input. -/
def packPutsWrong : ChangeSpec := { name := "packPuts", fn := fun _ => fun
  | [d1, d2, d3] => { results := [.lit (.bool false)], args := [d1, d2, d3] }
  | _ => none }
def PackPutsWrongFalsely : Prop := packPutsRow.holds Try.pinned (OpenSpec.ofChange packPutsWrong)

/-- 'incipitlaw01.PackTakes': WHATEVER THE INPUT: true; the input reads as it did. -/
def packTakesSpec : ChangeSpec := { name := "packTakes", fn := fun _ => fun
  | [d1, d2] => { results := [.lit (.bool true)], args := [d1, d2] }
  | _ => none }
def packTakesRow : OpenClaim := { program := "ytbopcppagfhjnaa", sum := "411b63cbcf390faf090ba9e2ffcec44754c2b083fd0213f7d5dfac3973ebdf2f", func := "incipit/incipitlaw01.PackTakes", spec := "packTakes", inPlace := ["internal/bytealg.Compare"], apart := false }
def PackTakesSaid : Prop := packTakesRow.holds Try.pinned (OpenSpec.ofChange packTakesSpec)

/-- ITS FALSE NEIGHBOUR: 'it returns false'. Refute it at one input. -/
def packTakesWrong : ChangeSpec := { name := "packTakes", fn := fun _ => fun
  | [d1, d2] => { results := [.lit (.bool false)], args := [d1, d2] }
  | _ => none }
def PackTakesWrongFalsely : Prop := packTakesRow.holds Try.pinned (OpenSpec.ofChange packTakesWrong)

/-- 'incipitlaw01.PackCompares': WHATEVER THE INPUT: true; the input reads as it did. -/
def packComparesSpec : ChangeSpec := { name := "packCompares", fn := fun _ => fun
  | [d1, d2] => { results := [.lit (.bool true)], args := [d1, d2] }
  | _ => none }
def packComparesRow : OpenClaim := { program := "ytbopcppagfhjnaa", sum := "411b63cbcf390faf090ba9e2ffcec44754c2b083fd0213f7d5dfac3973ebdf2f", func := "incipit/incipitlaw01.PackCompares", spec := "packCompares", inPlace := ["internal/bytealg.Compare"], apart := false }
def PackComparesSaid : Prop := packComparesRow.holds Try.pinned (OpenSpec.ofChange packComparesSpec)

/-- ITS FALSE NEIGHBOUR: 'it returns false'. Refute it at one input. -/
def packComparesWrong : ChangeSpec := { name := "packCompares", fn := fun _ => fun
  | [d1, d2] => { results := [.lit (.bool false)], args := [d1, d2] }
  | _ => none }
def PackComparesWrongFalsely : Prop := packComparesRow.holds Try.pinned (OpenSpec.ofChange packComparesWrong)

/-- 'incipitlaw01.PackBack': WHATEVER THE INPUT: true; the input reads as it did. -/
def packBackSpec : ChangeSpec := { name := "packBack", fn := fun _ => fun
  | [d1, d2] => { results := [.lit (.bool true)], args := [d1, d2] }
  | _ => none }
def packBackRow : OpenClaim := { program := "ytbopcppagfhjnaa", sum := "411b63cbcf390faf090ba9e2ffcec44754c2b083fd0213f7d5dfac3973ebdf2f", func := "incipit/incipitlaw01.PackBack", spec := "packBack", inPlace := ["internal/bytealg.Compare"], apart := false }
def PackBackSaid : Prop := packBackRow.holds Try.pinned (OpenSpec.ofChange packBackSpec)

/-- ITS FALSE NEIGHBOUR: 'it returns false'. Refute it at one input. -/
def packBackWrong : ChangeSpec := { name := "packBack", fn := fun _ => fun
  | [d1, d2] => { results := [.lit (.bool false)], args := [d1, d2] }
  | _ => none }
def PackBackWrongFalsely : Prop := packBackRow.holds Try.pinned (OpenSpec.ofChange packBackWrong)

/-- 'incipitlaw01.PackOrder': WHATEVER THE INPUT: true; the input reads as it did. -/
def packOrderSpec : ChangeSpec := { name := "packOrder", fn := fun _ => fun
  | [d1, d2] => { results := [.lit (.bool true)], args := [d1, d2] }
  | _ => none }
def packOrderRow : OpenClaim := { program := "ytbopcppagfhjnaa", sum := "411b63cbcf390faf090ba9e2ffcec44754c2b083fd0213f7d5dfac3973ebdf2f", func := "incipit/incipitlaw01.PackOrder", spec := "packOrder", inPlace := ["internal/bytealg.Compare"], unfollowed := true, recurses := true, apart := false }
def PackOrderSaid : Prop := packOrderRow.holds Try.pinned (OpenSpec.ofChange packOrderSpec)

/-- ITS FALSE NEIGHBOUR: 'it returns false'. Refute it at one input. -/
def packOrderWrong : ChangeSpec := { name := "packOrder", fn := fun _ => fun
  | [d1, d2] => { results := [.lit (.bool false)], args := [d1, d2] }
  | _ => none }
def PackOrderWrongFalsely : Prop := packOrderRow.holds Try.pinned (OpenSpec.ofChange packOrderWrong)

/-- 'incipitlaw01.PackBetween': WHATEVER THE INPUT: true; the input reads as it did. -/
def packBetweenSpec : ChangeSpec := { name := "packBetween", fn := fun _ => fun
  | [d1, d2] => { results := [.lit (.bool true)], args := [d1, d2] }
  | _ => none }
def packBetweenRow : OpenClaim := { program := "ytbopcppagfhjnaa", sum := "411b63cbcf390faf090ba9e2ffcec44754c2b083fd0213f7d5dfac3973ebdf2f", func := "incipit/incipitlaw01.PackBetween", spec := "packBetween", inPlace := ["internal/bytealg.Compare"], apart := false }
def PackBetweenSaid : Prop := packBetweenRow.holds Try.pinned (OpenSpec.ofChange packBetweenSpec)

/-- ITS FALSE NEIGHBOUR: 'it returns false'. Refute it at one input. -/
def packBetweenWrong : ChangeSpec := { name := "packBetween", fn := fun _ => fun
  | [d1, d2] => { results := [.lit (.bool false)], args := [d1, d2] }
  | _ => none }
def PackBetweenWrongFalsely : Prop := packBetweenRow.holds Try.pinned (OpenSpec.ofChange packBetweenWrong)

/- THE SECOND FORM. 'bulk': how many values and letters a reading holds, each counted each time it is reached (what is shared counts as often as it is met; a slice's spare places count too). A statement '..UptoSaid' is the law's where the arguments, and the package variables that the reading takes, are together of bulk at most 1048576: NARROWER than '..Said'. Prove '..Said' where nothing that the law and all that it calls make is longer than what came in: it says more and counts as full. Else prove '..UptoSaid'. A law counts once. -/
mutual
def uptoBulk {H : Type} : DataW H → Nat
  | .lit (.string bytes) => bytes.length + 1
  | .lit _ => 1
  | .nil => 1
  | .ptr d => uptoBulk d + 1
  | .slice elems spare => uptoBulkAll elems + uptoBulkAll spare + 1
  | .agg parts => uptoBulkAll parts + 1
  | .iface _ d => uptoBulk d + 1
  | .map entries => uptoBulkEntries entries + 1
  | .held _ => 1
def uptoBulkAll {H : Type} : List (DataW H) → Nat
  | [] => 0
  | d :: r => uptoBulk d + uptoBulkAll r
def uptoBulkEntries {H : Type} : List (Lit × DataW H) → Nat
  | [] => 0
  | x :: r => uptoBulkEntry x + uptoBulkEntries r
def uptoBulkEntry {H : Type} : Lit × DataW H → Nat
  | (.string bytes, d) => bytes.length + uptoBulk d + 1
  | (_, d) => uptoBulk d + 1
 end
def uptoSmall : (H : Type) → List (DataW H) → Bool := fun _ ds => decide (uptoBulkAll ds ≤ 1048576)
def OpenSpec.upto (s : _root_.Go.ChangeSpec) : _root_.Go.OpenSpec := { _root_.Go.OpenSpec.ofChange s with cond := some uptoSmall }

/-- 'incipitlaw01.PackPuts', WHERE WHAT IT READS IS OF BULK AT MOST 1048576: true; the input reads as it did. -/
def packPutsUptoRow : OpenClaim := { program := "ytbopcppagfhjnaa", sum := "411b63cbcf390faf090ba9e2ffcec44754c2b083fd0213f7d5dfac3973ebdf2f", func := "incipit/incipitlaw01.PackPuts", spec := "packPuts", inPlace := ["internal/bytealg.Compare"], apart := false, narrowed := true }
def PackPutsUptoSaid : Prop := packPutsUptoRow.holds Try.pinned (OpenSpec.upto packPutsSpec)

/-- 'incipitlaw01.PackTakes', WHERE WHAT IT READS IS OF BULK AT MOST 1048576: true; the input reads as it did. -/
def packTakesUptoRow : OpenClaim := { program := "ytbopcppagfhjnaa", sum := "411b63cbcf390faf090ba9e2ffcec44754c2b083fd0213f7d5dfac3973ebdf2f", func := "incipit/incipitlaw01.PackTakes", spec := "packTakes", inPlace := ["internal/bytealg.Compare"], apart := false, narrowed := true }
def PackTakesUptoSaid : Prop := packTakesUptoRow.holds Try.pinned (OpenSpec.upto packTakesSpec)

/-- 'incipitlaw01.PackCompares', WHERE WHAT IT READS IS OF BULK AT MOST 1048576: true; the input reads as it did. -/
def packComparesUptoRow : OpenClaim := { program := "ytbopcppagfhjnaa", sum := "411b63cbcf390faf090ba9e2ffcec44754c2b083fd0213f7d5dfac3973ebdf2f", func := "incipit/incipitlaw01.PackCompares", spec := "packCompares", inPlace := ["internal/bytealg.Compare"], apart := false, narrowed := true }
def PackComparesUptoSaid : Prop := packComparesUptoRow.holds Try.pinned (OpenSpec.upto packComparesSpec)

/-- 'incipitlaw01.PackBack', WHERE WHAT IT READS IS OF BULK AT MOST 1048576: true; the input reads as it did. -/
def packBackUptoRow : OpenClaim := { program := "ytbopcppagfhjnaa", sum := "411b63cbcf390faf090ba9e2ffcec44754c2b083fd0213f7d5dfac3973ebdf2f", func := "incipit/incipitlaw01.PackBack", spec := "packBack", inPlace := ["internal/bytealg.Compare"], apart := false, narrowed := true }
def PackBackUptoSaid : Prop := packBackUptoRow.holds Try.pinned (OpenSpec.upto packBackSpec)

/-- 'incipitlaw01.PackOrder', WHERE WHAT IT READS IS OF BULK AT MOST 1048576: true; the input reads as it did. -/
def packOrderUptoRow : OpenClaim := { program := "ytbopcppagfhjnaa", sum := "411b63cbcf390faf090ba9e2ffcec44754c2b083fd0213f7d5dfac3973ebdf2f", func := "incipit/incipitlaw01.PackOrder", spec := "packOrder", inPlace := ["internal/bytealg.Compare"], unfollowed := true, recurses := true, apart := false, narrowed := true }
def PackOrderUptoSaid : Prop := packOrderUptoRow.holds Try.pinned (OpenSpec.upto packOrderSpec)

/-- 'incipitlaw01.PackBetween', WHERE WHAT IT READS IS OF BULK AT MOST 1048576: true; the input reads as it did. -/
def packBetweenUptoRow : OpenClaim := { program := "ytbopcppagfhjnaa", sum := "411b63cbcf390faf090ba9e2ffcec44754c2b083fd0213f7d5dfac3973ebdf2f", func := "incipit/incipitlaw01.PackBetween", spec := "packBetween", inPlace := ["internal/bytealg.Compare"], apart := false, narrowed := true }
def PackBetweenUptoSaid : Prop := packBetweenUptoRow.holds Try.pinned (OpenSpec.upto packBetweenSpec)

end Rows
end Go.Proofs.Ytbopcppagfhjnaa
