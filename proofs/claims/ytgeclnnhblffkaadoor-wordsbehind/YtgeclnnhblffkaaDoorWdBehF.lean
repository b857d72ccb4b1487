/- Tokens of two texts, one behind the other (pure). -/
import Derived.Test.YtgeclnnhblffkaaDoorWdToks
namespace Go.Proofs.YtgeclnnhblffkaaDoor
set_option maxRecDepth 20000
open Go.RowKit
set_option linter.unusedVariables false
set_option linter.unusedSimpArgs false
set_option maxRecDepth 100000

def shiftT (n : Nat) (x : Tk) : Tk := (x.1, x.2 + n)
theorem zip_shift {α : Type} : ∀ (l : List α) (k n : Nat), l.zipIdx (k + n) = (l.zipIdx k).map fun p => (p.1, p.2 + n)
  | [], _, _ => rfl
  | a :: l, k, n => by
    rw [List.zipIdx_cons, List.zipIdx_cons, List.map_cons, show k + n + 1 = k + 1 + n by omega, zip_shift l (k + 1) n]
theorem zip_app {α : Type} : ∀ (a b : List α) (k : Nat), (a ++ b).zipIdx k = a.zipIdx k ++ b.zipIdx (k + a.length)
  | [], b, k => by simp
  | x :: a, b, k => by
    rw [List.cons_append, List.zipIdx_cons, List.zipIdx_cons, List.cons_append, zip_app a b (k + 1), List.length_cons, show k + 1 + a.length = k + (a.length + 1) by omega]
theorem wdsN_app {c : Nat} (hc : letN c = false) (a b : List Nat) : wdsN (a ++ c :: b) = wdsN a ++ (wdsN b).map fun p => (p.1, p.2 + (wds a).length) := by
  unfold wdsN
  rw [wds_app hc, zip_app, zip_shift]
theorem tok_app (C : Cn) {c : Nat} (hc : letN c = false) (a b : List Nat) : tokC C (a ++ c :: b) = tokC C a ++ (tokC C b).map (shiftT (wds a).length) := by
  unfold tokC
  split
  · unfold tokL
    rw [wdsN_app hc, List.filter_append, List.map_append, List.filter_map, List.map_map, List.map_map]
    rfl
  · rfl
theorem rs_blank (b : List Int) (hb : ByteOk b) : rs (32 :: b) = 32 :: rs b := by
  have hf : formL ((32 : Nat) : Int) = [32] := by decide
  have hok : ByteOk (32 :: b) := by
    intro z hz
    rcases List.mem_cons.1 hz with rfl | h
    · omega
    · exact hb z h
  have hd : decN (32 :: b) = (32, 1) := by
    have := dec_form (b := 32 :: b) hok (r := 32) (by decide) (by rw [hf]; exact ⟨b, rfl⟩)
    rw [hf] at this
    exact this
  rw [rs_on (by simp), hd]
  rfl
theorem rs_app {a b : List Int} (ha : ByteOk a) (hb : ByteOk b) (hc : noOn b) : rs (a ++ b) = rs a ++ rs b := by
  unfold rs
  rw [runes_app ha hb hc, List.map_append, List.map_map]
  rfl
theorem rs_both {a b : List Int} (ha : ByteOk a) (hb : ByteOk b) : rs (a ++ 32 :: b) = rs a ++ 32 :: rs b := by
  have hok : ByteOk (32 :: b) := by
    intro z hz
    rcases List.mem_cons.1 hz with rfl | h
    · omega
    · exact hb z h
  rw [rs_app ha hok (by intro z hz; simp at hz; omega), rs_blank b hb]
theorem let_blank : letN 32 = false := by decide
theorem tok_both (C : Cn) {a b : List Int} (ha : ByteOk a) (hb : ByteOk b) : tokC C (rs (a ++ 32 :: b)) = tokC C (rs a) ++ (tokC C (rs b)).map (shiftT (wds (rs a)).length) := by
  rw [rs_both ha hb, tok_app C let_blank]
theorem count_both {a b : List Int} (ha : ByteOk a) (hb : ByteOk b) : (wds (rs (a ++ 32 :: b))).length = (wds (rs a)).length + (wds (rs b)).length := by
  rw [rs_both ha hb, wds_app let_blank, List.length_append]

end Go.Proofs.YtgeclnnhblffkaaDoor
