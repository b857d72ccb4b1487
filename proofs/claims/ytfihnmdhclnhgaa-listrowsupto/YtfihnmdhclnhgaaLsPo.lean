/- Postings, pure: which one may be behind another one. (What layer 15's PoMath has of it, for a seat that reads no bytes.) No program. -/
import Derived.Test.YtfihnmdhclnhgaaOwn
namespace Go.Proofs.Ytfihnmdhclnhgaa
set_option maxRecDepth 20000
open Go.RowKit
set_option linter.unusedVariables false

structure Po where
  doc : Nat
  pos : List Int
def noPo : Po := ⟨0, []⟩
def risesB : Int → List Int → Bool
  | _, [] => true
  | last, x :: xs => decide (last < x) && decide (x ≤ 1048576) && risesB x xs
def posB (l : List Int) : Bool := decide (1 ≤ l.length) && decide (l.length ≤ 2000) && risesB (-1) l
def mayB (prev : Nat) (p : Po) : Bool := decide (prev < p.doc) && decide (p.doc ≤ 2147483647) && posB p.pos
def checkP (prev : Nat) (p : Po) : Int := if mayB prev p = true then 0 else 150
/-- are all of them, one behind the other -/
def listOk : Nat → List Po → Bool
  | _, [] => true
  | prev, p :: ps => mayB prev p && listOk p.doc ps
def lastDoc : Nat → List Po → Nat
  | prev, [] => prev
  | _, p :: ps => lastDoc p.doc ps
theorem lastDoc_snoc : ∀ (l : List Po) (prev : Nat) (p : Po), lastDoc prev (l ++ [p]) = p.doc
  | [], _, _ => rfl
  | q :: l, _, p => lastDoc_snoc l q.doc p
theorem listOk_append : ∀ (l m : List Po) (prev : Nat), listOk prev (l ++ m) = (listOk prev l && listOk (lastDoc prev l) m)
  | [], m, prev => by simp [listOk, lastDoc]
  | p :: ps, m, prev => by rw [List.cons_append, listOk, listOk_append ps m p.doc, listOk, lastDoc, Bool.and_assoc]
theorem listOk_snoc (l : List Po) (prev : Nat) (p : Po) : listOk prev (l ++ [p]) = (listOk prev l && mayB (lastDoc prev l) p) := by
  rw [listOk_append]; simp [listOk]
theorem rises_bound : ∀ (xs : List Int) (l : Int), risesB l xs = true → ∀ x ∈ xs, l < x ∧ x ≤ 1048576
  | [], _, _, x, hx => by cases hx
  | y :: xs, l, h, x, hx => by
    simp only [risesB, Bool.and_eq_true, decide_eq_true_iff] at h
    rcases List.mem_cons.1 hx with rfl | hx
    · exact h.1
    · have := rises_bound xs y h.2 x hx
      omega
theorem may_parts {prev : Nat} {p : Po} (h : mayB prev p = true) : prev < p.doc ∧ p.doc ≤ 2147483647 ∧ 1 ≤ p.pos.length ∧ p.pos.length ≤ 2000 ∧ risesB (-1) p.pos = true := by
  simp only [mayB, posB, Bool.and_eq_true, decide_eq_true_iff] at h
  exact ⟨h.1.1, h.1.2, h.2.1.1, h.2.1.2, h.2.2⟩

end Go.Proofs.Ytfihnmdhclnhgaa
