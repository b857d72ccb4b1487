/- A range over a function whose values lie in rows of numbers that the iterator makes ('Iter5'): what it makes and holds numbers stays, all else of its own it may turn. No package's function. -/
import Derived.Test.YtfihnmdhclnhgaaKRange
namespace Go.Proofs.Ytfihnmdhclnhgaa
set_option maxRecDepth 20000
open Go.RowKit
set_option linter.unusedVariables false

/-- a block that is no row of numbers -/
def noInts (W : World) (j : Nat) : Prop := ∀ cs f, W.heap[j]? ≠ some (.cells cs 3 f)
/-- as Iter2; what is handed out is known by a relation; of what the iterator made it writes no numbers again -/
def Iter5 {α : Type} (P : Program) (g : Nat) (lb : Array Value) (Enc : α → (Nat → Prop) → World → Array Value → Prop) (xs : List α) (V : Nat → World → Prop) : Prop :=
  ∀ (l : Nat) (J Jx : (Nat → Prop) → Nat → World → Prop), (∀ Y k W W', J Y k W → Only (fun j => Y j ∧ noInts W j) W W' → J (more Y W W') k W') → (∀ Y k W W', Jx Y k W → Only (fun j => Y j ∧ noInts W j) W W' → Jx (more Y W W') k W') → (∀ Y k W, J Y k W → V k W) →
    (∀ Y k (hk : k < xs.length) W args, J Y k W → Enc xs[k] Y W args → YieldAt Fence.wide 1 P l args W fun e W' => (e = .returned (.bool true) ∧ J Y (k + 1) W' ∧ KeepsY Y W W') ∨ (e = .returned (.bool false) ∧ Jx Y (k + 1) W' ∧ KeepsY Y W W')) →
    ∀ Y W, J Y 0 W → CallsIn Fence.wide 2 P g (#[.func (.yield l) #[] #[]] ++ lb) W fun e W' => (∃ v, e = .returned v) ∧ ∃ Y', (J Y' xs.length W' ∨ ∃ k, k < xs.length ∧ Jx Y' (k + 1) W')
theorem Iter.five {α : Type} {P : Program} {g : Nat} {lb : Array Value} {encs : α → Array Value} {xs : List α} {V : Nat → World → Prop} (h : Iter P g lb encs xs V) : Iter5 P g lb (fun x _ _ args => args = encs x) xs V := by
  intro l J Jx hJ hJx hV hY Y W h0
  exact h l J Jx (fun Y k W W' hj hb => hJ Y k W W' hj (only_of_below hb)) hV (fun Y k hk W hj => yield_weaken (hY Y k hk W _ hj rfl) (fun e w => Or.imp id (fun h => ⟨h.1, h.2.1⟩))) Y W h0

end Go.Proofs.Ytfihnmdhclnhgaa
