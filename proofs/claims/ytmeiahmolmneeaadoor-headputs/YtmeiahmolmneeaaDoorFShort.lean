/- Contracts: whether frames bear so little that they may be gone through (incipitlaw04.short); whether two are alike, byte by byte (incipitlaw04.alike). -/
import Derived.Test.YtmeiahmolmneeaaDoorFLive
namespace Go.Proofs.YtmeiahmolmneeaaDoor
set_option maxRecDepth 20000
open Go.RowKit
set_option linter.unusedVariables false

/-- a frame as it is handed in -/
structure Fm where
  k : Int
  p : Int
  e : Nat
  a : Option Addr
  n : Nat
  c : Nat
def Fm.cells (f : Fm) : List Value := [.int .i64 f.k, .int .i64 f.p, .int .u64 f.e, .slice f.a f.n f.c]
def Fm.val (f : Fm) : Value := .agg #[.int .i64 f.k, .int .i64 f.p, .int .u64 f.e, .slice f.a f.n f.c]

theorem flat_cell (b : Nat) : ∀ (fs : List Fm) (i j : Nat) (f : Fm), fs[i]? = some f → j < 4 → ((fs.map Fm.cells).flatten)[i * 4 + j]? = f.cells[j]?
  | [], i, j, f, h, _ => by simp at h
  | g :: fs, 0, j, f, h, hj => by
    simp at h
    subst h
    rw [List.map_cons, List.flatten_cons, List.getElem?_append_left (by simp [Fm.cells]; omega)]
    simp
  | g :: fs, i + 1, j, f, h, hj => by
    have ih := flat_cell b fs i j f (by simpa using h) hj
    rw [List.map_cons, List.flatten_cons, List.getElem?_append_right (by simp [Fm.cells]; omega)]
    rw [show (i + 1) * 4 + j - g.cells.length = i * 4 + j by simp [Fm.cells]; omega]
    exact ih

def shortB (fs : List Fm) : Bool := fs.all fun f => decide (f.n ≤ 3000)

/-- two frames are alike -/
def alikeB (k p : Int) (e : Nat) (xs : List Int) (k' p' : Int) (e' : Nat) (ys : List Int) : Bool := decide (k = k' ∧ p = p' ∧ e = e' ∧ xs = ys)

end Go.Proofs.YtmeiahmolmneeaaDoor
