/- Contract: package posting's next: the posting that a reader's bytes begin with. -/
import Derived.Test.YtmjkpgmmfooajaaPoGv
import Derived.Test.YtmjkpgmmfooajaaPoChk
namespace Go.Proofs.Ytmjkpgmmfooajaa
set_option maxRecDepth 20000
open Go.RowKit
set_option linter.unusedVariables false
set_option linter.unusedSimpArgs false
set_option maxRecDepth 100000

def nextQ (prev : Nat) (zs : List Int) : Po := if nextOk prev zs = true then nextPo prev zs else noPo
def nextE (prev : Nat) (zs : List Int) : Int := if nextOk prev zs = true then 0 else 150

/-- what next answers -/
def GivesNx (w : World) (u : Value) (b : Nat) (prev : Nat) (zs : List Int) (e : Ending) (w' : World) : Prop :=
  ∃ v, e = .returned (.tuple #[v, .int .i64 (nextE prev zs)]) ∧ PoN w' w.heap.size v (nextQ prev zs) ∧ Only (· = b) w w' ∧ (nextOk prev zs = true → ∃ u', Rd w' b u' (nP zs).2.1 0 ∧ ∀ k, u'.ownBlock = some k → u.ownBlock = some k)
theorem GivesNx.no {w w' : World} {u : Value} {b prev : Nat} {zs : List Int} (hn : nextOk prev zs = false) (ho : Only (· = b) w w') : GivesNx w u b prev zs (.returned (.tuple #[.agg #[.int .u32 0, .slice none 0 0], .int .i64 150])) w' := by
  refine ⟨_, by unfold nextE; rw [hn]; rfl, ?_, ho, fun h => by rw [hn] at h; cases h⟩
  unfold nextQ
  rw [hn]
  exact PoN.none _ _

theorem Rd.grown {w w' : World} {b b' : Nat} {u : Value} {zs : List Int} {er : Int} (h : Rd w b u zs er) (hb : Below w.heap.size w w') : Rd w' b u zs er := h.keep hb
theorem Rd.only {S : Nat → Prop} {w w' : World} {b : Nat} {u : Value} {zs : List Int} {er : Int} (h : Rd w b u zs er) (ho : Only S w w') (hS : ∀ j, j < w.heap.size → S j → j ≠ b ∧ ∀ k, u.ownBlock = some k → j ≠ k) : Rd w' b u zs er :=
  ⟨(ho.block b h.lt (fun hs => (hS b h.lt hs).1 rfl)).trans h.1, h.2.1.keep (fun k hk hlt => ho.block k hlt (fun hs => (hS k hlt hs).2 k hk rfl)), fun k hk => ⟨(h.2.2 k hk).1, Nat.lt_of_lt_of_le (h.2.2 k hk).2 ho.size⟩⟩
/-- a take turns the reader's block alone -/
theorem only_of_grown {w w' : World} {b : Nat} (h : w.grownBy w' (some b)) : Only (· = b) w w' := (Only.refl (· = b) w).grown h (fun k hk _ => (Option.some.inj hk).symm)

theorem madeInts (n : Nat) : (madeCells (Value.int .i64 0).cells (n * 1)).toList = iv (List.replicate n 0) := by
  show (madeCells #[Value.int .i64 0] (n * 1)).toList = _
  rw [toList_madeCells_one, Nat.mul_one]
  simp

/-- the walk's state: the reader at b, the answer's box at A, the posting's at PB, its row behind both -/
structure NxI (w : World) (U : Nat → Prop) (b A PB : Nat) (d : Nat) (sv : Value) (vals : List Int) (zs : List Int) (er : Int) (W : World) : Prop where
  bA : Blk W A 34 [.int .u32 0, .slice none 0 0]
  bP : Blk W PB 34 [.int .u32 (d : Int), sv]
  row : Ints W (PB + 1) sv vals
  rd : ∃ u, Rd W b u zs er ∧ (∀ k, u.ownBlock = some k → k < A) ∧ ∀ k, u.ownBlock = some k → U k
  only : Only (· = b) w W
  lts : b < A ∧ A < PB ∧ A = w.heap.size
theorem NxI.below {w : World} {U : Nat → Prop} {b A PB d : Nat} {sv : Value} {vals zs : List Int} {er : Int} {W W' : World} (h : NxI w U b A PB d sv vals zs er W) (hb : Below W.heap.size W W') : NxI w U b A PB d sv vals zs er W' := by
  obtain ⟨u, h1, h2, hU⟩ := h.rd
  exact ⟨h.bA.below hb h.bA.lt, h.bP.below hb h.bP.lt, h.row.below hb, ⟨u, h1.keep hb, h2, hU⟩, h.only.trans (T := fun _ => False) (Only.of_below _ hb) (fun _ _ h => h.elim), h.lts⟩

/-- a number is taken: the reader turns -/
theorem NxI.take {w : World} {U : Nat → Prop} {b A PB d : Nat} {sv : Value} {vals zs : List Int} {er : Int} {W : World} (h : NxI w U b A PB d sv vals zs er W) :
    Calls Try.prog 49 #[.pointer (some ⟨b, 0, none⟩)] W fun e W' => e = .returned (.int .u32 (varS zs er).1) ∧ NxI w U b A PB d sv vals (varS zs er).2.1 (varS zs er).2.2 W' := by
  obtain ⟨u, h1, h2, hU⟩ := h.rd
  refine (readerVar_any W b u zs er h1).mono ?_
  rintro e W' ⟨rfl, hg, u', hr, hk⟩
  have ho := only_of_grown hg
  have hl := h.lts
  exact ⟨rfl, h.bA.only ho (by omega), h.bP.only ho (by omega), h.row.only ho (fun j hj e => by have := (h.row.lt j hj).1; omega), ⟨u', hr, (fun k hk' => h2 k (hk k hk')), fun k hk' => hU k (hk k hk')⟩, h.only.trans ho (fun _ _ h => h), hl⟩
/-- a position is laid -/
theorem NxI.put {w : World} {U : Nat → Prop} {b A PB d : Nat} {g n : Nat} {vals zs : List Int} {er : Int} {W : World} (h : NxI w U b A PB d (.slice (some ⟨g, 0, none⟩) n n) vals zs er W) (hn : vals.length = n) (k : Nat) (x : Int) (hk : k < n) :
    (∃ q, W.cell? ⟨g, k, none⟩ = some q) ∧ W.frozen? ⟨g, k, none⟩ = false ∧ NxI w U b A PB d (.slice (some ⟨g, 0, none⟩) n n) (vals.set k x) zs er (W.setCell ⟨g, k, none⟩ (.int .i64 x)) := by
  have hrow := h.row
  unfold Ints at hrow
  rw [hn] at hrow
  have hg := (h.row.lt g rfl)
  have hl := h.lts
  obtain ⟨u, h1, h2, hU⟩ := h.rd
  have hs := hrow.stored k (.int .i64 x)
  have ho : Only (· = g) W (W.setCell ⟨g, k, none⟩ (.int .i64 x)) := (Only.refl (· = g) W).setCell ⟨g, k, none⟩ _ (fun _ => rfl)
  refine ⟨own_some hrow k hk, hrow.frozenAt k, h.bA.only ho (by omega), h.bP.only ho (by omega), ?_, ⟨u, h1.only ho (fun j hj e => ⟨by omega, fun k' hk' => by have := h2 k' hk'; omega⟩), h2, hU⟩, h.only.trans (T := (· = g)) ho (fun j hj e => by have := hl.2.2; omega), hl⟩
  have h3 := hs.1
  unfold Ints
  rw [List.length_set, hn]
  have e : (iv vals).set k (.int .i64 x) = iv (vals.set k x) := by simp [iv, List.map_set]
  rw [← e]
  exact h3

end Go.Proofs.Ytmjkpgmmfooajaa
