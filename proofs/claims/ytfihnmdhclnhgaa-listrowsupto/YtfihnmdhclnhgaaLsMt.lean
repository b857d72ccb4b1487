/- What two rows have in common, told by one iterator over another: pure; how far it is. No package's function. -/
import Derived.Test.YtfihnmdhclnhgaaLsVal
import Derived.Test.YtfihnmdhclnhgaaWdRng
import Derived.Test.YtfihnmdhclnhgaaRegionZ
namespace Go.Proofs.Ytfihnmdhclnhgaa
set_option maxRecDepth 20000
open Go.RowKit
set_option linter.unusedVariables false
set_option linter.unusedSimpArgs false

/-- each of the first ones that meets one of the second ones, and that one -/
def meetL {α β : Type} (o : α → β → Int) : List α → List β → List (α × β)
  | [], _ => []
  | x :: a, b => match b.dropWhile (fun y => decide (0 < o x y)) with
    | [] => []
    | y :: b' => if o x y = 0 then (x, y) :: meetL o a (y :: b') else meetL o a (y :: b')
section
variable {α β : Type} {o : α → β → Int} {x : α} {y : β} {a : List α} {b : List β}
theorem meet_none (b : List β) : meetL o [] b = [] := rfl
theorem meet_nil : ∀ (a : List α), meetL o a [] = []
  | [] => rfl
  | _ :: _ => rfl
theorem meet_lt (h : o x y < 0) : meetL o (x :: a) (y :: b) = meetL o a (y :: b) := by
  have h1 : ¬ 0 < o x y := by omega
  have h2 : ¬ o x y = 0 := by omega
  rw [meetL, List.dropWhile_cons_of_neg (by simpa using h1)]
  simp only [h2, if_false]
theorem meet_eq (h : o x y = 0) : meetL o (x :: a) (y :: b) = (x, y) :: meetL o a (y :: b) := by
  have h1 : ¬ 0 < o x y := by omega
  rw [meetL, List.dropWhile_cons_of_neg (by simpa using h1)]
  simp only [h, if_true]
theorem meet_gt (h : 0 < o x y) : meetL o (x :: a) (y :: b) = meetL o (x :: a) b := by
  rw [meetL, List.dropWhile_cons_of_pos (by simpa using h), meetL]
end
theorem cmp3 (x y : Int) : cmpI x y = -1 ∨ cmpI x y = 0 ∨ cmpI x y = 1 := by
  unfold cmpI
  split
  · exact .inl rfl
  · split
    · exact .inr (.inr rfl)
    · exact .inr (.inl rfl)

/-- what an iterator over an iterator made (A .. B0 + 1) is among what the rounds leave alone -/
structure AllZ (A B0 : Nat) (Y Z : Nat → Prop) : Prop where
  z : ∀ j, A ≤ j → j < B0 + 2 → Z j
  y : ∀ j, Y j → Z j ∧ B0 + 2 ≤ j
theorem AllZ.more {A B0 : Nat} {Y Z : Nat → Prop} (h : AllZ A B0 Y Z) {W W' : World} (hs : B0 + 2 ≤ W.heap.size) : AllZ A B0 (more Y W W') (more Z W W') :=
  ⟨fun j h1 h2 => .inl (h.z j h1 h2), fun j hj => by
    rcases hj with hj | hj
    · exact ⟨.inl (h.y j hj).1, (h.y j hj).2⟩
    · exact ⟨.inr hj, by omega⟩⟩
theorem AllZ.part {A B0 : Nat} {Y Y' Z : Nat → Prop} (h : AllZ A B0 Y Z) (hy : ∀ j, Y' j → Y j) : AllZ A B0 Y' Z := ⟨h.z, fun j hj => h.y j (hy j hj)⟩

theorem cell_belowL {w w' : World} {a : Addr} {v : Value} (hb : Below w.heap.size w w') (h : w.cell? a = some v) : w'.cell? a = some v := by
  rw [World.cell?_of_block (w := w) (hb.block a.block (World.block_lt_of_cell? w _ h))]
  exact h
/-- its boxes: the yield's, the rest's, the first row's -/
structure MtK (A : Nat) (tf tr : TypeId) (yv rv av : Value) (W : World) : Prop where
  ybox : Blk W A tf [yv]
  rbox : Blk W (A + 1) tr [rv]
  abox : Blk W (A + 2) tr [av]
  size : A + 5 ≤ W.heap.size
section
variable {A : Nat} {tf tr : TypeId} {yv rv av : Value} {W W' : World}
theorem MtK.only {S : Nat → Prop} (h : MtK A tf tr yv rv av W) (ho : Only S W W') (hS : ∀ j, S j → A + 3 ≤ j) : MtK A tf tr yv rv av W' :=
  ⟨h.ybox.only ho (fun e => by have := hS _ e; omega), h.rbox.only ho (fun e => by have := hS _ e; omega), h.abox.only ho (fun e => by have := hS _ e; omega), Nat.le_trans h.size ho.size⟩
theorem MtK.keepY {Z : Nat → Prop} (h : MtK A tf tr yv rv av W) (hz : ∀ j, A ≤ j → j < A + 3 + 2 → Z j) (hk : KeepsY Z W W') : MtK A tf tr yv rv av W' := by
  have hlt : A + 4 < W.heap.size := by have := h.size; omega
  refine ⟨(hk _ (hz _ (by omega) (by omega))).trans h.ybox, (hk _ (hz _ (by omega) (by omega))).trans h.rbox, (hk _ (hz _ (by omega) (by omega))).trans h.abox, ?_⟩
  have e := hk _ (hz (A + 4) (by omega) (by omega))
  rw [Array.getElem?_eq_getElem hlt] at e
  have := (Array.getElem?_eq_some_iff.1 e).1
  omega
theorem only_set0 (W : World) (b : Nat) (u : Value) : Only (· = b) W (W.setCell ⟨b, 0, none⟩ u) := (Only.refl (· = b) W).setCell ⟨b, 0, none⟩ u (fun _ => rfl)
theorem MtK.setr (h : MtK A tf tr yv rv av W) (u : Value) : MtK A tf tr yv u av (W.setCell ⟨A + 1, 0, none⟩ u) := by
  have ho := only_set0 W (A + 1) u
  exact ⟨h.ybox.only ho (by omega), h.rbox.set 0 u, h.abox.only ho (by omega), Nat.le_trans h.size ho.size⟩
end

/-- how far it is: Z: what the rounds leave alone; k': how many were told; j: where the rest of the second row begins -/
def MtJ {β : Type} (J : (Nat → Prop) → Nat → World → Prop) (A : Nat) (tf tr : TypeId) (yv av : Value) (L : List β) (ML : Nat → Nat → List β) (n : Nat) (Cut : Nat → Value → Prop) (Y' : Nat → Prop) (k : Nat) (Z : Nat → Prop) (k' j : Nat) (rv : Value) (W' : World) : Prop :=
  (k' ≤ L.length ∧ j ≤ n ∧ L.drop k' = ML k j ∧ Cut j rv) ∧ J Z k' W' ∧ AllZ A (A + 3) Y' Z ∧ MtK A tf tr yv rv av W' ∧ ∀ i, Y' i → i < W'.heap.size
def MtI {β : Type} (J : (Nat → Prop) → Nat → World → Prop) (A : Nat) (tf tr : TypeId) (yv av : Value) (L : List β) (ML : Nat → Nat → List β) (n : Nat) (Cut : Nat → Value → Prop) (Y' : Nat → Prop) (k : Nat) (W' : World) : Prop :=
  ∃ Z k' j rv, MtJ J A tf tr yv av L ML n Cut Y' k Z k' j rv W'
def MtX {β : Type} (J Jx : (Nat → Prop) → Nat → World → Prop) (A : Nat) (L : List β) (Y' : Nat → Prop) (W' : World) : Prop :=
  ∃ Z, AllZ A (A + 3) Y' Z ∧ A + 5 ≤ W'.heap.size ∧ (J Z L.length W' ∨ ∃ k', k' < L.length ∧ Jx Z (k' + 1) W')
section
variable {β : Type} {J Jx : (Nat → Prop) → Nat → World → Prop} {A : Nat} {tf tr : TypeId} {yv av : Value} {L : List β} {ML : Nat → Nat → List β} {n : Nat} {Cut : Nat → Value → Prop} {Y' : Nat → Prop} {k : Nat} {W W' : World}
theorem MtJ.step {S : Nat → Prop} {Z : Nat → Prop} {k' j : Nat} {rv : Value} (hJ : ∀ Y k W W', J Y k W → Only Y W W' → J (more Y W W') k W') (h : MtJ J A tf tr yv av L ML n Cut Y' k Z k' j rv W) (ho : Only S W W') (hS : ∀ i, S i → Z i ∧ A + 3 ≤ i) : MtJ J A tf tr yv av L ML n Cut Y' k (more Z W W') k' j rv W' := by
  obtain ⟨h1, h2, h3, h4, h5⟩ := h
  exact ⟨h1, hJ Z k' W W' h2 (ho.mono (fun i _ e => (hS i e).1)), (h3.more h4.size).part (fun _ h => .inl h), h4.only ho (fun i e => (hS i e).2), fun i hi => Nat.lt_of_lt_of_le (h5 i hi) ho.size⟩
theorem MtI.keep (hJ : ∀ Y k W W', J Y k W → Only Y W W' → J (more Y W W') k W') (h : MtI J A tf tr yv av L ML n Cut Y' k W) (ho : Only (fun j => j = A + 3 ∨ j = A + 3 + 1) W W') : MtI J A tf tr yv av L ML n Cut Y' k W' := by
  obtain ⟨Z, k', j, rv, h⟩ := h
  exact ⟨_, k', j, rv, h.step hJ ho (fun i e => ⟨h.2.2.1.z i (by omega) (by omega), by omega⟩)⟩
theorem MtI.fresh (hJ : ∀ Y k W W', J Y k W → Only Y W W' → J (more Y W W') k W') (h : MtI J A tf tr yv av L ML n Cut Y' k W) (hb : Below W.heap.size W W') : MtI J A tf tr yv av L ML n Cut Y' k W' := by
  obtain ⟨Z, k', j, rv, h⟩ := h
  exact ⟨_, k', j, rv, h.step hJ (Only.of_below (fun _ => False) hb) (fun i e => e.elim)⟩
theorem MtI.grow (hJ : ∀ Y k W W', J Y k W → Only Y W W' → J (more Y W W') k W') (h : MtI J A tf tr yv av L ML n Cut Y' k W) (ho : Only Y' W W') : MtI J A tf tr yv av L ML n Cut (more Y' W W') k W' := by
  obtain ⟨Z, k', j, rv, h1, h2, h3, h4, h5⟩ := h
  exact ⟨_, k', j, rv, h1, hJ Z k' W W' h2 (ho.mono (fun i _ e => (h3.y i e).1)), h3.more h4.size, h4.only ho (fun i e => by have := (h3.y i e).2; omega), fun i hi => hi.elim (fun hi => Nat.lt_of_lt_of_le (h5 i hi) ho.size) (fun hi => hi.2)⟩
theorem MtX.keep (hJ : ∀ Y k W W', J Y k W → Only Y W W' → J (more Y W W') k W') (hJx : ∀ Y k W W', Jx Y k W → Only Y W W' → Jx (more Y W W') k W') (h : MtX J Jx A L Y' W) (ho : Only (fun j => j = A + 3 ∨ j = A + 3 + 1) W W') : MtX J Jx A L Y' W' := by
  obtain ⟨Z, h1, h2, h3⟩ := h
  have hm : Only Z W W' := ho.mono (fun i _ e => h1.z i (by omega) (by omega))
  exact ⟨_, (h1.more h2).part (fun _ h => .inl h), Nat.le_trans h2 ho.size, h3.imp (fun h => hJ _ _ _ _ h hm) (fun ⟨k', a, b⟩ => ⟨k', a, hJx _ _ _ _ b hm⟩)⟩
theorem MtX.grow (hJ : ∀ Y k W W', J Y k W → Only Y W W' → J (more Y W W') k W') (hJx : ∀ Y k W W', Jx Y k W → Only Y W W' → Jx (more Y W W') k W') (h : MtX J Jx A L Y' W) (ho : Only Y' W W') : MtX J Jx A L (more Y' W W') W' := by
  obtain ⟨Z, h1, h2, h3⟩ := h
  have hm : Only Z W W' := ho.mono (fun i _ e => (h1.y i e).1)
  exact ⟨_, h1.more h2, Nat.le_trans h2 ho.size, h3.imp (fun h => hJ _ _ _ _ h hm) (fun ⟨k', a, b⟩ => ⟨k', a, hJx _ _ _ _ b hm⟩)⟩
theorem KeepsY.of_only {S Y : Nat → Prop} (ho : Only S W W') (hy : ∀ i, Y i → i < W.heap.size) (hn : ∀ i, Y i → ¬ S i) : KeepsY Y W W' := fun i hi => ho.block i (hy i hi) (hn i hi)
end

/-- how many are left -/
def rdL (W : World) (b : Nat) : Nat := match W.cell? ⟨b, 0, none⟩ with | some (.slice _ n _) => n | _ => 0
theorem rdL_at {W : World} {b n c : Nat} {a : Option Addr} (h : W.cell? ⟨b, 0, none⟩ = some (.slice a n c)) : rdL W b = n := by unfold rdL; rw [h]
/-- a region with a call (operation 5) and what is made of its answer (6) -/
def StM (W4 : World) (v : Value) : Nat → (Nat → Value) → World → Prop
  | 0, _, w => w = W4
  | 1, vals, w => vals 5 = v ∧ Below W4.heap.size W4 w
  | _, vals, w => vals 6 = v ∧ Below W4.heap.size W4 w
def StW (W4 : World) (Post : Bool → World → Prop) : Nat → (Nat → Value) → World → Prop
  | 0, _, w => w = W4
  | 1, vals, w => ∃ r, vals 5 = .bool r ∧ Post r w
  | _, vals, w => ∃ r, vals 6 = .bool (!r) ∧ Post r w

end Go.Proofs.Ytfihnmdhclnhgaa
