/- slices' functions at []int, over rows that are owned: Index, Delete (of one), Clone, Reverse: the shelf's contracts in my words. -/
import Derived.Test.YtoplhehcjgldeaaCShelf
import Derived.Test.YtoplhehcjgldeaaDBase
import Derived.Shelf.Slices.Turned
import Derived.Shelf.Slices.Delete
import Derived.Shelf.Slices.Clone
import Derived.Shelf.Slices.Reverse
import Derived.Sort.OwnSortedInts
namespace Go.Proofs.Ytoplhehcjgldeaa
open Go.RowKit Go.Shelf Go.Sort
set_option linter.unusedVariables false

abbrev iv (zs : List Int) : List Value := zs.map (Value.int .i64)
/-- a []int that is owned, whole, from some block at or above base on -/
def Ints (w : World) (base : Nat) (v : Value) (zs : List Int) : Prop := w.ownsRow base 3 1 v zs.length (iv zs)

theorem Ints.nil (w : World) (base : Nat) : Ints w base (.slice none 0 0) [] := World.ownsRow_nil _ _ _ _
theorem Ints.base {w : World} {base base' : Nat} {v : Value} {zs : List Int} (h : Ints w base v zs) (hb : base' ≤ base) : Ints w base' v zs := by
  refine ⟨h.1, ?_⟩
  rcases h.2 with h' | ⟨g, cap, cur, e, h1, r⟩
  · exact .inl h'
  · exact .inr ⟨g, cap, cur, e, Nat.le_trans hb h1, r⟩
theorem Ints.only {S : Nat → Prop} {w w' : World} {base : Nat} {v : Value} {zs : List Int} (h : Ints w base v zs) (ho : Only S w w') (hn : ∀ k, v.ownBlock = some k → ¬ S k) : Ints w' base v zs := ownsRow_only h ho hn
theorem Ints.below {w w' : World} {base : Nat} {v : Value} {zs : List Int} (h : Ints w base v zs) (hb : Below w.heap.size w w') : Ints w' base v zs := ownsRow_only h (Only.of_below (fun _ => False) hb) (fun _ _ h => h)
theorem Ints.form {w : World} {base : Nat} {v : Value} {zs : List Int} (h : Ints w base v zs) : (v = .slice none 0 0 ∧ zs = []) ∨ ∃ g cap sp, v = .slice (some ⟨g, 0, none⟩) zs.length cap ∧ base ≤ g ∧ zs.length ≤ cap ∧ cap ≤ maxLen ∧ Blk w g 3 (iv zs ++ sp) ∧ sp.length = cap - zs.length := by
  rcases h.2 with ⟨h1, h2⟩ | ⟨g, cap, cur, rfl, _⟩
  · exact .inl ⟨h1, List.eq_nil_of_length_eq_zero h2⟩
  · obtain ⟨h1, h2, h3, h4, sp, hB, hs⟩ := own_blk h
    exact .inr ⟨g, cap, sp, rfl, h1, h2, h3, hB, by omega⟩
theorem Ints.mk {w : World} {base g cap : Nat} {zs : List Int} {sp : List Value} (hB : Blk w g 3 (iv zs ++ sp)) (hb : base ≤ g) (hc : zs.length ≤ cap) (hm : cap ≤ maxLen) (hs : sp.length = cap - zs.length) : Ints w base (.slice (some ⟨g, 0, none⟩) zs.length cap) zs :=
  blk_own hB hb hc hm (by simp) (by omega)
theorem Ints.lt {w : World} {base : Nat} {v : Value} {zs : List Int} (h : Ints w base v zs) (k : Nat) (hk : v.ownBlock = some k) : base ≤ k ∧ k < w.heap.size := World.ownsRow.lt h k hk

theorem Ints.shape {w : World} {base : Nat} {v : Value} {zs : List Int} (h : Ints w base v zs) : ∃ ao cap, v = .slice ao zs.length cap := own_form' h

theorem iv_cell {w : World} {g : Nat} {zs : List Int} {sp : List Value} (hB : Blk w g 3 (iv zs ++ sp)) (j : Nat) (hj : j < zs.length) : w.cell? ⟨g, 0 + j, none⟩ = some (.int .i64 (zs.getD j 0)) := by
  rw [Nat.zero_add, hB.cell, List.getElem?_append_left (by simpa using hj)]
  simp [List.getD, hj]
theorem iv_holds {w : World} {g : Nat} {zs : List Int} {sp : List Value} (hB : Blk w g 3 (iv zs ++ sp)) : Holds (Value.int .i64) w g 0 zs.toArray := fun j hj => by
  have hj' : j < zs.length := by simpa using hj
  refine ⟨?_, hB.frozen _⟩
  rw [iv_cell hB j hj']
  simp [List.getD, hj']

/-- cells that were written over, from the first on -/
theorem blk_put {w : World} {g q : Nat} {e : TypeId} {cs : List Value} (hB : Blk w g e cs) (zs : List Int) (hl : zs.length ≤ cs.length) : Blk (putRow (Value.int .i64) (Sort.ahead w q) g 0 zs.toArray) g e (iv zs ++ cs.drop zs.length) := by
  have h := heap_sortedI (w := w) (g := g) (n := q) (os := #[]) zs.toArray (show w.heap[g]? = some (.cells cs.toArray e (0, 0)) from hB)
  have e1 : grow (putRow (Value.int .i64) (Sort.ahead w q) g 0 zs.toArray) #[] = putRow (Value.int .i64) (Sort.ahead w q) g 0 zs.toArray := grow_empty _
  rw [e1] at h
  unfold Blk
  rw [h]
  congr 2
  apply Array.toList_inj.1
  apply List.ext_getElem?
  intro j
  simp only [putCells, Array.toList_mapIdx, List.getElem?_mapIdx]
  by_cases hj : j < zs.length
  · rw [List.getElem?_append_left (by simpa using hj), List.getElem?_eq_getElem (by omega)]
    simp [hj]
  · rw [List.getElem?_append_right (by simp; omega), List.getElem?_drop]
    have e2 : zs.length + (j - (iv zs).length) = j := by simp; omega
    rw [e2]
    cases hcs : cs[j]? with
    | none => rfl
    | some x => simp [hj]
theorem only_put (w : World) (g q : Nat) (d : Array Int) : Only (· = g) w (putRow (Value.int .i64) (Sort.ahead w q) g 0 d) := by
  have h := grownBy_sortedI (w := w) (g := g) (n := q) (os := #[]) d
  have e1 : grow (putRow (Value.int .i64) (Sort.ahead w q) g 0 d) #[] = putRow (Value.int .i64) (Sort.ahead w q) g 0 d := grow_empty _
  rw [e1] at h
  exact (Only.refl _ w).grown h (fun k e _ => by cases e; rfl)

theorem index_any (w : World) (base : Nat) (v : Value) (zs : List Int) (x : Int) (h : Ints w base v zs) : Calls Try.prog 61 #[v, .int .i64 x] w fun e w' => e = .returned (.int .i64 (Lib.idxOf zs x)) ∧ w' = w := by
  rcases h.form with ⟨rfl, rfl⟩ | ⟨g, cap, sp, rfl, _, hc, hm, hB, _⟩
  · exact Any.slices_Index_int_empty layIndex none 0 x w
  · have := Any.slices_Index_int layIndex g 0 zs.length cap zs x w (Nat.le_refl _) (by unfold maxLen at hm; omega) (fun j hj => iv_cell hB j hj)
    rw [List.take_length] at this
    exact this

theorem delete_any (w : World) (base : Nat) (v : Value) (zs : List Int) (i : Nat) (h : Ints w base v zs) (hi : i < zs.length) : Calls Try.prog 62 #[v, .int .i64 i, .int .i64 ((i : Int) + 1)] w fun e w' => ∃ v', e = .returned v' ∧ Ints w' base v' (zs.eraseIdx i) ∧ v'.ownBlock = v.ownBlock ∧ Only (fun k => v.ownBlock = some k) w w' := by
  rcases h.form with ⟨rfl, rfl⟩ | ⟨g, cap, sp, rfl, hb, hc, hm, hB, hs⟩
  · simp at hi
  · have key := Any.slices_Delete_int layDelete g 0 cap i (i + 1) zs w (iv_holds hB) hc (by unfold maxLen at hm; omega) (by omega) (by omega)
    rw [show ((i + 1 : Nat) : Int) = (i : Int) + 1 by omega] at key
    refine key.mono ?_
    rintro e w' ⟨rfl, q, rfl⟩
    have e1 : i + 1 - i = 1 := by omega
    rw [e1]
    have e2 : zs.take i ++ zs.drop (i + 1) = zs.eraseIdx i := (List.eraseIdx_eq_take_drop_succ ..).symm
    rw [e2]
    have e3 : (zs.eraseIdx i).length = zs.length - 1 := by rw [List.length_eraseIdx]; simp [hi]
    have hB' := blk_put (q := q) hB (zs.eraseIdx i ++ List.replicate 1 0) (by simp [e3]; omega)
    have e4 : iv (zs.eraseIdx i ++ List.replicate 1 0) ++ (iv zs ++ sp).drop (zs.eraseIdx i ++ List.replicate 1 0).length = iv (zs.eraseIdx i) ++ (Value.int .i64 0 :: sp) := by
      have : (zs.eraseIdx i ++ List.replicate 1 0).length = (iv zs).length := by simp [e3]; omega
      rw [this, List.drop_left]
      simp
    rw [e4] at hB'
    refine ⟨_, rfl, ?_, rfl, (only_put w g q _).mono (fun k _ e => by rw [e]; rfl)⟩
    have := Ints.mk (base := base) (cap := cap) hB' hb (by omega) hm (by rw [List.length_cons]; omega)
    rw [e3] at this
    exact this

theorem clone_any (w : World) (base : Nat) (v : Value) (zs : List Int) (h : Ints w base v zs) (hl : zs.length ≤ 1000000) : Calls Try.prog 45 #[v] w fun e w' => ∃ v', e = .returned v' ∧ Ints w' w.heap.size v' zs ∧ Below w.heap.size w w' := by
  rcases h.form with ⟨rfl, rfl⟩ | ⟨g, cap, sp, rfl, hb, hc, hm, hB, hs⟩
  · refine (Any.slices_Clone_int_nil layClone 0 0 w).mono ?_
    rintro e w' ⟨rfl, rfl⟩
    exact ⟨_, rfl, Ints.nil _ _, Below.refl _ _⟩
  · refine (Any.slices_Clone_int layClone g 0 zs.length cap zs w (Nat.le_refl _) (by omega) (fun j hj => iv_cell hB j hj)).mono ?_
    rintro e w' ⟨v', rfl, hr, _, hb⟩
    rw [List.take_length] at hr
    exact ⟨_, rfl, hr, hb⟩

theorem reverse_any (w : World) (base : Nat) (v : Value) (zs : List Int) (h : Ints w base v zs) : Calls Try.prog 46 #[v] w fun e w' => e = .returned (.tuple #[]) ∧ Ints w' base v zs.reverse ∧ Only (fun k => v.ownBlock = some k) w w' := by
  rcases h.form with ⟨rfl, rfl⟩ | ⟨g, cap, sp, rfl, hb, hc, hm, hB, hs⟩
  · refine (Any.slices_Reverse_int_empty layReverse none 0 w).mono ?_
    rintro e w' ⟨rfl, rfl⟩
    exact ⟨rfl, Ints.nil _ _, Only.refl _ _⟩
  · refine (Any.slices_Reverse_int layReverse g 0 cap zs w (iv_holds hB) (by unfold maxLen at hm; omega)).mono ?_
    rintro e w' ⟨rfl, q, rfl⟩
    have hB' := blk_put (q := q) hB zs.reverse (by simp)
    have e4 : (iv zs ++ sp).drop zs.reverse.length = sp := by
      have : zs.reverse.length = (iv zs).length := by simp
      rw [this, List.drop_left]
    rw [e4] at hB'
    refine ⟨rfl, ?_, (only_put w g q _).mono (fun k _ e => by rw [e]; rfl)⟩
    have := Ints.mk (base := base) (cap := cap) hB' hb (by simpa using hc) hm (by simpa using hs)
    rw [List.length_reverse] at this
    exact this

end Go.Proofs.Ytoplhehcjgldeaa
