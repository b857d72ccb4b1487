/- A []int that is read; whether two rows of numbers are the same (incipitref05.Ints). -/
import Derived.Test.YtfihnmdhclnhgaaEInts
namespace Go.Proofs.Ytfihnmdhclnhgaa
set_option maxRecDepth 20000
open Go.RowKit
set_option linter.unusedVariables false
set_option maxRecDepth 100000

/-- a slice of numbers that is read -/
def Is (w : World) (v : Value) (ks : List Int) : Prop :=
  ∃ ao cap, v = .slice ao ks.length cap ∧ ks.length ≤ cap ∧ cap ≤ maxLen ∧ (ks ≠ [] → ∃ b off, ao = some ⟨b, off, none⟩ ∧ ∀ i, i < ks.length → w.cell? ⟨b, off + i, none⟩ = some (.int .i64 (ks.getD i 0)))
theorem Is.below {w w' : World} {v : Value} {ks : List Int} (h : Is w v ks) (hb : Below w.heap.size w w') : Is w' v ks := by
  obtain ⟨ao, cap, rfl, h1, h2, h3⟩ := h
  refine ⟨ao, cap, rfl, h1, h2, fun hne => ?_⟩
  obtain ⟨b, off, rfl, hc⟩ := h3 hne
  refine ⟨b, off, rfl, fun i hi => ?_⟩
  rw [World.cell?_of_block (w := w) (hb.block b (World.block_lt_of_cell? w _ (hc i hi)))]
  exact hc i hi
theorem Is.take {w : World} {ao : Option Addr} {cap : Nat} {ks : List Int} (h : Is w (.slice ao ks.length cap) ks) (n : Nat) (hn : n ≤ ks.length) : Is w (.slice ao n cap) (ks.take n) := by
  obtain ⟨ao', cap', he, h1, h2, h3⟩ := h
  simp only [Value.slice.injEq, true_and] at he
  obtain ⟨rfl, rfl⟩ := he
  have hl : (ks.take n).length = n := by simp; omega
  refine ⟨ao, cap, by rw [hl], by omega, h2, fun hne => ?_⟩
  obtain ⟨b, off, rfl, hc⟩ := h3 (by intro e; simp [e] at hne)
  refine ⟨b, off, rfl, fun i hi => ?_⟩
  rw [getD_take ks n i (by omega)]
  exact hc i (by omega)
theorem Is.cap {w : World} {ao : Option Addr} {n cap : Nat} {ks : List Int} (h : Is w (.slice ao n cap) ks) : n = ks.length ∧ ks.length ≤ cap ∧ cap ≤ maxLen := by
  obtain ⟨ao', cap', he, h1, h2, h3⟩ := h
  simp only [Value.slice.injEq] at he
  obtain ⟨rfl, rfl, rfl⟩ := he
  exact ⟨rfl, h1, h2⟩
theorem Is.at {w : World} {ao : Option Addr} {n cap : Nat} {ks : List Int} (h : Is w (.slice ao n cap) ks) (i : Nat) (hi : i < ks.length) : ∃ b off, ao = some ⟨b, off, none⟩ ∧ w.cell? ⟨b, off + i, none⟩ = some (.int .i64 (ks.getD i 0)) := by
  obtain ⟨ao', cap', he, h1, h2, h3⟩ := h
  simp only [Value.slice.injEq] at he
  obtain ⟨rfl, rfl, rfl⟩ := he
  obtain ⟨b, off, rfl, hc⟩ := h3 (by intro e; simp [e] at hi)
  exact ⟨b, off, rfl, hc i hi⟩
theorem Is.alloc {w : World} {v : Value} {ks : List Int} (h : Is w v ks) (o : Obj) : Is (w.alloc o) v ks := h.below ((Below.refl _ w).alloc (Nat.le_refl _) o)
theorem is_of_own {w : World} {base : Nat} {v : Value} {n : Nat} {zs : List Int} (h : w.ownsRow base 3 1 v n (zs.map (Value.int .i64))) : Is w v zs := by
  obtain ⟨h1, h2⟩ := h
  have hn : zs.length = n := by simpa using h1
  subst hn
  rcases h2 with ⟨rfl, h0⟩ | ⟨g, cap, cur, rfl, _, hg, hnc, hcm, hcs, ht⟩
  · exact ⟨none, 0, by rw [h0], by omega, by simp [maxLen], fun hz => absurd (List.eq_nil_of_length_eq_zero h0) hz⟩
  · refine ⟨_, cap, rfl, hnc, hcm, fun _ => ⟨g, 0, rfl, fun i hi => ?_⟩⟩
    rw [cell_of_row w g (0 + i) cur 3 (0, 0) hg]
    have : (cur.toList.take (zs.length * 1))[i]? = (zs.map (Value.int .i64))[i]? := by rw [ht]
    rw [List.getElem?_take, if_pos (by omega)] at this
    simp at this
    rw [Nat.zero_add, this]
    rw [getD_lt zs hi]
    simp [hi]
theorem Is.nil (w : World) : Is w (.slice none 0 0) [] := ⟨none, 0, rfl, Nat.le_refl _, by simp [maxLen], fun h => absurd rfl h⟩
theorem Is.only {S : Nat → Prop} {w w' : World} {v : Value} {ks : List Int} (h : Is w v ks) (ho : Only S w w') (hn : ∀ k, v.ownBlock = some k → ¬ S k) : Is w' v ks := by
  obtain ⟨ao, cap, rfl, h1, h2, h3⟩ := h
  refine ⟨ao, cap, rfl, h1, h2, fun hne => ?_⟩
  obtain ⟨b, off, rfl, hc⟩ := h3 hne
  refine ⟨b, off, rfl, fun i hi => ?_⟩
  rw [World.cell?_of_block (w := w) (ho.block b (World.block_lt_of_cell? w _ (hc i hi)) (hn b rfl))]
  exact hc i hi
theorem eq_of_getD {xs ys : List Int} (hl : xs.length = ys.length) (h : ∀ j, j < xs.length → xs.getD j 0 = ys.getD j 0) : xs = ys := by
  apply List.ext_getElem hl
  intro i h1 h2
  have := h i h1
  rwa [getD_lt xs h1, getD_lt ys h2] at this


end Go.Proofs.Ytfihnmdhclnhgaa
