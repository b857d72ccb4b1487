/- slices.Equal, Clone, Contains at []int, over rows that are read: the shelf's contracts in my words. -/
import Derived.Test.YtmjkpgmmfooajaaKShelf
import Derived.Test.YtmjkpgmmfooajaaEIs
import Derived.Shelf.Slices.Turned
import Derived.Shelf.Slices.Equal
import Derived.Shelf.Slices.Clone
namespace Go.Proofs.Ytmjkpgmmfooajaa
set_option maxRecDepth 20000
open Go.RowKit Go.Shelf
set_option linter.unusedVariables false

theorem Ints.is {w : World} {base : Nat} {v : Value} {zs : List Int} (h : Ints w base v zs) : Is w v zs := is_of_own h
theorem Is.form {w : World} {v : Value} {ks : List Int} (h : Is w v ks) : (∃ ao cap, v = .slice ao 0 cap ∧ ks = []) ∨ ∃ b off cap, v = .slice (some ⟨b, off, none⟩) ks.length cap ∧ ks ≠ [] ∧ ks.length ≤ cap ∧ cap ≤ maxLen ∧ ∀ i, i < ks.length → w.cell? ⟨b, off + i, none⟩ = some (.int .i64 (ks.getD i 0)) := by
  obtain ⟨ao, cap, rfl, h1, h2, h3⟩ := h
  by_cases hk : ks = []
  · subst hk
    exact .inl ⟨ao, cap, rfl, rfl⟩
  · obtain ⟨b, off, rfl, hc⟩ := h3 hk
    exact .inr ⟨b, off, cap, rfl, hk, h1, h2, hc⟩

theorem sEqual_any (w : World) (va vb : Value) (xs ys : List Int) (ha : Is w va xs) (hb : Is w vb ys) : Calls Try.prog 30 #[va, vb] w fun e w' => e = .returned (.bool (decide (xs = ys))) ∧ ∃ q, w' = w.drewN q := by
  have hmax : maxLen ≤ 9223372036854775807 := by decide
  have hbl : ∀ {v : Value} {zs : List Int}, Is w v zs → zs.length ≤ 9223372036854775807 := fun {v zs} h => by
    obtain ⟨ao, cap, _, h1, h2, _⟩ := h
    omega
  rcases ha.form with ⟨ao, cap, rfl, rfl⟩ | ⟨b, off, cap, rfl, hne, _, _, hc⟩
  · obtain ⟨bo, bc, hvb⟩ : ∃ bo bc, vb = .slice bo ys.length bc := by obtain ⟨bo, bc, h, _⟩ := hb; exact ⟨bo, bc, h⟩
    rw [hvb]
    refine (Any.slices_Equal_int_empty layEqual ao bo cap ys.length bc w (hbl hb)).mono ?_
    rintro e w' ⟨rfl, rfl⟩
    refine ⟨ret_bool ?_, 0, rfl⟩
    rw [decide_eq_decide]
    exact ⟨fun h => (List.eq_nil_of_length_eq_zero h).symm, fun h => by rw [← h]; rfl⟩
  · rcases hb.form with ⟨bo, bc, rfl, rfl⟩ | ⟨b2, off2, cap2, rfl, hne2, _, _, hc2⟩
    · rw [decide_eq_false hne]
      have hl := hbl ha
      have hlen : 0 < xs.length := List.length_pos_iff.2 hne
      have hli : ¬ (xs.length : Int) = 0 := by omega
      generalize xs.length = m at *
      clear hc ha hb hbl hne
      go_enter Try.func30, Try.ntmps30
      go_wp2
      go_ret
      exact ⟨rfl, 0, rfl⟩
    · refine (Any.slices_Equal_int layEqual b off xs.length cap b2 off2 ys.length cap2 xs ys w (Nat.le_refl _) (Nat.le_refl _) (hbl ha) (hbl hb) hc hc2).mono ?_
      rintro e w' ⟨rfl, q, rfl⟩
      refine ⟨ret_bool ?_, q, rfl⟩
      rw [List.take_length, List.take_length, Bool.eq_iff_iff, beq_iff_eq, decide_eq_true_eq]

theorem sClone_any (w : World) (v : Value) (zs : List Int) (h : Is w v zs) (hl : zs.length ≤ 1000000) : Calls Try.prog 34 #[v] w fun e w' => ∃ v', e = .returned v' ∧ Ints w' w.heap.size v' zs ∧ Below w.heap.size w w' := by
  rcases h.form with ⟨ao, cap, rfl, rfl⟩ | ⟨b, off, cap, rfl, hne, _, _, hc⟩
  · cases ao with
    | none =>
      refine (Any.slices_Clone_int_nil layClone 0 cap w).mono ?_
      rintro e w' ⟨rfl, rfl⟩
      exact ⟨_, rfl, Ints.nil _ _, Below.refl _ _⟩
    | some a =>
      refine (Any.slices_Clone_int_zero layClone a cap w).mono ?_
      rintro e w' ⟨v', rfl, hr, _, hb⟩
      exact ⟨_, rfl, hr, hb⟩
  · refine (Any.slices_Clone_int layClone b off zs.length cap zs w (Nat.le_refl _) (by omega) hc).mono ?_
    rintro e w' ⟨v', rfl, hr, _, hb⟩
    rw [List.take_length] at hr
    exact ⟨_, rfl, hr, hb⟩


end Go.Proofs.Ytmjkpgmmfooajaa
