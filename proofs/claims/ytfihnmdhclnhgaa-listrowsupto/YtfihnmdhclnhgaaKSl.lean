/- slices.Equal, Clone, Contains at []int, over rows that are read: the shelf's contracts in my words. -/
import Derived.Test.YtfihnmdhclnhgaaKShelf
import Derived.Test.YtfihnmdhclnhgaaEIs
import Derived.Shelf.Slices.Turned
import Derived.Shelf.Slices.Equal
import Derived.Shelf.Slices.Clone
namespace Go.Proofs.Ytfihnmdhclnhgaa
set_option maxRecDepth 20000
open Go.RowKit Go.Shelf
set_option linter.unusedVariables false

theorem Ints.is {w : World} {base : Nat} {v : Value} {zs : List Int} (h : Ints w base v zs) : Is w v zs := is_of_own h
theorem Is.form {w : World} {v : Value} {ks : List Int} (h : Is w v ks) : (∃ ao cap, v = .slice ao 0 cap ∧ ks = []) ∨ ∃ b off cap, v = .slice (some ⟨b, off, none⟩) ks.length cap ∧ ks ≠ [] ∧ ks.length ≤ cap ∧ cap ≤ maxLen ∧ ∀ i, i < ks.length → w.cell? ⟨b, off + i, none⟩ = some (.int .i64 (ks.getD i 0)) := by
  obtain ⟨ao, cap, rfl, h1, h2, h3⟩ := h
  by_cases hk : ks = []
  · subst hk
    exact .inl ⟨ao, cap, rfl, rfl⟩
  · obtain ⟨b, off, rfl, hc⟩ := h3 hk
    exact .inr ⟨b, off, cap, rfl, hk, h1, h2, hc⟩




end Go.Proofs.Ytfihnmdhclnhgaa
