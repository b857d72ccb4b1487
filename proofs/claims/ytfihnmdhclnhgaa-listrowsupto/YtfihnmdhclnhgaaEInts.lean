/- A []int that is owned, whole; append; a literal. No package's function. -/
import Derived.Test.YtfihnmdhclnhgaaDBase
import Derived.Maps.AppendAt
namespace Go.Proofs.Ytfihnmdhclnhgaa
set_option maxRecDepth 20000
open Go.RowKit
set_option linter.unusedVariables false

abbrev iv (zs : List Int) : List Value := zs.map (Value.int .i64)
/-- a []int that is owned, whole, from some block at or above base on -/
def Ints (w : World) (base : Nat) (v : Value) (zs : List Int) : Prop := w.ownsRow base 3 1 v zs.length (iv zs)

theorem Ints.nil (w : World) (base : Nat) : Ints w base (.slice none 0 0) [] := World.ownsRow_nil _ _ _ _
theorem Ints.base {w : World} {base base' : Nat} {v : Value} {zs : List Int} (h : Ints w base v zs) (hb : base' ≤ base) : Ints w base' v zs := by
  refine ⟨h.1, ?_⟩
  rcases h.2 with h' | ⟨g, cap, cur, e, h1, r⟩
  · exact .inl h'
  · exact .inr ⟨g, cap, cur, e, Nat.le_trans hb h1, r⟩
theorem Ints.only {S : Nat → Prop} {w w' : World} {base : Nat} {v : Value} {zs : List Int} (h : Ints w base v zs) (ho : Only S w w') (hn : ∀ k, v.ownBlock = some k → ¬ S k) : Ints w' base v zs := ownsRow_only h ho hn
theorem Ints.below {w w' : World} {base : Nat} {v : Value} {zs : List Int} (h : Ints w base v zs) (hb : Below w.heap.size w w') : Ints w' base v zs := ownsRow_only h (Only.of_below (fun _ => False) hb) (fun _ _ h => h)
theorem Ints.form {w : World} {base : Nat} {v : Value} {zs : List Int} (h : Ints w base v zs) : (v = .slice none 0 0 ∧ zs = []) ∨ ∃ g cap sp, v = .slice (some ⟨g, 0, none⟩) zs.length cap ∧ base ≤ g ∧ zs.length ≤ cap ∧ cap ≤ maxLen ∧ Blk w g 3 (iv zs ++ sp) ∧ sp.length = cap - zs.length := by
  rcases h.2 with ⟨h1, h2⟩ | ⟨g, cap, cur, rfl, _⟩
  · exact .inl ⟨h1, List.eq_nil_of_length_eq_zero h2⟩
  · obtain ⟨h1, h2, h3, h4, sp, hB, hs⟩ := own_blk h
    exact .inr ⟨g, cap, sp, rfl, h1, h2, h3, hB, by omega⟩
theorem Ints.mk {w : World} {base g cap : Nat} {zs : List Int} {sp : List Value} (hB : Blk w g 3 (iv zs ++ sp)) (hb : base ≤ g) (hc : zs.length ≤ cap) (hm : cap ≤ maxLen) (hs : sp.length = cap - zs.length) : Ints w base (.slice (some ⟨g, 0, none⟩) zs.length cap) zs :=
  blk_own hB hb hc hm (by simp) (by omega)
theorem Ints.lt {w : World} {base : Nat} {v : Value} {zs : List Int} (h : Ints w base v zs) (k : Nat) (hk : v.ownBlock = some k) : base ≤ k ∧ k < w.heap.size := World.ownsRow.lt h k hk

theorem Ints.shape {w : World} {base : Nat} {v : Value} {zs : List Int} (h : Ints w base v zs) : ∃ ao cap, v = .slice ao zs.length cap := own_form' h

theorem iv_cell {w : World} {g : Nat} {zs : List Int} {sp : List Value} (hB : Blk w g 3 (iv zs ++ sp)) (j : Nat) (hj : j < zs.length) : w.cell? ⟨g, 0 + j, none⟩ = some (.int .i64 (zs.getD j 0)) := by
  rw [Nat.zero_add, hB.cell, List.getElem?_append_left (by simpa using hj)]
  simp [List.getD, hj]

theorem infoInt : (Try.prog.info? 3).map (fun i => (i.zero, i.size, i.bytes)) = some (some (.int .i64 0), 1, 8) := by kernel_rfl
/-- 'append(s, x)' -/
theorem run_append_int (w : World) (base : Nat) (v : Value) (zs : List Int) (h : Ints w base v zs) (x : Int) (hl : zs.length + 1 ≤ 1000000) (hb : base ≤ w.heap.size) :
    ∃ v' w', (Builtin.append_ #[44, 44] 44 #[v, .slice (some ⟨w.heap.size, 0, none⟩) 1 1]).run Try.prog (w.alloc (.cells #[.int .i64 x] 3)) = .ok v' w' ∧ Ints w' base v' (zs ++ [x]) ∧ (w.alloc (.cells #[.int .i64 x] 3)).grownBy w' v.ownBlock ∧ (v'.ownBlock = v.ownBlock ∨ v'.ownBlock = some (w.heap.size + 1)) ∧ ∃ ao cap, v' = .slice ao (zs.length + 1) cap := by
  obtain ⟨i0, hi, hz, hs, hby⟩ := info_parts infoInt
  obtain ⟨v', w', hr, h1, h2, _, h4⟩ := run_append_own_at (P := Try.prog) (w.alloc (.cells #[.int .i64 x] 3)) base 44 44 3 i0 (.int .i64 0) 1 8 Try.underlying44 hi hz hs hby rfl (by decide) v zs.length (iv zs) (World.ownsRow.alloc h _) ⟨w.heap.size, 0, none⟩ 1 1 [.int .i64 x] rfl
    (fun j u hj => by
      have hB := Blk.new w 3 [.int .i64 x]
      have hj0 : j < 1 := by have := (List.getElem?_eq_some_iff.1 hj).1; simpa using this
      obtain rfl : j = 0 := by omega
      have := hB.cell 0
      simp only [List.getElem?_cons_zero, Option.some.injEq] at hj
      subst hj
      exact this) (by intro u hu; simp at hu; subst hu; rfl) (by unfold maxLen; omega) (by omega) (by simp; omega)
  refine ⟨v', w', hr, ?_, h2, ?_, ?_⟩
  · unfold Ints
    simpa using h1
  · simpa using h4
  · exact own_form' h1

theorem ints_lit (w : World) (zs : List Int) (hm : zs.length ≤ maxLen) : Ints (w.alloc (.cells (iv zs).toArray 3)) w.heap.size (.slice (some ⟨w.heap.size, 0, none⟩) zs.length zs.length) zs := World.ownsRow_lit (size := 1) w _ zs.length (Nat.le_refl _) hm (by simp)
theorem take_snoc {α : Type} (xs : List α) (k : Nat) (hk : k < xs.length) : xs.take (k + 1) = xs.take k ++ [xs[k]] := by rw [List.take_succ_eq_append_getElem hk]

end Go.Proofs.Ytfihnmdhclnhgaa
