/- A []uint32 that is owned, whole; append; a literal. No package's function. -/
import Derived.Test.YtfihnmdhclnhgaaEInts
import Derived.Maps.AppendAt
namespace Go.Proofs.Ytfihnmdhclnhgaa
set_option maxRecDepth 20000
open Go.RowKit
set_option linter.unusedVariables false

abbrev uv (zs : List Int) : List Value := zs.map (Value.int .u32)
/-- a []uint32 that is owned, whole, from some block at or above base on -/
def Un (w : World) (base : Nat) (v : Value) (zs : List Int) : Prop := w.ownsRow base 27 1 v zs.length (uv zs)

theorem Un.nil (w : World) (base : Nat) : Un w base (.slice none 0 0) [] := World.ownsRow_nil _ _ _ _
theorem Un.base {w : World} {base base' : Nat} {v : Value} {zs : List Int} (h : Un w base v zs) (hb : base' ≤ base) : Un w base' v zs := by
  refine ⟨h.1, ?_⟩
  rcases h.2 with h' | ⟨g, cap, cur, e, h1, r⟩
  · exact .inl h'
  · exact .inr ⟨g, cap, cur, e, Nat.le_trans hb h1, r⟩
theorem Un.only {S : Nat → Prop} {w w' : World} {base : Nat} {v : Value} {zs : List Int} (h : Un w base v zs) (ho : Only S w w') (hn : ∀ k, v.ownBlock = some k → ¬ S k) : Un w' base v zs := ownsRow_only h ho hn
theorem Un.below {w w' : World} {base : Nat} {v : Value} {zs : List Int} (h : Un w base v zs) (hb : Below w.heap.size w w') : Un w' base v zs := ownsRow_only h (Only.of_below (fun _ => False) hb) (fun _ _ h => h)
theorem Un.form {w : World} {base : Nat} {v : Value} {zs : List Int} (h : Un w base v zs) : (v = .slice none 0 0 ∧ zs = []) ∨ ∃ g cap sp, v = .slice (some ⟨g, 0, none⟩) zs.length cap ∧ base ≤ g ∧ zs.length ≤ cap ∧ cap ≤ maxLen ∧ Blk w g 27 (uv zs ++ sp) ∧ sp.length = cap - zs.length := by
  rcases h.2 with ⟨h1, h2⟩ | ⟨g, cap, cur, rfl, _⟩
  · exact .inl ⟨h1, List.eq_nil_of_length_eq_zero h2⟩
  · obtain ⟨h1, h2, h3, h4, sp, hB, hs⟩ := own_blk h
    exact .inr ⟨g, cap, sp, rfl, h1, h2, h3, hB, by omega⟩
theorem Un.mk {w : World} {base g cap : Nat} {zs : List Int} {sp : List Value} (hB : Blk w g 27 (uv zs ++ sp)) (hb : base ≤ g) (hc : zs.length ≤ cap) (hm : cap ≤ maxLen) (hs : sp.length = cap - zs.length) : Un w base (.slice (some ⟨g, 0, none⟩) zs.length cap) zs :=
  blk_own hB hb hc hm (by simp) (by omega)
theorem Un.lt {w : World} {base : Nat} {v : Value} {zs : List Int} (h : Un w base v zs) (k : Nat) (hk : v.ownBlock = some k) : base ≤ k ∧ k < w.heap.size := World.ownsRow.lt h k hk

theorem Un.shape {w : World} {base : Nat} {v : Value} {zs : List Int} (h : Un w base v zs) : ∃ ao cap, v = .slice ao zs.length cap := own_form' h

theorem uv_cell {w : World} {g : Nat} {zs : List Int} {sp : List Value} (hB : Blk w g 27 (uv zs ++ sp)) (j : Nat) (hj : j < zs.length) : w.cell? ⟨g, 0 + j, none⟩ = some (.int .u32 (zs.getD j 0)) := by
  rw [Nat.zero_add, hB.cell, List.getElem?_append_left (by simpa using hj)]
  simp [List.getD, hj]

theorem infoU32 : (Try.prog.info? 27).map (fun i => (i.zero, i.size, i.bytes)) = some (some (.int .u32 0), 1, 4) := by kernel_rfl
/-- 'append(s, x)' -/
theorem run_append_u (w : World) (base : Nat) (v : Value) (zs : List Int) (h : Un w base v zs) (x : Int) (hl : zs.length + 1 ≤ 1000000) (hb : base ≤ w.heap.size) :
    ∃ v' w', (Builtin.append_ #[23, 23] 23 #[v, .slice (some ⟨w.heap.size, 0, none⟩) 1 1]).run Try.prog (w.alloc (.cells #[.int .u32 x] 27)) = .ok v' w' ∧ Un w' base v' (zs ++ [x]) ∧ (w.alloc (.cells #[.int .u32 x] 27)).grownBy w' v.ownBlock ∧ (v'.ownBlock = v.ownBlock ∨ v'.ownBlock = some (w.heap.size + 1)) ∧ ∃ ao cap, v' = .slice ao (zs.length + 1) cap := by
  obtain ⟨i0, hi, hz, hs, hby⟩ := info_parts infoU32
  obtain ⟨v', w', hr, h1, h2, _, h4⟩ := run_append_own_at (P := Try.prog) (w.alloc (.cells #[.int .u32 x] 27)) base 23 23 27 i0 (.int .u32 0) 1 4 Try.underlying23 hi hz hs hby rfl (by decide) v zs.length (uv zs) (World.ownsRow.alloc h _) ⟨w.heap.size, 0, none⟩ 1 1 [.int .u32 x] rfl
    (fun j u hj => by
      have hB := Blk.new w 27 [.int .u32 x]
      have hj0 : j < 1 := by have := (List.getElem?_eq_some_iff.1 hj).1; simpa using this
      obtain rfl : j = 0 := by omega
      have := hB.cell 0
      simp only [List.getElem?_cons_zero, Option.some.injEq] at hj
      subst hj
      exact this) (by intro u hu; simp at hu; subst hu; rfl) (by unfold maxLen; omega) (by omega) (by simp; omega)
  refine ⟨v', w', hr, ?_, h2, ?_, ?_⟩
  · unfold Un
    simpa using h1
  · simpa using h4
  · exact own_form' h1

theorem un_lit (w : World) (zs : List Int) (hm : zs.length ≤ maxLen) : Un (w.alloc (.cells (uv zs).toArray 27)) w.heap.size (.slice (some ⟨w.heap.size, 0, none⟩) zs.length zs.length) zs := World.ownsRow_lit (size := 1) w _ zs.length (Nat.le_refl _) hm (by simp)

end Go.Proofs.Ytfihnmdhclnhgaa
