/- Slices that stand in a slice, and are read. -/
import Derived.Test.YtfihnmdhclnhgaaEInts
namespace Go.Proofs.Ytfihnmdhclnhgaa
set_option maxRecDepth 20000
open Go.RowKit
set_option linter.unusedVariables false

def Parts (w : World) (v : Value) (vs : List Value) (pss : List (List Int)) : Prop :=
  vs.length = pss.length ∧ ∃ ao cap, v = .slice ao vs.length cap ∧ vs.length ≤ cap ∧ cap ≤ maxLen ∧
    (∀ i, i < vs.length → Sl w (vs.getD i (.slice none 0 0)) (pss.getD i [])) ∧
    (vs ≠ [] → ∃ b off, ao = some ⟨b, off, none⟩ ∧ ∀ i, i < vs.length → w.cell? ⟨b, off + i, none⟩ = some (vs.getD i (.slice none 0 0)))
theorem Parts.below {w w' : World} {v : Value} {vs : List Value} {pss : List (List Int)} (h : Parts w v vs pss) (hb : Below w.heap.size w w') : Parts w' v vs pss := by
  obtain ⟨hl, ao, cap, rfl, h1, h2, h3, h4⟩ := h
  refine ⟨hl, ao, cap, rfl, h1, h2, fun i hi => (h3 i hi).below hb, fun hne => ?_⟩
  obtain ⟨b, off, rfl, hc⟩ := h4 hne
  refine ⟨b, off, rfl, fun i hi => ?_⟩
  have hlt := World.block_lt_of_cell? w _ (hc i hi)
  rw [World.cell?_of_block (w := w) (hb.block b hlt)]
  exact hc i hi
theorem Parts.at {w : World} {ao : Option Addr} {n cap : Nat} {vs : List Value} {pss : List (List Int)} (h : Parts w (.slice ao n cap) vs pss) (i : Nat) (hi : i < vs.length) :
    ∃ b off, ao = some ⟨b, off, none⟩ ∧ w.cell? ⟨b, off + i, none⟩ = some (vs.getD i (.slice none 0 0)) ∧ Sl w (vs.getD i (.slice none 0 0)) (pss.getD i []) := by
  obtain ⟨_, ao', cap', he, h1, h2, h3, h4⟩ := h
  simp only [Value.slice.injEq] at he
  obtain ⟨rfl, rfl, rfl⟩ := he
  obtain ⟨b, off, rfl, hc⟩ := h4 (by intro h; simp [h] at hi)
  exact ⟨b, off, rfl, hc i hi, h3 i hi⟩
theorem Parts.shape {w : World} {v : Value} {vs : List Value} {pss : List (List Int)} (h : Parts w v vs pss) : ∃ ao cap, v = .slice ao pss.length cap ∧ pss.length ≤ cap ∧ cap ≤ maxLen ∧ vs.length = pss.length := by
  obtain ⟨hl, ao, cap, rfl, h1, h2, _⟩ := h
  exact ⟨ao, cap, by rw [hl], by omega, h2, hl⟩
theorem Sl.shape {w : World} {v : Value} {zs : List Int} (h : Sl w v zs) : ∃ ao cap, v = .slice ao zs.length cap ∧ zs.length ≤ cap ∧ cap ≤ maxLen := by
  obtain ⟨_, ao, cap, rfl, h1, h2, _⟩ := h
  exact ⟨ao, cap, rfl, h1, h2⟩
theorem Sl.at' {w : World} {ao : Option Addr} {n cap : Nat} {zs : List Int} (h : Sl w (.slice ao n cap) zs) (i : Nat) (hi : i < zs.length) : ∃ b off, ao = some ⟨b, off, none⟩ ∧ w.cell? ⟨b, off + i, none⟩ = some (.int .u8 (zs.getD i 0)) := by
  obtain ⟨_, ao', cap', he, h1, h2, h3, h4⟩ := h
  simp only [Value.slice.injEq] at he
  obtain ⟨rfl, rfl, rfl⟩ := he
  obtain ⟨b, off, rfl, hc⟩ := h4 (by intro h; simp [h] at hi)
  exact ⟨b, off, rfl, hc i hi⟩
theorem ci_take {pss : List (List Int)} {k : Nat} (hk : k < pss.length) : pss.take (k + 1) = pss.take k ++ [pss.getD k []] := by
  rw [take_snoc pss k hk]
  simp [List.getD, hk]
theorem run_append_int2 (w : World) (base : Nat) (v : Value) (zs : List Int) (h : Ints w base v zs) (x : Int) (hl : zs.length + 1 ≤ 1000000) (hb : base ≤ w.heap.size) :
    ∃ v' w', (Builtin.append_ #[44, 44] 44 #[v, .slice (some ⟨w.heap.size, 0, none⟩) 1 1]).run Try.prog (w.alloc (.cells #[.int .i64 x] 3)) = .ok v' w' ∧ Ints w' base v' (zs ++ [x]) ∧ Only (fun j => v.ownBlock = some j) w w' := by
  obtain ⟨v', w', hr, h2, h3, _⟩ := run_append_int w base v zs h x hl hb
  exact ⟨v', w', hr, h2, ((Only.refl _ w).alloc _).grown h3 (fun j e _ => e)⟩

end Go.Proofs.Ytfihnmdhclnhgaa
