/- A node in memory that is read: rows of slices ('Bss'), rows of pairs ('Prs'), numbers ('Is'), the struct ('NdV'). No package's function. -/
import Derived.Test.YtoamdbjailpgdaaNMath
import Derived.Test.YtoamdbjailpgdaaNByt
namespace Go.Proofs.Ytoamdbjailpgdaa
set_option maxRecDepth 20000
open Go.RowKit
set_option linter.unusedVariables false
set_option linter.unusedSimpArgs false

abbrev nilS : Value := .slice none 0 0
abbrev nil2 : Value × Value := (nilS, nilS)

/-- a []int that is read -/
def Is (w : World) (v : Value) (ks : List Int) : Prop :=
  ∃ ao cap, v = .slice ao ks.length cap ∧ ks.length ≤ cap ∧ cap ≤ maxLen ∧ (ks ≠ [] → ∃ b off, ao = some ⟨b, off, none⟩ ∧ ∀ i, i < ks.length → w.cell? ⟨b, off + i, none⟩ = some (.int .i64 (ks.getD i 0)))
/-- a [][]byte that is read; vs: the slices that stand there -/
def Bss (w : World) (v : Value) (vs : List Value) (kss : List (List Int)) : Prop :=
  vs.length = kss.length ∧ ∃ ao cap, v = .slice ao kss.length cap ∧ kss.length ≤ cap ∧ cap ≤ maxLen ∧ (∀ i, i < kss.length → Sl w (vs.getD i nilS) (kss.getD i [])) ∧
    (kss ≠ [] → ∃ b off, ao = some ⟨b, off, none⟩ ∧ ∀ i, i < kss.length → w.cell? ⟨b, off + i, none⟩ = some (vs.getD i nilS))
/-- a []api.Pair that is read; vs: the slices that stand there -/
def Prs (w : World) (v : Value) (vs : List (Value × Value)) (ps : List (List Int × List Int)) : Prop :=
  vs.length = ps.length ∧ ∃ ao cap, v = .slice ao ps.length cap ∧ ps.length ≤ cap ∧ cap ≤ maxLen ∧ (∀ i, i < ps.length → Sl w (vs.getD i nil2).1 (ps.getD i ([], [])).1 ∧ Sl w (vs.getD i nil2).2 (ps.getD i ([], [])).2) ∧
    (ps ≠ [] → ∃ b off, ao = some ⟨b, off, none⟩ ∧ ∀ i, i < ps.length → w.rangeAt b (off + i * 2) [(vs.getD i nil2).1, (vs.getD i nil2).2])

theorem Is.below {w w' : World} {v : Value} {ks : List Int} (h : Is w v ks) (hb : Below w.heap.size w w') : Is w' v ks := by
  obtain ⟨ao, cap, rfl, h1, h2, h3⟩ := h
  refine ⟨ao, cap, rfl, h1, h2, fun hne => ?_⟩
  obtain ⟨b, off, rfl, hc⟩ := h3 hne
  refine ⟨b, off, rfl, fun i hi => ?_⟩
  rw [World.cell?_of_block (w := w) (hb.block b (World.block_lt_of_cell? w _ (hc i hi)))]
  exact hc i hi
theorem Bss.below {w w' : World} {v : Value} {vs : List Value} {pss : List (List Int)} (h : Bss w v vs pss) (hb : Below w.heap.size w w') : Bss w' v vs pss := by
  obtain ⟨hl, ao, cap, rfl, h1, h2, h3, h4⟩ := h
  refine ⟨hl, ao, cap, rfl, h1, h2, fun i hi => (h3 i hi).below hb, fun hne => ?_⟩
  obtain ⟨b, off, rfl, hc⟩ := h4 hne
  refine ⟨b, off, rfl, fun i hi => ?_⟩
  rw [World.cell?_of_block (w := w) (hb.block b (World.block_lt_of_cell? w _ (hc i hi)))]
  exact hc i hi
theorem range_keep {w w' : World} {g o : Nat} {cs : List Value} (h : w.rangeAt g o cs) (hk : g < w.heap.size → w'.heap[g]? = w.heap[g]?) : w'.rangeAt g o cs := fun j v hj => by
  have := h j v hj
  rw [World.cell?_of_block (w := w) (hk (World.block_lt_of_cell? w _ this))]
  exact this
theorem Prs.below {w w' : World} {v : Value} {vs : List (Value × Value)} {ps : List (List Int × List Int)} (h : Prs w v vs ps) (hb : Below w.heap.size w w') : Prs w' v vs ps := by
  obtain ⟨hl, ao, cap, rfl, h1, h2, h3, h4⟩ := h
  refine ⟨hl, ao, cap, rfl, h1, h2, fun i hi => ⟨(h3 i hi).1.below hb, (h3 i hi).2.below hb⟩, fun hne => ?_⟩
  obtain ⟨b, off, rfl, hc⟩ := h4 hne
  exact ⟨b, off, rfl, fun i hi => range_keep (hc i hi) (fun hlt => hb.block b hlt)⟩
theorem Is.nil (w : World) (cap : Nat) (h : cap ≤ maxLen) : Is w (.slice none 0 cap) [] := ⟨none, cap, rfl, Nat.zero_le _, h, fun h => absurd rfl h⟩
theorem Bss.nil (w : World) : Bss w nilS [] [] := ⟨rfl, none, 0, rfl, Nat.le_refl _, by simp [maxLen], fun i hi => absurd hi (by simp), fun h => absurd rfl h⟩
theorem Prs.nil (w : World) : Prs w nilS [] [] := ⟨rfl, none, 0, rfl, Nat.le_refl _, by simp [maxLen], fun i hi => absurd hi (by simp), fun h => absurd rfl h⟩
theorem Is.nil' (w : World) : Is w nilS [] := Is.nil w 0 (by simp [maxLen])
theorem Is.shape {w : World} {v : Value} {ks : List Int} (h : Is w v ks) : ∃ ao cap, v = .slice ao ks.length cap ∧ ks.length ≤ cap ∧ cap ≤ 9223372036854775807 := by
  obtain ⟨ao, cap, rfl, h1, h2, _⟩ := h
  exact ⟨ao, cap, rfl, h1, h2⟩
theorem Bss.shape {w : World} {v : Value} {vs : List Value} {ks : List (List Int)} (h : Bss w v vs ks) : ∃ ao cap, v = .slice ao ks.length cap ∧ ks.length ≤ cap ∧ cap ≤ 9223372036854775807 := by
  obtain ⟨_, ao, cap, rfl, h1, h2, _⟩ := h
  exact ⟨ao, cap, rfl, h1, h2⟩
theorem Prs.shape {w : World} {v : Value} {vs : List (Value × Value)} {ps : List (List Int × List Int)} (h : Prs w v vs ps) : ∃ ao cap, v = .slice ao ps.length cap ∧ ps.length ≤ cap ∧ cap ≤ 9223372036854775807 := by
  obtain ⟨_, ao, cap, rfl, h1, h2, _⟩ := h
  exact ⟨ao, cap, rfl, h1, h2⟩
theorem Is.at {w : World} {ao : Option Addr} {n cap : Nat} {ks : List Int} (h : Is w (.slice ao n cap) ks) (i : Nat) (hi : i < ks.length) : ∃ b off, ao = some ⟨b, off, none⟩ ∧ w.cell? ⟨b, off + i, none⟩ = some (.int .i64 (ks.getD i 0)) := by
  obtain ⟨ao', cap', he, h1, h2, h3⟩ := h
  simp only [Value.slice.injEq] at he
  obtain ⟨rfl, rfl, rfl⟩ := he
  obtain ⟨b, off, rfl, hc⟩ := h3 (by intro e; simp [e] at hi)
  exact ⟨b, off, rfl, hc i hi⟩
theorem Bss.at {w : World} {ao : Option Addr} {n cap : Nat} {vs : List Value} {ks : List (List Int)} (h : Bss w (.slice ao n cap) vs ks) (i : Nat) (hi : i < ks.length) : ∃ b off, ao = some ⟨b, off, none⟩ ∧ w.cell? ⟨b, off + i, none⟩ = some (vs.getD i nilS) ∧ Sl w (vs.getD i nilS) (ks.getD i []) := by
  obtain ⟨_, ao', cap', he, h1, h2, h3, h4⟩ := h
  simp only [Value.slice.injEq] at he
  obtain ⟨rfl, rfl, rfl⟩ := he
  obtain ⟨b, off, rfl, hc⟩ := h4 (by intro h; simp [h] at hi)
  exact ⟨b, off, rfl, hc i hi, h3 i hi⟩
theorem Prs.at {w : World} {ao : Option Addr} {n cap : Nat} {vs : List (Value × Value)} {ps : List (List Int × List Int)} (h : Prs w (.slice ao n cap) vs ps) (i : Nat) (hi : i < ps.length) : ∃ b off, ao = some ⟨b, off, none⟩ ∧ w.rangeAt b (off + i * 2) [(vs.getD i nil2).1, (vs.getD i nil2).2] ∧ Sl w (vs.getD i nil2).1 (ps.getD i ([], [])).1 ∧ Sl w (vs.getD i nil2).2 (ps.getD i ([], [])).2 := by
  obtain ⟨_, ao', cap', he, h1, h2, h3, h4⟩ := h
  simp only [Value.slice.injEq] at he
  obtain ⟨rfl, rfl, rfl⟩ := he
  obtain ⟨b, off, rfl, hc⟩ := h4 (by intro h; simp [h] at hi)
  exact ⟨b, off, rfl, hc i hi, h3 i hi⟩
theorem Prs.len {w : World} {v : Value} {vs : List (Value × Value)} {ps : List (List Int × List Int)} (h : Prs w v vs ps) : vs.length = ps.length := h.1

/-! ### cuts -/
theorem Is.take {w : World} {ao : Option Addr} {cap n : Nat} {ks : List Int} (h : Is w (.slice ao ks.length cap) ks) (hn : n ≤ ks.length) (c : Nat) (hc : n ≤ c) (hcm : c ≤ maxLen) : Is w (.slice ao n c) (ks.take n) := by
  obtain ⟨ao', cap', he, h1, h2, h3⟩ := h
  simp only [Value.slice.injEq, true_and] at he
  obtain ⟨rfl, rfl⟩ := he
  have hl : (ks.take n).length = n := by simp; omega
  refine ⟨ao, c, by rw [hl], by omega, hcm, fun hne => ?_⟩
  obtain ⟨b, off, rfl, hcc⟩ := h3 (by intro e; simp [e] at hne)
  refine ⟨b, off, rfl, fun i hi => ?_⟩
  rw [getD_take ks n i (by omega)]
  exact hcc i (by omega)

/-! ### the struct -/
def ndv (lf : Bool) (p k c : Value) : Value := .agg #[.bool lf, p, k, c]
def NdV (w : World) (v : Value) (n : Nd) : Prop := ∃ vp vk vc xs ys, v = ndv n.lf vp vk vc ∧ Prs w vp xs n.ps ∧ Bss w vk ys n.ks ∧ Is w vc n.cs
theorem NdV.below {w w' : World} {v : Value} {n : Nd} (h : NdV w v n) (hb : Below w.heap.size w w') : NdV w' v n := by
  obtain ⟨vp, vk, vc, xs, ys, rfl, h1, h2, h3⟩ := h
  exact ⟨vp, vk, vc, xs, ys, rfl, h1.below hb, h2.below hb, h3.below hb⟩
theorem NdV.none (w : World) : NdV w (ndv false nilS nilS nilS) noNd := ⟨nilS, nilS, nilS, [], [], rfl, Prs.nil w, Bss.nil w, Is.nil' w⟩
theorem NdV.alloc {w : World} {v : Value} {n : Nd} (h : NdV w v n) (o : Obj) : NdV (w.alloc o) v n := h.below ((Below.refl _ w).alloc (Nat.le_refl _) o)
/-- the value, laid open -/
theorem NdV.open {w : World} {v : Value} {n : Nd} (h : NdV w v n) : ∃ pa pc ka kc ca cc xs ys, v = ndv n.lf (.slice pa n.ps.length pc) (.slice ka n.ks.length kc) (.slice ca n.cs.length cc) ∧ n.ps.length ≤ pc ∧ n.ks.length ≤ kc ∧ n.cs.length ≤ cc ∧ pc ≤ 9223372036854775807 ∧ kc ≤ 9223372036854775807 ∧ cc ≤ 9223372036854775807 ∧
    Prs w (.slice pa n.ps.length pc) xs n.ps ∧ Bss w (.slice ka n.ks.length kc) ys n.ks ∧ Is w (.slice ca n.cs.length cc) n.cs := by
  obtain ⟨vp, vk, vc, xs, ys, rfl, h1, h2, h3⟩ := h
  obtain ⟨pa, pc, rfl, a1, a2⟩ := h1.shape
  obtain ⟨ka, kc, rfl, b1, b2⟩ := h2.shape
  obtain ⟨ca, cc, rfl, c1, c2⟩ := h3.shape
  exact ⟨pa, pc, ka, kc, ca, cc, xs, ys, rfl, a1, b1, c1, a2, b2, c2, h1, h2, h3⟩
/-- its four cells, boxed -/
def ndc (lf : Bool) (p k c : Value) : List Value := [.bool lf, p, k, c]
theorem box_ndc {w : World} {b : Nat} {e : TypeId} {lf : Bool} {p k c : Value} (h : Blk w b e (ndc lf p k c)) : w.cell? ⟨b, 0, none⟩ = some (.bool lf) ∧ w.cell? ⟨b, 1, none⟩ = some p ∧ w.cell? ⟨b, 2, none⟩ = some k ∧ w.cell? ⟨b, 3, none⟩ = some c := ⟨h.cell 0, h.cell 1, h.cell 2, h.cell 3⟩

end Go.Proofs.Ytoamdbjailpgdaa
