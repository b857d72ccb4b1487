/- Postings in memory that are read: one ('PoV'), a row of them ('Pps'). No package's function. -/
import Derived.Test.YtfihnmdhclnhgaaLsPo
import Derived.Test.YtfihnmdhclnhgaaKSl
namespace Go.Proofs.Ytfihnmdhclnhgaa
set_option maxRecDepth 20000
open Go.RowKit
set_option linter.unusedVariables false
set_option linter.unusedSimpArgs false

abbrev nilS : Value := .slice none 0 0
/-- a posting that is read -/
def PoV (w : World) (v : Value) (p : Po) : Prop := p.doc < 4294967296 ∧ ∃ u, v = .agg #[.int .u32 (p.doc : Int), u] ∧ Is w u p.pos
/-- a []api.Posting that is read; us: the slices that stand there -/
def Pps (w : World) (v : Value) (us : List Value) (ps : List Po) : Prop :=
  us.length = ps.length ∧ ∃ ao cap, v = .slice ao ps.length cap ∧ ps.length ≤ cap ∧ cap ≤ maxLen ∧ (∀ i, i < ps.length → (ps.getD i noPo).doc < 4294967296 ∧ Is w (us.getD i nilS) (ps.getD i noPo).pos) ∧
    (ps ≠ [] → ∃ b off, ao = some ⟨b, off, none⟩ ∧ ∀ i, i < ps.length → w.rangeAt b (off + i * 2) [.int .u32 ((ps.getD i noPo).doc : Int), us.getD i nilS])

theorem range_keep {w w' : World} {g o : Nat} {cs : List Value} (h : w.rangeAt g o cs) (hk : g < w.heap.size → w'.heap[g]? = w.heap[g]?) : w'.rangeAt g o cs := fun j v hj => by
  have := h j v hj
  rw [World.cell?_of_block (w := w) (hk (World.block_lt_of_cell? w _ this))]
  exact this
theorem PoV.below {w w' : World} {v : Value} {p : Po} (h : PoV w v p) (hb : Below w.heap.size w w') : PoV w' v p := by
  obtain ⟨h1, u, rfl, h2⟩ := h
  exact ⟨h1, u, rfl, h2.below hb⟩
theorem Pps.below {w w' : World} {v : Value} {us : List Value} {ps : List Po} (h : Pps w v us ps) (hb : Below w.heap.size w w') : Pps w' v us ps := by
  obtain ⟨hl, ao, cap, rfl, h1, h2, h3, h4⟩ := h
  refine ⟨hl, ao, cap, rfl, h1, h2, fun i hi => ⟨(h3 i hi).1, (h3 i hi).2.below hb⟩, fun hne => ?_⟩
  obtain ⟨b, off, rfl, hc⟩ := h4 hne
  exact ⟨b, off, rfl, fun i hi => range_keep (hc i hi) (fun hlt => hb.block b hlt)⟩
theorem Pps.nil (w : World) : Pps w nilS [] [] := ⟨rfl, none, 0, rfl, Nat.le_refl _, by simp [maxLen], fun i hi => absurd hi (by simp), fun h => absurd rfl h⟩
theorem Pps.shape {w : World} {v : Value} {us : List Value} {ps : List Po} (h : Pps w v us ps) : ∃ ao cap, v = .slice ao ps.length cap ∧ ps.length ≤ cap ∧ cap ≤ 9223372036854775807 := by
  obtain ⟨_, ao, cap, rfl, h1, h2, _⟩ := h
  exact ⟨ao, cap, rfl, h1, h2⟩
theorem Is.shape {w : World} {v : Value} {ks : List Int} (h : Is w v ks) : ∃ ao cap, v = .slice ao ks.length cap ∧ ks.length ≤ cap ∧ cap ≤ 9223372036854775807 := by
  obtain ⟨ao, cap, rfl, h1, h2, _⟩ := h
  exact ⟨ao, cap, rfl, h1, h2⟩
theorem Pps.at {w : World} {ao : Option Addr} {n cap : Nat} {us : List Value} {ps : List Po} (h : Pps w (.slice ao n cap) us ps) (i : Nat) (hi : i < ps.length) :
    ∃ b off, ao = some ⟨b, off, none⟩ ∧ w.cell? ⟨b, off + i * 2, none⟩ = some (.int .u32 ((ps.getD i noPo).doc : Int)) ∧ w.cell? ⟨b, off + i * 2 + 1, none⟩ = some (us.getD i nilS) ∧ (ps.getD i noPo).doc < 4294967296 ∧ Is w (us.getD i nilS) (ps.getD i noPo).pos := by
  obtain ⟨_, ao', cap', he, h1, h2, h3, h4⟩ := h
  simp only [Value.slice.injEq] at he
  obtain ⟨rfl, rfl, rfl⟩ := he
  obtain ⟨b, off, rfl, hc⟩ := h4 (by intro h; simp [h] at hi)
  exact ⟨b, off, rfl, hc i hi 0 _ rfl, hc i hi 1 _ rfl, (h3 i hi).1, (h3 i hi).2⟩
theorem Pps.take {w : World} {ao : Option Addr} {cap : Nat} {us : List Value} {ps : List Po} (h : Pps w (.slice ao ps.length cap) us ps) (n : Nat) (hn : n ≤ ps.length) : Pps w (.slice ao n cap) (us.take n) (ps.take n) := by
  obtain ⟨hl, ao', cap', he, h1, h2, h3, h4⟩ := h
  simp only [Value.slice.injEq, true_and] at he
  obtain ⟨rfl, rfl⟩ := he
  have hln : (ps.take n).length = n := by simp; omega
  have e1 : ∀ i, i < n → (ps.take n).getD i noPo = ps.getD i noPo := fun i hi => by simp [List.getD, List.getElem?_take, hi]
  have e2 : ∀ i, i < n → (us.take n).getD i nilS = us.getD i nilS := fun i hi => by simp [List.getD, List.getElem?_take, hi]
  refine ⟨by simp; omega, ao, cap, by rw [hln], by omega, h2, fun i hi => ?_, fun hne => ?_⟩
  · rw [hln] at hi
    rw [e1 i hi, e2 i hi]
    exact h3 i (by omega)
  · obtain ⟨b, off, rfl, hc⟩ := h4 (by intro e; simp [e] at hne)
    refine ⟨b, off, rfl, fun i hi => ?_⟩
    rw [hln] at hi
    rw [e1 i hi, e2 i hi]
    exact hc i (by omega)

end Go.Proofs.Ytfihnmdhclnhgaa
