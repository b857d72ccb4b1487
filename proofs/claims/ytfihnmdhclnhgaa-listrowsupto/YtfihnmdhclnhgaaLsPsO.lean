/- Lists of postings in a row that is owned; one more put behind. No package's function. -/
import Derived.Test.YtfihnmdhclnhgaaLsPost
import Derived.Test.YtfihnmdhclnhgaaLsPosQ
namespace Go.Proofs.Ytfihnmdhclnhgaa
set_option maxRecDepth 20000
open Go.RowKit
set_option linter.unusedVariables false
set_option linter.unusedSimpArgs false
set_option maxRecDepth 100000

theorem infoPs : (Try.prog.info? 47).map (fun i => (i.zero, i.size, i.bytes)) = some (some (.slice none 0 0), 1, 24) := by kernel_rfl
/-- no block of theirs is v's own -/
def SepV (v : Value) (us : List Value) (ls : List (List PE)) : Prop := ∀ j, v.ownBlock = some j → (∀ u ∈ us, u.ownBlock ≠ some j) ∧ ∀ l ∈ ls, ∀ x ∈ l, x.1.ownBlock ≠ some j
structure PsO (w : World) (base : Nat) (v : Value) (us : List Value) (ls : List (List PE)) : Prop where
  row : w.ownsRow base 47 1 v us.length us
  len : us.length = ls.length
  each : ∀ i, i < ls.length → PpO w base (us.getD i nilS) (ls.getD i [])
theorem getD_mem {α : Type} (l : List α) (i : Nat) (d : α) (h : i < l.length) : l.getD i d ∈ l := by
  simp only [List.getD, List.getElem?_eq_getElem h, Option.getD_some]
  exact List.getElem_mem h
theorem PsO.only {S : Nat → Prop} {w w' : World} {base : Nat} {v : Value} {us : List Value} {ls : List (List PE)} (h : PsO w base v us ls) (ho : Only S w w') (hv : ∀ j, v.ownBlock = some j → ¬ S j) (hu : ∀ u ∈ us, ∀ j, u.ownBlock = some j → ¬ S j) (hx : ∀ l ∈ ls, ∀ x ∈ l, ∀ j, x.1.ownBlock = some j → ¬ S j) : PsO w' base v us ls :=
  ⟨ownsRow_only h.row ho hv, h.len, fun i hi => (h.each i hi).only ho (hu _ (getD_mem us i nilS (by have := h.len; omega))) (hx _ (getD_mem ls i [] hi))⟩
theorem PsO.fresh {w w' : World} {base : Nat} {v : Value} {us : List Value} {ls : List (List PE)} (h : PsO w base v us ls) (hb : Below w.heap.size w w') : PsO w' base v us ls :=
  h.only (Only.of_below (fun _ => False) hb) (fun _ _ h => h) (fun _ _ _ _ h => h) (fun _ _ _ _ _ _ h => h)
theorem PsO.lt {w : World} {base : Nat} {v : Value} {us : List Value} {ls : List (List PE)} (h : PsO w base v us ls) : (∀ j, v.ownBlock = some j → base ≤ j ∧ j < w.heap.size) ∧ (∀ u ∈ us, ∀ j, u.ownBlock = some j → j < w.heap.size) ∧ (∀ l ∈ ls, ∀ x ∈ l, ∀ j, x.1.ownBlock = some j → j < w.heap.size) := by
  refine ⟨fun j hj => World.ownsRow.lt h.row j hj, fun u hu j hj => ?_, fun l hl x hx j hj => ?_⟩
  · obtain ⟨i, hi, rfl⟩ := List.mem_iff_getElem.1 hu
    have := (h.each i (by have := h.len; omega)).lt j (by rw [show us.getD i nilS = us[i] by simp [List.getD, hi]]; exact hj)
    exact this.2
  · obtain ⟨i, hi, rfl⟩ := List.mem_iff_getElem.1 hl
    exact (((h.each i hi).each x (by rw [show ls.getD i [] = ls[i] by simp [List.getD, hi]]; exact hx)).2.lt j hj).2
theorem PsO.nil (w : World) (base : Nat) : PsO w base nilS [] [] := ⟨World.ownsRow_nil _ _ _ _, rfl, fun i hi => absurd hi (Nat.not_lt_zero _)⟩
theorem PsO.shape {w : World} {base : Nat} {v : Value} {us : List Value} {ls : List (List PE)} (h : PsO w base v us ls) : ∃ ao cap, v = .slice ao us.length cap := own_form' h.row
/-- and read -/
theorem PsO.read {w : World} {base : Nat} {v : Value} {us : List Value} {ls : List (List PE)} (h : PsO w base v us ls) : Pss w v us ls := by
  obtain ⟨ao, cap, rfl⟩ := h.shape
  have hh := own_len h.row
  have hlen := h.len
  refine ⟨hlen, ao, cap, by rw [hlen], by omega, hh.2, fun i hi => (h.each i hi).pq, fun hne => ?_⟩
  have hpos := List.length_pos_iff.2 hne
  cases ao with
  | none =>
    rcases h.row.2 with ⟨_, e⟩ | ⟨g, cap', sp, e, _⟩
    · omega
    · simp at e
  | some a =>
    rcases h.row.2 with ⟨e, _⟩ | ⟨g, cap', sp, e, _⟩
    · simp at e
    · simp only [Value.slice.injEq, Option.some.injEq] at e
      obtain ⟨rfl, _⟩ := e
      refine ⟨g, 0, rfl, fun i hi => ?_⟩
      rw [Nat.zero_add]
      refine (World.ownsRow.cellAt h.row i (by omega)).trans ?_
      simp [List.getD, show i < us.length by omega]
/-- a list of postings more -/
theorem push_ps (W : World) (base : Nat) (v : Value) (us : List Value) (ls : List (List PE)) (h : PsO W base v us ls) (hsep : SepV v us ls) (a : Option Addr) (n c : Nat) (l : List PE) (hp : PpO W base (.slice a n c) l) (hsu : ∀ j, v.ownBlock = some j → (Value.slice a n c).ownBlock ≠ some j) (hsx : ∀ j, v.ownBlock = some j → ∀ x ∈ l, x.1.ownBlock ≠ some j) (hl : us.length ≤ 1000) (hbase : base ≤ W.heap.size) :
    ∃ v2 w3, (Builtin.append_ #[45, 45] 45 #[v, .slice (some ⟨W.heap.size, 0, none⟩) 1 1]).run Try.prog (W.alloc (.cells #[.slice a n c] 47)) = .ok v2 w3 ∧ PsO w3 base v2 (us ++ [.slice a n c]) (ls ++ [l]) ∧
      Only (fun j => v.ownBlock = some j) W w3 ∧ (v2.ownBlock = v.ownBlock ∨ ∃ k, v2.ownBlock = some k ∧ W.heap.size < k) ∧ ∃ ao cap, v2 = .slice ao (us.length + 1) cap := by
  obtain ⟨i0, hi0, hz0, hz1, hz2⟩ := info_parts infoPs
  obtain ⟨W1, hW1⟩ : ∃ W1, W.alloc (.cells #[.slice a n c] 47) = W1 := ⟨_, rfl⟩
  have hs1 : W1.heap.size = W.heap.size + 1 := by rw [← hW1]; simp
  have hb1 : Below W.heap.size W W1 := by rw [← hW1]; exact (Below.refl _ W).alloc (Nat.le_refl _) _
  have hg : Blk W1 W.heap.size 47 [.slice a n c] := by rw [← hW1]; exact Blk.new W _ _
  have h' := h.fresh hb1
  obtain ⟨p', w', hr, h1, h2, _, h4⟩ := run_append_own_at (P := Try.prog) W1 base 45 45 47 i0 _ 1 24 Try.underlying45 hi0 hz0 hz1 hz2 rfl (by decide) v us.length us h'.row ⟨W.heap.size, 0, none⟩ 1 1 [.slice a n c] rfl
    (fun j u hj => by
      have hj0 : j < 1 := by have := (List.getElem?_eq_some_iff.1 hj).1; simpa using this
      obtain rfl : j = 0 := by omega
      simp only [List.getElem?_cons_zero, Option.some.injEq] at hj
      subst hj
      exact hg.cell 0) (by intro u hu'; simp at hu'; subst hu'; rfl) (by unfold maxLen; omega) (by omega) (by omega)
  rw [hW1]
  have hoA : Only (fun j => v.ownBlock = some j) W w' := (Only.of_below (fun j => v.ownBlock = some j) hb1).grown h2 (fun j e _ => e)
  have h3 : PsO w' base p' (us ++ [.slice a n c]) (ls ++ [l]) := by
    refine ⟨by rw [List.length_append]; exact h1, by simp [h.len], fun i hi => ?_⟩
    rw [List.length_append, List.length_singleton] at hi
    have hlen := h.len
    by_cases hil : i < ls.length
    · rw [show (us ++ [Value.slice a n c]).getD i nilS = us.getD i nilS by simp only [List.getD]; rw [List.getElem?_append_left (by omega)], show (ls ++ [l]).getD i [] = ls.getD i [] by simp only [List.getD]; rw [List.getElem?_append_left (by omega)]]
      exact (h.each i hil).only hoA (fun j hj e => (hsep j e).1 _ (getD_mem us i nilS (by omega)) hj) (fun x hx j hj e => (hsep j e).2 _ (getD_mem ls i [] hil) x hx hj)
    · obtain rfl : i = ls.length := by omega
      rw [show (us ++ [Value.slice a n c]).getD ls.length nilS = .slice a n c by simp [List.getD, ← hlen], show (ls ++ [l]).getD ls.length [] = l by simp [List.getD]]
      exact hp.only hoA (fun j hj e => hsu j e hj) (fun x hx j hj e => hsx j e x hx hj)
  refine ⟨p', w', hr, h3, hoA, ?_, ?_⟩
  · rcases h4 with h4 | h4
    · exact .inl h4
    · exact .inr ⟨_, h4, by omega⟩
  · have := own_form' h1
    simpa using this

end Go.Proofs.Ytfihnmdhclnhgaa
