/- Contracts: the document's answer: its reader (incipitref01.Reader). -/
import Derived.Test.YtbopcppagfhjnaaRdText
import Derived.Test.YtbopcppagfhjnaaRefAfter
namespace Go.Proofs.Ytbopcppagfhjnaa
open Go.RowKit

/-- the document's reader lies at block b: what is left, and the first error -/
def RR (w : World) (b : Nat) (u : Value) (zs : List Int) (er : Int) : Prop :=
  w.heap[b]? = some (.cells #[u, .int .i64 er] 49 (0, 0)) ∧ Sl w u zs ∧ ∀ k, u.ownBlock = some k → k ≠ b ∧ k < w.heap.size

theorem RR.cells {w : World} {b : Nat} {u : Value} {zs : List Int} {er : Int} (h : RR w b u zs er) :
    w.cell? ⟨b, 0, none⟩ = some u ∧ w.cell? ⟨b, 1, none⟩ = some (.int .i64 er) ∧ ∀ j, w.frozen? ⟨b, j, none⟩ = false := by
  refine ⟨?_, ?_, fun j => frozen_of_row w b j _ _ h.1⟩ <;> rw [cell_of_row w b _ _ _ (0, 0) h.1] <;> rfl
theorem RR.lt {w : World} {b : Nat} {u : Value} {zs : List Int} {er : Int} (h : RR w b u zs er) : b < w.heap.size := (Array.getElem?_eq_some_iff.1 h.1).1
theorem RR.keep {w w' : World} {b : Nat} {u : Value} {zs : List Int} {er : Int} (h : RR w b u zs er) (hb : Below w.heap.size w w') : RR w' b u zs er :=
  ⟨by rw [hb.block b h.lt]; exact h.1, h.2.1.below hb, fun k hk => ⟨(h.2.2 k hk).1, Nat.lt_of_lt_of_le (h.2.2 k hk).2 hb.size⟩⟩

theorem rheap_set0 {w : World} {b : Nat} {x y : Value} {T : TypeId} (h : w.heap[b]? = some (.cells #[x, y] T (0, 0))) (x' : Value) : (w.setCell ⟨b, 0, none⟩ x').heap[b]? = some (.cells #[x', y] T (0, 0)) := by
  rw [heap_setCell_same w b 0 _ T x' h]; rfl
theorem rheap_set1 {w : World} {b : Nat} {x y : Value} {T : TypeId} (h : w.heap[b]? = some (.cells #[x, y] T (0, 0))) (y' : Value) : (w.setCell ⟨b, 1, none⟩ y').heap[b]? = some (.cells #[x, y'] T (0, 0)) := by
  rw [heap_setCell_same w b 1 _ T y' h]; rfl

/-- a slice stays what it is behind a store into a block that it does not lead to -/
theorem sl_set {w : World} {b j : Nat} {v x : Value} {zs : List Int} (h : Sl w v zs) (hne : zs ≠ [] → v.ownBlock ≠ some b) : Sl (w.setCell ⟨b, j, none⟩ x) v zs := by
  have hg := grown_set (grownBy_refl w (some b)) j x
  by_cases hz : zs = []
  · subst hz
    obtain ⟨hb, ao, cap, rfl, h1, h2, h3, _⟩ := h
    exact ⟨hb, ao, cap, rfl, h1, h2, h3, fun h => absurd rfl h⟩
  · exact h.keep fun k hk hlt => hg.block k hlt (fun e => hne hz (hk.trans e))

theorem rr_err {w : World} {b : Nat} {u : Value} {zs : List Int} {er : Int} (h : RR w b u zs er) (x : Int) : RR (w.setCell ⟨b, 1, none⟩ (.int .i64 x)) b u zs x :=
  ⟨rheap_set1 h.1 _, sl_set h.2.1 (fun _ e => (h.2.2 b e).1 rfl), fun k hk => by simpa using h.2.2 k hk⟩

/-- other bytes, in memory that is there, are left -/
theorem rr_left {w : World} {b : Nat} {u u' : Value} {zs zs' : List Int} {er : Int} (h : RR w b u zs er) (hs : Sl w u' zs') (hk : ∀ k, u'.ownBlock = some k → k ≠ b ∧ k < w.heap.size) : RR (w.setCell ⟨b, 0, none⟩ u') b u' zs' er :=
  ⟨rheap_set0 h.1 _, sl_set hs (fun _ e => (hk b e).1 rfl), fun k h' => by simpa using hk k h'⟩

theorem rfail_any (w : World) (b : Nat) (u : Value) (zs : List Int) (x : Int) (h : RR w b u zs 0) :
    Calls Try.prog 55 #[.pointer (some ⟨b, 0, none⟩), .int .i64 x] w fun e w' => e = .returned (.tuple #[]) ∧ w' = w.setCell ⟨b, 1, none⟩ (.int .i64 x) := by
  obtain ⟨c0, c1, hfr⟩ := h.cells
  have f1 := hfr 1
  clear hfr h
  go_enter Try.func55, Try.ntmps55
  go_wp2
  go_end0
  exact ⟨rfl, rfl⟩

theorem rend_any (w : World) (b : Nat) (u : Value) (zs : List Int) (er : Int) (h : RR w b u zs er) :
    Calls Try.prog 27 #[.pointer (some ⟨b, 0, none⟩)] w fun e w' => e = .returned (.int .i64 (if er ≠ 0 then er else if zs = [] then 0 else 12)) ∧ w' = w := by
  obtain ⟨c0, c1, _⟩ := h.cells
  obtain ⟨_, ⟨_, ao, cap, rfl, _⟩, _⟩ := h
  have hz : zs = [] ↔ zs.length = 0 := List.length_eq_zero_iff.symm
  by_cases h0 : er = 0
  · subst h0
    by_cases h1 : zs.length = 0
    · have : (if (0 : Int) ≠ 0 then (0 : Int) else if zs = [] then 0 else 12) = 0 := by simp [hz.2 h1]
      rw [this]
      have hl : decide ((0 : Int) < (zs.length : Int)) = false := decide_eq_false (by omega)
      go_enter Try.func27, Try.ntmps27
      go_wp2
      go_ret
      exact ⟨rfl, rfl⟩
    · have : (if (0 : Int) ≠ 0 then (0 : Int) else if zs = [] then 0 else 12) = 12 := by simp [hz, h1]
      rw [this]
      have hl : (0 : Int) < (zs.length : Int) := by omega
      go_enter Try.func27, Try.ntmps27
      go_wp2
      go_ret
      exact ⟨rfl, rfl⟩
  · have : (if er ≠ 0 then er else if zs = [] then 0 else 12) = er := by simp [h0]
    rw [this]
    have e1 : (er == 0) = false := by simpa using h0
    go_enter Try.func27, Try.ntmps27
    go_wp2
    go_ret
    exact ⟨rfl, rfl⟩

theorem refJoin_fresh (w : World) (v : Value) (zs : List Int) (h : Sl w v zs) (hl : zs.length ≤ 50000) :
    Calls Try.prog 10 #[.slice none 0 0, v] w fun e w' => ∃ u, e = .returned u ∧ Sl w' u zs ∧ Fresh w.heap.size w' u ∧ Below w.heap.size w w' := by
  refine (refJoin_any w _ v [] zs (Sl.nil w) h (by simp; omega)).mono ?_
  rintro e w' ⟨u, rfl, ho, _, hb, _⟩
  rw [List.nil_append] at ho
  exact ⟨u, rfl, sl_of_own ho h.bytes rfl, own_fresh ho, hb⟩

theorem rread_any (w : World) (v : Value) (zs : List Int) (h : Sl w v zs) (hl : zs.length ≤ 50000) :
    Calls Try.prog 22 #[v] w fun e w' => ∃ b u, e = .returned (.pointer (some ⟨b, 0, none⟩)) ∧ w.heap.size ≤ b ∧ RR w' b u zs 0 ∧ Fresh w.heap.size w' u ∧ Below w.heap.size w w' := by
  have HC := refJoin_fresh w v zs h hl
  obtain ⟨_, ao, cap, rfl, _⟩ := h
  go_enter Try.func22, Try.ntmps22
  go_wp2_with (go_at_call 10; refine HC.mono ?_; rintro e w1 ⟨u, rfl, hs, hf, hb⟩; have hs' := hide hs; obtain ⟨_, ao', cap', rfl, _⟩ := hs)
  go_ret
  have hz := hb.size
  refine ⟨w1.heap.size, .slice ao' zs.length cap', rfl, hz, ⟨heap_alloc_new w1 _, hs'.out.alloc _, fun k hk => ?_⟩, fun k hk => ?_, hb.alloc hz _⟩
  · have := hf k hk
    simp
    omega
  · have := hf k hk
    simp
    omega

end Go.Proofs.Ytbopcppagfhjnaa
