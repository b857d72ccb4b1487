/- Contracts: package pack's reader: made, asked for its error, its end and what is left. -/
import Derived.Test.YtbopcppagfhjnaaPut
import Derived.Lib.SliceRun
namespace Go.Proofs.Ytbopcppagfhjnaa
open Go.RowKit

/-- a slice that leads, if anywhere, to a block from 'base' on that is there -/
def Fresh (base : Nat) (w : World) (v : Value) : Prop := ∀ k, v.ownBlock = some k → base ≤ k ∧ k < w.heap.size

theorem Fresh.nil (base : Nat) (w : World) : Fresh base w (.slice none 0 0) := by intro k hk; cases hk

theorem own_fresh {w : World} {base : Nat} {e : TypeId} {v : Value} {n : Nat} {xs : List Value} (h : w.ownsRow base e 1 v n xs) : Fresh base w v := fun k hk => h.lt k hk

theorem Sl.own_lt {w : World} {v : Value} {zs : List Int} (h : Sl w v zs) (hz : zs ≠ []) : ∀ k, v.ownBlock = some k → k < w.heap.size := by
  obtain ⟨_, ao, cap, rfl, _, _, _, hc⟩ := h
  intro k hk
  obtain ⟨b, off, rfl, hcc⟩ := hc hz
  have h0 : 0 < zs.length := List.length_pos_iff.2 hz
  have := World.block_lt_of_cell? w _ (hcc 0 h0)
  simp [Value.ownBlock] at hk
  subst hk
  exact this

theorem eqNil : ∀ (w : World) (a : Option Addr) (n c n' c' : Nat), (binOp .eql 22 (.slice a n c) (.slice none n' c')).run Try.prog w = .ok (.bool a.isNone) w :=
  fun w a n c n' c' => Lib.run_eql_slice_nil w _ _ a n c n' c' Try.underlying22

set_option maxHeartbeats 400000 in
theorem clone_any (w : World) (v : Value) (zs : List Int) (h : Sl w v zs) (hl : zs.length ≤ 100000) :
    Calls Try.prog 43 #[v] w fun e w' => ∃ u, e = .returned u ∧ Sl w' u zs ∧ Fresh w.heap.size w' u ∧ Below w.heap.size w w' := by
  have H := h
  have hen := eqNil
  obtain ⟨hb, ao, cap, rfl, h1, h2, h3, h4⟩ := h
  unfold maxLen at h2
  obtain ⟨i0, hi, hz0, hz1, hz2⟩ := info_parts infoU8
  cases ao with
  | none =>
    obtain rfl : cap = 0 := h3 rfl
    obtain rfl : zs = [] := List.eq_nil_of_length_eq_zero (by omega)
    go_enter Try.func43, Try.ntmps43
    go_wp2
    go_ret
    exact ⟨_, rfl, H, Fresh.nil _ _, Below.refl _ _⟩
  | some a =>
    have hsrc : ∀ j u, (zs.map (Value.int .u8))[j]? = some u → (w.alloc (.cells #[] 5)).cell? (a.add j) = some u := by
      intro j u hj
      have hjl : j < zs.length := by have := (List.getElem?_eq_some_iff.1 hj).1; simpa using this
      obtain ⟨ad, had, hs⟩ := (H.alloc (.cells #[] 5)).src (by omega)
      obtain rfl := Option.some.inj had
      exact hs j u hj
    have HS := hide hsrc
    clear hsrc h4
    go_enter Try.func43, Try.ntmps43
    go_wp2_with (at_builtin; refine wpList_append_own _ rfl _ _ 22 rfl w.heap.size 5 i0 (.int .u8 0) 1 1 Try.underlying22 hi hz0 hz1 hz2 rfl (by decide) _ _ _ rfl (World.ownsRow_made w #[] 0 (Nat.le_refl _) (Nat.zero_le _) rfl) a zs.length cap (zs.map (Value.int .u8)) rfl (by simp) HS.out (oneCell_bytes zs) (by unfold maxLen; omega) (by omega) (by simp) ?_; intro v' w1 hown hgrow hnil)
    go_ret
    rw [Nat.zero_add, List.nil_append] at hown
    refine ⟨v', rfl, sl_of_own hown hb rfl, own_fresh hown, ?_⟩
    exact ((Below.refl _ w).alloc (Nat.le_refl _) _).grown hgrow (by simp) (by intro k hk; cases hk; exact Nat.le_refl _)

/-- a reader that was made lies at block b: what is left, and the first error -/
def Rd (w : World) (b : Nat) (u : Value) (zs : List Int) (er : Int) : Prop :=
  w.heap[b]? = some (.cells #[.bool true, u, .int .i64 er] 68 (0, 0)) ∧ Sl w u zs ∧ ∀ k, u.ownBlock = some k → k ≠ b ∧ k < w.heap.size

theorem Rd.cells {w : World} {b : Nat} {u : Value} {zs : List Int} {er : Int} (h : Rd w b u zs er) :
    w.cell? ⟨b, 0, none⟩ = some (.bool true) ∧ w.cell? ⟨b, 1, none⟩ = some u ∧ w.cell? ⟨b, 2, none⟩ = some (.int .i64 er) ∧ ∀ j, w.frozen? ⟨b, j, none⟩ = false := by
  refine ⟨?_, ?_, ?_, fun j => frozen_of_row w b j _ _ h.1⟩ <;> rw [cell_of_row w b _ _ _ (0, 0) h.1] <;> rfl

theorem Rd.lt {w : World} {b : Nat} {u : Value} {zs : List Int} {er : Int} (h : Rd w b u zs er) : b < w.heap.size := (Array.getElem?_eq_some_iff.1 h.1).1

theorem Rd.keep {w w' : World} {b : Nat} {u : Value} {zs : List Int} {er : Int} (h : Rd w b u zs er) (hb : Below w.heap.size w w') : Rd w' b u zs er :=
  ⟨by rw [hb.block b h.lt]; exact h.1, h.2.1.below hb, fun k hk => ⟨(h.2.2 k hk).1, Nat.lt_of_lt_of_le (h.2.2 k hk).2 hb.size⟩⟩

set_option maxHeartbeats 400000 in
theorem read_any (w : World) (v : Value) (zs : List Int) (h : Sl w v zs) (hl : zs.length ≤ 100000) :
    Calls Try.prog 21 #[v] w fun e w' => ∃ b u, e = .returned (.pointer (some ⟨b, 0, none⟩)) ∧ w.heap.size ≤ b ∧ Rd w' b u zs 0 ∧ Fresh w.heap.size w' u ∧ Below w.heap.size w w' := by
  have HC := clone_any w v zs h hl
  have HL := hide h
  obtain ⟨_, ao, cap, rfl, _⟩ := h
  go_enter Try.func21, Try.ntmps21
  go_wp2_with (go_at_call 43; refine HC.mono ?_; rintro e w1 ⟨u, rfl, hs, hf, hb⟩; have hs' := hide hs; obtain ⟨_, ao', cap', rfl, _⟩ := hs)
  go_ret
  have hz := hb.size
  refine ⟨w1.heap.size, .slice ao' zs.length cap', rfl, hz, ⟨heap_alloc_new w1 _, hs'.out.alloc _, fun k hk => ?_⟩, fun k hk => ?_, hb.alloc hz _⟩
  · have := hf k hk
    simp
    omega
  · have := hf k hk
    simp
    omega

theorem err_any (w : World) (b : Nat) (u : Value) (zs : List Int) (er : Int) (h : Rd w b u zs er) :
    Calls Try.prog 25 #[.pointer (some ⟨b, 0, none⟩)] w fun e w' => e = .returned (.int .i64 er) ∧ w' = w := by
  obtain ⟨c0, c1, c2, _⟩ := h.cells
  go_enter Try.func25, Try.ntmps25
  go_wp2
  go_ret
  exact ⟨rfl, rfl⟩

theorem end_any (w : World) (b : Nat) (u : Value) (zs : List Int) (er : Int) (h : Rd w b u zs er) :
    Calls Try.prog 26 #[.pointer (some ⟨b, 0, none⟩)] w fun e w' => e = .returned (.int .i64 (if er ≠ 0 then er else if zs = [] then 0 else 12)) ∧ w' = w := by
  obtain ⟨c0, c1, c2, _⟩ := h.cells
  have HE := err_any w b u zs er h
  obtain ⟨_, ⟨_, ao, cap, rfl, _⟩, _⟩ := h
  have hz : zs = [] ↔ zs.length = 0 := List.length_eq_zero_iff.symm
  by_cases h0 : er = 0
  · subst h0
    by_cases h1 : zs.length = 0
    · have : (if (0 : Int) ≠ 0 then (0 : Int) else if zs = [] then 0 else 12) = 0 := by simp [hz.2 h1]
      rw [this]
      have hl : decide ((0 : Int) < (zs.length : Int)) = false := decide_eq_false (by omega)
      go_enter Try.func26, Try.ntmps26
      go_wp2_with (go_at_call 25; refine HE.mono ?_; rintro e w1 ⟨rfl, hw⟩; subst w1)
      go_ret
      exact ⟨rfl, rfl⟩
    · have : (if (0 : Int) ≠ 0 then (0 : Int) else if zs = [] then 0 else 12) = 12 := by simp [hz, h1]
      rw [this]
      have hl : (0 : Int) < (zs.length : Int) := by omega
      go_enter Try.func26, Try.ntmps26
      go_wp2_with (go_at_call 25; refine HE.mono ?_; rintro e w1 ⟨rfl, hw⟩; subst w1)
      go_ret
      exact ⟨rfl, rfl⟩
  · have : (if er ≠ 0 then er else if zs = [] then 0 else 12) = er := by simp [h0]
    rw [this]
    go_enter Try.func26, Try.ntmps26
    go_wp2_with (go_at_call 25; refine HE.mono ?_; rintro e w1 ⟨rfl, hw⟩; subst w1)
    go_ret
    exact ⟨rfl, rfl⟩

theorem left_any (w : World) (b : Nat) (u : Value) (zs : List Int) (er : Int) (h : Rd w b u zs er) :
    Calls Try.prog 24 #[.pointer (some ⟨b, 0, none⟩)] w fun e w' => e = .returned (.int .i64 zs.length) ∧ w' = w := by
  obtain ⟨c0, c1, c2, _⟩ := h.cells
  obtain ⟨_, ⟨_, ao, cap, rfl, _⟩, _⟩ := h
  go_enter Try.func24, Try.ntmps24
  go_wp2
  go_ret
  exact ⟨rfl, rfl⟩

end Go.Proofs.Ytbopcppagfhjnaa
