/- Contracts: slices.Clone and slices.Equal at tables, slices.Equal at runes; package fold's Letters. -/
import Derived.Test.YtimmfnjkknbofaaDoorFCk
import Derived.Maps.AppendAt
namespace Go.Proofs.YtimmfnjkknbofaaDoor
set_option maxRecDepth 20000
open Go.RowKit
set_option linter.unusedVariables false
set_option linter.unusedSimpArgs false
set_option maxRecDepth 100000

theorem below_drewT {B : Nat} {a w : World} (h : Below B a w) (n : Nat) : Below B a (w.drewN n) := ⟨h.os, h.tape, h.output, h.size, h.block⟩
def fd3 (x : Fd) : List Value := [.int .i32 x.1, .int .i32 x.2.1, .int .i64 x.2.2]
def fdRow (xs : List Fd) : List Value := (xs.map fd3).flatten
theorem fdRow_len (xs : List Fd) : (fdRow xs).length = xs.length * 3 := by
  induction xs with
  | nil => rfl
  | cons x xs ih =>
    have e : fdRow (x :: xs) = fd3 x ++ fdRow xs := by simp [fdRow]
    rw [e, List.length_append, ih]
    simp [fd3]
    omega
theorem fdRow_at : ∀ (xs : List Fd) (i : Nat), i < xs.length → (fdRow xs)[i * 3]? = some (.int .i32 (xs.getD i (0, 0, 0)).1) ∧ (fdRow xs)[i * 3 + 1]? = some (.int .i32 (xs.getD i (0, 0, 0)).2.1) ∧ (fdRow xs)[i * 3 + 2]? = some (.int .i64 (xs.getD i (0, 0, 0)).2.2)
  | x :: xs, 0, _ => ⟨rfl, rfl, rfl⟩
  | x :: xs, i + 1, h => by
    have := fdRow_at xs i (by simpa using h)
    have e : fdRow (x :: xs) = fd3 x ++ fdRow xs := by simp [fdRow]
    rw [e]
    have l3 : (fd3 x).length = 3 := rfl
    rw [List.getElem?_append_right (by rw [l3]; omega), List.getElem?_append_right (by rw [l3]; omega), List.getElem?_append_right (by rw [l3]; omega), l3, show (i + 1) * 3 - 3 = i * 3 by omega, show (i + 1) * 3 + 1 - 3 = i * 3 + 1 by omega, show (i + 1) * 3 + 2 - 3 = i * 3 + 2 by omega]
    simpa using this
theorem infoFold : (Tryd.prog.info? 54).map (fun i => (i.zero, i.size, i.bytes)) = some (some (.agg #[.int .i32 0, .int .i32 0, .int .i64 0]), 3, 16) := by kernel_rfl
theorem tbl_of_own {w : World} {base : Nat} {v : Value} {xs : List Fd} (h : w.ownsRow base 54 3 v xs.length (fdRow xs)) (hok : ∀ x ∈ xs, FdOk x) : Tbl w v xs := by
  obtain ⟨ao, cap, rfl⟩ := own_form' h
  have hh := own_len h
  refine ⟨hok, ao, cap, rfl, hh.1, hh.2, fun hx => ?_⟩
  have hpos := List.length_pos_iff.2 hx
  cases ao with
  | none =>
    rcases h.2 with ⟨_, e⟩ | ⟨g, cap', sp, e, _⟩
    · omega
    · simp at e
  | some a =>
    rcases h.2 with ⟨e, _⟩ | ⟨g, cap', sp, e, _⟩
    · simp at e
    · simp only [Value.slice.injEq, Option.some.injEq] at e
      obtain ⟨rfl, _⟩ := e
      refine ⟨g, 0, rfl, fun i hi => ?_⟩
      obtain ⟨m0, m1, m2⟩ := fdRow_at xs i hi
      rw [Nat.zero_add]
      exact ⟨(World.ownsRow.cellAt h (i * 3) (by omega)).trans m0, (World.ownsRow.cellAt h (i * 3 + 1) (by omega)).trans m1, (World.ownsRow.cellAt h (i * 3 + 2) (by omega)).trans m2⟩
theorem run_eq_nil (a : Option Addr) (n c : Nat) (w : World) : (binOp .eql 22 (.slice a n c) (.slice none 0 0)).run Tryd.prog w = .ok (.bool a.isNone) w := by
  cases a <;> kernel_rfl

set_option maxHeartbeats 1000000 in
theorem cloneF_own (w : World) (v : Value) (xs : List Fd) (hT : Tbl w v xs) (hl : xs.length ≤ 1000) :
    Calls Tryd.prog 91 #[v] w fun e w' => ∃ u, e = .returned u ∧ Tbl w' u xs ∧ (∀ k, u.ownBlock = some k → w.heap.size ≤ k ∧ k < w'.heap.size) ∧ Below w.heap.size w w' := by
  obtain ⟨ao, cap, rfl⟩ := hT.len
  have HT := hide hT
  cases ao with
  | none =>
    have hx : xs = [] := by
      cases xs with
      | nil => rfl
      | cons x t =>
        obtain ⟨b, off, y, he, _⟩ := hT.at 0 (by simp)
        cases he
    subst hx
    have hq := run_eq_nil none 0 cap w
    clear hT
    simp only [List.length_nil]
    go_enter Tryd.func91, Tryd.ntmps91
    go_wp2
    go_ret
    exact ⟨_, rfl, Tbl.nil w, (fun _ h => (by cases h)), Below.refl _ w⟩
  | some a =>
    obtain ⟨i0, hi, hz, hs, hby⟩ := info_parts infoFold
    obtain ⟨W1, hW1⟩ : ∃ W1, w.alloc (.cells #[] 54) = W1 := ⟨_, rfl⟩
    have hb1 : Below w.heap.size w W1 := by rw [← hW1]; exact (Below.refl _ w).alloc (Nat.le_refl _) _
    have ho1 : W1.ownsRow w.heap.size 54 3 (.slice (some ⟨w.heap.size, 0, none⟩) 0 0) 0 [] := by
      rw [← hW1]
      exact ⟨rfl, .inr ⟨w.heap.size, 0, #[], rfl, Nat.le_refl _, heap_alloc_new w _, Nat.le_refl _, by simp [maxLen], by simp, rfl⟩⟩
    have hT1 := hT.below hb1
    have hsrc : ∀ j u, (fdRow xs)[j]? = some u → W1.cell? (a.add j) = some u := fun j u hj => by
      have hjl : j < xs.length * 3 := by have := (List.getElem?_eq_some_iff.1 hj).1; rwa [fdRow_len] at this
      obtain ⟨b, off, x, he, hx, _, q0, q1, q2⟩ := hT1.at (j / 3) (by omega)
      obtain rfl : a = ⟨b, off, none⟩ := by simpa using he
      obtain ⟨r0, r1, r2⟩ := fdRow_at xs (j / 3) (by omega)
      have hg : xs.getD (j / 3) (0, 0, 0) = x := by simp [List.getD, hx]
      rw [hg] at r0 r1 r2
      rw [Addr.add_mid]
      obtain h3 | h3 | h3 : j % 3 = 0 ∨ j % 3 = 1 ∨ j % 3 = 2 := by omega
      · rw [show j = j / 3 * 3 by omega, r0] at hj
        rw [show off + j = off + j / 3 * 3 by omega]
        exact q0.trans hj
      · rw [show j = j / 3 * 3 + 1 by omega, r1] at hj
        rw [show off + j = off + j / 3 * 3 + 1 by omega]
        exact q1.trans hj
      · rw [show j = j / 3 * 3 + 2 by omega, r2] at hj
        rw [show off + j = off + j / 3 * 3 + 2 by omega]
        exact q2.trans hj
    obtain ⟨v', w2, hr, h1, h2, _, _⟩ := run_append_own_at (P := Tryd.prog) W1 w.heap.size 22 22 54 i0 _ 3 16 Tryd.underlying22 hi hz hs hby rfl (by decide) _ 0 [] ho1 a xs.length cap (fdRow xs) (fdRow_len xs) hsrc (by
        intro u hu
        unfold fdRow at hu
        obtain ⟨r, hr, hu⟩ := List.mem_flatten.1 hu
        obtain ⟨x, _, rfl⟩ := List.mem_map.1 hr
        simp [fd3] at hu
        rcases hu with rfl | rfl | rfl <;> rfl) (by unfold maxLen; omega) (by omega) hb1.size
    have hq := run_eq_nil (some a) xs.length cap w
    have HR := hide hr
    have ho2 : w2.ownsRow w.heap.size 54 3 v' xs.length (fdRow xs) := by simpa using h1
    have HO := hide ho2
    have HB : Hid (Below w.heap.size w w2) := hb1.trans (((Only.refl _ W1).grown (S := fun q => q = w.heap.size) h2 (fun q e _ => by have := Option.some.inj e; simp only at this; exact this.symm)).below hb1.size (fun j hj e => by omega))
    clear hr h1 h2 ho1 ho2 hT hT1 hsrc hb1 hi hz hs hby
    go_enter Tryd.func91, Tryd.ntmps91
    go_wp2_with (at_builtin; (with_reducible refine wpList_append_run _ rfl (.tmp 5) (.tmp 6) 22 rfl _ _ ?_ ?_ _ _ HR.out ?_); exact rfl; exact rfl; clear HR)
    go_ret
    exact ⟨_, rfl, tbl_of_own HO.out HT.out.1, (fun k hk => World.ownsRow.lt HO.out k hk), HB.out⟩

theorem cloneF_any (w : World) (v : Value) (xs : List Fd) (hT : Tbl w v xs) (hl : xs.length ≤ 1000) :
    Calls Tryd.prog 91 #[v] w fun e w' => ∃ u, e = .returned u ∧ Tbl w' u xs ∧ Below w.heap.size w w' :=
  (cloneF_own w v xs hT hl).mono fun e w' ⟨u, h1, h2, _, h3⟩ => ⟨u, h1, h2, h3⟩

set_option maxHeartbeats 1000000 in
theorem equalF_same (w : World) (va vb : Value) (xs : List Fd) (ha : Tbl w va xs) (hb : Tbl w vb xs) : Calls Tryd.prog 42 #[va, vb] w fun e w' => e = .returned (.bool true) ∧ Below w.heap.size w w' := by
  obtain ⟨ao, ac, rfl⟩ := ha.len
  obtain ⟨bo, bc, rfl⟩ := hb.len
  have hma := ha.max
  have HA := hide ha
  have HB := hide hb
  obtain ⟨n, hn⟩ : ∃ n, xs.length = n := ⟨_, rfl⟩
  have HN := hide hn
  rw [hn] at HA HB hma ⊢
  clear ha hb hn
  go_enter Tryd.func42, Tryd.ntmps42
  go_wp2
  go_loopg [13] n (fun k i wr => ∃ j : Nat, k + j = n ∧ i = .int .i64 (j : Int) ∧ Below w.heap.size w wr)
  case atStart => exact ⟨0, rfl, rfl, Below.refl _ w⟩
  case round =>
    obtain ⟨j, hk, rfl, hbw⟩ := hrel
    have HBW := hide hbw
    clear hbw
    cases gk with
    | zero =>
      obtain rfl : j = n := by omega
      have hlt : ¬ (j : Int) < (j : Int) := by omega
      go_wp2
      go_ret
      exact ⟨rfl, HBW.out⟩
    | succ k =>
      have hj : (j : Int) < (n : Int) := by omega
      obtain ⟨b1, o1, ⟨f, t, m⟩, rfl, hx, _, q0, q1, q2⟩ := (HA.out.below HBW.out).at j (by rw [HN.out]; omega)
      obtain ⟨b2, o2, y, rfl, hy, _, u0, u1, u2⟩ := (HB.out.below HBW.out).at j (by rw [HN.out]; omega)
      obtain rfl : y = (f, t, m) := Option.some.inj (hy.symm.trans hx)
      simp only at q0 q1 q2 u0 u1 u2
      clear hx hy
      go_wp2
      go_quiet (fail)
      go_wp2
      go_roundg k
      case measure => omega
      case rel => exact ⟨j + 1, by omega, by go_num, below_drewT HBW.out _⟩

/-- a []rune that is read -/
def RnR (w : World) (v : Value) (xs : List Int) : Prop := ∃ ao cap, v = .slice ao xs.length cap ∧ xs.length ≤ 9223372036854775807 ∧ (xs ≠ [] → ∃ b off, ao = some ⟨b, off, none⟩ ∧ ∀ i, i < xs.length → w.cell? ⟨b, off + i, none⟩ = some (.int .i32 (xs.getD i 0)))
theorem RnR.below {w w' : World} {v : Value} {xs : List Int} (h : RnR w v xs) (hb : Below w.heap.size w w') : RnR w' v xs := by
  obtain ⟨ao, cap, rfl, h1, h3⟩ := h
  refine ⟨ao, cap, rfl, h1, fun hx => ?_⟩
  obtain ⟨b, off, rfl, hc⟩ := h3 hx
  exact ⟨b, off, rfl, fun i hi => (World.cell?_of_block (w := w) (a := ⟨b, _, none⟩) (hb.block b (World.block_lt_of_cell? w _ (hc i hi)))).trans (hc i hi)⟩
theorem RnR.at {w : World} {ao : Option Addr} {n cap : Nat} {xs : List Int} (h : RnR w (.slice ao n cap) xs) (i : Nat) (hi : i < xs.length) : ∃ b off, ao = some ⟨b, off, none⟩ ∧ w.cell? ⟨b, off + i, none⟩ = some (.int .i32 (xs.getD i 0)) := by
  obtain ⟨ao', cap', he, _, h3⟩ := h
  obtain ⟨rfl, _, _⟩ : ao = ao' ∧ n = xs.length ∧ cap = cap' := by simpa using he
  obtain ⟨b, off, rfl, hc⟩ := h3 (by intro h; simp [h] at hi)
  exact ⟨b, off, rfl, hc i hi⟩


end Go.Proofs.YtimmfnjkknbofaaDoor
