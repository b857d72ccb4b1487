/- Marks that are read; contract: slices.Equal at marks. -/
import Derived.Test.YtfpphepjkpofiaaDoorFMarks
namespace Go.Proofs.YtfpphepjkpofiaaDoor
set_option maxRecDepth 20000
open Go.RowKit
set_option linter.unusedVariables false
set_option linter.unusedSimpArgs false
set_option maxRecDepth 100000

theorem below_drewN {B : Nat} {a w : World} (h : Below B a w) (n : Nat) : Below B a (w.drewN n) := ⟨h.os, h.tape, h.output, h.size, h.block⟩
/-- a []Mark that is read -/
def MkR (w : World) (v : Value) (xs : List (Nat × Nat)) : Prop :=
  ∃ ao cap, v = .slice ao xs.length cap ∧ xs.length ≤ 9223372036854775807 ∧ xs.length ≤ cap ∧ cap ≤ maxLen ∧
    (xs ≠ [] → ∃ b off, ao = some ⟨b, off, none⟩ ∧ ∀ i, i < xs.length → w.cell? ⟨b, off + i * 2, none⟩ = some (.int .i64 ((xs.getD i (0, 0)).1 : Int)) ∧ w.cell? ⟨b, off + i * 2 + 1, none⟩ = some (.int .i32 ((xs.getD i (0, 0)).2 : Int)))
theorem MkR.below {w w' : World} {v : Value} {xs : List (Nat × Nat)} (h : MkR w v xs) (hb : Below w.heap.size w w') : MkR w' v xs := by
  obtain ⟨ao, cap, rfl, h1, h2, h4, h3⟩ := h
  refine ⟨ao, cap, rfl, h1, h2, h4, fun hx => ?_⟩
  obtain ⟨b, off, rfl, hc⟩ := h3 hx
  refine ⟨b, off, rfl, fun i hi => ?_⟩
  obtain ⟨q0, q1⟩ := hc i hi
  have hbb := hb.block b (World.block_lt_of_cell? w _ q0)
  exact ⟨(World.cell?_of_block (w := w) (a := ⟨b, _, none⟩) hbb).trans q0, (World.cell?_of_block (w := w) (a := ⟨b, _, none⟩) hbb).trans q1⟩
theorem MkR.len {w : World} {v : Value} {xs : List (Nat × Nat)} (h : MkR w v xs) : ∃ ao cap, v = .slice ao xs.length cap := by
  obtain ⟨ao, cap, rfl, _⟩ := h
  exact ⟨ao, cap, rfl⟩
theorem MkR.max {w : World} {v : Value} {xs : List (Nat × Nat)} (h : MkR w v xs) : xs.length ≤ 9223372036854775807 := by
  obtain ⟨ao, cap, rfl, h1, _⟩ := h
  exact h1
theorem MkR.at {w : World} {ao : Option Addr} {n cap : Nat} {xs : List (Nat × Nat)} (h : MkR w (.slice ao n cap) xs) (i : Nat) (hi : i < xs.length) : ∃ b off x, ao = some ⟨b, off, none⟩ ∧ xs[i]? = some x ∧ w.cell? ⟨b, off + i * 2, none⟩ = some (.int .i64 (x.1 : Int)) ∧ w.cell? ⟨b, off + i * 2 + 1, none⟩ = some (.int .i32 (x.2 : Int)) := by
  obtain ⟨ao', cap', he, _, _, _, h3⟩ := h
  obtain ⟨rfl, _, _⟩ : ao = ao' ∧ n = xs.length ∧ cap = cap' := by simpa using he
  obtain ⟨b, off, rfl, hc⟩ := h3 (by intro h; simp [h] at hi)
  have hg : xs.getD i (0, 0) = xs[i] := by simp [List.getD, hi]
  have := hc i hi
  rw [hg] at this
  exact ⟨b, off, xs[i], rfl, by simp [hi], this⟩
theorem markRow_at : ∀ (xs : List (Nat × Nat)) (i : Nat), i < xs.length → (markRow xs)[i * 2]? = some (.int .i64 ((xs.getD i (0, 0)).1 : Int)) ∧ (markRow xs)[i * 2 + 1]? = some (.int .i32 ((xs.getD i (0, 0)).2 : Int))
  | x :: xs, 0, _ => ⟨rfl, rfl⟩
  | x :: xs, i + 1, h => by
    have := markRow_at xs i (by simpa using h)
    have e : markRow (x :: xs) = mark2 x ++ markRow xs := by simp [markRow]
    rw [e]
    have l2 : (mark2 x).length = 2 := rfl
    rw [List.getElem?_append_right (by rw [l2]; omega), List.getElem?_append_right (by rw [l2]; omega), l2, show (i + 1) * 2 - 2 = i * 2 by omega, show (i + 1) * 2 + 1 - 2 = i * 2 + 1 by omega]
    simpa using this
theorem markRow_len (xs : List (Nat × Nat)) : (markRow xs).length = xs.length * 2 := by
  induction xs with
  | nil => rfl
  | cons x xs ih =>
    have e : markRow (x :: xs) = mark2 x ++ markRow xs := by simp [markRow]
    rw [e, List.length_append, ih]
    simp [mark2]
    omega
theorem Marks.read {w : World} {base : Nat} {v : Value} {xs : List (Nat × Nat)} (h : Marks w base v xs) (hl : xs.length ≤ 1000000) : MkR w v xs := by
  obtain ⟨ao, cap, rfl⟩ := h.shape
  have hh := own_len h
  refine ⟨ao, cap, rfl, by omega, hh.1, hh.2, fun hx => ?_⟩
  have hpos := List.length_pos_iff.2 hx
  unfold Marks at h
  cases ao with
  | none =>
    rcases h.2 with ⟨_, e⟩ | ⟨g, cap', sp, e, _⟩
    · omega
    · simp at e
  | some a =>
    rcases h.2 with ⟨e, _⟩ | ⟨g, cap', sp, e, _⟩
    · simp at e
    · simp only [Value.slice.injEq, Option.some.injEq] at e
      obtain ⟨rfl, _⟩ := e
      refine ⟨g, 0, rfl, fun i hi => ?_⟩
      obtain ⟨m0, m1⟩ := markRow_at xs i hi
      rw [Nat.zero_add]
      exact ⟨(World.ownsRow.cellAt h (i * 2) (by omega)).trans m0, (World.ownsRow.cellAt h (i * 2 + 1) (by omega)).trans m1⟩

set_option maxHeartbeats 2000000 in
theorem equalM_any (w : World) (va vb : Value) (xs ys : List (Nat × Nat)) (ha : MkR w va xs) (hb : MkR w vb ys) : Calls Tryd.prog 10 #[va, vb] w fun e w' => e = .returned (.bool (decide (xs = ys))) ∧ Below w.heap.size w w' := by
  obtain ⟨ao, ac, rfl⟩ := ha.len
  obtain ⟨bo, bc, rfl⟩ := hb.len
  have hma := ha.max
  have hmb := hb.max
  by_cases hl : xs.length = ys.length
  · have HA := hide ha
    have HB := hide hb
    obtain ⟨n, hn⟩ : ∃ n, xs.length = n := ⟨_, rfl⟩
    have HN := hide hn
    have hm : ys.length = n := by rw [← hl]; exact hn
    have HM := hide hm
    rw [hn] at HA hma ⊢
    rw [hm] at HB ⊢
    clear ha hb hl hn hmb hm
    go_enter Tryd.func10, Tryd.ntmps10
    go_wp2
    go_loopg [13] n (fun k i wr => ∃ j : Nat, k + j = n ∧ i = .int .i64 (j : Int) ∧ xs.take j = ys.take j ∧ Below w.heap.size w wr)
    case atStart => exact ⟨0, rfl, rfl, rfl, Below.refl _ w⟩
    case round =>
      obtain ⟨j, hk, rfl, hs, hbw⟩ := hrel
      have HS := hide hs
      have HBW := hide hbw
      clear hs hbw
      cases gk with
      | zero =>
        obtain rfl : j = n := by omega
        have hlt : ¬ (j : Int) < (j : Int) := by omega
        go_wp2
        go_ret
        refine ⟨ret_bool (Eq.symm (decide_eq_true ?_)), HBW.out⟩
        have := HS.out
        rwa [List.take_of_length_le (by rw [HN.out]; exact Nat.le_refl _), List.take_of_length_le (by rw [HM.out]; exact Nat.le_refl _)] at this
      | succ k =>
        have hj : (j : Int) < (n : Int) := by omega
        obtain ⟨b1, o1, ⟨p1, r1⟩, rfl, hx, q0, q1⟩ := (HA.out.below HBW.out).at j (by rw [HN.out]; omega)
        obtain ⟨b2, o2, ⟨p2, r2⟩, rfl, hy, u0, u1⟩ := (HB.out.below HBW.out).at j (by rw [HM.out]; omega)
        simp only at q0 q1 u0 u1
        have HX := hide hx
        have HY := hide hy
        clear hx hy
        by_cases he : p1 = p2 ∧ r1 = r2
        · obtain ⟨rfl, rfl⟩ := he
          have HR : Hid (xs.take (j + 1) = ys.take (j + 1)) := by
            have h1 : xs.take (j + 1) = xs.take j ++ [(p1, r1)] := by
              obtain ⟨hi, e⟩ := List.getElem?_eq_some_iff.1 HX.out
              rw [List.take_succ_eq_append_getElem hi, e]
            have h2 : ys.take (j + 1) = ys.take j ++ [(p1, r1)] := by
              obtain ⟨hi, e⟩ := List.getElem?_eq_some_iff.1 HY.out
              rw [List.take_succ_eq_append_getElem hi, e]
            show _ = _
            rw [h1, h2, HS.out]
          go_wp2
          go_quiet (fail)
          go_wp2
          go_roundg k
          case measure => omega
          case rel => exact ⟨j + 1, by omega, by go_num, HR.out, below_drewN HBW.out _⟩
        · have HR : Hid (decide (xs = ys) = false) := by
            apply decide_eq_false
            intro e
            have h1 := HX.out
            rw [e, HY.out] at h1
            simp only [Option.some.injEq, Prod.mk.injEq] at h1
            exact he ⟨h1.1.symm, h1.2.symm⟩
          by_cases hp : p1 = p2
          · subst hp
            have hr : ¬ r1 = r2 := fun e => he ⟨rfl, e⟩
            clear he
            go_wp2
            go_quiet (fail)
            go_wp2
            go_ret
            exact ⟨ret_bool HR.out.symm, below_drewN HBW.out _⟩
          · clear he
            go_wp2
            go_quiet (fail)
            go_wp2
            go_ret
            exact ⟨ret_bool HR.out.symm, below_drewN HBW.out _⟩
  · have HR : Hid (decide (xs = ys) = false) := decide_eq_false (fun e => hl (by rw [e]))
    generalize xs.length = n at *
    generalize ys.length = m at *
    have hnm : ¬ (n : Int) = (m : Int) := by omega
    clear ha hb
    go_enter Tryd.func10, Tryd.ntmps10
    go_wp2
    go_ret
    exact ⟨ret_bool HR.out.symm, Below.refl _ w⟩

end Go.Proofs.YtfpphepjkpofiaaDoor
