/- Contract: runes that are told, at most so many (incipitlaw13.marks), over whatever iterator. -/
import Derived.Test.YtgeclnnhblffkabDoorFCount
import Derived.Maps.AppendAt
namespace Go.Proofs.YtgeclnnhblffkabDoor
set_option maxRecDepth 20000
open Go.RowKit Go.Shelf
set_option linter.unusedVariables false
set_option maxRecDepth 100000
attribute [local go_sem] Oper.semAt_some

theorem wpListIn_append_run {F : Fence} {n : Nat} {P : Program} (w : World) {ops : Array Oper} {rest : List Oper} {o : Oper} {a : Act} {Q : Exit → Act → World → Prop} (hg : o.guard = none) (s x : Operand) (t : TypeId)
    (hop : o.op = .call { callee := .builtin .append, args := #[s, x], argTypes := #[t, t] }) (v y : Value) (hs : a.eval s = v) (hx : a.eval x = y) (v' : Value) (w' : World)
    (hr : (Builtin.append_ #[t, t] o.type #[v, y]).run P w = .ok v' w') (h : wpListIn F n P ops Q rest (a.put o.dst v') w') : wpListIn F n P ops Q (o :: rest) a w := by
  refine wpListIn_plain hg fun K hK' => ?_
  unfold Oper.wpIn
  refine ⟨?_, ?_⟩
  · simp [Oper.about, hop, resolve, Target.leads, Sem.run_pure]
  · rw [Oper.semAt_plain F _ _ (by rw [hop]; intro c hc'; cases hc')]
    simp [execOp, hop, resolve, invoke, builtin, hs, hx, hr, Result.andThen]
    exact hK' _ _ h
def mark2 (x : Nat × Nat) : List Value := [.int .i64 (x.1 : Int), .int .i32 (x.2 : Int)]
def markRow (xs : List (Nat × Nat)) : List Value := (xs.map mark2).flatten
theorem markRow_snoc (xs : List (Nat × Nat)) (x : Nat × Nat) : markRow (xs ++ [x]) = markRow xs ++ mark2 x := by simp [markRow]
theorem infoMark : (Tryd.prog.info? 44).map (fun i => (i.zero, i.size, i.bytes)) = some (some (.agg #[.int .i64 0, .int .i32 0]), 2, 16) := by kernel_rfl
/-- a []one that is owned -/
def Marks (w : World) (base : Nat) (v : Value) (xs : List (Nat × Nat)) : Prop := w.ownsRow base 44 2 v xs.length (markRow xs)
theorem Marks.only {S : Nat → Prop} {w w' : World} {base : Nat} {v : Value} {xs : List (Nat × Nat)} (h : Marks w base v xs) (ho : Only S w w') (hn : ∀ k, v.ownBlock = some k → ¬ S k) : Marks w' base v xs := ownsRow_only h ho hn
theorem Marks.shape {w : World} {base : Nat} {v : Value} {xs : List (Nat × Nat)} (h : Marks w base v xs) : ∃ ao cap, v = .slice ao xs.length cap := own_form' h
theorem Marks.lt {w : World} {base : Nat} {v : Value} {xs : List (Nat × Nat)} (h : Marks w base v xs) (k : Nat) (hk : v.ownBlock = some k) : base ≤ k ∧ k < w.heap.size := World.ownsRow.lt h k hk

theorem run_append_mark (w : World) (base : Nat) (v : Value) (xs : List (Nat × Nat)) (h : Marks w base v xs) (x : Nat × Nat) (hl : xs.length + 1 ≤ 1000000) (hb : base ≤ w.heap.size) :
    ∃ v' w', (Builtin.append_ #[39, 39] 39 #[v, .slice (some ⟨w.heap.size, 0, none⟩) 1 1]).run Tryd.prog (w.alloc (.cells #[.int .i64 (x.1 : Int), .int .i32 (x.2 : Int)] 44)) = .ok v' w' ∧ Marks w' base v' (xs ++ [x]) ∧ (w.alloc (.cells #[.int .i64 (x.1 : Int), .int .i32 (x.2 : Int)] 44)).grownBy w' v.ownBlock ∧ (v'.ownBlock = v.ownBlock ∨ v'.ownBlock = some (w.heap.size + 1)) ∧ ∃ ao cap, v' = .slice ao (xs.length + 1) cap := by
  obtain ⟨i0, hi, hz, hs, hby⟩ := info_parts infoMark
  obtain ⟨v', w', hr, h1, h2, _, h4⟩ := run_append_own_at (P := Tryd.prog) (w.alloc (.cells #[.int .i64 (x.1 : Int), .int .i32 (x.2 : Int)] 44)) base 39 39 44 i0 _ 2 16 Tryd.underlying39 hi hz hs hby rfl (by decide) v xs.length (markRow xs) (World.ownsRow.alloc h _) ⟨w.heap.size, 0, none⟩ 1 1 (mark2 x) rfl
    (fun j u hj => by
      have hB := Blk.new w 44 (mark2 x)
      rw [Addr.add_mid, Nat.zero_add]
      exact (hB.cell j).trans hj) (by intro u hu; simp [mark2] at hu; rcases hu with rfl | rfl <;> rfl) (by unfold maxLen; omega) (by omega) (by simp; omega)
  refine ⟨v', w', hr, ?_, h2, ?_, ?_⟩
  · unfold Marks
    rw [markRow_snoc]
    simpa using h1
  · simpa using h4
  · exact own_form' h1

theorem eqlF (gf : Nat) (lb : Array Value) (w : World) : (binOp .eql 83 (.func (.func gf) #[] lb) .nilFunc).run Tryd.prog w = .ok (.bool false) w := by kernel_rfl

structure MkI (w : World) (most : Int) (xs : List (Nat × Nat)) (Y : Nat → Prop) (k : Nat) (W : World) : Prop where
  b1 : Blk W w.heap.size 3 [.int .i64 most]
  box : ∃ v, Blk W (w.heap.size + 1) 39 [v] ∧ Marks W w.heap.size v (xs.take k) ∧ ∀ j, v.ownBlock = some j → w.heap.size + 4 ≤ j ∧ ¬ Y j
  below : Below w.heap.size w W
  size : w.heap.size + 4 ≤ W.heap.size
  ys : ∀ j, Y j → w.heap.size + 4 ≤ j ∧ j < W.heap.size

theorem MkI.keep {w : World} {most : Int} {xs : List (Nat × Nat)} {Y : Nat → Prop} {k : Nat} {W W' : World} (h : MkI w most xs Y k W) (ho : Only (fun j => j = w.heap.size + 2 ∨ j = w.heap.size + 2 + 1) W W') : MkI w most xs Y k W' := by
  obtain ⟨v, h1, h2, h3⟩ := h.box
  exact ⟨h.b1.only ho (by omega), ⟨v, h1.only ho (by omega), h2.only ho (fun j hj e => by have := (h3 j hj).1; omega), h3⟩, h.below.trans (ho.below h.below.size (fun j hj e => by omega)), Nat.le_trans h.size ho.size, fun j hj => ⟨(h.ys j hj).1, Nat.lt_of_lt_of_le (h.ys j hj).2 ho.size⟩⟩
theorem MkI.grow {w : World} {most : Int} {xs : List (Nat × Nat)} {Y : Nat → Prop} {k : Nat} {W W' : World} (h : MkI w most xs Y k W) (ho : Only Y W W') : MkI w most xs (more Y W W') k W' := by
  obtain ⟨v, h1, h2, h3⟩ := h.box
  have hs := h.size
  have hy := h.ys
  refine ⟨h.b1.only ho (fun e => by have := (hy _ e).1; omega), ⟨v, h1.only ho (fun e => by have := (hy _ e).1; omega), h2.only ho (fun j hj e => (h3 j hj).2 e), fun j hj => ⟨(h3 j hj).1, fun hy => hy.elim (h3 j hj).2 (fun hy => by have := (h2.lt j hj).2; omega)⟩⟩, h.below.trans (ho.below h.below.size (fun j hj e => by have := (hy _ e).1; omega)), Nat.le_trans h.size ho.size, fun j hj => ?_⟩
  rcases hj with hj | hj
  · exact ⟨(h.ys j hj).1, Nat.lt_of_lt_of_le (h.ys j hj).2 ho.size⟩
  · exact ⟨by omega, hj.2⟩
theorem take_snoc {α : Type} (xs : List α) (k : Nat) (hk : k < xs.length) : xs.take (k + 1) = xs.take k ++ [xs[k]] := by rw [List.take_succ_eq_append_getElem hk]


theorem Marks.below {w w' : World} {base : Nat} {v : Value} {xs : List (Nat × Nat)} (h : Marks w base v xs) (hb : Below w.heap.size w w') : Marks w' base v xs := h.only (Only.of_below (fun _ => False) hb) (fun _ _ h => h)

end Go.Proofs.YtgeclnnhblffkabDoor
/- Marks that are read; contract: slices.Equal at marks. -/
namespace Go.Proofs.YtgeclnnhblffkabDoor
set_option maxRecDepth 20000
open Go.RowKit
set_option linter.unusedVariables false
set_option linter.unusedSimpArgs false
set_option maxRecDepth 100000

theorem below_drewN {B : Nat} {a w : World} (h : Below B a w) (n : Nat) : Below B a (w.drewN n) := ⟨h.os, h.tape, h.output, h.size, h.block⟩
/-- a []Mark that is read -/
def MkR (w : World) (v : Value) (xs : List (Nat × Nat)) : Prop :=
  ∃ ao cap, v = .slice ao xs.length cap ∧ xs.length ≤ 9223372036854775807 ∧ xs.length ≤ cap ∧ cap ≤ maxLen ∧
    (xs ≠ [] → ∃ b off, ao = some ⟨b, off, none⟩ ∧ ∀ i, i < xs.length → w.cell? ⟨b, off + i * 2, none⟩ = some (.int .i64 ((xs.getD i (0, 0)).1 : Int)) ∧ w.cell? ⟨b, off + i * 2 + 1, none⟩ = some (.int .i32 ((xs.getD i (0, 0)).2 : Int)))
theorem MkR.below {w w' : World} {v : Value} {xs : List (Nat × Nat)} (h : MkR w v xs) (hb : Below w.heap.size w w') : MkR w' v xs := by
  obtain ⟨ao, cap, rfl, h1, h2, h4, h3⟩ := h
  refine ⟨ao, cap, rfl, h1, h2, h4, fun hx => ?_⟩
  obtain ⟨b, off, rfl, hc⟩ := h3 hx
  refine ⟨b, off, rfl, fun i hi => ?_⟩
  obtain ⟨q0, q1⟩ := hc i hi
  have hbb := hb.block b (World.block_lt_of_cell? w _ q0)
  exact ⟨(World.cell?_of_block (w := w) (a := ⟨b, _, none⟩) hbb).trans q0, (World.cell?_of_block (w := w) (a := ⟨b, _, none⟩) hbb).trans q1⟩
theorem MkR.len {w : World} {v : Value} {xs : List (Nat × Nat)} (h : MkR w v xs) : ∃ ao cap, v = .slice ao xs.length cap := by
  obtain ⟨ao, cap, rfl, _⟩ := h
  exact ⟨ao, cap, rfl⟩
theorem MkR.max {w : World} {v : Value} {xs : List (Nat × Nat)} (h : MkR w v xs) : xs.length ≤ 9223372036854775807 := by
  obtain ⟨ao, cap, rfl, h1, _⟩ := h
  exact h1
theorem MkR.at {w : World} {ao : Option Addr} {n cap : Nat} {xs : List (Nat × Nat)} (h : MkR w (.slice ao n cap) xs) (i : Nat) (hi : i < xs.length) : ∃ b off x, ao = some ⟨b, off, none⟩ ∧ xs[i]? = some x ∧ w.cell? ⟨b, off + i * 2, none⟩ = some (.int .i64 (x.1 : Int)) ∧ w.cell? ⟨b, off + i * 2 + 1, none⟩ = some (.int .i32 (x.2 : Int)) := by
  obtain ⟨ao', cap', he, _, _, _, h3⟩ := h
  obtain ⟨rfl, _, _⟩ : ao = ao' ∧ n = xs.length ∧ cap = cap' := by simpa using he
  obtain ⟨b, off, rfl, hc⟩ := h3 (by intro h; simp [h] at hi)
  have hg : xs.getD i (0, 0) = xs[i] := by simp [List.getD, hi]
  have := hc i hi
  rw [hg] at this
  exact ⟨b, off, xs[i], rfl, by simp [hi], this⟩
theorem markRow_at : ∀ (xs : List (Nat × Nat)) (i : Nat), i < xs.length → (markRow xs)[i * 2]? = some (.int .i64 ((xs.getD i (0, 0)).1 : Int)) ∧ (markRow xs)[i * 2 + 1]? = some (.int .i32 ((xs.getD i (0, 0)).2 : Int))
  | x :: xs, 0, _ => ⟨rfl, rfl⟩
  | x :: xs, i + 1, h => by
    have := markRow_at xs i (by simpa using h)
    have e : markRow (x :: xs) = mark2 x ++ markRow xs := by simp [markRow]
    rw [e]
    have l2 : (mark2 x).length = 2 := rfl
    rw [List.getElem?_append_right (by rw [l2]; omega), List.getElem?_append_right (by rw [l2]; omega), l2, show (i + 1) * 2 - 2 = i * 2 by omega, show (i + 1) * 2 + 1 - 2 = i * 2 + 1 by omega]
    simpa using this
theorem markRow_len (xs : List (Nat × Nat)) : (markRow xs).length = xs.length * 2 := by
  induction xs with
  | nil => rfl
  | cons x xs ih =>
    have e : markRow (x :: xs) = mark2 x ++ markRow xs := by simp [markRow]
    rw [e, List.length_append, ih]
    simp [mark2]
    omega
theorem Marks.read {w : World} {base : Nat} {v : Value} {xs : List (Nat × Nat)} (h : Marks w base v xs) (hl : xs.length ≤ 1000000) : MkR w v xs := by
  obtain ⟨ao, cap, rfl⟩ := h.shape
  have hh := own_len h
  refine ⟨ao, cap, rfl, by omega, hh.1, hh.2, fun hx => ?_⟩
  have hpos := List.length_pos_iff.2 hx
  unfold Marks at h
  cases ao with
  | none =>
    rcases h.2 with ⟨_, e⟩ | ⟨g, cap', sp, e, _⟩
    · omega
    · simp at e
  | some a =>
    rcases h.2 with ⟨e, _⟩ | ⟨g, cap', sp, e, _⟩
    · simp at e
    · simp only [Value.slice.injEq, Option.some.injEq] at e
      obtain ⟨rfl, _⟩ := e
      refine ⟨g, 0, rfl, fun i hi => ?_⟩
      obtain ⟨m0, m1⟩ := markRow_at xs i hi
      rw [Nat.zero_add]
      exact ⟨(World.ownsRow.cellAt h (i * 2) (by omega)).trans m0, (World.ownsRow.cellAt h (i * 2 + 1) (by omega)).trans m1⟩


end Go.Proofs.YtgeclnnhblffkabDoor
