/- Contract: runes that are told, at most so many (incipitlaw13.marks), over whatever iterator. -/
import Derived.Test.YtimmfnjkknbofaaDoorFCount
import Derived.Test.YtimmfnjkknbofaaDoorOwn
import Derived.Test.YtimmfnjkknbofaaDoorJFFst
import Derived.Test.YtimmfnjkknbofaaDoorFPp
import Derived.Test.YtimmfnjkknbofaaDoorJFRf
import Derived.Maps.AppendAt
namespace Go.Proofs.YtimmfnjkknbofaaDoor
set_option maxRecDepth 20000
open Go.RowKit Go.Shelf
set_option linter.unusedVariables false
set_option maxRecDepth 100000
attribute [local go_sem] Oper.semAt_some

theorem wpListIn_append_run {F : Fence} {n : Nat} {P : Program} (w : World) {ops : Array Oper} {rest : List Oper} {o : Oper} {a : Act} {Q : Exit → Act → World → Prop} (hg : o.guard = none) (s x : Operand) (t : TypeId)
    (hop : o.op = .call { callee := .builtin .append, args := #[s, x], argTypes := #[t, t] }) (v y : Value) (hs : a.eval s = v) (hx : a.eval x = y) (v' : Value) (w' : World)
    (hr : (Builtin.append_ #[t, t] o.type #[v, y]).run P w = .ok v' w') (h : wpListIn F n P ops Q rest (a.put o.dst v') w') : wpListIn F n P ops Q (o :: rest) a w := by
  refine wpListIn_plain hg fun K hK' => ?_
  unfold Oper.wpIn
  refine ⟨?_, ?_⟩
  · simp [Oper.about, hop, resolve, Target.leads, Sem.run_pure]
  · rw [Oper.semAt_plain F _ _ (by rw [hop]; intro c hc'; cases hc')]
    simp [execOp, hop, resolve, invoke, builtin, hs, hx, hr, Result.andThen]
    exact hK' _ _ h
def mark2 (x : Nat × Nat) : List Value := [.int .i64 (x.1 : Int), .int .i32 (x.2 : Int)]
def markRow (xs : List (Nat × Nat)) : List Value := (xs.map mark2).flatten
theorem markRow_snoc (xs : List (Nat × Nat)) (x : Nat × Nat) : markRow (xs ++ [x]) = markRow xs ++ mark2 x := by simp [markRow]
theorem infoMark : (Tryd.prog.info? 102).map (fun i => (i.zero, i.size, i.bytes)) = some (some (.agg #[.int .i64 0, .int .i32 0]), 2, 16) := by kernel_rfl
/-- a []one that is owned -/
def Marks (w : World) (base : Nat) (v : Value) (xs : List (Nat × Nat)) : Prop := w.ownsRow base 102 2 v xs.length (markRow xs)
theorem Marks.only {S : Nat → Prop} {w w' : World} {base : Nat} {v : Value} {xs : List (Nat × Nat)} (h : Marks w base v xs) (ho : Only S w w') (hn : ∀ k, v.ownBlock = some k → ¬ S k) : Marks w' base v xs := ownsRow_only h ho hn
theorem Marks.shape {w : World} {base : Nat} {v : Value} {xs : List (Nat × Nat)} (h : Marks w base v xs) : ∃ ao cap, v = .slice ao xs.length cap := own_form' h
theorem Marks.lt {w : World} {base : Nat} {v : Value} {xs : List (Nat × Nat)} (h : Marks w base v xs) (k : Nat) (hk : v.ownBlock = some k) : base ≤ k ∧ k < w.heap.size := World.ownsRow.lt h k hk

theorem run_append_mark (w : World) (base : Nat) (v : Value) (xs : List (Nat × Nat)) (h : Marks w base v xs) (x : Nat × Nat) (hl : xs.length + 1 ≤ 1000000) (hb : base ≤ w.heap.size) :
    ∃ v' w', (Builtin.append_ #[99, 99] 99 #[v, .slice (some ⟨w.heap.size, 0, none⟩) 1 1]).run Tryd.prog (w.alloc (.cells #[.int .i64 (x.1 : Int), .int .i32 (x.2 : Int)] 102)) = .ok v' w' ∧ Marks w' base v' (xs ++ [x]) ∧ (w.alloc (.cells #[.int .i64 (x.1 : Int), .int .i32 (x.2 : Int)] 102)).grownBy w' v.ownBlock ∧ (v'.ownBlock = v.ownBlock ∨ v'.ownBlock = some (w.heap.size + 1)) ∧ ∃ ao cap, v' = .slice ao (xs.length + 1) cap := by
  obtain ⟨i0, hi, hz, hs, hby⟩ := info_parts infoMark
  obtain ⟨v', w', hr, h1, h2, _, h4⟩ := run_append_own_at (P := Tryd.prog) (w.alloc (.cells #[.int .i64 (x.1 : Int), .int .i32 (x.2 : Int)] 102)) base 99 99 102 i0 _ 2 16 Tryd.underlying99 hi hz hs hby rfl (by decide) v xs.length (markRow xs) (World.ownsRow.alloc h _) ⟨w.heap.size, 0, none⟩ 1 1 (mark2 x) rfl
    (fun j u hj => by
      have hB := Blk.new w 102 (mark2 x)
      rw [Addr.add_mid, Nat.zero_add]
      exact (hB.cell j).trans hj) (by intro u hu; simp [mark2] at hu; rcases hu with rfl | rfl <;> rfl) (by unfold maxLen; omega) (by omega) (by simp; omega)
  refine ⟨v', w', hr, ?_, h2, ?_, ?_⟩
  · unfold Marks
    rw [markRow_snoc]
    simpa using h1
  · simpa using h4
  · exact own_form' h1

theorem eqlF (gf : Nat) (lb : Array Value) (w : World) : (binOp .eql 128 (.func (.func gf) #[] lb) .nilFunc).run Tryd.prog w = .ok (.bool false) w := by kernel_rfl

structure MkI (w : World) (most : Int) (xs : List (Nat × Nat)) (Y : Nat → Prop) (k : Nat) (W : World) : Prop where
  b1 : Blk W w.heap.size 3 [.int .i64 most]
  box : ∃ v, Blk W (w.heap.size + 1) 99 [v] ∧ Marks W w.heap.size v (xs.take k) ∧ ∀ j, v.ownBlock = some j → w.heap.size + 4 ≤ j ∧ ¬ Y j
  below : Below w.heap.size w W
  size : w.heap.size + 4 ≤ W.heap.size
  ys : ∀ j, Y j → w.heap.size + 4 ≤ j ∧ j < W.heap.size

theorem MkI.keep {w : World} {most : Int} {xs : List (Nat × Nat)} {Y : Nat → Prop} {k : Nat} {W W' : World} (h : MkI w most xs Y k W) (ho : Only (fun j => j = w.heap.size + 2 ∨ j = w.heap.size + 2 + 1) W W') : MkI w most xs Y k W' := by
  obtain ⟨v, h1, h2, h3⟩ := h.box
  exact ⟨h.b1.only ho (by omega), ⟨v, h1.only ho (by omega), h2.only ho (fun j hj e => by have := (h3 j hj).1; omega), h3⟩, h.below.trans (ho.below h.below.size (fun j hj e => by omega)), Nat.le_trans h.size ho.size, fun j hj => ⟨(h.ys j hj).1, Nat.lt_of_lt_of_le (h.ys j hj).2 ho.size⟩⟩
theorem MkI.grow {w : World} {most : Int} {xs : List (Nat × Nat)} {Y : Nat → Prop} {k : Nat} {W W' : World} (h : MkI w most xs Y k W) (ho : Only Y W W') : MkI w most xs (more Y W W') k W' := by
  obtain ⟨v, h1, h2, h3⟩ := h.box
  have hs := h.size
  have hy := h.ys
  refine ⟨h.b1.only ho (fun e => by have := (hy _ e).1; omega), ⟨v, h1.only ho (fun e => by have := (hy _ e).1; omega), h2.only ho (fun j hj e => (h3 j hj).2 e), fun j hj => ⟨(h3 j hj).1, fun hy => hy.elim (h3 j hj).2 (fun hy => by have := (h2.lt j hj).2; omega)⟩⟩, h.below.trans (ho.below h.below.size (fun j hj e => by have := (hy _ e).1; omega)), Nat.le_trans h.size ho.size, fun j hj => ?_⟩
  rcases hj with hj | hj
  · exact ⟨(h.ys j hj).1, Nat.lt_of_lt_of_le (h.ys j hj).2 ho.size⟩
  · exact ⟨by omega, hj.2⟩
theorem take_snoc {α : Type} (xs : List α) (k : Nat) (hk : k < xs.length) : xs.take (k + 1) = xs.take k ++ [xs[k]] := by rw [List.take_succ_eq_append_getElem hk]


theorem Marks.below {w w' : World} {base : Nat} {v : Value} {xs : List (Nat × Nat)} (h : Marks w base v xs) (hb : Below w.heap.size w w') : Marks w' base v xs := h.only (Only.of_below (fun _ => False) hb) (fun _ _ h => h)

end Go.Proofs.YtimmfnjkknbofaaDoor
/- Marks that are read; contract: slices.Equal at marks. -/
namespace Go.Proofs.YtimmfnjkknbofaaDoor
set_option maxRecDepth 20000
open Go.RowKit
set_option linter.unusedVariables false
set_option linter.unusedSimpArgs false
set_option maxRecDepth 100000

theorem below_drewN {B : Nat} {a w : World} (h : Below B a w) (n : Nat) : Below B a (w.drewN n) := ⟨h.os, h.tape, h.output, h.size, h.block⟩
/-- a []Mark that is read -/
def MkR (w : World) (v : Value) (xs : List (Nat × Nat)) : Prop :=
  ∃ ao cap, v = .slice ao xs.length cap ∧ xs.length ≤ 9223372036854775807 ∧ xs.length ≤ cap ∧ cap ≤ maxLen ∧
    (xs ≠ [] → ∃ b off, ao = some ⟨b, off, none⟩ ∧ ∀ i, i < xs.length → w.cell? ⟨b, off + i * 2, none⟩ = some (.int .i64 ((xs.getD i (0, 0)).1 : Int)) ∧ w.cell? ⟨b, off + i * 2 + 1, none⟩ = some (.int .i32 ((xs.getD i (0, 0)).2 : Int)))
theorem MkR.below {w w' : World} {v : Value} {xs : List (Nat × Nat)} (h : MkR w v xs) (hb : Below w.heap.size w w') : MkR w' v xs := by
  obtain ⟨ao, cap, rfl, h1, h2, h4, h3⟩ := h
  refine ⟨ao, cap, rfl, h1, h2, h4, fun hx => ?_⟩
  obtain ⟨b, off, rfl, hc⟩ := h3 hx
  refine ⟨b, off, rfl, fun i hi => ?_⟩
  obtain ⟨q0, q1⟩ := hc i hi
  have hbb := hb.block b (World.block_lt_of_cell? w _ q0)
  exact ⟨(World.cell?_of_block (w := w) (a := ⟨b, _, none⟩) hbb).trans q0, (World.cell?_of_block (w := w) (a := ⟨b, _, none⟩) hbb).trans q1⟩
theorem MkR.len {w : World} {v : Value} {xs : List (Nat × Nat)} (h : MkR w v xs) : ∃ ao cap, v = .slice ao xs.length cap := by
  obtain ⟨ao, cap, rfl, _⟩ := h
  exact ⟨ao, cap, rfl⟩
theorem MkR.max {w : World} {v : Value} {xs : List (Nat × Nat)} (h : MkR w v xs) : xs.length ≤ 9223372036854775807 := by
  obtain ⟨ao, cap, rfl, h1, _⟩ := h
  exact h1
theorem MkR.at {w : World} {ao : Option Addr} {n cap : Nat} {xs : List (Nat × Nat)} (h : MkR w (.slice ao n cap) xs) (i : Nat) (hi : i < xs.length) : ∃ b off x, ao = some ⟨b, off, none⟩ ∧ xs[i]? = some x ∧ w.cell? ⟨b, off + i * 2, none⟩ = some (.int .i64 (x.1 : Int)) ∧ w.cell? ⟨b, off + i * 2 + 1, none⟩ = some (.int .i32 (x.2 : Int)) := by
  obtain ⟨ao', cap', he, _, _, _, h3⟩ := h
  obtain ⟨rfl, _, _⟩ : ao = ao' ∧ n = xs.length ∧ cap = cap' := by simpa using he
  obtain ⟨b, off, rfl, hc⟩ := h3 (by intro h; simp [h] at hi)
  have hg : xs.getD i (0, 0) = xs[i] := by simp [List.getD, hi]
  have := hc i hi
  rw [hg] at this
  exact ⟨b, off, xs[i], rfl, by simp [hi], this⟩
theorem markRow_at : ∀ (xs : List (Nat × Nat)) (i : Nat), i < xs.length → (markRow xs)[i * 2]? = some (.int .i64 ((xs.getD i (0, 0)).1 : Int)) ∧ (markRow xs)[i * 2 + 1]? = some (.int .i32 ((xs.getD i (0, 0)).2 : Int))
  | x :: xs, 0, _ => ⟨rfl, rfl⟩
  | x :: xs, i + 1, h => by
    have := markRow_at xs i (by simpa using h)
    have e : markRow (x :: xs) = mark2 x ++ markRow xs := by simp [markRow]
    rw [e]
    have l2 : (mark2 x).length = 2 := rfl
    rw [List.getElem?_append_right (by rw [l2]; omega), List.getElem?_append_right (by rw [l2]; omega), l2, show (i + 1) * 2 - 2 = i * 2 by omega, show (i + 1) * 2 + 1 - 2 = i * 2 + 1 by omega]
    simpa using this
theorem markRow_len (xs : List (Nat × Nat)) : (markRow xs).length = xs.length * 2 := by
  induction xs with
  | nil => rfl
  | cons x xs ih =>
    have e : markRow (x :: xs) = mark2 x ++ markRow xs := by simp [markRow]
    rw [e, List.length_append, ih]
    simp [mark2]
    omega
theorem Marks.read {w : World} {base : Nat} {v : Value} {xs : List (Nat × Nat)} (h : Marks w base v xs) (hl : xs.length ≤ 1000000) : MkR w v xs := by
  obtain ⟨ao, cap, rfl⟩ := h.shape
  have hh := own_len h
  refine ⟨ao, cap, rfl, by omega, hh.1, hh.2, fun hx => ?_⟩
  have hpos := List.length_pos_iff.2 hx
  unfold Marks at h
  cases ao with
  | none =>
    rcases h.2 with ⟨_, e⟩ | ⟨g, cap', sp, e, _⟩
    · omega
    · simp at e
  | some a =>
    rcases h.2 with ⟨e, _⟩ | ⟨g, cap', sp, e, _⟩
    · simp at e
    · simp only [Value.slice.injEq, Option.some.injEq] at e
      obtain ⟨rfl, _⟩ := e
      refine ⟨g, 0, rfl, fun i hi => ?_⟩
      obtain ⟨m0, m1⟩ := markRow_at xs i hi
      rw [Nat.zero_add]
      exact ⟨(World.ownsRow.cellAt h (i * 2) (by omega)).trans m0, (World.ownsRow.cellAt h (i * 2 + 1) (by omega)).trans m1⟩


end Go.Proofs.YtimmfnjkknbofaaDoor
/- Cuts of a slice of bytes that is read: b[l:h], b[:h], b[l:], as run equations whose values show their form. -/
namespace Go.Proofs.YtimmfnjkknbofaaDoor
set_option maxRecDepth 20000
open Go.RowKit

theorem sl_take' {w : World} {ao : Option Addr} {zs : List Int} {cap : Nat} (n : Nat) (h : Sl w (.slice ao zs.length cap) zs) (hn : n ≤ zs.length) : Sl w (.slice ao (zs.take n).length cap) (zs.take n) := by
  have := sl_take n h hn
  rwa [show (zs.take n).length = n by simp; omega]
theorem sl_drop0' {w : World} {ao : Option Addr} {zs : List Int} {cap : Nat} (n : Nat) (h : Sl w (.slice ao zs.length cap) zs) (hn : n ≤ zs.length) (hc : cap = n) : Sl w (.slice ao (zs.drop n).length 0) (zs.drop n) := by
  have := sl_cut0 n h hn hc
  rwa [show (zs.drop n).length = zs.length - n by simp]
theorem sl_drop' {w : World} {ao : Option Addr} {zs : List Int} {cap : Nat} (n : Nat) (h : Sl w (.slice ao zs.length cap) zs) (hn : n ≤ zs.length) : Sl w (.slice (Option.map (fun x => x.add n) ao) (zs.drop n).length (cap - n)) (zs.drop n) := by
  have := sl_cut n h hn
  rwa [show (zs.drop n).length = zs.length - n by simp]
theorem sl_cap {w : World} {ao : Option Addr} {n cap : Nat} {zs : List Int} (S : Sl w (.slice ao n cap) zs) : n = zs.length ∧ zs.length ≤ cap ∧ cap ≤ maxLen := by
  obtain ⟨_, ao', cap', he, h', h2, _⟩ := S
  simp at he
  exact ⟨he.2.1, by omega, by omega⟩

theorem tySl : Tryd.prog.underlying 26 = some (.slice (Tryd.prog.elem 26)) := by kernel_rfl
theorem szSl (wx : World) : (Go.sizeOf (Tryd.prog.elem 26)).run Tryd.prog wx = .ok 1 wx := by kernel_rfl

/-- b[l:h] -/
theorem cut_lh (w : World) (ao : Option Addr) (zs : List Int) (cap l h : Nat) (S : Sl w (.slice ao zs.length cap) zs) (h1 : l ≤ h) (h2 : h ≤ zs.length) :
    ∃ a' c', (∀ wx, (Instr.slice 26 (.slice ao zs.length cap) (some (.int .i64 l)) (some (.int .i64 h)) none).run Tryd.prog wx = .ok (.slice a' ((zs.take h).drop l).length c') wx) ∧
      ∀ wx, Sl wx (.slice ao zs.length cap) zs → Sl wx (.slice a' ((zs.take h).drop l).length c') ((zs.take h).drop l) := by
  have hle := (sl_cap S).2.1
  have hlen : ((zs.take h).drop l).length = h - l := by simp; omega
  have hlt : l ≤ (zs.take h).length := by simp; omega
  by_cases hc : cap = l
  · refine ⟨ao, 0, fun wx => ?_, fun wx hS => sl_drop0' l (sl_take' h hS h2) hlt hc⟩
    rw [run_slice_lh wx 26 ao zs.length cap tySl .i64 .i64 l h (by omega) (by omega) (by omega), szSl]
    simp only [Result.andThen, sliced, Int.toNat_natCast]
    rw [if_pos hc, hlen, show cap - l = 0 by omega]
  · refine ⟨Option.map (fun x => x.add l) ao, cap - l, fun wx => ?_, fun wx hS => sl_drop' l (sl_take' h hS h2) hlt⟩
    rw [run_slice_lh wx 26 ao zs.length cap tySl .i64 .i64 l h (by omega) (by omega) (by omega), szSl]
    simp only [Result.andThen, sliced, Int.toNat_natCast]
    rw [if_neg hc, hlen, Nat.mul_one]

/-- b[l:] -/
theorem cut_l (w : World) (ao : Option Addr) (zs : List Int) (cap l : Nat) (S : Sl w (.slice ao zs.length cap) zs) (h1 : l ≤ zs.length) :
    ∃ a' c', (∀ wx, (Instr.slice 26 (.slice ao zs.length cap) (some (.int .i64 l)) none none).run Tryd.prog wx = .ok (.slice a' (zs.drop l).length c') wx) ∧
      ∀ wx, Sl wx (.slice ao zs.length cap) zs → Sl wx (.slice a' (zs.drop l).length c') (zs.drop l) := by
  have hle := (sl_cap S).2.1
  have hlen : (zs.drop l).length = zs.length - l := by simp
  by_cases hc : cap = l
  · refine ⟨ao, 0, fun wx => ?_, fun wx hS => sl_drop0' l hS h1 hc⟩
    rw [run_slice_l wx 26 ao zs.length cap tySl .i64 l (by omega) (by omega), szSl]
    simp only [Result.andThen, sliced, Int.toNat_natCast]
    rw [if_pos hc, hlen, show cap - l = 0 by omega]
  · refine ⟨Option.map (fun x => x.add l) ao, cap - l, fun wx => ?_, fun wx hS => sl_drop' l hS h1⟩
    rw [run_slice_l wx 26 ao zs.length cap tySl .i64 l (by omega) (by omega), szSl]
    simp only [Result.andThen, sliced, Int.toNat_natCast]
    rw [if_neg hc, hlen, Nat.mul_one]

/-- b[:h] -/
theorem cut_h (w : World) (ao : Option Addr) (zs : List Int) (cap h : Nat) (S : Sl w (.slice ao zs.length cap) zs) (h2 : h ≤ zs.length) :
    ∃ a' c', (∀ wx, (Instr.slice 26 (.slice ao zs.length cap) none (some (.int .i64 h)) none).run Tryd.prog wx = .ok (.slice a' (zs.take h).length c') wx) ∧
      ∀ wx, Sl wx (.slice ao zs.length cap) zs → Sl wx (.slice a' (zs.take h).length c') (zs.take h) := by
  have hle := (sl_cap S).2.1
  have hlen : (zs.take h).length = h := by simp; omega
  refine ⟨ao, cap, fun wx => ?_, fun wx hS => sl_take' h hS h2⟩
  rw [run_slice_h wx 26 ao zs.length cap tySl .i64 h (by omega) (by omega), szSl]
  simp only [Result.andThen, sliced, Int.toNat_natCast]
  rw [hlen]
  by_cases hc : cap = 0
  · rw [if_pos hc]; rfl
  · rw [if_neg hc]
    cases ao with
    | none => rfl
    | some x => simp [Addr.add]

end Go.Proofs.YtimmfnjkknbofaaDoor
/- Contract: the runes of bytes, by the document (incipitref13.Runes). -/
namespace Go.Proofs.YtimmfnjkknbofaaDoor
set_option maxRecDepth 20000
open Go.RowKit
set_option linter.unusedVariables false
set_option linter.unusedSimpArgs false
set_option maxRecDepth 100000

theorem marks_none (w : World) (base : Nat) (hb : base ≤ w.heap.size) : Marks (w.alloc (.cells #[] 102)) base (.slice (some ⟨w.heap.size, 0, none⟩) 0 0) [] :=
  ⟨rfl, .inr ⟨w.heap.size, 0, #[], rfl, hb, heap_alloc_new w _, Nat.le_refl _, by simp [maxLen], by simp, rfl⟩⟩
theorem dec_width {b : List Int} (hb : ByteOk b) (hne : b ≠ []) : (decN b).2 ≤ b.length := by
  rcases dec_is hb hne with ⟨r, _, h2, h3⟩ | ⟨h3, _⟩
  · rw [h3]; exact h2.length_le
  · rw [h3]; exact List.length_pos_iff.2 hne

set_option maxHeartbeats 2000000 in
theorem refRunes_any (w : World) (v : Value) (zs : List Int) (h : Sl w v zs) (hl : zs.length ≤ 100000) : Calls Tryd.prog 65 #[v] w fun e w' => ∃ u, e = .returned u ∧ Marks w' w.heap.size u (runesN zs) ∧ Below w.heap.size w w' := by
  have hok := h.1
  obtain ⟨ao, L, cap, rfl⟩ := sl_form h
  have hL := sl_len h
  have hLi : (L : Int) ≤ 100000 := by omega
  obtain ⟨w1, hw1⟩ : ∃ w1, w.alloc (.cells #[] 102) = w1 := ⟨_, rfl⟩
  have HM0 : Hid (Marks w1 w.heap.size (.slice (some ⟨w.heap.size, 0, none⟩) 0 0) []) := by rw [← hw1]; exact marks_none w _ (Nat.le_refl _)
  have HB0 : Hid (Below w.heap.size w w1) := by rw [← hw1]; exact (Below.refl _ w).alloc (Nat.le_refl _) _
  have HS := hide h
  have HL := hide hL
  have HOK := hide hok
  have HRL := hide (runesN_len zs)
  clear h hok hL hl
  go_enter Tryd.func65, Tryd.ntmps65
  go_wp2
  go_loopg [3, 4] L (fun gk l t wr => ∃ (p k : Nat) (al : Option Addr) (cl : Nat) (RR : List (Nat × Nat)), gk + p = L ∧ t = .int .i64 (p : Int) ∧ l = .slice al k cl ∧ RR.length = k ∧ Marks wr w.heap.size (.slice al k cl) RR ∧ RR ++ rnL gk p (zs.drop p) = runesN zs ∧ Below w.heap.size w wr)
  case atStart => exact ⟨0, 0, _, 0, [], rfl, rfl, rfl, rfl, HM0.out, by rw [HL.out]; rfl, HB0.out⟩
  case round =>
    clear HM0 HB0 hw1
    obtain ⟨p, k, al, cl, RR, hk, rfl, rfl, hrr, hm, hr, hbw⟩ := hrel
    have HM := hide hm
    have HR := hide hr
    have HBW := hide hbw
    have HK := hide hrr
    clear hm hr hbw hrr
    cases gk with
    | zero =>
      obtain rfl : p = L := by omega
      have hlt : ¬ (p : Int) < (p : Int) := by omega
      go_wp2
      go_ret
      refine ⟨_, rfl, ?_, HBW.out⟩
      have h1 := HR.out
      rw [show rnL 0 p (zs.drop p) = [] from rfl, List.append_nil] at h1
      rw [← h1]
      exact HM.out
    | succ g =>
      have hp : (p : Int) < (L : Int) := by omega
      have hpz : p < zs.length := by have := HL.out; omega
      have hne : zs.drop p ≠ [] := by
        intro e
        have := congrArg List.length e
        simp at this
        omega
      have hSz : Sl wr (.slice ao zs.length cap) zs := by rw [← HL.out]; exact HS.out.below HBW.out
      obtain ⟨a', c', hcut, hsl⟩ := cut_l wr ao zs cap p hSz (by omega)
      rw [← HL.out] at hcut
      have HSL := hide (hsl wr hSz)
      have hdok : ByteOk (zs.drop p) := HOK.out.drop p
      have hwid := dec_width hdok hne
      have hpos := decN_pos _ hne
      have hle := decN_le (zs.drop p)
      have HFI := hide (refFirst_any wr _ (zs.drop p) HSL.out hne)
      have hstep := rnL_on g p hne
      obtain ⟨m, hm⟩ : ∃ m, (zs.drop p).length = m := ⟨_, rfl⟩
      have hmL : m + p = L := by have := HL.out; rw [← hm]; simp; omega
      rw [hm] at hcut hwid HFI
      have HST : Hid (rnL (g + 1) p (zs.drop p) = (p, (decN (zs.drop p)).1) :: rnL (g + 1 - (decN (zs.drop p)).2) (p + (decN (zs.drop p)).2) (zs.drop (p + (decN (zs.drop p)).2))) := by
        show _ = _
        rw [hstep, List.drop_drop]
        congr 1
        exact rnL_fuel _ _ _ _ (by have := HL.out; simp only [List.length_drop]; omega) (by have := HL.out; simp only [List.length_drop]; omega)
      generalize decN (zs.drop p) = d at *
      obtain ⟨r, n⟩ := d
      simp only at hwid hpos hle HFI HST
      have hpi : (p : Int) + (n : Int) ≤ 100000 := by omega
      have HAP : Hid (∀ W, Below wr.heap.size wr W → ∃ w3 ao2 cap2, (Builtin.append_ #[99, 99] 99 #[.slice al k cl, .slice (some ⟨W.heap.size, 0, none⟩) 1 1]).run Tryd.prog (W.alloc (.cells #[.int .i64 (p : Int), .int .i32 (r : Int)] 102)) = .ok (.slice ao2 (k + 1) cap2) w3 ∧ Marks w3 w.heap.size (.slice ao2 (k + 1) cap2) (RR ++ [(p, r)]) ∧ Below w.heap.size w w3) := fun W hW => by
        have hMW := HM.out.below hW
        obtain ⟨v2, w3, hr, hi2, hg2, hv2, ao2, cap2, rfl⟩ := run_append_mark W w.heap.size _ _ hMW (p, r) (by have h1 := congrArg List.length HR.out; simp at h1; have h2 := HRL.out; have h3 := HL.out; omega) (by have := HBW.out.size; have := hW.size; omega)
        rw [HK.out] at hr hi2
        refine ⟨w3, ao2, cap2, hr, hi2, ?_⟩
        have hoA : Only (fun q => (Value.slice al k cl).ownBlock = some q) W w3 := ((Only.refl _ W).alloc _).grown hg2 (fun q e _ => e)
        have hbW := HBW.out.trans (hW.mono HBW.out.size)
        exact hbW.trans (hoA.below hbW.size (fun q hq e => by have h1 := (hMW.lt q e).1; omega))
      clear hstep hdok hne hm hSz hsl
      go_wp2_with (first
        | (go_at_call 84; refine HFI.out.mono ?_; rintro e w2 ⟨rfl, hb⟩; obtain ⟨w3, ao2, cap2, hap, hm3, hb3⟩ := HAP.out w2 hb; have HA3 := hide hap; have HM3 := hide hm3; have HB3 := hide hb3; clear HFI HAP hb hap hm3 hb3)
        | (at_builtin; (with_reducible refine wpList_append_run _ rfl (.tmp 19) (.tmp 23) 99 rfl _ _ ?_ ?_ _ _ HA3.out ?_); exact rfl; exact rfl; clear HA3))
      go_roundg (g + 1 - n)
      case measure => omega
      case rel =>
        refine ⟨p + n, k + 1, ao2, cap2, RR ++ [(p, r)], by omega, by go_num, rfl, by simp; have := HK.out; omega, HM3.out, ?_, HB3.out⟩
        rw [List.append_assoc, ← HR.out, HST.out]
        rfl

end Go.Proofs.YtimmfnjkknbofaaDoor
/- Contracts: the document's Rune and Text (incipitref13). -/
namespace Go.Proofs.YtimmfnjkknbofaaDoor
set_option maxRecDepth 20000
open Go.RowKit
set_option linter.unusedVariables false
set_option linter.unusedSimpArgs false
set_option maxRecDepth 100000

theorem atL_fold : ∀ (xs : List Fd) (r : Int) (j : Nat), (atL xs r j < 0 ∧ foldL xs r = r) ∨ ∃ (i : Nat) (x : Fd), atL xs r j = ((j + i : Nat) : Int) ∧ xs[i]? = some x ∧ foldL xs r = x.2.1 + (r - x.1) ∧ x.1 ≤ r ∧ r - x.1 < x.2.2
  | [], r, j => .inl ⟨by unfold atL; omega, rfl⟩
  | x :: xs, r, j => by
    unfold atL foldL
    by_cases h : x.1 ≤ r ∧ r - x.1 < x.2.2
    · rw [if_pos h, if_pos ⟨h.1, by omega⟩]
      exact .inr ⟨0, x, rfl, rfl, rfl, h⟩
    · rw [if_neg h, if_neg (by omega)]
      rcases atL_fold xs r (j + 1) with h1 | ⟨i, y, h1, h2, h3⟩
      · exact .inl h1
      · exact .inr ⟨i + 1, y, by rw [h1]; congr 1; omega, by simpa using h2, h3⟩

set_option maxHeartbeats 1000000 in
theorem refRune_any (w : World) (v : Value) (xs : List Fd) (r : Int) (hT : Tbl w v xs) (hr : I32 r) :
    Calls Tryd.prog 41 #[v, .int .i32 r] w fun e w' => e = .returned (.int .i32 (foldL (useL xs) r)) ∧ Below w.heap.size w w' := by
  have HC := hide (refCheck_any w v xs hT)
  have HF : Hid (∀ W, Below w.heap.size w W → Calls Tryd.prog 64 #[v, .int .i32 r] W fun e w' => e = .returned (.int .i64 (atL xs r 0)) ∧ Below W.heap.size W w') := fun W h => refFolds_any W v xs r (hT.below h) hr
  have hus := useL_ok xs
  obtain ⟨ao, cap, rfl⟩ := hT.len
  have HT := hide hT
  have hmx := hT.max
  obtain ⟨n, hn⟩ : ∃ n, xs.length = n := ⟨_, rfl⟩
  have HN := hide hn
  rw [hn] at HC HF HT hmx ⊢
  obtain ⟨hr1, hr2⟩ := hr
  clear hT hn
  cases hB : tblB xs with
  | false =>
    have HU : Hid (foldL (useL xs) r = r) := by show _ = _; rw [show useL xs = [] from if_neg (by rw [hB]; simp)]; rfl
    rw [show tblE xs = 130 from if_neg (by rw [hB]; simp)] at HC
    clear hB hus
    go_enter Tryd.func41, Tryd.ntmps41
    go_wp2_with (go_at_call 38; refine HC.out.mono ?_; rintro e w1 ⟨rfl, hb⟩; have HB := hide hb; clear HC hb)
    go_ret
    exact ⟨ret_int HU.out.symm, HB.out⟩
  | true =>
    have huse : useL xs = xs := if_pos hB
    rw [show tblE xs = 0 from if_pos hB] at HC
    rw [huse] at hus ⊢
    rcases atL_fold xs r 0 with ⟨h1, h2⟩ | ⟨i, ⟨f, t, m⟩, h1, h2, h3, h4, h5⟩
    · have HU := hide h2
      generalize atL xs r 0 = A at *
      clear hB hus h2 huse
      go_enter Tryd.func41, Tryd.ntmps41
      go_wp2_with (first
        | (go_at_call 38; refine HC.out.mono ?_; rintro e w1 ⟨rfl, hb⟩; have HB := hide hb; clear HC hb)
        | (go_at_call 64; refine (HF.out w1 HB.out).mono ?_; rintro e w2 ⟨rfl, hb⟩; have HB2 := hide (HB.out.trans (hb.mono HB.out.size)); clear HF hb))
      go_ret
      exact ⟨ret_int HU.out.symm, HB2.out⟩
    · rw [Nat.zero_add] at h1
      obtain ⟨⟨n1, n2⟩, f1, f2, t1, t2⟩ := hus _ (List.mem_of_getElem? h2)
      simp only at n1 n2 f1 f2 t1 t2 h3 h4 h5
      have hil : i < xs.length := (List.getElem?_eq_some_iff.1 h2).1
      have hii : (i : Int) < (n : Int) := by have := HN.out; omega
      have HCL : Hid (∀ W, Below w.heap.size w W → ∃ b off, ao = some ⟨b, off, none⟩ ∧ W.cell? ⟨b, off + i * 3, none⟩ = some (.int .i32 f) ∧ W.cell? ⟨b, off + i * 3 + 1, none⟩ = some (.int .i32 t)) := fun W h => by
        obtain ⟨b, off, x, e, hx, _, q0, q1, _⟩ := (HT.out.below h).at i hil
        obtain rfl : x = (f, t, m) := Option.some.inj (hx.symm.trans h2)
        exact ⟨b, off, e, q0, q1⟩
      have HU := hide h3
      rw [h1] at HF
      obtain ⟨S1, hS1⟩ : ∃ S, t + r = S := ⟨_, rfl⟩
      have hS1w : IntKind.i32.wrap S1 = S1 := IntWalk.i32_in _ ⟨by omega, by omega⟩
      obtain ⟨S2, hS2⟩ : ∃ S, S1 - f = S := ⟨_, rfl⟩
      have hS2w : IntKind.i32.wrap S2 = S2 := IntWalk.i32_in _ ⟨by omega, by omega⟩
      have HR : Hid (foldL xs r = S2) := by show _ = _; rw [h3]; omega
      clear hB hus h1 h2 h3 huse hil
      go_enter Tryd.func41, Tryd.ntmps41
      go_wp2_with (first
        | (go_at_call 38; refine HC.out.mono ?_; rintro e w1 ⟨rfl, hb⟩; have HB := hide hb; clear HC hb)
        | (go_at_call 64; refine (HF.out w1 HB.out).mono ?_; rintro e w2 ⟨rfl, hb⟩; have HB2 := hide (HB.out.trans (hb.mono HB.out.size)); obtain ⟨b, off, hao, q0, q1⟩ := HCL.out w2 HB2.out; subst hao; clear HF hb))
      go_quiet (fail)
      go_wp2
      go_ret
      exact ⟨ret_int HR.out.symm, below_drewG HB2.out _⟩

theorem bytes_none (w : World) (base : Nat) (hb : base ≤ w.heap.size) : (w.alloc (.cells #[] 5)).ownsRow base 5 1 (.slice (some ⟨w.heap.size, 0, none⟩) 0 0) 0 [] :=
  ⟨rfl, .inr ⟨w.heap.size, 0, #[], rfl, hb, heap_alloc_new w _, Nat.le_refl _, by simp [maxLen], by simp, rfl⟩⟩
theorem foldZ_snoc (xs : List Fd) (l : List (Nat × Nat)) (k : Nat) (x : Nat × Nat) (hx : l[k]? = some x) : foldZ xs (l.take (k + 1)) = foldZ xs (l.take k) ++ Lib.encodeRuneZ (foldL xs (x.2 : Int)) := by
  obtain ⟨hk, e⟩ := List.getElem?_eq_some_iff.1 hx
  rw [List.take_succ_eq_append_getElem hk, e]
  unfold foldZ
  rw [List.flatMap_append, List.flatMap_cons, List.flatMap_nil, List.append_nil]


end Go.Proofs.YtimmfnjkknbofaaDoor
