/- Contracts: package fold's Runes, Count. -/
import Derived.Test.YtimmfnjkknbofaaDoorFU8
namespace Go.Proofs.YtimmfnjkknbofaaDoor
set_option maxRecDepth 20000
open Go.RowKit Go.Shelf
set_option linter.unusedVariables false
set_option maxRecDepth 100000
attribute [local go_sem] Oper.semAt_some

theorem runes_any (w : World) (v : Value) (zs : List Int) (h : Sl w v zs) : Calls Tryd.prog 87 #[v] w fun e w' => e = .returned (.func (.func 110) #[] #[.pointer (some ⟨w.heap.size, 0, none⟩)]) ∧ w' = w.alloc (.cells #[.string (strOfNums zs)] 9) := by
  have hcv := run_convert_sl (P := Tryd.prog) w 26 5 9 Tryd.underlying26 Tryd.underlying5 Tryd.underlying9 v zs h
  generalize strOfNums zs = s at *
  obtain ⟨ao, n, cap, rfl⟩ := sl_form h
  clear h
  go_enter Tryd.func87, Tryd.ntmps87
  go_wp2
  go_ret
  exact ⟨rfl, rfl⟩

/-- between two rounds of Count -/
structure CtI (w : World) (s : ByteArray) (x : Nat) (Y : Nat → Prop) (W : World) : Prop where
  b1 : Blk W w.heap.size 3 [.int .i64 (x : Int)]
  b2 : Blk W (w.heap.size + 1) 9 [.string s]
  below : Below w.heap.size w W
  size : w.heap.size + 4 ≤ W.heap.size
  ys : ∀ j, Y j → w.heap.size + 4 ≤ j ∧ j < W.heap.size
theorem CtI.keep {w : World} {s : ByteArray} {x : Nat} {Y : Nat → Prop} {W W' : World} (h : CtI w s x Y W) (ho : Only (fun j => j = w.heap.size + 2 ∨ j = w.heap.size + 2 + 1) W W') : CtI w s x Y W' :=
  ⟨h.b1.only ho (by omega), h.b2.only ho (by omega), h.below.trans (ho.below h.below.size (fun j hj e => by omega)), Nat.le_trans h.size ho.size, fun j hj => ⟨(h.ys j hj).1, Nat.lt_of_lt_of_le (h.ys j hj).2 ho.size⟩⟩
theorem CtI.grow {w : World} {s : ByteArray} {x : Nat} {Y : Nat → Prop} {W W' : World} (h : CtI w s x Y W) (ho : Only Y W W') : CtI w s x (more Y W W') W' := by
  have hs := h.size
  have hy := h.ys
  refine ⟨h.b1.only ho (fun e => by have := (hy _ e).1; omega), h.b2.only ho (fun e => by have := (hy _ e).1; omega), h.below.trans (ho.below h.below.size (fun j hj e => by have := (hy _ e).1; omega)), Nat.le_trans h.size ho.size, fun j hj => ?_⟩
  rcases hj with hj | hj
  · exact ⟨(hy j hj).1, Nat.lt_of_lt_of_le (hy j hj).2 ho.size⟩
  · exact ⟨by omega, hj.2⟩


end Go.Proofs.YtimmfnjkknbofaaDoor
