/- The walk of the statement FramePlace. -/
import Derived.Test.YtmeiahmolmneeaaDoorFOpen
namespace Go.Proofs.YtmeiahmolmneeaaDoor
set_option maxRecDepth 20000
open Go.RowKit
set_option linter.unusedVariables false

/-- the frame that came in, boxed: it stays -/
def Bx (w w1 : World) (f : Fm) : Prop := Below w.heap.size w w1 ∧ Blk w1 w.heap.size 59 f.cells
theorem Bx.below {w w1 w2 : World} {f : Fm} (h : Bx w w1 f) (hb : Below w1.heap.size w1 w2) : Bx w w2 f := ⟨h.1.trans (hb.mono h.1.size), h.2.below hb h.2.lt⟩
theorem Bx.alloc {w w1 : World} {f : Fm} (h : Bx w w1 f) (o : Obj) : Bx w (w1.alloc o) f := h.below ((Below.refl _ w1).alloc (Nat.le_refl _) o)
theorem Bx.new (w : World) (f : Fm) : Bx w (w.alloc (.cells #[.int .i64 f.k, .int .i64 f.p, .int .u64 f.e, .slice f.a f.n f.c] 59)) f := ⟨(Below.refl _ w).alloc (Nat.le_refl _) _, Blk.new w _ _⟩
theorem Bx.cells {w w1 : World} {f : Fm} (h : Bx w w1 f) : w1.cell? ⟨w.heap.size, 0, none⟩ = some (.int .i64 f.k) ∧ w1.cell? ⟨w.heap.size, 1, none⟩ = some (.int .i64 f.p) ∧ w1.cell? ⟨w.heap.size, 2, none⟩ = some (.int .u64 f.e) ∧ w1.cell? ⟨w.heap.size, 3, none⟩ = some (.slice f.a f.n f.c) := box_cells h.2

theorem put_bx (w : World) (k p : Int) (e : Nat) (a : Option Addr) (n c : Nat) (zs : List Int) (hS : Sl w (.slice a n c) zs) (h : checkS k p n ≠ 0) (w1 : World) (f : Fm) (hb : Bx w w1 f) :
    Calls Tryd.prog 33 #[.agg #[.int .i64 k, .int .i64 p, .int .u64 e, .slice a n c]] w1 fun r w2 => r = .returned (.tuple #[.slice none 0 0, .int .i64 (checkS k p n)]) ∧ Bx w w2 f := by
  refine (put_bad w1 k p e n c a h).mono ?_
  rintro r w2 ⟨rfl, hb2⟩
  exact ⟨rfl, hb.below hb2⟩
/-- a frame that may be: its page, and that the box stays -/
theorem puts_bx (w : World) (k p e : Nat) (a : Option Addr) (n c : Nat) (zs : List Int) (hS : Sl w (.slice a n c) zs) (hT : Tab w) (hk : 1 ≤ k ∧ k ≤ 4) (hp : p ≤ 2047) (he : e < 18446744073709551616) (hz : zs.length ≤ 240) (w1 : World) (f : Fm) (hb : Bx w w1 f) :
    Calls Tryd.prog 33 #[.agg #[.int .i64 k, .int .i64 p, .int .u64 e, .slice a n c]] w1 fun r w2 => ∃ a' c', r = .returned (.tuple #[.slice a' 256 c', .int .i64 0]) ∧ Sl w2 (.slice a' 256 c') (pageS k p e zs) ∧ Bx w w2 f := by
  refine (put_ok w1 k p e _ zs (hS.below hb.1) (hT.below hb.1) hk hp he hz).mono ?_
  rintro r w2 ⟨u, rfl, ho, hb2⟩
  have hS2 := sl_of_own ho (pageS_ok (by omega) hS.bytes) rfl
  obtain ⟨a', n', c', rfl⟩ := sl_form hS2
  obtain rfl := own_n ho
  exact ⟨a', c', rfl, hS2, hb.below hb2⟩
/-- the frame of bytes, and that the box stays -/
theorem gets_bx (w : World) (hT : Tab w) (q : Int) (w1 : World) (f : Fm) (v : Value) (xs : List Int) (hb : Bx w w1 f) (h : Sl w1 v xs) (g : Fr) (hg : getS xs q = g) (hok : ByteOk g.data) :
    Calls Tryd.prog 77 #[v, .int .i64 q] w1 fun r w2 => ∃ a n c, r = .returned (.tuple #[.agg #[.int .i64 g.kind, .int .i64 g.page, .int .u64 g.epoch, .slice a n c], .int .i64 g.err]) ∧ Sl w2 (.slice a n c) g.data ∧ Bx w w2 f ∧ Below w1.heap.size w1 w2 := by
  refine (get_any w1 v xs q h (hT.below hb.1)).mono ?_
  rintro r w2 ⟨a, n, c, rfl, ho, hb2⟩
  rw [hg] at ho ⊢
  exact ⟨a, n, c, rfl, sl_of_own_len ho hok, hb.below hb2, hb2⟩

end Go.Proofs.YtmeiahmolmneeaaDoor
