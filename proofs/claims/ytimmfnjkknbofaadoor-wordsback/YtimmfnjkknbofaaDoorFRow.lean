/- Contracts: package fold's rows: rowOf, fromRow, toRow, has, meets. -/
import Derived.Test.YtimmfnjkknbofaaDoorFForm
import Derived.Test.YtimmfnjkknbofaaDoorDBase
namespace Go.Proofs.YtimmfnjkknbofaaDoor
set_option maxRecDepth 20000
open Go.RowKit
set_option linter.unusedVariables false
set_option linter.unusedSimpArgs false
set_option maxRecDepth 100000

def rowV (f n : Int) : Value := .agg #[.int .i64 f, .int .i64 (f + n - 1)]
/-- a range of a table: from, to, how many -/
abbrev Fd := Int × Int × Int
abbrev fdV (x : Fd) : Value := .agg #[.int .i32 x.1, .int .i32 x.2.1, .int .i64 x.2.2]
def NOk (n : Int) : Prop := 1 ≤ n ∧ n ≤ 256

theorem sizeRow : (Tryd.prog.info? 117).map (·.size) = some 2 := by kernel_rfl
def laidR (w : World) (b : Nat) (x0 x1 : Value) : World := (w.setCell ⟨b, 0, none⟩ x0).setCell ⟨b, 1, none⟩ x1
theorem laidR_blk {w : World} {b : Nat} {y0 y1 : Value} (h : Blk w b 117 [y0, y1]) (x0 x1 : Value) : Blk (laidR w b x0 x1) b 117 [x0, x1] := (h.set 0 x0).set 1 x1
theorem laidR_only (w : World) (b : Nat) (x0 x1 : Value) : Only (fun k => k = b) w (laidR w b x0 x1) := ((Only.refl (· = b) w).setCell ⟨b, 0, none⟩ _ (fun _ => rfl)).setCell ⟨b, 1, none⟩ _ (fun _ => rfl)
theorem row_cells {w : World} {b : Nat} {x0 x1 : Value} (h : Blk w b 117 [x0, x1]) : (w.cell? ⟨b, 0, none⟩ = some x0 ∧ w.cell? ⟨b, 1, none⟩ = some x1) ∧ w.frozen? ⟨b, 0, none⟩ = false ∧ w.frozen? ⟨b, 1, none⟩ = false := ⟨⟨h.cell 0, h.cell 1⟩, h.frozen 0, h.frozen 1⟩

theorem rowOf_any (w : World) (f n : Int) (hf : I32 f) (hn : NOk n) :
    Calls Tryd.prog 106 #[.int .i32 f, .int .i64 n] w fun e w' => e = .returned (rowV f n) ∧ Below w.heap.size w w' := by
  obtain ⟨h1, h2⟩ := hf
  obtain ⟨h3, h4⟩ := hn
  go_enter Tryd.func106, Tryd.ntmps106
  go_wp2
  (try simp only [Exit.inBlock, Exit.then])
  refine bodyPost_ret (results_cell_row rfl _ _ w.heap.size 117 #[.int .i64 f, .int .i64 (f + n - 1)] (0, 0) _ rfl (heap_alloc_new w _) Tryd.underlying117 rfl sizeRow) rfl ?_
  exact ⟨rfl, (Below.refl _ w).alloc (Nat.le_refl _) _⟩

theorem fromRow_any (w : World) (f t n : Int) (hf : I32 f) (hn : NOk n) :
    Calls Tryd.prog 80 #[.agg #[.int .i32 f, .int .i32 t, .int .i64 n]] w fun e w' => e = .returned (rowV f n) ∧ Below w.heap.size w w' := by
  obtain ⟨w0, hw0⟩ : ∃ w0, (w.alloc (.cells #[.int .i32 f, .int .i32 t, .int .i64 n] 54)).alloc (.cells #[.int .i64 0, .int .i64 0] 117) = w0 := ⟨_, rfl⟩
  have hs1 : (w.alloc (.cells #[.int .i32 f, .int .i32 t, .int .i64 n] 54)).heap.size = w.heap.size + 1 := by show (w.heap.push _).size = _; simp
  have HB : Hid (Blk w0 (w.heap.size + 1) 117 [.int .i64 0, .int .i64 0]) := by
    rw [← hw0, ← hs1]; exact Blk.new _ _ _
  have HB1 : Hid (Below w.heap.size w w0) := by rw [← hw0]; exact ((Below.refl _ w).alloc (Nat.le_refl _) _).alloc (by rw [hs1]; omega) _
  have HC := hide (rowOf_any w0 f n hf hn)
  have c0 : w0.cell? ⟨w.heap.size, 0, none⟩ = some (.int .i32 f) := by rw [← hw0, World.cell?_alloc_past _ _ _ (by rw [hs1]; omega), World.cell?_alloc_at _ _ _ _ rfl]; rfl
  have c1 : w0.cell? ⟨w.heap.size, 1, none⟩ = some (.int .i32 t) := by rw [← hw0, World.cell?_alloc_past _ _ _ (by rw [hs1]; omega), World.cell?_alloc_at _ _ _ _ rfl]; rfl
  have c2 : w0.cell? ⟨w.heap.size, 2, none⟩ = some (.int .i64 n) := by rw [← hw0, World.cell?_alloc_past _ _ _ (by rw [hs1]; omega), World.cell?_alloc_at _ _ _ _ rfl]; rfl
  have hlt := HB.out.lt
  clear hf hn hs1
  go_enter Tryd.func80, Tryd.ntmps80
  go_wp2_with (go_at_call 106; refine HC.out.mono ?_; rintro e w1 ⟨rfl, hb⟩; have hB2 := HB.out.below hb HB.out.lt; obtain ⟨⟨d0, d1⟩, k0, k1⟩ := row_cells hB2; have HB2 := hide hB2; have HBL := hide (HB1.out.trans (hb.mono HB1.out.size)); clear HC hb hB2; unfold rowV)
  (try simp only [Exit.inBlock, Exit.then])
  refine bodyPost_ret (results_cell_row rfl _ _ (w.heap.size + 1) 117 #[.int .i64 f, .int .i64 (f + n - 1)] (0, 0) _ rfl (laidR_blk HB2.out _ _) Tryd.underlying117 rfl sizeRow) rfl ?_
  exact ⟨rfl, HBL.out.trans ((laidR_only w1 (w.heap.size + 1) _ _).below HBL.out.size (fun j hj e => by omega))⟩

theorem toRow_any (w : World) (f t n : Int) (hf : I32 t) (hn : NOk n) :
    Calls Tryd.prog 82 #[.agg #[.int .i32 f, .int .i32 t, .int .i64 n]] w fun e w' => e = .returned (rowV t n) ∧ Below w.heap.size w w' := by
  obtain ⟨w0, hw0⟩ : ∃ w0, (w.alloc (.cells #[.int .i32 f, .int .i32 t, .int .i64 n] 54)).alloc (.cells #[.int .i64 0, .int .i64 0] 117) = w0 := ⟨_, rfl⟩
  have hs1 : (w.alloc (.cells #[.int .i32 f, .int .i32 t, .int .i64 n] 54)).heap.size = w.heap.size + 1 := by show (w.heap.push _).size = _; simp
  have HB : Hid (Blk w0 (w.heap.size + 1) 117 [.int .i64 0, .int .i64 0]) := by
    rw [← hw0, ← hs1]; exact Blk.new _ _ _
  have HB1 : Hid (Below w.heap.size w w0) := by rw [← hw0]; exact ((Below.refl _ w).alloc (Nat.le_refl _) _).alloc (by rw [hs1]; omega) _
  have HC := hide (rowOf_any w0 t n hf hn)
  have c0 : w0.cell? ⟨w.heap.size, 0, none⟩ = some (.int .i32 f) := by rw [← hw0, World.cell?_alloc_past _ _ _ (by rw [hs1]; omega), World.cell?_alloc_at _ _ _ _ rfl]; rfl
  have c1 : w0.cell? ⟨w.heap.size, 1, none⟩ = some (.int .i32 t) := by rw [← hw0, World.cell?_alloc_past _ _ _ (by rw [hs1]; omega), World.cell?_alloc_at _ _ _ _ rfl]; rfl
  have c2 : w0.cell? ⟨w.heap.size, 2, none⟩ = some (.int .i64 n) := by rw [← hw0, World.cell?_alloc_past _ _ _ (by rw [hs1]; omega), World.cell?_alloc_at _ _ _ _ rfl]; rfl
  have hlt := HB.out.lt
  clear hf hn hs1
  go_enter Tryd.func82, Tryd.ntmps82
  go_wp2_with (go_at_call 106; refine HC.out.mono ?_; rintro e w1 ⟨rfl, hb⟩; have hB2 := HB.out.below hb HB.out.lt; obtain ⟨⟨d0, d1⟩, k0, k1⟩ := row_cells hB2; have HB2 := hide hB2; have HBL := hide (HB1.out.trans (hb.mono HB1.out.size)); clear HC hb hB2; unfold rowV)
  (try simp only [Exit.inBlock, Exit.then])
  refine bodyPost_ret (results_cell_row rfl _ _ (w.heap.size + 1) 117 #[.int .i64 t, .int .i64 (t + n - 1)] (0, 0) _ rfl (laidR_blk HB2.out _ _) Tryd.underlying117 rfl sizeRow) rfl ?_
  exact ⟨rfl, HBL.out.trans ((laidR_only w1 (w.heap.size + 1) _ _).below HBL.out.size (fun j hj e => by omega))⟩

theorem has_any (w : World) (a b r : Int) (hr : I32 r) :
    Calls Tryd.prog 112 #[.agg #[.int .i64 a, .int .i64 b], .int .i32 r] w fun e w' => e = .returned (.bool (decide (a ≤ r) && decide (r ≤ b))) ∧ Below w.heap.size w w' := by
  obtain ⟨h1, h2⟩ := hr
  by_cases h0 : a ≤ r
  · by_cases h3 : r ≤ b
    · go_enter Tryd.func112, Tryd.ntmps112
      go_wp2
      go_ret
      exact ⟨ret_bool (by simp [h0, h3]), (Below.refl _ w).alloc (Nat.le_refl _) _⟩
    · go_enter Tryd.func112, Tryd.ntmps112
      go_wp2
      go_ret
      exact ⟨ret_bool (by simp [h0, h3]), (Below.refl _ w).alloc (Nat.le_refl _) _⟩
  · go_enter Tryd.func112, Tryd.ntmps112
    go_wp2
    go_ret
    exact ⟨ret_bool (by rw [decide_eq_false (show ¬ a ≤ r by omega)]; rfl), (Below.refl _ w).alloc (Nat.le_refl _) _⟩

theorem meets_any (w : World) (a b c d : Int) :
    Calls Tryd.prog 83 #[.agg #[.int .i64 a, .int .i64 b], .agg #[.int .i64 c, .int .i64 d]] w fun e w' => e = .returned (.bool (decide (a ≤ d) && decide (c ≤ b))) ∧ Below w.heap.size w w' := by
  by_cases h0 : a ≤ d
  · by_cases h3 : c ≤ b
    · go_enter Tryd.func83, Tryd.ntmps83
      go_wp2
      go_ret
      exact ⟨ret_bool (by simp [h0, h3]), ((Below.refl _ w).alloc (Nat.le_refl _) _).alloc (by simp) _⟩
    · go_enter Tryd.func83, Tryd.ntmps83
      go_wp2
      go_ret
      exact ⟨ret_bool (by simp [h0, h3]), ((Below.refl _ w).alloc (Nat.le_refl _) _).alloc (by simp) _⟩
  · go_enter Tryd.func83, Tryd.ntmps83
    go_wp2
    go_ret
    exact ⟨ret_bool (by rw [decide_eq_false (show ¬ a ≤ d by omega)]; rfl), ((Below.refl _ w).alloc (Nat.le_refl _) _).alloc (by simp) _⟩

end Go.Proofs.YtimmfnjkknbofaaDoor
