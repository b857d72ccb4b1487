/- Contracts: package fold's rows: rowOf, fromRow, toRow, has, meets. -/
import Derived.Test.YtimmfnjkknbofaaDoorJFRune
import Derived.Test.YtimmfnjkknbofaaDoorDBase
namespace Go.Proofs.YtimmfnjkknbofaaDoor
set_option maxRecDepth 20000
open Go.RowKit
set_option linter.unusedVariables false
set_option linter.unusedSimpArgs false
set_option maxRecDepth 100000

def rowV (f n : Int) : Value := .agg #[.int .i64 f, .int .i64 (f + n - 1)]
/-- a range of a table: from, to, how many -/
abbrev Fd := Int × Int × Int
abbrev fdV (x : Fd) : Value := .agg #[.int .i32 x.1, .int .i32 x.2.1, .int .i64 x.2.2]
def NOk (n : Int) : Prop := 1 ≤ n ∧ n ≤ 256

theorem sizeRow : (Tryd.prog.info? 117).map (·.size) = some 2 := by kernel_rfl
def laidR (w : World) (b : Nat) (x0 x1 : Value) : World := (w.setCell ⟨b, 0, none⟩ x0).setCell ⟨b, 1, none⟩ x1
theorem laidR_blk {w : World} {b : Nat} {y0 y1 : Value} (h : Blk w b 117 [y0, y1]) (x0 x1 : Value) : Blk (laidR w b x0 x1) b 117 [x0, x1] := (h.set 0 x0).set 1 x1
theorem laidR_only (w : World) (b : Nat) (x0 x1 : Value) : Only (fun k => k = b) w (laidR w b x0 x1) := ((Only.refl (· = b) w).setCell ⟨b, 0, none⟩ _ (fun _ => rfl)).setCell ⟨b, 1, none⟩ _ (fun _ => rfl)
theorem row_cells {w : World} {b : Nat} {x0 x1 : Value} (h : Blk w b 117 [x0, x1]) : (w.cell? ⟨b, 0, none⟩ = some x0 ∧ w.cell? ⟨b, 1, none⟩ = some x1) ∧ w.frozen? ⟨b, 0, none⟩ = false ∧ w.frozen? ⟨b, 1, none⟩ = false := ⟨⟨h.cell 0, h.cell 1⟩, h.frozen 0, h.frozen 1⟩

theorem rowOf_any (w : World) (f n : Int) (hf : I32 f) (hn : NOk n) :
    Calls Tryd.prog 106 #[.int .i32 f, .int .i64 n] w fun e w' => e = .returned (rowV f n) ∧ Below w.heap.size w w' := by
  obtain ⟨h1, h2⟩ := hf
  obtain ⟨h3, h4⟩ := hn
  go_enter Tryd.func106, Tryd.ntmps106
  go_wp2
  (try simp only [Exit.inBlock, Exit.then])
  refine bodyPost_ret (results_cell_row rfl _ _ w.heap.size 117 #[.int .i64 f, .int .i64 (f + n - 1)] (0, 0) _ rfl (heap_alloc_new w _) Tryd.underlying117 rfl sizeRow) rfl ?_
  exact ⟨rfl, (Below.refl _ w).alloc (Nat.le_refl _) _⟩

theorem fromRow_any (w : World) (f t n : Int) (hf : I32 f) (hn : NOk n) :
    Calls Tryd.prog 80 #[.agg #[.int .i32 f, .int .i32 t, .int .i64 n]] w fun e w' => e = .returned (rowV f n) ∧ Below w.heap.size w w' := by
  obtain ⟨w0, hw0⟩ : ∃ w0, (w.alloc (.cells #[.int .i32 f, .int .i32 t, .int .i64 n] 54)).alloc (.cells #[.int .i64 0, .int .i64 0] 117) = w0 := ⟨_, rfl⟩
  have hs1 : (w.alloc (.cells #[.int .i32 f, .int .i32 t, .int .i64 n] 54)).heap.size = w.heap.size + 1 := by show (w.heap.push _).size = _; simp
  have HB : Hid (Blk w0 (w.heap.size + 1) 117 [.int .i64 0, .int .i64 0]) := by
    rw [← hw0, ← hs1]; exact Blk.new _ _ _
  have HB1 : Hid (Below w.heap.size w w0) := by rw [← hw0]; exact ((Below.refl _ w).alloc (Nat.le_refl _) _).alloc (by rw [hs1]; omega) _
  have HC := hide (rowOf_any w0 f n hf hn)
  have c0 : w0.cell? ⟨w.heap.size, 0, none⟩ = some (.int .i32 f) := by rw [← hw0, World.cell?_alloc_past _ _ _ (by rw [hs1]; omega), World.cell?_alloc_at _ _ _ _ rfl]; rfl
  have c1 : w0.cell? ⟨w.heap.size, 1, none⟩ = some (.int .i32 t) := by rw [← hw0, World.cell?_alloc_past _ _ _ (by rw [hs1]; omega), World.cell?_alloc_at _ _ _ _ rfl]; rfl
  have c2 : w0.cell? ⟨w.heap.size, 2, none⟩ = some (.int .i64 n) := by rw [← hw0, World.cell?_alloc_past _ _ _ (by rw [hs1]; omega), World.cell?_alloc_at _ _ _ _ rfl]; rfl
  have hlt := HB.out.lt
  clear hf hn hs1
  go_enter Tryd.func80, Tryd.ntmps80
  go_wp2_with (go_at_call 106; refine HC.out.mono ?_; rintro e w1 ⟨rfl, hb⟩; have hB2 := HB.out.below hb HB.out.lt; obtain ⟨⟨d0, d1⟩, k0, k1⟩ := row_cells hB2; have HB2 := hide hB2; have HBL := hide (HB1.out.trans (hb.mono HB1.out.size)); clear HC hb hB2; unfold rowV)
  (try simp only [Exit.inBlock, Exit.then])
  refine bodyPost_ret (results_cell_row rfl _ _ (w.heap.size + 1) 117 #[.int .i64 f, .int .i64 (f + n - 1)] (0, 0) _ rfl (laidR_blk HB2.out _ _) Tryd.underlying117 rfl sizeRow) rfl ?_
  exact ⟨rfl, HBL.out.trans ((laidR_only w1 (w.heap.size + 1) _ _).below HBL.out.size (fun j hj e => by omega))⟩

theorem toRow_any (w : World) (f t n : Int) (hf : I32 t) (hn : NOk n) :
    Calls Tryd.prog 82 #[.agg #[.int .i32 f, .int .i32 t, .int .i64 n]] w fun e w' => e = .returned (rowV t n) ∧ Below w.heap.size w w' := by
  obtain ⟨w0, hw0⟩ : ∃ w0, (w.alloc (.cells #[.int .i32 f, .int .i32 t, .int .i64 n] 54)).alloc (.cells #[.int .i64 0, .int .i64 0] 117) = w0 := ⟨_, rfl⟩
  have hs1 : (w.alloc (.cells #[.int .i32 f, .int .i32 t, .int .i64 n] 54)).heap.size = w.heap.size + 1 := by show (w.heap.push _).size = _; simp
  have HB : Hid (Blk w0 (w.heap.size + 1) 117 [.int .i64 0, .int .i64 0]) := by
    rw [← hw0, ← hs1]; exact Blk.new _ _ _
  have HB1 : Hid (Below w.heap.size w w0) := by rw [← hw0]; exact ((Below.refl _ w).alloc (Nat.le_refl _) _).alloc (by rw [hs1]; omega) _
  have HC := hide (rowOf_any w0 t n hf hn)
  have c0 : w0.cell? ⟨w.heap.size, 0, none⟩ = some (.int .i32 f) := by rw [← hw0, World.cell?_alloc_past _ _ _ (by rw [hs1]; omega), World.cell?_alloc_at _ _ _ _ rfl]; rfl
  have c1 : w0.cell? ⟨w.heap.size, 1, none⟩ = some (.int .i32 t) := by rw [← hw0, World.cell?_alloc_past _ _ _ (by rw [hs1]; omega), World.cell?_alloc_at _ _ _ _ rfl]; rfl
  have c2 : w0.cell? ⟨w.heap.size, 2, none⟩ = some (.int .i64 n) := by rw [← hw0, World.cell?_alloc_past _ _ _ (by rw [hs1]; omega), World.cell?_alloc_at _ _ _ _ rfl]; rfl
  have hlt := HB.out.lt
  clear hf hn hs1
  go_enter Tryd.func82, Tryd.ntmps82
  go_wp2_with (go_at_call 106; refine HC.out.mono ?_; rintro e w1 ⟨rfl, hb⟩; have hB2 := HB.out.below hb HB.out.lt; obtain ⟨⟨d0, d1⟩, k0, k1⟩ := row_cells hB2; have HB2 := hide hB2; have HBL := hide (HB1.out.trans (hb.mono HB1.out.size)); clear HC hb hB2; unfold rowV)
  (try simp only [Exit.inBlock, Exit.then])
  refine bodyPost_ret (results_cell_row rfl _ _ (w.heap.size + 1) 117 #[.int .i64 t, .int .i64 (t + n - 1)] (0, 0) _ rfl (laidR_blk HB2.out _ _) Tryd.underlying117 rfl sizeRow) rfl ?_
  exact ⟨rfl, HBL.out.trans ((laidR_only w1 (w.heap.size + 1) _ _).below HBL.out.size (fun j hj e => by omega))⟩

theorem has_any (w : World) (a b r : Int) (hr : I32 r) :
    Calls Tryd.prog 112 #[.agg #[.int .i64 a, .int .i64 b], .int .i32 r] w fun e w' => e = .returned (.bool (decide (a ≤ r) && decide (r ≤ b))) ∧ Below w.heap.size w w' := by
  obtain ⟨h1, h2⟩ := hr
  by_cases h0 : a ≤ r
  · by_cases h3 : r ≤ b
    · go_enter Tryd.func112, Tryd.ntmps112
      go_wp2
      go_ret
      exact ⟨ret_bool (by simp [h0, h3]), (Below.refl _ w).alloc (Nat.le_refl _) _⟩
    · go_enter Tryd.func112, Tryd.ntmps112
      go_wp2
      go_ret
      exact ⟨ret_bool (by simp [h0, h3]), (Below.refl _ w).alloc (Nat.le_refl _) _⟩
  · go_enter Tryd.func112, Tryd.ntmps112
    go_wp2
    go_ret
    exact ⟨ret_bool (by rw [decide_eq_false (show ¬ a ≤ r by omega)]; rfl), (Below.refl _ w).alloc (Nat.le_refl _) _⟩

theorem meets_any (w : World) (a b c d : Int) :
    Calls Tryd.prog 83 #[.agg #[.int .i64 a, .int .i64 b], .agg #[.int .i64 c, .int .i64 d]] w fun e w' => e = .returned (.bool (decide (a ≤ d) && decide (c ≤ b))) ∧ Below w.heap.size w w' := by
  by_cases h0 : a ≤ d
  · by_cases h3 : c ≤ b
    · go_enter Tryd.func83, Tryd.ntmps83
      go_wp2
      go_ret
      exact ⟨ret_bool (by simp [h0, h3]), ((Below.refl _ w).alloc (Nat.le_refl _) _).alloc (by simp) _⟩
    · go_enter Tryd.func83, Tryd.ntmps83
      go_wp2
      go_ret
      exact ⟨ret_bool (by simp [h0, h3]), ((Below.refl _ w).alloc (Nat.le_refl _) _).alloc (by simp) _⟩
  · go_enter Tryd.func83, Tryd.ntmps83
    go_wp2
    go_ret
    exact ⟨ret_bool (by rw [decide_eq_false (show ¬ a ≤ d by omega)]; rfl), ((Below.refl _ w).alloc (Nat.le_refl _) _).alloc (by simp) _⟩

end Go.Proofs.YtimmfnjkknbofaaDoor
/- A table of ranges that is read ('Tbl'); contracts: package fold's isNoRange, foldedBy. -/
namespace Go.Proofs.YtimmfnjkknbofaaDoor
set_option maxRecDepth 20000
open Go.RowKit
set_option linter.unusedVariables false
set_option linter.unusedSimpArgs false
set_option maxRecDepth 100000

def FdOk (x : Fd) : Prop := I32 x.1 ∧ I32 x.2.1 ∧ -9223372036854775808 ≤ x.2.2 ∧ x.2.2 ≤ 9223372036854775807
def Tbl (w : World) (v : Value) (xs : List Fd) : Prop :=
  (∀ x ∈ xs, FdOk x) ∧ ∃ ao cap, v = .slice ao xs.length cap ∧ xs.length ≤ cap ∧ cap ≤ maxLen ∧
    (xs ≠ [] → ∃ b off, ao = some ⟨b, off, none⟩ ∧ ∀ i, i < xs.length → w.cell? ⟨b, off + i * 3, none⟩ = some (.int .i32 (xs.getD i (0, 0, 0)).1) ∧ w.cell? ⟨b, off + i * 3 + 1, none⟩ = some (.int .i32 (xs.getD i (0, 0, 0)).2.1) ∧ w.cell? ⟨b, off + i * 3 + 2, none⟩ = some (.int .i64 (xs.getD i (0, 0, 0)).2.2))

theorem Tbl.nil (w : World) : Tbl w (.slice none 0 0) [] := ⟨(fun x hx => by cases hx), none, 0, rfl, Nat.le_refl _, by simp [maxLen], fun h => absurd rfl h⟩
theorem Tbl.below {w w' : World} {v : Value} {xs : List Fd} (h : Tbl w v xs) (hb : Below w.heap.size w w') : Tbl w' v xs := by
  obtain ⟨h0, ao, cap, rfl, h1, h2, h3⟩ := h
  refine ⟨h0, ao, cap, rfl, h1, h2, fun hx => ?_⟩
  obtain ⟨b, off, rfl, hc⟩ := h3 hx
  refine ⟨b, off, rfl, fun i hi => ?_⟩
  obtain ⟨q0, q1, q2⟩ := hc i hi
  have hbb := hb.block b (World.block_lt_of_cell? w _ q0)
  exact ⟨(World.cell?_of_block (w := w) (a := ⟨b, _, none⟩) hbb).trans q0, (World.cell?_of_block (w := w) (a := ⟨b, _, none⟩) hbb).trans q1, (World.cell?_of_block (w := w) (a := ⟨b, _, none⟩) hbb).trans q2⟩

/-- a range that may be in no table -/
def noB (x : Fd) : Bool := decide (x.2.2 < 1) || decide (256 < x.2.2) || !letsB x.1 (x.1 + x.2.2 - 1) || !letsB x.2.1 (x.2.1 + x.2.2 - 1)

theorem isNoRange_any (w : World) (f t n : Int) (hf : I32 f) (ht : I32 t) (hL : Let w) :
    Calls Tryd.prog 60 #[.agg #[.int .i32 f, .int .i32 t, .int .i64 n]] w fun e w' => e = .returned (.bool (noB (f, t, n))) ∧ Below w.heap.size w w' := by
  have hb1 : Below w.heap.size w (w.alloc (.cells #[.int .i32 f, .int .i32 t, .int .i64 n] 54)) := (Below.refl _ w).alloc (Nat.le_refl _) _
  by_cases h0 : n < 1
  · have HR : Hid (noB (f, t, n) = true) := by simp [Hid, noB, h0]
    have HB1 := hide hb1
    clear hb1 hf ht hL
    go_enter Tryd.func60, Tryd.ntmps60
    go_wp2
    go_ret
    exact ⟨ret_bool HR.out.symm, HB1.out⟩
  · by_cases h1 : 256 < n
    · have HR : Hid (noB (f, t, n) = true) := by simp [Hid, noB, h1]
      have HB1 := hide hb1
      clear hb1 hf ht hL
      go_enter Tryd.func60, Tryd.ntmps60
      go_wp2
      go_ret
      exact ⟨ret_bool HR.out.symm, HB1.out⟩
    · have hn : NOk n := ⟨by omega, by omega⟩
      have HR : Hid (noB (f, t, n) = (!letsB f (f + n - 1) || !letsB t (t + n - 1))) := by simp [Hid, noB, h0, h1]
      obtain ⟨w0, hw0⟩ : ∃ w0, w.alloc (.cells #[.int .i32 f, .int .i32 t, .int .i64 n] 54) = w0 := ⟨_, rfl⟩
      rw [hw0] at hb1
      have c0 : w0.cell? ⟨w.heap.size, 0, none⟩ = some (.int .i32 f) := by rw [← hw0, World.cell?_alloc_at _ _ _ _ rfl]; rfl
      have c1 : w0.cell? ⟨w.heap.size, 1, none⟩ = some (.int .i32 t) := by rw [← hw0, World.cell?_alloc_at _ _ _ _ rfl]; rfl
      have c2 : w0.cell? ⟨w.heap.size, 2, none⟩ = some (.int .i64 n) := by rw [← hw0, World.cell?_alloc_at _ _ _ _ rfl]; rfl
      have hs0 := World.block_lt_of_cell? w0 _ c0
      have HB1 := hide hb1
      have HF := hide (fromRow_any w0 f t n hf hn)
      have HT : Hid (∀ W, Calls Tryd.prog 82 #[.agg #[.int .i32 f, .int .i32 t, .int .i64 n]] W fun e w' => e = .returned (rowV t n) ∧ Below W.heap.size W w') := fun W => toRow_any W f t n ht hn
      have HL : Hid (∀ W a b, Below w.heap.size w W → Calls Tryd.prog 81 #[.agg #[.int .i64 a, .int .i64 b]] W fun e w' => e = .returned (.bool (letsB a b)) ∧ Below W.heap.size W w') := fun W a b hb => isLetters_any W a b (hL.below hb)
      have HZ : Hid (∀ W x v, Below w0.heap.size w0 W → w0.cell? ⟨w.heap.size, x, none⟩ = some v → W.cell? ⟨w.heap.size, x, none⟩ = some v) := fun W x v hb h => (World.cell?_of_block (w := w0) (a := ⟨w.heap.size, x, none⟩) (hb.block _ hs0)).trans h
      obtain ⟨A, hA⟩ : ∃ A, letsB f (f + n - 1) = A := ⟨_, rfl⟩
      obtain ⟨B, hB⟩ : ∃ B, letsB t (t + n - 1) = B := ⟨_, rfl⟩
      rw [hA, hB] at HR
      have HA := hide hA
      have HB := hide hB
      have C0 := hide c0
      have C1 := hide c1
      have C2 := hide c2
      generalize noB (f, t, n) = R at HR ⊢
      clear hf ht hL hn hb1 hA hB
      cases A with
      | false =>
        go_enter Tryd.func60, Tryd.ntmps60
        go_wp2_with (first
          | (go_at_call 80; refine HF.out.mono ?_; rintro e w1 ⟨rfl, hb⟩; have HBF := hide hb; have HBL := hide (HB1.out.trans (hb.mono HB1.out.size)); clear HF hb c0 c1 c2; unfold rowV)
          | (go_at_call 81; refine (HL.out w1 _ _ HBL.out).mono ?_; rintro e w2 ⟨rfl, hb⟩; rw [HA.out]; have HBM := hide (HBL.out.trans (hb.mono HBL.out.size)); clear HL hb))
        go_ret
        exact ⟨ret_bool (by rw [HR.out]; rfl), HBM.out⟩
      | true =>
        go_enter Tryd.func60, Tryd.ntmps60
        go_wp2_with (first
          | (go_at_call 80; refine HF.out.mono ?_; rintro e w1 ⟨rfl, hb⟩; have HBF := hide hb; have HBL := hide (HB1.out.trans (hb.mono HB1.out.size)); clear HF hb c0 c1 c2; unfold rowV)
          | (go_at_call 82; refine (HT.out w2).mono ?_; rintro e w3 ⟨rfl, hb⟩; have HBN := hide (HBM.out.trans (hb.mono HBM.out.size)); clear HT hb c0 c1 c2; unfold rowV)
          | (go_at_call 81; refine (HL.out w1 _ _ HBL.out).mono ?_; rintro e w2 ⟨rfl, hb⟩; rw [HA.out]; have HBM := hide (HBL.out.trans (hb.mono HBL.out.size)); have hg := HBF.out.trans (hb.mono HBF.out.size); have c0 := HZ.out w2 0 _ hg C0.out; have c1 := HZ.out w2 1 _ hg C1.out; have c2 := HZ.out w2 2 _ hg C2.out; clear HBL hb hg HA)
          | (go_at_call 81; refine (HL.out w3 _ _ HBN.out).mono ?_; rintro e w4 ⟨rfl, hb⟩; rw [HB.out]; have HBO := hide (HBN.out.trans (hb.mono HBN.out.size)); clear HBN hb))
        go_ret
        exact ⟨ret_bool (by rw [HR.out]; rfl), HBO.out⟩

end Go.Proofs.YtimmfnjkknbofaaDoor
