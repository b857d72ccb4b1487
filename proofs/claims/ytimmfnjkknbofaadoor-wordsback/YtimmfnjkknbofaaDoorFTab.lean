/- A table of ranges that is read ('Tbl'); contracts: package fold's isNoRange, foldedBy. -/
import Derived.Test.YtimmfnjkknbofaaDoorFRow
namespace Go.Proofs.YtimmfnjkknbofaaDoor
set_option maxRecDepth 20000
open Go.RowKit
set_option linter.unusedVariables false
set_option linter.unusedSimpArgs false
set_option maxRecDepth 100000

def FdOk (x : Fd) : Prop := I32 x.1 ∧ I32 x.2.1 ∧ -9223372036854775808 ≤ x.2.2 ∧ x.2.2 ≤ 9223372036854775807
def Tbl (w : World) (v : Value) (xs : List Fd) : Prop :=
  (∀ x ∈ xs, FdOk x) ∧ ∃ ao cap, v = .slice ao xs.length cap ∧ xs.length ≤ cap ∧ cap ≤ maxLen ∧
    (xs ≠ [] → ∃ b off, ao = some ⟨b, off, none⟩ ∧ ∀ i, i < xs.length → w.cell? ⟨b, off + i * 3, none⟩ = some (.int .i32 (xs.getD i (0, 0, 0)).1) ∧ w.cell? ⟨b, off + i * 3 + 1, none⟩ = some (.int .i32 (xs.getD i (0, 0, 0)).2.1) ∧ w.cell? ⟨b, off + i * 3 + 2, none⟩ = some (.int .i64 (xs.getD i (0, 0, 0)).2.2))

theorem Tbl.nil (w : World) : Tbl w (.slice none 0 0) [] := ⟨(fun x hx => by cases hx), none, 0, rfl, Nat.le_refl _, by simp [maxLen], fun h => absurd rfl h⟩
theorem Tbl.below {w w' : World} {v : Value} {xs : List Fd} (h : Tbl w v xs) (hb : Below w.heap.size w w') : Tbl w' v xs := by
  obtain ⟨h0, ao, cap, rfl, h1, h2, h3⟩ := h
  refine ⟨h0, ao, cap, rfl, h1, h2, fun hx => ?_⟩
  obtain ⟨b, off, rfl, hc⟩ := h3 hx
  refine ⟨b, off, rfl, fun i hi => ?_⟩
  obtain ⟨q0, q1, q2⟩ := hc i hi
  have hbb := hb.block b (World.block_lt_of_cell? w _ q0)
  exact ⟨(World.cell?_of_block (w := w) (a := ⟨b, _, none⟩) hbb).trans q0, (World.cell?_of_block (w := w) (a := ⟨b, _, none⟩) hbb).trans q1, (World.cell?_of_block (w := w) (a := ⟨b, _, none⟩) hbb).trans q2⟩

/-- a range that may be in no table -/
def noB (x : Fd) : Bool := decide (x.2.2 < 1) || decide (256 < x.2.2) || !letsB x.1 (x.1 + x.2.2 - 1) || !letsB x.2.1 (x.2.1 + x.2.2 - 1)

theorem isNoRange_any (w : World) (f t n : Int) (hf : I32 f) (ht : I32 t) (hL : Let w) :
    Calls Tryd.prog 60 #[.agg #[.int .i32 f, .int .i32 t, .int .i64 n]] w fun e w' => e = .returned (.bool (noB (f, t, n))) ∧ Below w.heap.size w w' := by
  have hb1 : Below w.heap.size w (w.alloc (.cells #[.int .i32 f, .int .i32 t, .int .i64 n] 54)) := (Below.refl _ w).alloc (Nat.le_refl _) _
  by_cases h0 : n < 1
  · have HR : Hid (noB (f, t, n) = true) := by simp [Hid, noB, h0]
    have HB1 := hide hb1
    clear hb1 hf ht hL
    go_enter Tryd.func60, Tryd.ntmps60
    go_wp2
    go_ret
    exact ⟨ret_bool HR.out.symm, HB1.out⟩
  · by_cases h1 : 256 < n
    · have HR : Hid (noB (f, t, n) = true) := by simp [Hid, noB, h1]
      have HB1 := hide hb1
      clear hb1 hf ht hL
      go_enter Tryd.func60, Tryd.ntmps60
      go_wp2
      go_ret
      exact ⟨ret_bool HR.out.symm, HB1.out⟩
    · have hn : NOk n := ⟨by omega, by omega⟩
      have HR : Hid (noB (f, t, n) = (!letsB f (f + n - 1) || !letsB t (t + n - 1))) := by simp [Hid, noB, h0, h1]
      obtain ⟨w0, hw0⟩ : ∃ w0, w.alloc (.cells #[.int .i32 f, .int .i32 t, .int .i64 n] 54) = w0 := ⟨_, rfl⟩
      rw [hw0] at hb1
      have c0 : w0.cell? ⟨w.heap.size, 0, none⟩ = some (.int .i32 f) := by rw [← hw0, World.cell?_alloc_at _ _ _ _ rfl]; rfl
      have c1 : w0.cell? ⟨w.heap.size, 1, none⟩ = some (.int .i32 t) := by rw [← hw0, World.cell?_alloc_at _ _ _ _ rfl]; rfl
      have c2 : w0.cell? ⟨w.heap.size, 2, none⟩ = some (.int .i64 n) := by rw [← hw0, World.cell?_alloc_at _ _ _ _ rfl]; rfl
      have hs0 := World.block_lt_of_cell? w0 _ c0
      have HB1 := hide hb1
      have HF := hide (fromRow_any w0 f t n hf hn)
      have HT : Hid (∀ W, Calls Tryd.prog 82 #[.agg #[.int .i32 f, .int .i32 t, .int .i64 n]] W fun e w' => e = .returned (rowV t n) ∧ Below W.heap.size W w') := fun W => toRow_any W f t n ht hn
      have HL : Hid (∀ W a b, Below w.heap.size w W → Calls Tryd.prog 81 #[.agg #[.int .i64 a, .int .i64 b]] W fun e w' => e = .returned (.bool (letsB a b)) ∧ Below W.heap.size W w') := fun W a b hb => isLetters_any W a b (hL.below hb)
      have HZ : Hid (∀ W x v, Below w0.heap.size w0 W → w0.cell? ⟨w.heap.size, x, none⟩ = some v → W.cell? ⟨w.heap.size, x, none⟩ = some v) := fun W x v hb h => (World.cell?_of_block (w := w0) (a := ⟨w.heap.size, x, none⟩) (hb.block _ hs0)).trans h
      obtain ⟨A, hA⟩ : ∃ A, letsB f (f + n - 1) = A := ⟨_, rfl⟩
      obtain ⟨B, hB⟩ : ∃ B, letsB t (t + n - 1) = B := ⟨_, rfl⟩
      rw [hA, hB] at HR
      have HA := hide hA
      have HB := hide hB
      have C0 := hide c0
      have C1 := hide c1
      have C2 := hide c2
      generalize noB (f, t, n) = R at HR ⊢
      clear hf ht hL hn hb1 hA hB
      cases A with
      | false =>
        go_enter Tryd.func60, Tryd.ntmps60
        go_wp2_with (first
          | (go_at_call 80; refine HF.out.mono ?_; rintro e w1 ⟨rfl, hb⟩; have HBF := hide hb; have HBL := hide (HB1.out.trans (hb.mono HB1.out.size)); clear HF hb c0 c1 c2; unfold rowV)
          | (go_at_call 81; refine (HL.out w1 _ _ HBL.out).mono ?_; rintro e w2 ⟨rfl, hb⟩; rw [HA.out]; have HBM := hide (HBL.out.trans (hb.mono HBL.out.size)); clear HL hb))
        go_ret
        exact ⟨ret_bool (by rw [HR.out]; rfl), HBM.out⟩
      | true =>
        go_enter Tryd.func60, Tryd.ntmps60
        go_wp2_with (first
          | (go_at_call 80; refine HF.out.mono ?_; rintro e w1 ⟨rfl, hb⟩; have HBF := hide hb; have HBL := hide (HB1.out.trans (hb.mono HB1.out.size)); clear HF hb c0 c1 c2; unfold rowV)
          | (go_at_call 82; refine (HT.out w2).mono ?_; rintro e w3 ⟨rfl, hb⟩; have HBN := hide (HBM.out.trans (hb.mono HBM.out.size)); clear HT hb c0 c1 c2; unfold rowV)
          | (go_at_call 81; refine (HL.out w1 _ _ HBL.out).mono ?_; rintro e w2 ⟨rfl, hb⟩; rw [HA.out]; have HBM := hide (HBL.out.trans (hb.mono HBL.out.size)); have hg := HBF.out.trans (hb.mono HBF.out.size); have c0 := HZ.out w2 0 _ hg C0.out; have c1 := HZ.out w2 1 _ hg C1.out; have c2 := HZ.out w2 2 _ hg C2.out; clear HBL hb hg HA)
          | (go_at_call 81; refine (HL.out w3 _ _ HBN.out).mono ?_; rintro e w4 ⟨rfl, hb⟩; rw [HB.out]; have HBO := hide (HBN.out.trans (hb.mono HBN.out.size)); clear HBN hb))
        go_ret
        exact ⟨ret_bool (by rw [HR.out]; rfl), HBO.out⟩

end Go.Proofs.YtimmfnjkknbofaaDoor
