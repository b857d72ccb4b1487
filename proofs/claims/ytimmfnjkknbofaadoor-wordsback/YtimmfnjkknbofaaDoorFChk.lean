/- Contracts: package fold's isRising, isNoRange asked of all ranges (slices.ContainsFunc), foldedBy. -/
import Derived.Test.YtimmfnjkknbofaaDoorFTab
namespace Go.Proofs.YtimmfnjkknbofaaDoor
set_option maxRecDepth 20000
open Go.RowKit
set_option linter.unusedVariables false
set_option linter.unusedSimpArgs false
set_option maxRecDepth 100000

theorem Tbl.len {w : World} {v : Value} {xs : List Fd} (h : Tbl w v xs) : ∃ ao cap, v = .slice ao xs.length cap := by
  obtain ⟨_, ao, cap, rfl, _⟩ := h
  exact ⟨ao, cap, rfl⟩
theorem Tbl.max {w : World} {v : Value} {xs : List Fd} (h : Tbl w v xs) : xs.length ≤ 9223372036854775807 := by
  obtain ⟨_, ao, cap, rfl, h1, h2, _⟩ := h
  have : maxLen ≤ 9223372036854775807 := by decide
  omega
theorem Tbl.at {w : World} {ao : Option Addr} {n cap : Nat} {xs : List Fd} (h : Tbl w (.slice ao n cap) xs) (i : Nat) (hi : i < xs.length) : ∃ b off x, ao = some ⟨b, off, none⟩ ∧ xs[i]? = some x ∧ FdOk x ∧ w.cell? ⟨b, off + i * 3, none⟩ = some (.int .i32 x.1) ∧ w.cell? ⟨b, off + i * 3 + 1, none⟩ = some (.int .i32 x.2.1) ∧ w.cell? ⟨b, off + i * 3 + 2, none⟩ = some (.int .i64 x.2.2) := by
  obtain ⟨h0, ao', cap', he, _, _, h3⟩ := h
  obtain ⟨rfl, _, _⟩ : ao = ao' ∧ n = xs.length ∧ cap = cap' := by simpa using he
  obtain ⟨b, off, rfl, hc⟩ := h3 (by intro h; simp [h] at hi)
  have hg : xs.getD i (0, 0, 0) = xs[i] := by simp [List.getD, hi]
  have := hc i hi
  rw [hg] at this
  exact ⟨b, off, xs[i], rfl, by simp [hi], h0 _ (List.getElem_mem hi), this⟩
theorem drop_at {α : Type} {xs : List α} {i : Nat} {x : α} (h : xs[i]? = some x) : xs.drop i = x :: xs.drop (i + 1) := by
  obtain ⟨hi, rfl⟩ := List.getElem?_eq_some_iff.1 h
  exact List.drop_eq_getElem_cons hi

/-- what a table that may be folds r to -/
def foldL : List Fd → Int → Int
  | [], r => r
  | x :: xs, r => if x.1 ≤ r ∧ r ≤ x.1 + x.2.2 - 1 then x.2.1 + (r - x.1) else foldL xs r
def AllN (xs : List Fd) : Prop := ∀ x ∈ xs, NOk x.2.2 ∧ 0 ≤ x.1 ∧ x.1 ≤ 1279 ∧ 0 ≤ x.2.1 ∧ x.2.1 ≤ 1279

set_option maxHeartbeats 1000000 in
theorem foldedBy_any (w : World) (v : Value) (xs : List Fd) (r : Int) (hT : Tbl w v xs) (hN : AllN xs) (hr : I32 r) :
    Calls Tryd.prog 89 #[v, .int .i32 r] w fun e w' => e = .returned (.int .i32 (foldL xs r)) ∧ Below w.heap.size w w' := by
  obtain ⟨ao, cap, rfl⟩ := hT.len
  have hmx := hT.max
  have HT := hide hT
  have HN := hide hN
  have HI := hide hr
  obtain ⟨n, hn⟩ : ∃ n, xs.length = n := ⟨_, rfl⟩
  have HL := hide hn
  rw [hn] at HT hmx ⊢
  clear hT hN hr hn
  go_enter Tryd.func89, Tryd.ntmps89
  go_wp2
  go_loopg [9] n (fun k i wr => ∃ j : Nat, k + j = n ∧ i = .int .i64 (j : Int) ∧ foldL (xs.drop j) r = foldL xs r ∧ Below w.heap.size w wr)
  case atStart => exact ⟨0, rfl, rfl, rfl, Below.refl _ w⟩
  case round =>
    obtain ⟨j, hk, rfl, hs, hbw⟩ := hrel
    have HS := hide hs
    have HB := hide hbw
    clear hs hbw
    cases gk with
    | zero =>
      obtain rfl : j = n := by omega
      have hlt : ¬ (j : Int) < (j : Int) := by omega
      go_wp2
      go_ret
      exact ⟨ret_int (by rw [← HS.out, List.drop_eq_nil_of_le (by rw [HL.out]; exact Nat.le_refl _)]; rfl), HB.out⟩
    | succ k =>
      have hj : (j : Int) < (n : Int) := by omega
      obtain ⟨b, off, ⟨f, t, m⟩, rfl, hx, hok, q0, q1, q2⟩ := (HT.out.below HB.out).at j (by rw [HL.out]; omega)
      simp only at q0 q1 q2
      have hd := drop_at hx
      obtain ⟨⟨hm1, hm2⟩, hf1, hf2, ht1, ht2⟩ := HN.out _ (List.mem_of_getElem? hx)
      simp only at hm1 hm2 hf1 hf2 ht1 ht2
      have hI : -2147483648 ≤ r ∧ r ≤ 2147483647 := HI.out
      obtain ⟨W0, hW0⟩ : ∃ W0, wr.alloc (.cells #[.int .i32 f, .int .i32 t, .int .i64 m] 54) = W0 := ⟨_, rfl⟩
      have hb0 : Below w.heap.size w W0 := by rw [← hW0]; exact HB.out.alloc HB.out.size _
      have c0 : W0.cell? ⟨wr.heap.size, 0, none⟩ = some (.int .i32 f) := by rw [← hW0, World.cell?_alloc_at _ _ _ _ rfl]; rfl
      have c1 : W0.cell? ⟨wr.heap.size, 1, none⟩ = some (.int .i32 t) := by rw [← hW0, World.cell?_alloc_at _ _ _ _ rfl]; rfl
      have c2 : W0.cell? ⟨wr.heap.size, 2, none⟩ = some (.int .i64 m) := by rw [← hW0, World.cell?_alloc_at _ _ _ _ rfl]; rfl
      have hs0 := World.block_lt_of_cell? W0 _ c0
      have HZ : Hid (∀ W x u, Below W0.heap.size W0 W → W0.cell? ⟨wr.heap.size, x, none⟩ = some u → W.cell? ⟨wr.heap.size, x, none⟩ = some u) := fun W x u hb h => (World.cell?_of_block (w := W0) (a := ⟨wr.heap.size, x, none⟩) (hb.block _ hs0)).trans h
      have HF := hide (fromRow_any W0 f t m ⟨by omega, by omega⟩ ⟨hm1, hm2⟩)
      have HH : Hid (∀ W, Calls Tryd.prog 112 #[.agg #[.int .i64 f, .int .i64 (f + m - 1)], .int .i32 r] W fun e w' => e = .returned (.bool (decide (f ≤ r) && decide (r ≤ f + m - 1))) ∧ Below W.heap.size W w') := fun W => has_any W f (f + m - 1) r HI.out
      have C0 := hide c0
      have C1 := hide c1
      have HB0 := hide hb0
      clear hb0 hx hok
      obtain ⟨hI1, hI2⟩ := hI
      by_cases hin : f ≤ r ∧ r ≤ f + m - 1
      · have HR : Hid (foldL xs r = t + (r - f)) := by rw [← HS.out, hd]; exact if_pos hin
        have he : (decide (f ≤ r) && decide (r ≤ f + m - 1)) = true := by simp [hin.1, hin.2]
        rw [he] at HH
        obtain ⟨hi1, hi2⟩ := hin
        clear hd he
        go_wp2_with (first
          | (go_at_call 80; refine HF.out.mono ?_; rintro e w1 ⟨rfl, hb⟩; have HBF := hide hb; have HBL := hide (HB0.out.trans (hb.mono HB0.out.size)); clear HF hb c0 c1 c2; unfold rowV)
          | (go_at_call 112; refine (HH.out w1).mono ?_; rintro e w2 ⟨rfl, hb⟩; have HBM := hide (HBL.out.trans (hb.mono HBL.out.size)); have hg := HBF.out.trans (hb.mono HBF.out.size); have c0 := HZ.out w2 0 _ hg C0.out; have c1 := HZ.out w2 1 _ hg C1.out; clear HH hb hg))
        go_ret
        exact ⟨ret_int (by rw [HR.out]), HBM.out⟩
      · have HR : Hid (foldL (xs.drop (j + 1)) r = foldL xs r) := by rw [← HS.out, hd]; exact (if_neg hin).symm
        have he : (decide (f ≤ r) && decide (r ≤ f + m - 1)) = false := by simp; omega
        rw [he] at HH
        clear hd he hin
        go_wp2_with (first
          | (go_at_call 80; refine HF.out.mono ?_; rintro e w1 ⟨rfl, hb⟩; have HBF := hide hb; have HBL := hide (HB0.out.trans (hb.mono HB0.out.size)); clear HF hb c0 c1 c2; unfold rowV)
          | (go_at_call 112; refine (HH.out w1).mono ?_; rintro e w2 ⟨rfl, hb⟩; have HBM := hide (HBL.out.trans (hb.mono HBL.out.size)); clear HH hb))
        go_roundg k
        case measure => omega
        case rel => exact ⟨j + 1, by omega, by go_num, HR.out, HBM.out⟩

end Go.Proofs.YtimmfnjkknbofaaDoor
