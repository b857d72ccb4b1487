/- Contracts: slices.Index, Contains at texts; package words' isStop. -/
import Derived.Test.YtimmfnjkknbofaaDoorWdCnf
namespace Go.Proofs.YtimmfnjkknbofaaDoor
set_option maxRecDepth 20000
open Go.RowKit
set_option linter.unusedVariables false
set_option linter.unusedSimpArgs false
set_option maxRecDepth 100000

/-- where a text stands first -/
def idxS (z : List Int) : List (List Int) → Nat → Int
  | [], _ => -1
  | s :: ss, j => if z = s then (j : Int) else idxS z ss (j + 1)
theorem idxS_any (z : List Int) : ∀ (ss : List (List Int)) (j : Nat), decide (0 ≤ idxS z ss j) = decide (z ∈ ss)
  | [], _ => by simp [idxS]
  | s :: ss, j => by
    unfold idxS
    by_cases h : z = s
    · simp [h]
    · rw [if_neg h, idxS_any z ss (j + 1)]
      simp [h]
theorem dropS_at {ss : List (List Int)} {j : Nat} (h : j < ss.length) : ss.drop j = ss[j] :: ss.drop (j + 1) := List.drop_eq_getElem_cons h

set_option maxHeartbeats 1000000 in
theorem indexS_any (w : World) (v : Value) (ss : List (List Int)) (hS : Strs w v ss) (z : List Int) (hz : ByteOk z) :
    Calls Tryd.prog 104 #[v, .string (strOfNums z)] w fun e w' => e = .returned (.int .i64 (idxS z ss 0)) ∧ Below w.heap.size w w' := by
  obtain ⟨ao, cap, rfl⟩ := hS.len
  have hmx := hS.max
  have HS := hide hS
  obtain ⟨n, hn⟩ : ∃ n, ss.length = n := ⟨_, rfl⟩
  have HN := hide hn
  have hmx2 : (n : Int) ≤ 9223372036854775807 := by unfold maxLen at hmx; omega
  rw [hn] at HS ⊢
  have HEQ : Hid (∀ i (h : i < ss.length), ((strOfNums z).toList == (strOfNums ss[i]).toList) = decide (z = ss[i])) := fun i h => str_same hz (hS.1 _ (List.getElem_mem h))
  obtain ⟨s, hs⟩ : ∃ s, strOfNums z = s := ⟨_, rfl⟩
  rw [hs] at HEQ ⊢
  clear hS hn hmx hs
  go_enter Tryd.func104, Tryd.ntmps104
  go_wp2
  go_loopg [8] n (fun k i wr => ∃ j : Nat, k + j = n ∧ i = .int .i64 (j : Int) ∧ idxS z (ss.drop j) j = idxS z ss 0 ∧ Below w.heap.size w wr)
  case atStart => exact ⟨0, rfl, rfl, rfl, Below.refl _ w⟩
  case round =>
    obtain ⟨j, hk, rfl, hs, hbw⟩ := hrel
    have HI := hide hs
    have HB := hide hbw
    clear hs hbw
    cases gk with
    | zero =>
      obtain rfl : j = n := by omega
      have hlt : ¬ (j : Int) < (j : Int) := by omega
      go_wp2
      go_ret
      exact ⟨ret_int (by rw [← HI.out, List.drop_eq_nil_of_le (by rw [HN.out]; exact Nat.le_refl _)]; rfl), HB.out⟩
    | succ k =>
      have hj : (j : Int) < (n : Int) := by omega
      have hjl : j < ss.length := by rw [HN.out]; omega
      obtain ⟨b, off, rfl, hx, hok⟩ := (HS.out.below HB.out).at j hjl
      have hd := dropS_at hjl
      have he := HEQ.out j hjl
      obtain ⟨t, ht⟩ : ∃ t, strOfNums ss[j] = t := ⟨_, rfl⟩
      rw [ht] at hx he
      by_cases hc : z = ss[j]
      · rw [decide_eq_true hc] at he
        have HR : Hid (idxS z ss 0 = (j : Int)) := by rw [← HI.out, hd]; exact if_pos hc
        clear hok hd ht hc
        go_wp2
        go_ret
        exact ⟨ret_int HR.out.symm, HB.out⟩
      · rw [decide_eq_false hc] at he
        have HR : Hid (idxS z (ss.drop (j + 1)) (j + 1) = idxS z ss 0) := by rw [← HI.out, hd]; exact (if_neg hc).symm
        clear hok hd ht hc
        go_wp2
        go_roundg k
        case measure => omega
        case rel => exact ⟨j + 1, by omega, by go_num, HR.out, HB.out⟩

theorem containsS_any (w : World) (v : Value) (ss : List (List Int)) (hS : Strs w v ss) (z : List Int) (hz : ByteOk z) :
    Calls Tryd.prog 76 #[v, .string (strOfNums z)] w fun e w' => e = .returned (.bool (decide (z ∈ ss))) ∧ Below w.heap.size w w' := by
  obtain ⟨ao, cap, rfl⟩ := hS.len
  have HI := hide (indexS_any w _ ss hS z hz)
  have HA := hide (idxS_any z ss 0)
  generalize idxS z ss 0 = i at *
  generalize strOfNums z = s at *
  generalize decide (z ∈ ss) = A at *
  generalize ss.length = n at *
  clear hS hz
  go_enter Tryd.func76, Tryd.ntmps76
  go_wp2_with (go_at_call 104; refine HI.out.mono ?_; rintro e w1 ⟨rfl, hb⟩; have HB := hide hb; clear HI hb)
  go_ret
  exact ⟨ret_bool HA.out, HB.out⟩

/-- a boxed way -/
theorem box_cnf (w : World) (v : Value) (C : Cn) (h : CnfV w v C) : ∃ fo fc so sc w1, v = .agg #[.slice fo C.fs.length fc, .slice so C.ss.length sc, .int .i64 C.cap] ∧ w.alloc (.cells #[.slice fo C.fs.length fc, .slice so C.ss.length sc, .int .i64 C.cap] 25) = w1 ∧
    Below w.heap.size w w1 ∧ Blk w1 w.heap.size 25 [.slice fo C.fs.length fc, .slice so C.ss.length sc, .int .i64 C.cap] ∧ Tbl w (.slice fo C.fs.length fc) C.fs ∧ Strs w (.slice so C.ss.length sc) C.ss := by
  obtain ⟨fo, fc, so, sc, rfl, h1, h2⟩ := h
  exact ⟨fo, fc, so, sc, _, rfl, rfl, (Below.refl _ w).alloc (Nat.le_refl _) _, Blk.new w _ _, h1, h2⟩

theorem isStop_any (w : World) (v : Value) (C : Cn) (h : CnfV w v C) (z : List Int) (hz : ByteOk z) :
    Calls Tryd.prog 51 #[v, .string (strOfNums z)] w fun e w' => e = .returned (.bool (decide (z ∈ C.ss))) ∧ Below w.heap.size w w' := by
  obtain ⟨fo, fc, so, sc, w1, rfl, hw1, hb1, hB, hT, hS⟩ := box_cnf w v C h
  have c1 : w1.cell? ⟨w.heap.size, 1, none⟩ = some (.slice so C.ss.length sc) := hB.cell 1
  have HC := hide (containsS_any w1 _ C.ss (hS.below hb1) z hz)
  have HB1 := hide hb1
  generalize strOfNums z = s at *
  generalize decide (z ∈ C.ss) = A at *
  generalize C.ss.length = n at *
  generalize C.fs.length = m at *
  clear h hT hS hB hb1 hz
  go_enter Tryd.func51, Tryd.ntmps51
  go_wp2_with (go_at_call 76; refine HC.out.mono ?_; rintro e w2 ⟨rfl, hb⟩; have HB := hide hb; clear HC hb)
  go_ret
  exact ⟨rfl, HB1.out.trans (HB.out.mono HB1.out.size)⟩

end Go.Proofs.YtimmfnjkknbofaaDoor
