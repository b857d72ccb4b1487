/- Contracts: slices.Index, Contains at texts; package words' isStop. -/
import Derived.Test.YtimmfnjkknbofaaDoorJWdCnf
import Derived.BigQuiet
namespace Go.Proofs.YtimmfnjkknbofaaDoor
set_option maxRecDepth 20000
open Go.RowKit
set_option linter.unusedVariables false
set_option linter.unusedSimpArgs false
set_option maxRecDepth 100000

/-- where a text stands first -/
def idxS (z : List Int) : List (List Int) → Nat → Int
  | [], _ => -1
  | s :: ss, j => if z = s then (j : Int) else idxS z ss (j + 1)
theorem idxS_any (z : List Int) : ∀ (ss : List (List Int)) (j : Nat), decide (0 ≤ idxS z ss j) = decide (z ∈ ss)
  | [], _ => by simp [idxS]
  | s :: ss, j => by
    unfold idxS
    by_cases h : z = s
    · simp [h]
    · rw [if_neg h, idxS_any z ss (j + 1)]
      simp [h]
theorem dropS_at {ss : List (List Int)} {j : Nat} (h : j < ss.length) : ss.drop j = ss[j] :: ss.drop (j + 1) := List.drop_eq_getElem_cons h

set_option maxHeartbeats 1000000 in
theorem indexS_any (w : World) (v : Value) (ss : List (List Int)) (hS : Strs w v ss) (z : List Int) (hz : ByteOk z) :
    Calls Tryd.prog 104 #[v, .string (strOfNums z)] w fun e w' => e = .returned (.int .i64 (idxS z ss 0)) ∧ Below w.heap.size w w' := by
  obtain ⟨ao, cap, rfl⟩ := hS.len
  have hmx := hS.max
  have HS := hide hS
  obtain ⟨n, hn⟩ : ∃ n, ss.length = n := ⟨_, rfl⟩
  have HN := hide hn
  have hmx2 : (n : Int) ≤ 9223372036854775807 := by unfold maxLen at hmx; omega
  rw [hn] at HS ⊢
  have HEQ : Hid (∀ i (h : i < ss.length), ((strOfNums z).toList == (strOfNums ss[i]).toList) = decide (z = ss[i])) := fun i h => str_same hz (hS.1 _ (List.getElem_mem h))
  obtain ⟨s, hs⟩ : ∃ s, strOfNums z = s := ⟨_, rfl⟩
  rw [hs] at HEQ ⊢
  clear hS hn hmx hs
  go_enter Tryd.func104, Tryd.ntmps104
  go_wp2
  go_loopg [8] n (fun k i wr => ∃ j : Nat, k + j = n ∧ i = .int .i64 (j : Int) ∧ idxS z (ss.drop j) j = idxS z ss 0 ∧ Below w.heap.size w wr)
  case atStart => exact ⟨0, rfl, rfl, rfl, Below.refl _ w⟩
  case round =>
    obtain ⟨j, hk, rfl, hs, hbw⟩ := hrel
    have HI := hide hs
    have HB := hide hbw
    clear hs hbw
    cases gk with
    | zero =>
      obtain rfl : j = n := by omega
      have hlt : ¬ (j : Int) < (j : Int) := by omega
      go_wp2
      go_ret
      exact ⟨ret_int (by rw [← HI.out, List.drop_eq_nil_of_le (by rw [HN.out]; exact Nat.le_refl _)]; rfl), HB.out⟩
    | succ k =>
      have hj : (j : Int) < (n : Int) := by omega
      have hjl : j < ss.length := by rw [HN.out]; omega
      obtain ⟨b, off, rfl, hx, hok⟩ := (HS.out.below HB.out).at j hjl
      have hd := dropS_at hjl
      have he := HEQ.out j hjl
      obtain ⟨t, ht⟩ : ∃ t, strOfNums ss[j] = t := ⟨_, rfl⟩
      rw [ht] at hx he
      by_cases hc : z = ss[j]
      · rw [decide_eq_true hc] at he
        have HR : Hid (idxS z ss 0 = (j : Int)) := by rw [← HI.out, hd]; exact if_pos hc
        clear hok hd ht hc
        go_wp2
        go_ret
        exact ⟨ret_int HR.out.symm, HB.out⟩
      · rw [decide_eq_false hc] at he
        have HR : Hid (idxS z (ss.drop (j + 1)) (j + 1) = idxS z ss 0) := by rw [← HI.out, hd]; exact (if_neg hc).symm
        clear hok hd ht hc
        go_wp2
        go_roundg k
        case measure => omega
        case rel => exact ⟨j + 1, by omega, by go_num, HR.out, HB.out⟩

theorem containsS_any (w : World) (v : Value) (ss : List (List Int)) (hS : Strs w v ss) (z : List Int) (hz : ByteOk z) :
    Calls Tryd.prog 76 #[v, .string (strOfNums z)] w fun e w' => e = .returned (.bool (decide (z ∈ ss))) ∧ Below w.heap.size w w' := by
  obtain ⟨ao, cap, rfl⟩ := hS.len
  have HI := hide (indexS_any w _ ss hS z hz)
  have HA := hide (idxS_any z ss 0)
  generalize idxS z ss 0 = i at *
  generalize strOfNums z = s at *
  generalize decide (z ∈ ss) = A at *
  generalize ss.length = n at *
  clear hS hz
  go_enter Tryd.func76, Tryd.ntmps76
  go_wp2_with (go_at_call 104; refine HI.out.mono ?_; rintro e w1 ⟨rfl, hb⟩; have HB := hide hb; clear HI hb)
  go_ret
  exact ⟨ret_bool HA.out, HB.out⟩

/-- a boxed way -/
theorem box_cnf (w : World) (v : Value) (C : Cn) (h : CnfV w v C) : ∃ fo fc so sc w1, v = .agg #[.slice fo C.fs.length fc, .slice so C.ss.length sc, .int .i64 C.cap] ∧ w.alloc (.cells #[.slice fo C.fs.length fc, .slice so C.ss.length sc, .int .i64 C.cap] 25) = w1 ∧
    Below w.heap.size w w1 ∧ Blk w1 w.heap.size 25 [.slice fo C.fs.length fc, .slice so C.ss.length sc, .int .i64 C.cap] ∧ Tbl w (.slice fo C.fs.length fc) C.fs ∧ Strs w (.slice so C.ss.length sc) C.ss := by
  obtain ⟨fo, fc, so, sc, rfl, h1, h2⟩ := h
  exact ⟨fo, fc, so, sc, _, rfl, rfl, (Below.refl _ w).alloc (Nat.le_refl _) _, Blk.new w _ _, h1, h2⟩

theorem isStop_any (w : World) (v : Value) (C : Cn) (h : CnfV w v C) (z : List Int) (hz : ByteOk z) :
    Calls Tryd.prog 51 #[v, .string (strOfNums z)] w fun e w' => e = .returned (.bool (decide (z ∈ C.ss))) ∧ Below w.heap.size w w' := by
  obtain ⟨fo, fc, so, sc, w1, rfl, hw1, hb1, hB, hT, hS⟩ := box_cnf w v C h
  have c1 : w1.cell? ⟨w.heap.size, 1, none⟩ = some (.slice so C.ss.length sc) := hB.cell 1
  have HC := hide (containsS_any w1 _ C.ss (hS.below hb1) z hz)
  have HB1 := hide hb1
  generalize strOfNums z = s at *
  generalize decide (z ∈ C.ss) = A at *
  generalize C.ss.length = n at *
  generalize C.fs.length = m at *
  clear h hT hS hB hb1 hz
  go_enter Tryd.func51, Tryd.ntmps51
  go_wp2_with (go_at_call 76; refine HC.out.mono ?_; rintro e w2 ⟨rfl, hb⟩; have HB := hide hb; clear HC hb)
  go_ret
  exact ⟨rfl, HB1.out.trans (HB.out.mono HB1.out.size)⟩

end Go.Proofs.YtimmfnjkknbofaaDoor
/- Contracts: slices.Equal at texts, and at folds. -/
namespace Go.Proofs.YtimmfnjkknbofaaDoor
set_option maxRecDepth 20000
open Go.RowKit
set_option linter.unusedVariables false
set_option linter.unusedSimpArgs false
set_option maxRecDepth 100000

set_option maxHeartbeats 2000000 in
theorem equalS_any (w : World) (va vb : Value) (xs ys : List (List Int)) (ha : Strs w va xs) (hb : Strs w vb ys) : Calls Tryd.prog 19 #[va, vb] w fun e w' => e = .returned (.bool (decide (xs = ys))) ∧ Below w.heap.size w w' := by
  obtain ⟨ao, ac, rfl⟩ := ha.len
  obtain ⟨bo, bc, rfl⟩ := hb.len
  have hma := ha.max
  have hmb := hb.max
  by_cases hl : xs.length = ys.length
  · have HA := hide ha
    have HB := hide hb
    obtain ⟨n, hn⟩ : ∃ n, xs.length = n := ⟨_, rfl⟩
    have HN := hide hn
    have hm : ys.length = n := by rw [← hl]; exact hn
    have HM := hide hm
    rw [hn] at HA hma ⊢
    rw [hm] at HB ⊢
    unfold maxLen at hma
    clear ha hb hl hn hmb hm
    go_enter Tryd.func19, Tryd.ntmps19
    go_wp2
    go_loopg [13] n (fun k i wr => ∃ j : Nat, k + j = n ∧ i = .int .i64 (j : Int) ∧ xs.take j = ys.take j ∧ Below w.heap.size w wr)
    case atStart => exact ⟨0, rfl, rfl, rfl, Below.refl _ w⟩
    case round =>
      obtain ⟨j, hk, rfl, hs, hbw⟩ := hrel
      have HS := hide hs
      have HBW := hide hbw
      clear hs hbw
      cases gk with
      | zero =>
        obtain rfl : j = n := by omega
        have hlt : ¬ (j : Int) < (j : Int) := by omega
        go_wp2
        go_ret
        refine ⟨ret_bool (Eq.symm (decide_eq_true ?_)), HBW.out⟩
        have := HS.out
        rwa [List.take_of_length_le (by rw [HN.out]; exact Nat.le_refl _), List.take_of_length_le (by rw [HM.out]; exact Nat.le_refl _)] at this
      | succ k =>
        have hj : (j : Int) < (n : Int) := by omega
        have hjx : j < xs.length := by rw [HN.out]; omega
        have hjy : j < ys.length := by rw [HM.out]; omega
        obtain ⟨b1, o1, h1, q0, ok1⟩ := (HA.out.below HBW.out).at j hjx
        obtain ⟨b2, o2, h2, u0, ok2⟩ := (HB.out.below HBW.out).at j hjy
        have hss := str_same ok1 ok2
        have HX : Hid (xs.take (j + 1) = xs.take j ++ [xs[j]]) := List.take_succ_eq_append_getElem hjx
        have HY : Hid (ys.take (j + 1) = ys.take j ++ [ys[j]]) := List.take_succ_eq_append_getElem hjy
        have HDE : Hid (xs = ys → xs[j] = ys[j]) := fun e => by subst e; rfl
        obtain ⟨p1, hp1⟩ : ∃ p, xs[j] = p := ⟨_, rfl⟩
        obtain ⟨p2, hp2⟩ : ∃ p, ys[j] = p := ⟨_, rfl⟩
        rw [hp1] at q0 hss HX HDE
        rw [hp2] at u0 hss HY HDE
        subst h1
        subst h2
        clear ok1 ok2 hp1 hp2 hjx hjy
        by_cases he : p1 = p2
        · subst he
          have HR : Hid (xs.take (j + 1) = ys.take (j + 1)) := by
            show _ = _
            rw [HX.out, HY.out, HS.out]
          clear hss
          generalize strOfNums p1 = s1 at *
          go_wp2
          go_quiet (fail)
          go_wp2
          go_roundg k
          case measure => omega
          case rel => exact ⟨j + 1, by omega, by go_num, HR.out, below_drewK HBW.out _⟩
        · have HR : Hid (decide (xs = ys) = false) := decide_eq_false (fun e => he (HDE.out e))
          rw [decide_eq_false he] at hss
          clear he
          generalize strOfNums p1 = s1 at *
          generalize strOfNums p2 = s2 at *
          go_wp2
          go_quiet (fail)
          go_wp2
          go_ret
          exact ⟨ret_bool HR.out.symm, below_drewK HBW.out _⟩
  · have hli : ¬ (xs.length : Int) = (ys.length : Int) := by omega
    have HR : Hid (decide (xs = ys) = false) := decide_eq_false (fun e => hl (by rw [e]))
    generalize xs.length = n at *
    generalize ys.length = m at *
    clear ha hb hl
    go_enter Tryd.func19, Tryd.ntmps19
    go_wp2
    go_ret
    exact ⟨ret_bool HR.out.symm, Below.refl _ w⟩

set_option maxHeartbeats 2000000 in
theorem equalF_any (w : World) (va vb : Value) (xs ys : List Fd) (ha : Tbl w va xs) (hb : Tbl w vb ys) : Calls Tryd.prog 42 #[va, vb] w fun e w' => e = .returned (.bool (decide (xs = ys))) ∧ Below w.heap.size w w' := by
  obtain ⟨ao, ac, rfl⟩ := ha.len
  obtain ⟨bo, bc, rfl⟩ := hb.len
  have hma := ha.max
  have hmb := hb.max
  by_cases hl : xs.length = ys.length
  · have HA := hide ha
    have HB := hide hb
    obtain ⟨n, hn⟩ : ∃ n, xs.length = n := ⟨_, rfl⟩
    have HN := hide hn
    have hm : ys.length = n := by rw [← hl]; exact hn
    have HM := hide hm
    rw [hn] at HA hma ⊢
    rw [hm] at HB ⊢
    clear ha hb hl hn hmb hm
    go_enter Tryd.func42, Tryd.ntmps42
    go_wp2
    go_loopg [13] n (fun k i wr => ∃ j : Nat, k + j = n ∧ i = .int .i64 (j : Int) ∧ xs.take j = ys.take j ∧ Below w.heap.size w wr)
    case atStart => exact ⟨0, rfl, rfl, rfl, Below.refl _ w⟩
    case round =>
      obtain ⟨j, hk, rfl, hs, hbw⟩ := hrel
      have HS := hide hs
      have HBW := hide hbw
      clear hs hbw
      cases gk with
      | zero =>
        obtain rfl : j = n := by omega
        have hlt : ¬ (j : Int) < (j : Int) := by omega
        go_wp2
        go_ret
        refine ⟨ret_bool (Eq.symm (decide_eq_true ?_)), HBW.out⟩
        have := HS.out
        rwa [List.take_of_length_le (by rw [HN.out]; exact Nat.le_refl _), List.take_of_length_le (by rw [HM.out]; exact Nat.le_refl _)] at this
      | succ k =>
        have hj : (j : Int) < (n : Int) := by omega
        obtain ⟨b1, o1, ⟨f1, t1, m1⟩, rfl, hx, _, q0, q1, q2⟩ := (HA.out.below HBW.out).at j (by rw [HN.out]; omega)
        obtain ⟨b2, o2, ⟨f2, t2, m2⟩, rfl, hy, _, u0, u1, u2⟩ := (HB.out.below HBW.out).at j (by rw [HM.out]; omega)
        simp only at q0 q1 q2 u0 u1 u2
        have HX := hide hx
        have HY := hide hy
        clear hx hy
        have HNE : Hid ((f1, t1, m1) ≠ (f2, t2, m2) → decide (xs = ys) = false) := fun hne => by
          apply decide_eq_false
          intro e
          have h1 := HX.out
          rw [e, HY.out] at h1
          exact hne (Option.some.inj h1).symm
        by_cases hf : f1 = f2
        · by_cases ht : t1 = t2
          · by_cases hm : m1 = m2
            · subst hf ht hm
              have HR : Hid (xs.take (j + 1) = ys.take (j + 1)) := by
                have h1 : xs.take (j + 1) = xs.take j ++ [(f1, t1, m1)] := by
                  obtain ⟨hi, e⟩ := List.getElem?_eq_some_iff.1 HX.out
                  rw [List.take_succ_eq_append_getElem hi, e]
                have h2 : ys.take (j + 1) = ys.take j ++ [(f1, t1, m1)] := by
                  obtain ⟨hi, e⟩ := List.getElem?_eq_some_iff.1 HY.out
                  rw [List.take_succ_eq_append_getElem hi, e]
                show _ = _
                rw [h1, h2, HS.out]
              go_wp2
              go_quiet (fail)
              go_wp2
              go_roundg k
              case measure => omega
              case rel => exact ⟨j + 1, by omega, by go_num, HR.out, below_drewK HBW.out _⟩
            · have HR : Hid (decide (xs = ys) = false) := HNE.out (fun e => hm (by simp at e; exact e.2.2))
              subst hf ht
              go_wp2
              go_quiet (fail)
              go_wp2
              go_ret
              exact ⟨ret_bool HR.out.symm, below_drewK HBW.out _⟩
          · have HR : Hid (decide (xs = ys) = false) := HNE.out (fun e => ht (by simp at e; exact e.2.1))
            subst hf
            go_wp2
            go_quiet (fail)
            go_wp2
            go_ret
            exact ⟨ret_bool HR.out.symm, below_drewK HBW.out _⟩
        · have HR : Hid (decide (xs = ys) = false) := HNE.out (fun e => hf (by simp at e; exact e.1))
          go_wp2
          go_quiet (fail)
          go_wp2
          go_ret
          exact ⟨ret_bool HR.out.symm, below_drewK HBW.out _⟩
  · have hli : ¬ (xs.length : Int) = (ys.length : Int) := by omega
    have HR : Hid (decide (xs = ys) = false) := decide_eq_false (fun e => hl (by rw [e]))
    generalize xs.length = n at *
    generalize ys.length = m at *
    clear ha hb hl
    go_enter Tryd.func42, Tryd.ntmps42
    go_wp2
    go_ret
    exact ⟨ret_bool HR.out.symm, Below.refl _ w⟩

end Go.Proofs.YtimmfnjkknbofaaDoor
/- Contract: package words' Same. -/
namespace Go.Proofs.YtimmfnjkknbofaaDoor
set_option maxRecDepth 20000
open Go.RowKit
set_option linter.unusedVariables false
set_option linter.unusedSimpArgs false
set_option maxRecDepth 100000

/-- two ways that are the same in all fields -/
def sameC (A B : Cn) : Bool := decide (A.cap = B.cap) && decide (A.fs = B.fs) && decide (A.ss = B.ss)
theorem sameC_eq (A B : Cn) : sameC A B = true ↔ A = B := by
  unfold sameC
  simp only [Bool.and_eq_true, decide_eq_true_iff]
  constructor
  · rintro ⟨⟨h1, h2⟩, h3⟩
    cases A; cases B
    simp only at h1 h2 h3
    subst h1 h2 h3
    rfl
  · rintro rfl; exact ⟨⟨rfl, rfl⟩, rfl⟩

set_option maxHeartbeats 2000000 in
theorem same_any (w : World) (va vb : Value) (A B : Cn) (ha : CnfV w va A) (hb : CnfV w vb B) :
    Calls Tryd.prog 14 #[va, vb] w fun e w' => e = .returned (.bool (sameC A B)) ∧ Below w.heap.size w w' := by
  obtain ⟨fo, fc, so, sc, w1, rfl, hw1, hb1, hB1, hT1, hS1⟩ := box_cnf w va A ha
  obtain ⟨go, gc, to, tc, w2, rfl, hw2, hb2, hB2, hT2, hS2⟩ := box_cnf w1 vb B (hb.below hb1)
  have hs1 : w1.heap.size = w.heap.size + 1 := by rw [← hw1]; simp
  have hbw : Below w.heap.size w w2 := hb1.trans (hb2.mono hb1.size)
  have HEF : Hid (∀ W, Below w2.heap.size w2 W → Calls Tryd.prog 42 #[.slice fo A.fs.length fc, .slice go B.fs.length gc] W fun e w' => e = .returned (.bool (decide (A.fs = B.fs))) ∧ Below W.heap.size W w') := fun W h => equalF_any W _ _ A.fs B.fs (hT1.below (hbw.trans (h.mono hbw.size))) (hT2.below (hb2.trans (h.mono hb2.size)))
  have HES : Hid (∀ W, Below w2.heap.size w2 W → Calls Tryd.prog 19 #[.slice so A.ss.length sc, .slice to B.ss.length tc] W fun e w' => e = .returned (.bool (decide (A.ss = B.ss))) ∧ Below W.heap.size W w') := fun W h => equalS_any W _ _ A.ss B.ss (hS1.below (hbw.trans (h.mono hbw.size))) (hS2.below (hb2.trans (h.mono hb2.size)))
  have hX1 : Blk w2 w.heap.size 25 _ := hB1.below hb2 (by omega)
  have HX1 := hide hX1
  have HX2 := hide hB2
  have a0 : w2.cell? ⟨w.heap.size, 0, none⟩ = some (.slice fo A.fs.length fc) := hX1.cell 0
  have a1 : w2.cell? ⟨w.heap.size, 1, none⟩ = some (.slice so A.ss.length sc) := hX1.cell 1
  have a2 : w2.cell? ⟨w.heap.size, 2, none⟩ = some (.int .i64 A.cap) := hX1.cell 2
  rw [hs1] at hB2
  have b0 : w2.cell? ⟨w.heap.size + 1, 0, none⟩ = some (.slice go B.fs.length gc) := hB2.cell 0
  have b1 : w2.cell? ⟨w.heap.size + 1, 1, none⟩ = some (.slice to B.ss.length tc) := hB2.cell 1
  have b2 : w2.cell? ⟨w.heap.size + 1, 2, none⟩ = some (.int .i64 B.cap) := hB2.cell 2
  have HY : Hid (Blk w2 (w.heap.size + 1) 25 [.slice go B.fs.length gc, .slice to B.ss.length tc, .int .i64 B.cap]) := hB2
  have HL2 : Hid (w.heap.size + 1 < w2.heap.size) := hB2.lt
  have HBW := hide hbw
  have HSC : Hid (sameC A B = (decide (A.cap = B.cap) && decide (A.fs = B.fs) && decide (A.ss = B.ss))) := rfl
  generalize sameC A B = R at *
  generalize decide (A.fs = B.fs) = DF at *
  generalize decide (A.ss = B.ss) = DS at *
  generalize A.fs.length = n1 at *
  generalize A.ss.length = n2 at *
  generalize B.fs.length = m1 at *
  generalize B.ss.length = m2 at *
  generalize A.cap = K1 at *
  generalize B.cap = K2 at *
  clear ha hb hT1 hS1 hT2 hS2 hb1 hb2 hB1 hB2 hX1 hbw hs1 HX2
  have hww : (w.alloc (.cells #[.slice fo n1 fc, .slice so n2 sc, .int .i64 K1] 25)).alloc (.cells #[.slice go m1 gc, .slice to m2 tc, .int .i64 K2] 25) = w2 := by rw [hw1]; exact hw2
  have HWW := hide hww
  clear hw1 hw2
  by_cases hk : K1 = K2
  · subst hk
    have HR : Hid (R = (DF && DS)) := by show _ = _; rw [HSC.out]; simp
    clear HSC
    cases DF with
    | true =>
      go_enter Tryd.func14, Tryd.ntmps14
      go_wp2_with (first
        | (go_at_call 42; refine (HEF.out w2 (Below.refl _ w2)).mono ?_; rintro e w3 ⟨rfl, hb⟩; have HB3 := hide hb; have d1 : w3.cell? ⟨w.heap.size, 1, none⟩ = some (.slice so n2 sc) := (HX1.out.below hb HX1.out.lt).cell 1; have d2 : w3.cell? ⟨w.heap.size + 1, 1, none⟩ = some (.slice to m2 tc) := (HY.out.below hb HY.out.lt).cell 1; clear HEF hb)
        | (go_at_call 19; refine (HES.out w3 HB3.out).mono ?_; rintro e w4 ⟨rfl, hb⟩; have HB4 := hide (HB3.out.trans (hb.mono HB3.out.size)); clear HES hb))
      go_ret
      exact ⟨ret_bool (by rw [HR.out]; simp), HBW.out.trans (HB4.out.mono HBW.out.size)⟩
    | false =>
      go_enter Tryd.func14, Tryd.ntmps14
      go_wp2_with (go_at_call 42; refine (HEF.out w2 (Below.refl _ w2)).mono ?_; rintro e w3 ⟨rfl, hb⟩; have HB3 := hide hb; clear HEF hb)
      go_ret
      exact ⟨ret_bool (by rw [HR.out]; rfl), HBW.out.trans (HB3.out.mono HBW.out.size)⟩
  · have HR : Hid (R = false) := by show _ = _; rw [HSC.out, decide_eq_false hk]; rfl
    clear HSC HEF HES
    go_enter Tryd.func14, Tryd.ntmps14
    go_wp2
    go_ret
    exact ⟨ret_bool HR.out.symm, HBW.out⟩

end Go.Proofs.YtimmfnjkknbofaaDoor
