/- Contracts: slices.Equal at texts, and at folds. -/
import Derived.Test.YtimmfnjkknbofaaDoorJWdTk
import Derived.BigQuiet
namespace Go.Proofs.YtimmfnjkknbofaaDoor
set_option maxRecDepth 20000
open Go.RowKit
set_option linter.unusedVariables false
set_option linter.unusedSimpArgs false
set_option maxRecDepth 100000

set_option maxHeartbeats 2000000 in
theorem equalS_any (w : World) (va vb : Value) (xs ys : List (List Int)) (ha : Strs w va xs) (hb : Strs w vb ys) : Calls Tryd.prog 19 #[va, vb] w fun e w' => e = .returned (.bool (decide (xs = ys))) ∧ Below w.heap.size w w' := by
  obtain ⟨ao, ac, rfl⟩ := ha.len
  obtain ⟨bo, bc, rfl⟩ := hb.len
  have hma := ha.max
  have hmb := hb.max
  by_cases hl : xs.length = ys.length
  · have HA := hide ha
    have HB := hide hb
    obtain ⟨n, hn⟩ : ∃ n, xs.length = n := ⟨_, rfl⟩
    have HN := hide hn
    have hm : ys.length = n := by rw [← hl]; exact hn
    have HM := hide hm
    rw [hn] at HA hma ⊢
    rw [hm] at HB ⊢
    unfold maxLen at hma
    clear ha hb hl hn hmb hm
    go_enter Tryd.func19, Tryd.ntmps19
    go_wp2
    go_loopg [13] n (fun k i wr => ∃ j : Nat, k + j = n ∧ i = .int .i64 (j : Int) ∧ xs.take j = ys.take j ∧ Below w.heap.size w wr)
    case atStart => exact ⟨0, rfl, rfl, rfl, Below.refl _ w⟩
    case round =>
      obtain ⟨j, hk, rfl, hs, hbw⟩ := hrel
      have HS := hide hs
      have HBW := hide hbw
      clear hs hbw
      cases gk with
      | zero =>
        obtain rfl : j = n := by omega
        have hlt : ¬ (j : Int) < (j : Int) := by omega
        go_wp2
        go_ret
        refine ⟨ret_bool (Eq.symm (decide_eq_true ?_)), HBW.out⟩
        have := HS.out
        rwa [List.take_of_length_le (by rw [HN.out]; exact Nat.le_refl _), List.take_of_length_le (by rw [HM.out]; exact Nat.le_refl _)] at this
      | succ k =>
        have hj : (j : Int) < (n : Int) := by omega
        have hjx : j < xs.length := by rw [HN.out]; omega
        have hjy : j < ys.length := by rw [HM.out]; omega
        obtain ⟨b1, o1, h1, q0, ok1⟩ := (HA.out.below HBW.out).at j hjx
        obtain ⟨b2, o2, h2, u0, ok2⟩ := (HB.out.below HBW.out).at j hjy
        have hss := str_same ok1 ok2
        have HX : Hid (xs.take (j + 1) = xs.take j ++ [xs[j]]) := List.take_succ_eq_append_getElem hjx
        have HY : Hid (ys.take (j + 1) = ys.take j ++ [ys[j]]) := List.take_succ_eq_append_getElem hjy
        have HDE : Hid (xs = ys → xs[j] = ys[j]) := fun e => by subst e; rfl
        obtain ⟨p1, hp1⟩ : ∃ p, xs[j] = p := ⟨_, rfl⟩
        obtain ⟨p2, hp2⟩ : ∃ p, ys[j] = p := ⟨_, rfl⟩
        rw [hp1] at q0 hss HX HDE
        rw [hp2] at u0 hss HY HDE
        subst h1
        subst h2
        clear ok1 ok2 hp1 hp2 hjx hjy
        by_cases he : p1 = p2
        · subst he
          have HR : Hid (xs.take (j + 1) = ys.take (j + 1)) := by
            show _ = _
            rw [HX.out, HY.out, HS.out]
          clear hss
          generalize strOfNums p1 = s1 at *
          go_wp2
          go_quiet (fail)
          go_wp2
          go_roundg k
          case measure => omega
          case rel => exact ⟨j + 1, by omega, by go_num, HR.out, below_drewK HBW.out _⟩
        · have HR : Hid (decide (xs = ys) = false) := decide_eq_false (fun e => he (HDE.out e))
          rw [decide_eq_false he] at hss
          clear he
          generalize strOfNums p1 = s1 at *
          generalize strOfNums p2 = s2 at *
          go_wp2
          go_quiet (fail)
          go_wp2
          go_ret
          exact ⟨ret_bool HR.out.symm, below_drewK HBW.out _⟩
  · have hli : ¬ (xs.length : Int) = (ys.length : Int) := by omega
    have HR : Hid (decide (xs = ys) = false) := decide_eq_false (fun e => hl (by rw [e]))
    generalize xs.length = n at *
    generalize ys.length = m at *
    clear ha hb hl
    go_enter Tryd.func19, Tryd.ntmps19
    go_wp2
    go_ret
    exact ⟨ret_bool HR.out.symm, Below.refl _ w⟩

set_option maxHeartbeats 2000000 in
theorem equalF_any (w : World) (va vb : Value) (xs ys : List Fd) (ha : Tbl w va xs) (hb : Tbl w vb ys) : Calls Tryd.prog 42 #[va, vb] w fun e w' => e = .returned (.bool (decide (xs = ys))) ∧ Below w.heap.size w w' := by
  obtain ⟨ao, ac, rfl⟩ := ha.len
  obtain ⟨bo, bc, rfl⟩ := hb.len
  have hma := ha.max
  have hmb := hb.max
  by_cases hl : xs.length = ys.length
  · have HA := hide ha
    have HB := hide hb
    obtain ⟨n, hn⟩ : ∃ n, xs.length = n := ⟨_, rfl⟩
    have HN := hide hn
    have hm : ys.length = n := by rw [← hl]; exact hn
    have HM := hide hm
    rw [hn] at HA hma ⊢
    rw [hm] at HB ⊢
    clear ha hb hl hn hmb hm
    go_enter Tryd.func42, Tryd.ntmps42
    go_wp2
    go_loopg [13] n (fun k i wr => ∃ j : Nat, k + j = n ∧ i = .int .i64 (j : Int) ∧ xs.take j = ys.take j ∧ Below w.heap.size w wr)
    case atStart => exact ⟨0, rfl, rfl, rfl, Below.refl _ w⟩
    case round =>
      obtain ⟨j, hk, rfl, hs, hbw⟩ := hrel
      have HS := hide hs
      have HBW := hide hbw
      clear hs hbw
      cases gk with
      | zero =>
        obtain rfl : j = n := by omega
        have hlt : ¬ (j : Int) < (j : Int) := by omega
        go_wp2
        go_ret
        refine ⟨ret_bool (Eq.symm (decide_eq_true ?_)), HBW.out⟩
        have := HS.out
        rwa [List.take_of_length_le (by rw [HN.out]; exact Nat.le_refl _), List.take_of_length_le (by rw [HM.out]; exact Nat.le_refl _)] at this
      | succ k =>
        have hj : (j : Int) < (n : Int) := by omega
        obtain ⟨b1, o1, ⟨f1, t1, m1⟩, rfl, hx, _, q0, q1, q2⟩ := (HA.out.below HBW.out).at j (by rw [HN.out]; omega)
        obtain ⟨b2, o2, ⟨f2, t2, m2⟩, rfl, hy, _, u0, u1, u2⟩ := (HB.out.below HBW.out).at j (by rw [HM.out]; omega)
        simp only at q0 q1 q2 u0 u1 u2
        have HX := hide hx
        have HY := hide hy
        clear hx hy
        have HNE : Hid ((f1, t1, m1) ≠ (f2, t2, m2) → decide (xs = ys) = false) := fun hne => by
          apply decide_eq_false
          intro e
          have h1 := HX.out
          rw [e, HY.out] at h1
          exact hne (Option.some.inj h1).symm
        by_cases hf : f1 = f2
        · by_cases ht : t1 = t2
          · by_cases hm : m1 = m2
            · subst hf ht hm
              have HR : Hid (xs.take (j + 1) = ys.take (j + 1)) := by
                have h1 : xs.take (j + 1) = xs.take j ++ [(f1, t1, m1)] := by
                  obtain ⟨hi, e⟩ := List.getElem?_eq_some_iff.1 HX.out
                  rw [List.take_succ_eq_append_getElem hi, e]
                have h2 : ys.take (j + 1) = ys.take j ++ [(f1, t1, m1)] := by
                  obtain ⟨hi, e⟩ := List.getElem?_eq_some_iff.1 HY.out
                  rw [List.take_succ_eq_append_getElem hi, e]
                show _ = _
                rw [h1, h2, HS.out]
              go_wp2
              go_quiet (fail)
              go_wp2
              go_roundg k
              case measure => omega
              case rel => exact ⟨j + 1, by omega, by go_num, HR.out, below_drewK HBW.out _⟩
            · have HR : Hid (decide (xs = ys) = false) := HNE.out (fun e => hm (by simp at e; exact e.2.2))
              subst hf ht
              go_wp2
              go_quiet (fail)
              go_wp2
              go_ret
              exact ⟨ret_bool HR.out.symm, below_drewK HBW.out _⟩
          · have HR : Hid (decide (xs = ys) = false) := HNE.out (fun e => ht (by simp at e; exact e.2.1))
            subst hf
            go_wp2
            go_quiet (fail)
            go_wp2
            go_ret
            exact ⟨ret_bool HR.out.symm, below_drewK HBW.out _⟩
        · have HR : Hid (decide (xs = ys) = false) := HNE.out (fun e => hf (by simp at e; exact e.1))
          go_wp2
          go_quiet (fail)
          go_wp2
          go_ret
          exact ⟨ret_bool HR.out.symm, below_drewK HBW.out _⟩
  · have hli : ¬ (xs.length : Int) = (ys.length : Int) := by omega
    have HR : Hid (decide (xs = ys) = false) := decide_eq_false (fun e => hl (by rw [e]))
    generalize xs.length = n at *
    generalize ys.length = m at *
    clear ha hb hl
    go_enter Tryd.func42, Tryd.ntmps42
    go_wp2
    go_ret
    exact ⟨ret_bool HR.out.symm, Below.refl _ w⟩

end Go.Proofs.YtimmfnjkknbofaaDoor
