/- Contract: the document's Same (incipitref14.Same). -/
import Derived.Test.YtimmfnjkknbofaaDoorJWdStop
namespace Go.Proofs.YtimmfnjkknbofaaDoor
set_option maxRecDepth 20000
open Go.RowKit
set_option linter.unusedVariables false
set_option linter.unusedSimpArgs false
set_option maxRecDepth 100000

set_option maxHeartbeats 4000000 in
theorem sameD_any (w : World) (va vb : Value) (A B : Cn) (ha : CnfV w va A) (hb : CnfV w vb B) :
    Calls Tryd.prog 15 #[va, vb] w fun e w' => e = .returned (.bool (sameC A B)) ∧ Below w.heap.size w w' := by
  obtain ⟨fo, fc, so, sc, w1, rfl, hw1, hb1, hB1, hT1, hS1⟩ := box_cnf w va A ha
  obtain ⟨go, gc, to, tc, w2, rfl, hw2, hb2, hB2, hT2, hS2⟩ := box_cnf w1 vb B (hb.below hb1)
  have hs1 : w1.heap.size = w.heap.size + 1 := by rw [← hw1]; simp
  have hbw : Below w.heap.size w w2 := hb1.trans (hb2.mono hb1.size)
  have HTA : Hid (∀ W, Below w2.heap.size w2 W → Tbl W (.slice fo A.fs.length fc) A.fs) := fun W h => hT1.below (hbw.trans (h.mono hbw.size))
  have HTB : Hid (∀ W, Below w2.heap.size w2 W → Tbl W (.slice go B.fs.length gc) B.fs) := fun W h => hT2.below (hb2.trans (h.mono hb2.size))
  have HSA : Hid (∀ W, Below w2.heap.size w2 W → Strs W (.slice so A.ss.length sc) A.ss) := fun W h => hS1.below (hbw.trans (h.mono hbw.size))
  have HSB : Hid (∀ W, Below w2.heap.size w2 W → Strs W (.slice to B.ss.length tc) B.ss) := fun W h => hS2.below (hb2.trans (h.mono hb2.size))
  have hm1 := hT1.max
  have hm2 := hS1.max
  have hX1 : Blk w2 w.heap.size 25 _ := hB1.below hb2 (by omega)
  have HX1 := hide hX1
  have HX2 := hide hB2
  have a0 : w2.cell? ⟨w.heap.size, 0, none⟩ = some (.slice fo A.fs.length fc) := hX1.cell 0
  have a1 : w2.cell? ⟨w.heap.size, 1, none⟩ = some (.slice so A.ss.length sc) := hX1.cell 1
  have a2 : w2.cell? ⟨w.heap.size, 2, none⟩ = some (.int .i64 A.cap) := hX1.cell 2
  rw [hs1] at hB2
  have b0 : w2.cell? ⟨w.heap.size + 1, 0, none⟩ = some (.slice go B.fs.length gc) := hB2.cell 0
  have b1 : w2.cell? ⟨w.heap.size + 1, 1, none⟩ = some (.slice to B.ss.length tc) := hB2.cell 1
  have b2 : w2.cell? ⟨w.heap.size + 1, 2, none⟩ = some (.int .i64 B.cap) := hB2.cell 2
  have HY : Hid (Blk w2 (w.heap.size + 1) 25 [.slice go B.fs.length gc, .slice to B.ss.length tc, .int .i64 B.cap]) := hB2
  have HL2 : Hid (w.heap.size + 1 < w2.heap.size) := hB2.lt
  have HBW := hide hbw
  have HSC : Hid (sameC A B = (decide (A.cap = B.cap) && decide (A.fs = B.fs) && decide (A.ss = B.ss))) := rfl
  have HCEL : Hid (∀ W, Below w2.heap.size w2 W → (W.cell? ⟨w.heap.size, 0, none⟩ = some (.slice fo A.fs.length fc) ∧ W.cell? ⟨w.heap.size, 1, none⟩ = some (.slice so A.ss.length sc)) ∧ W.cell? ⟨w.heap.size + 1, 0, none⟩ = some (.slice go B.fs.length gc) ∧ W.cell? ⟨w.heap.size + 1, 1, none⟩ = some (.slice to B.ss.length tc)) := fun W h => by
    have x := HX1.out.below h HX1.out.lt
    have y := HY.out.below h HY.out.lt
    exact ⟨⟨x.cell 0, x.cell 1⟩, y.cell 0, y.cell 1⟩
  generalize sameC A B = R at *
  generalize hxs : A.fs = xs at *
  generalize hys : B.fs = ys at *
  generalize hps : A.ss = ps at *
  generalize hqs : B.ss = qs at *
  generalize A.cap = K1 at *
  generalize B.cap = K2 at *
  have hww : (w.alloc (.cells #[.slice fo xs.length fc, .slice so ps.length sc, .int .i64 K1] 25)).alloc (.cells #[.slice go ys.length gc, .slice to qs.length tc, .int .i64 K2] 25) = w2 := by rw [hw1]; exact hw2
  have HWW := hide hww
  clear ha hb hT1 hS1 hT2 hS2 hb1 hb2 hB1 hB2 hX1 hbw hs1 HX2 hw1 hw2 hxs hys hps hqs
  by_cases hk : K1 = K2
  · subst hk
    by_cases hn : xs.length = ys.length
    · by_cases hm : ps.length = qs.length
      · have HR : Hid (R = (decide (xs = ys) && decide (ps = qs))) := by show _ = _; rw [HSC.out]; simp
        obtain ⟨n, hn1⟩ : ∃ n, xs.length = n := ⟨_, rfl⟩
        obtain ⟨m, hm3⟩ : ∃ m, ps.length = m := ⟨_, rfl⟩
        have HN1 := hide hn1
        have HM1 := hide hm3
        have HN2 : Hid (ys.length = n) := by show _ = _; rw [← hn]; exact hn1
        have HM2 : Hid (qs.length = m) := by show _ = _; rw [← hm]; exact hm3
        rw [hn1] at HTA hm1 a0 HX1 HCEL hww ⊢
        rw [HN2.out] at HTB b0 HY HCEL hww ⊢
        rw [hm3] at HSA hm2 a1 HX1 HCEL hww ⊢
        rw [HM2.out] at HSB b1 HY HCEL hww ⊢
        unfold maxLen at hm2
        clear HSC hn hm hn1 hm3 HWW
        go_enter Tryd.func15, Tryd.ntmps15
        go_wp2
        try rw [hww]
        clear hww a0 a1 a2 b0 b1 b2
        go_loopg [5] n (fun k i wr => ∃ j : Nat, k + j = n ∧ i = .int .i64 (j : Int) ∧ xs.take j = ys.take j ∧ Below w2.heap.size w2 wr)
        case atStart => exact ⟨0, by omega, rfl, rfl, Below.refl _ w2⟩
        case round =>
          obtain ⟨j, hk, rfl, hs, hbw⟩ := hrel
          have HS := hide hs
          have HB3 := hide hbw
          obtain ⟨⟨a0, a1⟩, b0, b1⟩ := HCEL.out wr hbw
          clear hs hbw
          cases gk with
          | zero =>
            obtain rfl : j = n := by omega
            have hlt : ¬ (j : Int) < (j : Int) := by omega
            have HXY : Hid (xs = ys) := by
              have := HS.out
              rwa [List.take_of_length_le (by rw [HN1.out]; exact Nat.le_refl _), List.take_of_length_le (by rw [HN2.out]; exact Nat.le_refl _)] at this
            go_wp2
            clear a0 a1 b0 b1
            go_loopg [6] m (fun k i wr2 => ∃ q : Nat, k + q = m ∧ i = .int .i64 (q : Int) ∧ ps.take q = qs.take q ∧ Below w2.heap.size w2 wr2)
            case atStart => exact ⟨0, by omega, rfl, rfl, HB3.out⟩
            case round =>
              clear HB3
              obtain ⟨q, hk2, rfl, hs2, hbw2⟩ := hrel
              have HS2 := hide hs2
              have HB4 := hide hbw2
              obtain ⟨⟨a0, a1⟩, b0, b1⟩ := HCEL.out wr hbw2
              clear hs2 hbw2
              cases gk with
              | zero =>
                obtain rfl : q = m := by omega
                have hlt2 : ¬ (q : Int) < (q : Int) := by omega
                have HRR : Hid (R = true) := by
                  have := HS2.out
                  rw [List.take_of_length_le (by rw [HM1.out]; exact Nat.le_refl _), List.take_of_length_le (by rw [HM2.out]; exact Nat.le_refl _)] at this
                  show _ = _
                  rw [HR.out, decide_eq_true HXY.out, decide_eq_true this]; rfl
                go_wp2
                go_ret
                exact ⟨ret_bool HRR.out.symm, HBW.out.trans (HB4.out.mono HBW.out.size)⟩
              | succ k2 =>
                have hqm : (q : Int) < (m : Int) := by omega
                have hjx : q < ps.length := by rw [HM1.out]; omega
                have hjy : q < qs.length := by rw [HM2.out]; omega
                obtain ⟨g1, o1, h1, q0, ok1⟩ := (HSA.out wr HB4.out).at q hjx
                obtain ⟨g2, o2, h2, u0, ok2⟩ := (HSB.out wr HB4.out).at q hjy
                have hss := str_same ok1 ok2
                have HX : Hid (ps.take (q + 1) = ps.take q ++ [ps[q]]) := List.take_succ_eq_append_getElem hjx
                have HYY : Hid (qs.take (q + 1) = qs.take q ++ [qs[q]]) := List.take_succ_eq_append_getElem hjy
                have HDE : Hid (ps = qs → ps[q] = qs[q]) := fun e => by subst e; rfl
                obtain ⟨p1, hp1⟩ : ∃ p, ps[q] = p := ⟨_, rfl⟩
                obtain ⟨p2, hp2⟩ : ∃ p, qs[q] = p := ⟨_, rfl⟩
                rw [hp1] at q0 hss HX HDE
                rw [hp2] at u0 hss HYY HDE
                subst h1
                subst h2
                clear ok1 ok2 hp1 hp2 hjx hjy
                by_cases he : p1 = p2
                · subst he
                  have HRL : Hid (ps.take (q + 1) = qs.take (q + 1)) := by
                    show _ = _
                    rw [HX.out, HYY.out, HS2.out]
                  clear hss
                  generalize strOfNums p1 = s1 at *
                  go_wp2
                  go_quiet (fail)
                  go_wp2
                  go_roundg k2
                  case measure => omega
                  case rel => exact ⟨q + 1, by omega, by go_num, HRL.out, below_drewK HB4.out _⟩
                · have HRR : Hid (R = false) := by show _ = _; rw [HR.out, decide_eq_false (fun e => he (HDE.out e)), Bool.and_false]
                  rw [decide_eq_false he] at hss
                  clear he
                  generalize strOfNums p1 = s1 at *
                  generalize strOfNums p2 = s2 at *
                  go_wp2
                  go_quiet (fail)
                  go_wp2
                  go_ret
                  exact ⟨ret_bool HRR.out.symm, HBW.out.trans ((below_drewK HB4.out _).mono HBW.out.size)⟩
          | succ k =>
            have hj : (j : Int) < (n : Int) := by omega
            obtain ⟨g1, o1, ⟨f1, t1, m1⟩, rfl, hx, _, q0, q1, q2⟩ := (HTA.out wr HB3.out).at j (by rw [HN1.out]; omega)
            obtain ⟨g2, o2, ⟨f2, t2, m2⟩, rfl, hy, _, u0, u1, u2⟩ := (HTB.out wr HB3.out).at j (by rw [HN2.out]; omega)
            simp only at q0 q1 q2 u0 u1 u2
            have HX := hide hx
            have HYY := hide hy
            clear hx hy
            have HNE : Hid ((f1, t1, m1) ≠ (f2, t2, m2) → R = false) := fun hne => by
              rw [HR.out, decide_eq_false, Bool.false_and]
              intro e
              have h1 := HX.out
              rw [e, HYY.out] at h1
              exact hne (Option.some.inj h1).symm
            by_cases hf : f1 = f2
            · by_cases ht : t1 = t2
              · by_cases hm : m1 = m2
                · subst hf ht hm
                  have HRL : Hid (xs.take (j + 1) = ys.take (j + 1)) := by
                    have h1 : xs.take (j + 1) = xs.take j ++ [(f1, t1, m1)] := by
                      obtain ⟨hi, e⟩ := List.getElem?_eq_some_iff.1 HX.out
                      rw [List.take_succ_eq_append_getElem hi, e]
                    have h2 : ys.take (j + 1) = ys.take j ++ [(f1, t1, m1)] := by
                      obtain ⟨hi, e⟩ := List.getElem?_eq_some_iff.1 HYY.out
                      rw [List.take_succ_eq_append_getElem hi, e]
                    show _ = _
                    rw [h1, h2, HS.out]
                  go_wp2
                  go_quiet (fail)
                  go_wp2
                  go_roundg k
                  case measure => omega
                  case rel => exact ⟨j + 1, by omega, by go_num, HRL.out, below_drewK HB3.out _⟩
                · have HRR : Hid (R = false) := HNE.out (fun e => hm (by simp at e; exact e.2.2))
                  subst hf ht
                  go_wp2
                  go_quiet (fail)
                  go_wp2
                  go_ret
                  exact ⟨ret_bool HRR.out.symm, HBW.out.trans ((below_drewK HB3.out _).mono HBW.out.size)⟩
              · have HRR : Hid (R = false) := HNE.out (fun e => ht (by simp at e; exact e.2.1))
                subst hf
                go_wp2
                go_quiet (fail)
                go_wp2
                go_ret
                exact ⟨ret_bool HRR.out.symm, HBW.out.trans ((below_drewK HB3.out _).mono HBW.out.size)⟩
            · have HRR : Hid (R = false) := HNE.out (fun e => hf (by simp at e; exact e.1))
              go_wp2
              go_quiet (fail)
              go_wp2
              go_ret
              exact ⟨ret_bool HRR.out.symm, HBW.out.trans ((below_drewK HB3.out _).mono HBW.out.size)⟩
      · have hmi : ¬ (ps.length : Int) = (qs.length : Int) := by omega
        have hni : (xs.length : Int) = (ys.length : Int) := by omega
        have HRR : Hid (R = false) := by show _ = _; rw [HSC.out, decide_eq_false (show ¬ ps = qs from fun e => hm (by rw [e])), Bool.and_false]
        clear HSC HTA HTB HSA HSB HCEL hn hm
        generalize xs.length = n at *
        generalize ys.length = n' at *
        generalize ps.length = m at *
        generalize qs.length = m' at *
        go_enter Tryd.func15, Tryd.ntmps15
        go_wp2
        go_ret
        exact ⟨ret_bool HRR.out.symm, HBW.out⟩
    · have hni : ¬ (xs.length : Int) = (ys.length : Int) := by omega
      have HRR : Hid (R = false) := by show _ = _; rw [HSC.out, decide_eq_false (show ¬ xs = ys from fun e => hn (by rw [e])), Bool.and_false, Bool.false_and]
      clear HSC HTA HTB HSA HSB HCEL hn
      generalize xs.length = n at *
      generalize ys.length = n' at *
      generalize ps.length = m at *
      generalize qs.length = m' at *
      go_enter Tryd.func15, Tryd.ntmps15
      go_wp2
      go_ret
      exact ⟨ret_bool HRR.out.symm, HBW.out⟩
  · have HRR : Hid (R = false) := by show _ = _; rw [HSC.out, decide_eq_false hk]; rfl
    clear HSC HTA HTB HSA HSB HCEL
    generalize xs.length = n at *
    generalize ys.length = n' at *
    generalize ps.length = m at *
    generalize qs.length = m' at *
    go_enter Tryd.func15, Tryd.ntmps15
    go_wp2
    go_ret
    exact ⟨ret_bool HRR.out.symm, HBW.out⟩

end Go.Proofs.YtimmfnjkknbofaaDoor
