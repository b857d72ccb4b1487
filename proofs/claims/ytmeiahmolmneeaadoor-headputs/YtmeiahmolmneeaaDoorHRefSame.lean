/- Contract: heads that are the same, by the document's answer (incipitref06.Same). -/
import Derived.Test.YtmeiahmolmneeaaDoorHSame
namespace Go.Proofs.YtmeiahmolmneeaaDoor
set_option maxRecDepth 20000
open Go.RowKit
set_option linter.unusedVariables false

set_option maxHeartbeats 4000000 in
theorem refSameH_any (w : World) (va vb : Value) (g h : Hd) (ha : HdV w va g) (hb : HdV w vb h) :
    Calls Tryd.prog 18 #[va, vb] w fun r w' => r = .returned (.bool (sameH g h)) ∧ Below w.heap.size w w' := by
  obtain ⟨ma, mc, ua, uc, rfl, a1, a2, -⟩ := ha
  obtain ⟨ma', mc', ua', uc', rfl, b1, b2, -⟩ := hb
  obtain ⟨e, p, ms, us⟩ := g
  obtain ⟨e', p', ms', us'⟩ := h
  simp only at a1 a2 b1 b2 ⊢
  unfold hdV
  have HS : Hid (sameH ⟨e, p, ms, us⟩ ⟨e', p', ms', us'⟩ = decide (e = e' ∧ p = p' ∧ ms = ms' ∧ us = us')) := rfl
  obtain ⟨r, hr⟩ : ∃ r, r = sameH ⟨e, p, ms, us⟩ ⟨e', p', ms', us'⟩ := ⟨_, rfl⟩
  rw [← hr] at HS ⊢
  obtain ⟨M, hM⟩ : ∃ M, M = ms.length := ⟨_, rfl⟩
  obtain ⟨M', hM'⟩ : ∃ M, M = ms'.length := ⟨_, rfl⟩
  rw [← hM] at a1 ⊢
  rw [← hM'] at b1 ⊢
  obtain ⟨hbel, hx, hy⟩ := two_box w [.int .u64 e, .int .i64 p, .slice ma M mc, .slice ua us.length uc] [.int .u64 e', .int .i64 p', .slice ma' M' mc', .slice ua' us'.length uc']
  obtain ⟨W, hW⟩ : ∃ W, W = (w.alloc (.cells #[.int .u64 e, .int .i64 p, .slice ma M mc, .slice ua us.length uc] 26)).alloc (.cells #[.int .u64 e', .int .i64 p', .slice ma' M' mc', .slice ua' us'.length uc'] 26) := ⟨_, rfl⟩
  rw [← hW] at hbel hx hy
  obtain ⟨sx, hsx⟩ : ∃ s, s = strOfNums us := ⟨_, rfl⟩
  obtain ⟨sy, hsy⟩ : ∃ s, s = strOfNums us' := ⟨_, rfl⟩
  have r1 : (convert 24 9 (.slice ua us.length uc)).run Tryd.prog W = .ok (.string sx) W := by rw [hsx]; exact run_convert_sl _ 24 5 9 Tryd.underlying24 Tryd.underlying5 Tryd.underlying9 _ us (a2.below hbel)
  have r2 : (convert 24 9 (.slice ua' us'.length uc')).run Tryd.prog W = .ok (.string sy) W := by rw [hsy]; exact run_convert_sl _ 24 5 9 Tryd.underlying24 Tryd.underlying5 Tryd.underlying9 _ us' (b2.below hbel)
  have HEQ : Hid (sx = sy ↔ us = us') := by
    show sx = sy ↔ us = us'
    rw [hsx, hsy]
    exact strOfNums_inj a2.bytes b2.bytes
  have HB := hide hbel
  have HW := hide hW
  have HA1 := hide (a1.below hbel)
  have HB1 := hide (b1.below hbel)
  have hc1 := a1.cap.2
  have hc2 := b1.cap.2
  unfold maxLen at hc1 hc2
  have hMb : M ≤ 9223372036854775807 := by omega
  have HML := hide hM
  have HML' := hide hM'
  obtain ⟨x0, x1, x2, x3⟩ := box_cells hx
  obtain ⟨y0, y1, y2, y3⟩ := box_cells hy
  rw [hW] at r1 r2
  clear a1 a2 b1 b2 hbel hx hy hW hr hsx hsy hM hM'
  by_cases h1 : e = e'
  · subst h1
    by_cases h2 : p = p'
    · subst h2
      by_cases h3 : M = M'
      · subst h3
        by_cases h4 : sx = sy
        · have HUE := hide (HEQ.out.1 h4)
          subst h4
          go_enter Tryd.func18, Tryd.ntmps18
          go_wp2
          rw [← HW.out]
          clear r1 r2
          go_loopg [5] M (fun g i wr => ∃ j m : Nat, g + j = M ∧ i = .int .i64 j ∧ (∀ k, k < j → ms.getD k 0 = ms'.getD k 0) ∧ W.drewN m = wr)
          case atStart => exact ⟨0, 0, by omega, rfl, fun k hk => by omega, rfl⟩
          case round =>
            obtain ⟨j, m, hj, rfl, hall, rfl⟩ := hrel
            have HS2 := hide hall
            clear hall
            cases gk with
            | zero =>
              obtain rfl : j = M := by omega
              go_wp2
              go_ret
              refine ⟨ret_bool ?_, belowDN HB.out _⟩
              rw [HS.out, eq_comm, decide_eq_true_iff]
              exact ⟨by simp, by simp, list_ext (by rw [← HML.out, ← HML'.out]) (by rw [← HML.out]; exact HS2.out), HUE.out⟩
            | succ g =>
              have hjl : j < M := by omega
              have hji : (j : Int) < (M : Int) := by omega
              obtain ⟨b, o, rfl, q1⟩ := HA1.out.at j (by rw [← HML.out]; exact hjl)
              obtain ⟨b2, o2, rfl, q2⟩ := HB1.out.at j (by rw [← HML'.out]; exact hjl)
              obtain ⟨x, hx⟩ : ∃ x, ms.getD j 0 = x := ⟨_, rfl⟩
              obtain ⟨y, hy⟩ : ∃ y, ms'.getD j 0 = y := ⟨_, rfl⟩
              rw [hx] at q1
              rw [hy] at q2
              have HX := hide hx
              have HY := hide hy
              clear hx hy
              go_wp2
              by_cases hxy : x = y
              · go_quiet (fail)
                go_wp2
                go_roundg g
                case measure => omega
                case rel => exact ⟨j + 1, m + nq, by omega, by go_num, fun k hk => by
                  by_cases hjk : k = j
                  · subst hjk
                    rw [HX.out, HY.out]; exact hxy
                  · exact HS2.out k (by omega), by simp [World.drewN]⟩
              · go_quiet (fail)
                go_wp2
                go_ret
                refine ⟨ret_bool ?_, belowDN (belowDN HB.out _) _⟩
                rw [HS.out, decide_eq_false (fun e => hxy (by rw [← HX.out, ← HY.out, e.2.2.1]))]
        · have hne' : (sx.toList == sy.toList) = false := by
            rw [Bool.eq_false_iff]; intro hh; exact h4 ((toList_same _ _).1 (by simpa using hh))
          have hne2 : (sx.toList != sy.toList) = true := by rw [bne, hne']; rfl
          go_enter Tryd.func18, Tryd.ntmps18
          go_wp2
          go_ret
          rw [← HW.out]
          refine ⟨ret_bool ?_, HB.out⟩
          rw [HS.out, decide_eq_false (fun e => h4 (HEQ.out.2 e.2.2.2))]
      · have hne : ((M : Int) != (M' : Int)) = true := by simp; omega
        go_enter Tryd.func18, Tryd.ntmps18
        go_wp2
        go_ret
        rw [← HW.out]
        refine ⟨ret_bool ?_, HB.out⟩
        rw [HS.out, decide_eq_false (fun e => h3 (by rw [HML.out, HML'.out, e.2.2.1]))]
    · have hne : (p != p') = true := by simpa using h2
      go_enter Tryd.func18, Tryd.ntmps18
      go_wp2
      go_ret
      rw [← HW.out]
      refine ⟨ret_bool ?_, HB.out⟩
      rw [HS.out]
      simp [h2]
  · have hne : ((e : Int) != (e' : Int)) = true := by simp; omega
    go_enter Tryd.func18, Tryd.ntmps18
    go_wp2
    go_ret
    rw [← HW.out]
    refine ⟨ret_bool ?_, HB.out⟩
    rw [HS.out]
    simp [h1]

end Go.Proofs.YtmeiahmolmneeaaDoor
