/- Contract: which heads may be, by the document's answer (incipitref06.Need, incipitref06.Check); its Page. -/
import Derived.Test.YtmeiahmolmneeaaDoorHSame
namespace Go.Proofs.YtmeiahmolmneeaaDoor
set_option maxRecDepth 20000
open Go.RowKit
set_option linter.unusedVariables false

theorem need_any (w : World) (p : Int) : Calls Tryd.prog 36 #[.int .i64 p] w fun r w' => r = .returned (.int .i64 (needS p : Int)) ∧ w' = w := by
  unfold needS
  by_cases h : 1024 < p
  · rw [if_pos h]
    go_enter Tryd.func36, Tryd.ntmps36
    go_wp2
    go_ret
    exact ⟨rfl, rfl⟩
  · rw [if_neg h]
    go_enter Tryd.func36, Tryd.ntmps36
    go_wp2
    go_ret
    exact ⟨rfl, rfl⟩

theorem refPageH_any (w : World) (e : Nat) : Calls Tryd.prog 21 #[.int .u64 e] w fun r w' => r = .returned (.int .i64 (e % 2 : Nat)) ∧ w' = w := by
  go_enter Tryd.func21, Tryd.ntmps21
  go_wp2
  go_ret
  exact ⟨ret_int (by omega), rfl⟩

theorem hcheckS_no {p : Int} {ms : List Int} {n : Nat} (h : ¬ ((8 ≤ p ∧ p ≤ 2048) ∧ mapsB p ms = true ∧ n ≤ 32)) : hcheckS p ms n = 60 := by
  unfold hcheckS
  rw [if_neg (fun hh => h (mayB_iff.1 hh))]

set_option maxHeartbeats 4000000 in
theorem refCheckH_any (w : World) (e : Nat) (p : Int) (ma ua : Option Addr) (mc un uc : Nat) (ms : List Int) (hm : Is w (.slice ma ms.length mc) ms) :
    Calls Tryd.prog 16 #[.agg #[.int .u64 e, .int .i64 p, .slice ma ms.length mc, .slice ua un uc]] w fun r w' => r = .returned (.int .i64 (hcheckS p ms un)) ∧ Below w.heap.size w w' := by
  have hcap := hm.cap.2
  unfold maxLen at hcap
  have HNO := hide (hcheckS_no (p := p) (ms := ms) (n := un))
  have HYE : Hid (mayB p ms un = true → hcheckS p ms un = 0) := hcheckS_zero.2
  have HMI := hide (mayB_iff (p := p) (ms := ms) (n := un))
  have HBI := hide (mapsB_iff (p := p) (ms := ms))
  have HND := hide (fun wx => need_any wx p)
  have hN2 : needS p ≤ 2 := by unfold needS; split <;> omega
  obtain ⟨ND, hND⟩ : ∃ n, n = needS p := ⟨_, rfl⟩
  rw [← hND] at HND HBI hN2
  obtain ⟨M, hM⟩ : ∃ M, M = ms.length := ⟨_, rfl⟩
  rw [← hM] at hm hcap HBI ⊢
  obtain ⟨R, hR⟩ : ∃ R, R = hcheckS p ms un := ⟨_, rfl⟩
  rw [← hR] at HNO HYE ⊢
  obtain ⟨W, hW⟩ : ∃ W, W = w.alloc (.cells #[.int .u64 e, .int .i64 p, .slice ma M mc, .slice ua un uc] 26) := ⟨_, rfl⟩
  have hbx : Blk W w.heap.size 26 [.int .u64 e, .int .i64 p, .slice ma M mc, .slice ua un uc] := by rw [hW]; exact Blk.new w _ _
  have HB : Hid (Below w.heap.size w W) := by show Below _ _ _; rw [hW]; exact (Below.refl _ w).alloc (Nat.le_refl _) _
  have HM := hide (hm.below HB.out)
  obtain ⟨c0, c1, c2, c3⟩ := box_cells hbx
  have HW := hide hW
  have HMM := hide hM
  clear hm hbx hW hM hND hR
  by_cases h1 : p < 8
  · have hd : decide (p < 8) = true := decide_eq_true h1
    have HR0 := hide (HNO.out (by omega))
    go_enter Tryd.func16, Tryd.ntmps16
    go_wp2
    rw [← HW.out]
    go_quiet (fail)
    go_wp2
    go_ret
    exact ⟨ret_int HR0.out.symm, belowDN HB.out _⟩
  · have d1 : decide (p < 8) = false := decide_eq_false h1
    by_cases h2 : 2048 < p
    · have hd : decide (2048 < p) = true := decide_eq_true h2
      have HR0 := hide (HNO.out (by omega))
      go_enter Tryd.func16, Tryd.ntmps16
      go_wp2
      rw [← HW.out]
      go_quiet (fail)
      go_wp2
      go_ret
      exact ⟨ret_int HR0.out.symm, belowDN HB.out _⟩
    · have d2 : decide (2048 < p) = false := decide_eq_false h2
      by_cases h3 : M = ND
      · have hne : ((M : Int) != (ND : Int)) = false := by rw [h3]; simp
        by_cases h4 : 32 < un
        · have hd : decide ((32 : Int) < (un : Int)) = true := decide_eq_true (by omega)
          have HR0 := hide (HNO.out (by omega))
          have H3 := hide h3
          clear h3
          go_enter Tryd.func16, Tryd.ntmps16
          go_wp2
          rw [← HW.out]
          go_quiet (first | (go_at_call 36; exact Calls.quiet_of_same (HND.out _)))
          go_wp2
          go_ret
          exact ⟨ret_int HR0.out.symm, belowDN HB.out _⟩
        · have d4 : decide ((32 : Int) < (un : Int)) = false := decide_eq_false (by omega)
          have H3 := hide h3
          clear h3
          go_enter Tryd.func16, Tryd.ntmps16
          go_wp2
          rw [← HW.out]
          go_quiet (first | (go_at_call 36; exact Calls.quiet_of_same (HND.out _)))
          go_wp2
          go_loopg [3] M (fun g i wr => ∃ j m : Nat, g + j = M ∧ i = .int .i64 j ∧ (∀ i, i < j → 2 ≤ ms.getD i 0 ∧ ms.getD i 0 < p ∧ ∀ k, k < i → ms.getD k 0 ≠ ms.getD i 0) ∧ W.drewN m = wr)
          case atStart => exact ⟨0, _, by omega, rfl, fun i hi => by omega, rfl⟩
          case round =>
            obtain ⟨j, m, hj, rfl, hall, rfl⟩ := hrel
            have HA := hide hall
            clear hall
            cases gk with
            | zero =>
              obtain rfl : j = M := by omega
              have HR0 := hide (HYE.out (HMI.out.2 ⟨by omega, HBI.out.2 ⟨H3.out, HA.out⟩, by omega⟩))
              go_wp2
              go_ret
              exact ⟨ret_int HR0.out.symm, belowDN HB.out _⟩
            | succ g =>
              have hjl : j < M := by omega
              have hM2 : M ≤ 2 := by have := H3.out; omega
              have hji : (j : Int) < (M : Int) := by omega
              rcases (by omega : j = 0 ∨ j = 1) with rfl | rfl
              · obtain ⟨b, off, rfl, cj⟩ := HM.out.at 0 (by rw [← HMM.out]; exact hjl)
                rw [Nat.add_zero] at cj
                obtain ⟨x, hx⟩ : ∃ x, ms.getD 0 0 = x := ⟨_, rfl⟩
                rw [hx] at cj
                have HX := hide hx
                clear hx
                by_cases g1 : x < 2
                · have gd1 : decide (x < 2) = true := decide_eq_true g1
                  have HR0 := hide (HNO.out (fun hh => by have := ((HBI.out.1 hh.2.1).2 0 hjl).1; rw [HX.out] at this; omega))
                  go_wp2
                  go_quiet (fail)
                  go_wp2
                  go_ret
                  exact ⟨ret_int HR0.out.symm, belowDN (belowDN HB.out _) _⟩
                · have gd1 : decide (x < 2) = false := decide_eq_false g1
                  by_cases g2 : p ≤ x
                  · have gd2 : decide (p ≤ x) = true := decide_eq_true g2
                    have HR0 := hide (HNO.out (fun hh => by have := ((HBI.out.1 hh.2.1).2 0 hjl).2.1; rw [HX.out] at this; omega))
                    go_wp2
                    go_quiet (fail)
                    go_wp2
                    go_ret
                    exact ⟨ret_int HR0.out.symm, belowDN (belowDN HB.out _) _⟩
                  · have gd2 : decide (p ≤ x) = false := decide_eq_false g2
                    go_wp2
                    go_quiet (fail)
                    go_wp2
                    go_roundg g
                    case measure => omega
                    case rel => exact ⟨1, m + nq, by omega, rfl, fun i hi => by
                      obtain rfl : i = 0 := by omega
                      rw [HX.out]
                      exact ⟨by omega, by omega, fun k hk => by omega⟩, by simp [World.drewN]⟩
              · obtain ⟨b, off, rfl, cj⟩ := HM.out.at 1 (by rw [← HMM.out]; exact hjl)
                have c00 : W.cell? ⟨b, off + 0, none⟩ = some (.int .i64 (ms.getD 0 0)) := by
                  obtain ⟨b', off', he, hc⟩ := HM.out.at 0 (by rw [← HMM.out]; omega)
                  simp only [Option.some.injEq, Addr.mk.injEq, and_true] at he
                  obtain ⟨rfl, rfl⟩ := he
                  exact hc
                rw [Nat.add_zero] at c00
                obtain ⟨y, hy⟩ : ∃ y, ms.getD 0 0 = y := ⟨_, rfl⟩
                rw [hy] at c00
                have HY := hide hy
                clear hy
                obtain ⟨x, hx⟩ : ∃ x, ms.getD 1 0 = x := ⟨_, rfl⟩
                rw [hx] at cj
                have HX := hide hx
                clear hx
                by_cases g1 : x < 2
                · have gd1 : decide (x < 2) = true := decide_eq_true g1
                  have HR0 := hide (HNO.out (fun hh => by have := ((HBI.out.1 hh.2.1).2 1 hjl).1; rw [HX.out] at this; omega))
                  go_wp2
                  go_quiet (fail)
                  go_wp2
                  go_ret
                  exact ⟨ret_int HR0.out.symm, belowDN (belowDN HB.out _) _⟩
                · have gd1 : decide (x < 2) = false := decide_eq_false g1
                  by_cases g2 : p ≤ x
                  · have gd2 : decide (p ≤ x) = true := decide_eq_true g2
                    have HR0 := hide (HNO.out (fun hh => by have := ((HBI.out.1 hh.2.1).2 1 hjl).2.1; rw [HX.out] at this; omega))
                    go_wp2
                    go_quiet (fail)
                    go_wp2
                    go_ret
                    exact ⟨ret_int HR0.out.symm, belowDN (belowDN HB.out _) _⟩
                  · have gd2 : decide (p ≤ x) = false := decide_eq_false g2
                    by_cases g3 : x = y
                    · have gd3 : (x == y) = true := by simpa using g3
                      have HR0 := hide (HNO.out (fun hh => ((HBI.out.1 hh.2.1).2 1 hjl).2.2 0 (by omega) (by rw [HX.out, HY.out]; exact g3.symm)))
                      have G3 := hide g3
                      clear g3
                      go_wp2
                      go_quiet (fail)
                      go_wp2
                      go_ret
                      exact ⟨ret_int HR0.out.symm, belowDN (belowDN HB.out _) _⟩
                    · have gd3 : (x == y) = false := by simpa using g3
                      go_wp2
                      go_quiet (fail)
                      go_wp2
                      go_roundg g
                      case measure => omega
                      case rel => exact ⟨2, m + nq, by omega, rfl, fun i hi => by
                        rcases (by omega : i = 0 ∨ i = 1) with rfl | rfl
                        · exact HA.out 0 (by omega)
                        · rw [HX.out]
                          exact ⟨by omega, by omega, fun k hk => by
                    have hk0 : k = 0 := by omega
                    subst hk0
                    rw [HY.out]
                    exact fun h => g3 h.symm⟩, by simp [World.drewN]⟩
      · have hne : ((M : Int) != (ND : Int)) = true := by simp; omega
        have HR0 := hide (HNO.out (fun hh => h3 (HBI.out.1 hh.2.1).1))
        go_enter Tryd.func16, Tryd.ntmps16
        go_wp2
        rw [← HW.out]
        go_quiet (first | (go_at_call 36; exact Calls.quiet_of_same (HND.out _)))
        go_wp2
        go_ret
        exact ⟨ret_int HR0.out.symm, belowDN HB.out _⟩

end Go.Proofs.YtmeiahmolmneeaaDoor
