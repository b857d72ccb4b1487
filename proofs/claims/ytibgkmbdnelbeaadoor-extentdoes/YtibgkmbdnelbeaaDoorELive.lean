/- Contracts over a set as a whole: what Runs, All, Run tell; live (incipitlaw07). -/
import Derived.Test.YtibgkmbdnelbeaaDoorEOf
namespace Go.Proofs.YtibgkmbdnelbeaaDoor
set_option maxRecDepth 20000
open Go.RowKit
set_option linter.unusedVariables false
set_option maxRecDepth 100000

theorem TabB.only {w w' : World} (h : TabB w) (ho : Only (fun _ => False) w w') : TabB w' := h.below (ho.below (Nat.le_refl _) (fun _ _ h => h))
theorem setV_of {w : World} {b n : Nat} {f : Nat → Bool} (h : SetB w b n f) (hT : TabB w) (k : Nat) (W' : World) (ho : Only (fun _ => False) (w.alloc (.cells #[dp b] 23)) W') : SetV w.heap.size b n f k W' := by
  have hb1 : Below w.heap.size w (w.alloc (.cells #[dp b] 23)) := (Below.refl _ w).alloc (Nat.le_refl _) _
  exact ⟨(hT.below hb1).only ho, fun _ => ⟨((Blk.new w 23 [dp b]).only ho (fun h => h)).cell 0, (h.below hb1).only ho (fun h => h)⟩⟩
theorem runsF_len (f : Nat → Bool) (n : Nat) : (runsF f n).length ≤ n := by have := rl_len (f := f) (n := n) (n + 1) 0; simpa [runsF] using this
section
variable (w : World) (b n : Nat) (f : Nat → Bool)
theorem runs_set (h : SetB w b n f) (hT : TabB w) (M : Nat) (hM : M ≤ 2000000) :
    Calls Tryd.prog 19 #[.func (.func 40) #[] #[.pointer (some ⟨w.heap.size, 0, none⟩)], .int .i64 M] (w.alloc (.cells #[dp b] 23)) fun e w' => ∃ v u, e = .returned (.tuple #[v, u]) ∧ Ints w' w.heap.size v (r1 ((runsF f n).take M)) ∧ Ints w' w.heap.size u (r2 ((runsF f n).take M)) ∧ Below w.heap.size w w' := by
  have hl := runsF_len f n
  have hn := h.hi
  refine (runs_any _ _ _ (runsF f n) _ enters_runs (runs_iter w.heap.size b n f) (setV_of h hT) (by omega) M hM).mono ?_
  rintro e w' ⟨v, u, rfl, h1, h2, h3⟩
  exact ⟨v, u, rfl, h1.base (by simp), h2.base (by simp), after_alloc h3⟩
theorem pages_set (h : SetB w b n f) (hT : TabB w) (M : Nat) (hM : M ≤ 2000000) :
    Calls Tryd.prog 28 #[.func (.func 45) #[] #[.pointer (some ⟨w.heap.size, 0, none⟩)], .int .i64 M] (w.alloc (.cells #[dp b] 23)) fun e w' => ∃ v, e = .returned v ∧ Ints w' w.heap.size v (ci ((pagesF f n).take M)) ∧ Below w.heap.size w w' := by
  have hl := cntF_le f n
  have hn := h.hi
  refine (pages_any _ _ _ (pagesF f n) _ enters_all (all_iter w.heap.size b n f) (setV_of h hT) (by rw [pagesF_len]; omega) M hM).mono ?_
  rintro e w' ⟨v, rfl, h1, h3⟩
  exact ⟨v, rfl, h1.base (by simp), after_alloc h3⟩
theorem run_set (h : SetB w b n f) (hT : TabB w) (K : Int) :
    Calls Tryd.prog 23 #[dp b, .int .i64 K] w fun e w' => e = .returned (.int .i64 (runR (runsF f n) K)) ∧ Below w.heap.size w w' :=
  run_any w (some ⟨b, 0, none⟩) (runsF f n) (fun Bs => SetV Bs b n f) (fun Bs => runs_iter Bs b n f) (fun Bs k W' hb hc => ⟨hT.below hb, fun _ => ⟨hc, h.below hb⟩⟩) K
end

theorem below_on {w a b : World} (h : Below w.heap.size w a) (k : Below a.heap.size a b) : Below w.heap.size w b := h.trans (k.mono h.size)
theorem live_f : runsF (ofF 8 [5, 1, 2]) 8 = [(1, 2), (5, 1)] := by decide +kernel
theorem live_c : cntF (ofF 8 [5, 1, 2]) 8 = 3 := by decide +kernel


set_option maxHeartbeats 2000000 in
theorem live_any (w : World) (hT : TabB w) : Calls Tryd.prog 10 #[] w fun e w' => e = .returned (.bool true) ∧ Below w.heap.size w w' := by
  have hb0 : Below w.heap.size w (w.alloc (.cells #[.int .i64 5, .int .i64 1, .int .i64 2] 3)) := (Below.refl _ w).alloc (Nat.le_refl _) _
  have HOF : Hid (Calls Tryd.prog 18 #[.int .i64 8, .slice (some ⟨w.heap.size, 0, none⟩) 3 3] (w.alloc (.cells #[.int .i64 5, .int .i64 1, .int .i64 2] 3)) fun e w' => ∃ b, e = .returned (dp b) ∧ SetB w' b 8 (ofF 8 [5, 1, 2]) ∧ Below w.heap.size w w') := by
    refine (of_ok _ 8 (by decide) (by decide) _ [5, 1, 2] (is_of_own (ints_lit w [5, 1, 2] (by simp [maxLen])))).mono ?_
    rintro e w' ⟨rfl, h1, h2⟩
    exact ⟨_, rfl, h1, after_alloc h2⟩
  have HRF := hide (fun (W : World) (b : Nat) => runs_of W (some ⟨b, 0, none⟩))
  have HRS : Hid (∀ W b, SetB W b 8 (ofF 8 [5, 1, 2]) → TabB W → Calls Tryd.prog 19 #[.func (.func 40) #[] #[.pointer (some ⟨W.heap.size, 0, none⟩)], .int .i64 9] (W.alloc (.cells #[dp b] 23)) fun e w' => ∃ v u, e = .returned (.tuple #[v, u]) ∧ Ints w' W.heap.size v [1, 5] ∧ Ints w' W.heap.size u [2, 1] ∧ Below W.heap.size W w') := fun W b h hT => by
    have := runs_set W b 8 _ h hT 9 (by decide)
    rw [live_f] at this
    exact this
  have HLE : Hid (∀ W b, SetB W b 8 (ofF 8 [5, 1, 2]) → Calls Tryd.prog 22 #[dp b] W fun e w' => e = .returned (.int .i64 3) ∧ w' = W) := fun W b h => by
    have := len_any W b 8 _ h
    rw [live_c] at this
    exact this
  have HRU : Hid (∀ W b, SetB W b 8 (ofF 8 [5, 1, 2]) → TabB W → ∀ K : Int, Calls Tryd.prog 23 #[dp b, .int .i64 K] W fun e w' => e = .returned (.int .i64 (runR [(1, 2), (5, 1)] K)) ∧ Below W.heap.size W w') := fun W b h hT K => by
    have := run_set W b 8 _ h hT K
    rw [live_f] at this
    exact this
  have HRV := hide HRU.out
  have HT := hide hT
  clear hT hb0
  go_enter Tryd.func10, Tryd.ntmps10
  go_wp2_with (first
    | (go_at_call 18; refine HOF.out.mono ?_; rintro e w1 ⟨b, rfl, hs1, hb1⟩; have HS1 := hide hs1; have HB1 := hide hb1; clear HOF hs1 hb1)
    | (go_at_call 20; refine (HRF.out w1 b).mono ?_; rintro e w2 ⟨rfl, hw⟩; subst w2; clear HRF)
    | (go_at_call 19; refine (HRS.out w1 b HS1.out (HT.out.below HB1.out)).mono ?_; rintro e w2 ⟨v, u, rfl, hi2, hj2, hb2⟩; have HI2 := hide hi2; have HJ2 := hide hj2; have HS2 := hide (HS1.out.below hb2); have HB2 := hide (below_on HB1.out hb2); clear HRS hi2 hj2 hb2)
    | (go_at_call 22; refine (HLE.out w2 b HS2.out).mono ?_; rintro e w3 ⟨rfl, hw⟩; subst w3; clear HLE)
    | (go_at_call 23; refine (HRU.out w2 b HS2.out (HT.out.below HB2.out) 2).mono ?_; rw [show runR [(1, 2), (5, 1)] 2 = 1 from rfl]; rintro e w3 ⟨rfl, hb3⟩; have HI3 := hide (HI2.out.below hb3); have HJ3 := hide (HJ2.out.below hb3); have HS3 := hide (HS2.out.below hb3); have HB3 := hide (below_on HB2.out hb3); clear hb3 HRU)
    | (go_at_call 23; refine (HRV.out w3 b HS3.out (HT.out.below HB3.out) 3).mono ?_; rw [show runR [(1, 2), (5, 1)] 3 = -1 from rfl]; rintro e w4 ⟨rfl, hb4⟩; have HI4 := hide (HI3.out.below hb4); have HJ4 := hide (HJ3.out.below hb4); have HB4 := hide (below_on HB3.out hb4); clear hb4)
    | (go_at_call_of 30 v; refine (refInts_any _ _ _ v _ [1, 5] [1, 5] (HI4.out.below ((Below.refl _ w4).alloc (Nat.le_refl _) _)) (ints_lit w4 [1, 5] (by simp [maxLen]))).mono ?_; rw [decide_eq_true rfl]; rintro e w5 ⟨rfl, hb5⟩; have hb5 := after_alloc hb5; have HJ5 := hide (HJ4.out.below hb5); have HB5 := hide (below_on HB4.out hb5); clear hb5)
    | (go_at_call_of 30 u; refine (refInts_any _ _ _ u _ [2, 1] [2, 1] (HJ5.out.below ((Below.refl _ w5).alloc (Nat.le_refl _) _)) (ints_lit w5 [2, 1] (by simp [maxLen]))).mono ?_; rw [decide_eq_true rfl]; rintro e w6 ⟨rfl, hb6⟩; have hb6 := after_alloc hb6; have HB6 := hide (below_on HB5.out hb6); clear hb6))
  go_ret
  exact ⟨rfl, HB6.out⟩

end Go.Proofs.YtibgkmbdnelbeaaDoor
