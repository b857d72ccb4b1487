/- The walk of the statement PackCompares. -/
import Derived.Test.YtbopcppagfhjnaaRefAfter
import Derived.Test.YtbopcppagfhjnaaPre
import Derived.Test.YtbopcppagfhjnaaLive
namespace Go.Proofs.Ytbopcppagfhjnaa
open Go.RowKit

set_option maxHeartbeats 1000000 in
theorem packCompares_walk (w : World) (va vb : Value) (xs ys : List Int) (ha : Sl w va xs) (hb : Sl w vb ys) :
    Calls Try.prog 5 #[va, vb] w fun e w' => e = .returned (.bool true) ∧ Below w.heap.size w w' := by
  have HA := hide ha
  have HB := hide hb
  obtain ⟨_, aoa, capa, rfl, _⟩ := ha
  obtain ⟨_, aob, capb, rfl, _⟩ := hb
  by_cases big : 2000 < xs.length ∨ 2000 < ys.length
  · by_cases b1 : 2000 < xs.length
    · have i1 : (2000 : Int) < (xs.length : Int) := by omega
      go_enter Try.func5, Try.ntmps5
      go_wp2_with (first
        | (go_at_call 9; refine (live_any w).mono ?_; rintro e w1 ⟨rfl, hb1⟩)
        | (go_at_call 9; refine (live_any w1).mono ?_; rintro e w2 ⟨rfl, hb2⟩))
      go_ret
      exact ⟨rfl, below_then hb1 hb2 (Nat.le_refl _)⟩
    · have i1 : decide ((2000 : Int) < (xs.length : Int)) = false := decide_eq_false (by omega)
      have i2 : (2000 : Int) < (ys.length : Int) := by omega
      go_enter Try.func5, Try.ntmps5
      go_wp2_with (first
        | (go_at_call 9; refine (live_any w).mono ?_; rintro e w1 ⟨rfl, hb1⟩)
        | (go_at_call 9; refine (live_any w1).mono ?_; rintro e w2 ⟨rfl, hb2⟩))
      go_ret
      exact ⟨rfl, below_then hb1 hb2 (Nat.le_refl _)⟩
  · have i1 : decide ((2000 : Int) < (xs.length : Int)) = false := decide_eq_false (by omega)
    have i2 : decide ((2000 : Int) < (ys.length : Int)) = false := decide_eq_false (by omega)
    have hc0 := cmp_self xs
    by_cases h0 : stripped xs = 0
    · go_enter Try.func5, Try.ntmps5
      go_wp2_with (first
        | (go_at_call 9; refine (live_any w).mono ?_; rintro e w1 ⟨rfl, hb1⟩)
        | (go_at_call 28; refine (packAfter_no w1 _ xs (HA.out.below hb1) h0).mono ?_; rintro e w2 ⟨rfl, hw⟩; subst w2)
        | (go_at_call 29; refine (refAfter_no w1 _ xs (HA.out.below hb1) h0).mono ?_; rintro e w2 ⟨rfl, hw⟩; subst w2; have HA1 := HA.out.below hb1; have HB1 := HB.out.below hb1)
        | (go_at_call 30; refine (packCompare_any w1 _ _ xs ys HA1 HB1).mono ?_; rintro e w2 ⟨rfl, hw⟩; subst w2)
        | (go_at_call 31; refine (refCompare_any w1 _ _ xs ys HA1 HB1).mono ?_; rintro e w3 ⟨rfl, hb3⟩; have HA3 := HA1.below hb3; have HB3 := HB1.below hb3)
        | (go_at_call 30; refine (packCompare_any w3 _ _ xs xs HA3 HA3).mono ?_; rintro e w2 ⟨rfl, hw⟩; subst w2)
        | (go_at_call 32; refine (packPrefix_any w3 _ _ xs ys HA3 HB3).mono ?_; rintro e w4 ⟨rfl, hb4⟩; have HA4 := HA3.below hb4; have HB4 := HB3.below hb4)
        | (go_at_call 33; refine (refPrefix_any w4 _ _ xs ys HA4 HB4).mono ?_; rintro e w5 ⟨rfl, hb5⟩)
        | (go_at_call 17; refine (refSame_any w5 _ _ [] [] (Sl.nil _) (Sl.nil _)).mono ?_; rintro e w6 ⟨rfl, hb6⟩))
      go_ret
      exact ⟨rfl, below_then (below_then (below_then (below_then hb1 hb3 (Nat.le_refl _)) hb4 (Nat.le_refl _)) hb5 (Nat.le_refl _)) hb6 (Nat.le_refl _)⟩
    · have HAK := hide (afterB_ok xs HA.out.bytes (by omega))
      go_enter Try.func5, Try.ntmps5
      go_wp2_with (first
        | (go_at_call 9; refine (live_any w).mono ?_; rintro e w0 ⟨rfl, hb0⟩)
        | (go_at_call 28; refine (packAfter_yes w0 _ xs (HA.out.below hb0) (by omega) (by omega)).mono ?_; rintro e w9 ⟨u1, rfl, ho1, hb9⟩; have hs1 := sl_of_own_len ho1 HAK.out; clear ho1; have HB9 := below_then hb0 hb9 (Nat.le_refl _); clear hb9 hb0)
        | (go_at_call 29; refine (refAfter_yes w9 _ xs (HA.out.below HB9) (by omega) (by omega)).mono ?_; rintro e w1 ⟨u2, rfl, ho2, hb2⟩; have hs2 := sl_of_own_len ho2 HAK.out; clear ho2; have hs1' := hs1.below hb2; have hb1 := below_then HB9 hb2 (Nat.le_refl _); clear hs1 HB9 hb2; have HA1 := HA.out.below hb1; have HB1 := HB.out.below hb1)
        | (go_at_call 30; refine (packCompare_any w1 _ _ xs ys HA1 HB1).mono ?_; rintro e w2 ⟨rfl, hw⟩; subst w2)
        | (go_at_call 31; refine (refCompare_any w1 _ _ xs ys HA1 HB1).mono ?_; rintro e w3 ⟨rfl, hb3⟩; have HA3 := HA1.below hb3; have HB3 := HB1.below hb3)
        | (go_at_call 30; refine (packCompare_any w3 _ _ xs xs HA3 HA3).mono ?_; rintro e w2 ⟨rfl, hw⟩; subst w2)
        | (go_at_call 32; refine (packPrefix_any w3 _ _ xs ys HA3 HB3).mono ?_; rintro e w4 ⟨rfl, hb4⟩; have HA4 := HA3.below hb4; have HB4 := HB3.below hb4)
        | (go_at_call 33; refine (refPrefix_any w4 _ _ xs ys HA4 HB4).mono ?_; rintro e w5 ⟨rfl, hb5⟩)
        | (go_at_call 17; refine (refSame_any w5 _ _ (afterB xs) (afterB xs) (((hs1'.below hb3).below hb4).below hb5) (((hs2.below hb3).below hb4).below hb5)).mono ?_; rintro e w6 ⟨rfl, hb6⟩))
      go_ret
      exact ⟨rfl, below_then (below_then (below_then (below_then hb1 hb3 (Nat.le_refl _)) hb4 (Nat.le_refl _)) hb5 (Nat.le_refl _)) hb6 (Nat.le_refl _)⟩

end Go.Proofs.Ytbopcppagfhjnaa
