/- The walk of the statement HeadChooses. -/
import Derived.Test.YtmeiahmolmneeaaDoorHRefChoose
import Derived.Test.YtmeiahmolmneeaaDoorHRefSame
import Derived.Test.YtmeiahmolmneeaaDoorHShort
namespace Go.Proofs.YtmeiahmolmneeaaDoor
set_option maxRecDepth 20000
open Go.RowKit
set_option linter.unusedVariables false

set_option maxHeartbeats 4000000 in
theorem headChooses_walk (w : World) (pages : Int) (v : Value) (vs : List Value) (pss : List (List Int)) (hpg : (Lit.int .i64 pages).wf = true) (h : Parts w v vs pss) (hT : Tab w) :
    Calls Tryd.prog 5 #[.int .i64 pages, v] w fun e w' => e = .returned (.bool true) ∧ Below w.heap.size w w' := by
  have HL : Hid (∀ w1, Below w.heap.size w w1 → Calls Tryd.prog 9 #[] w1 fun e w2 => e = .returned (.bool true) ∧ Below w.heap.size w w2) := fun w1 hb => by
    refine (liveH_any w1 (hT.below hb)).mono ?_
    rintro e w2 ⟨rfl, hb2⟩
    exact ⟨rfl, hb.trans (hb2.mono hb.size)⟩
  have HB0 : Hid (Below w.heap.size w w) := Below.refl _ w
  have HP := hide h
  obtain ⟨-, ao, cap, rfl, h1, h2, -, -⟩ := h
  unfold maxLen at h2
  by_cases hn : (8 : Int) < (vs.length : Int)
  · clear hT HP
    go_enter Tryd.func5, Tryd.ntmps5
    go_wp2_with (first
      | (go_at_call 9; refine (HL.out _ HB0.out).mono ?_; rintro e1 w1 ⟨rfl, b1⟩; have HB1 := hide b1; clear HB0 b1)
      | (go_at_call 9; refine (HL.out _ HB1.out).mono ?_; rintro e1 w2 ⟨rfl, b2⟩; clear HB1))
    go_ret
    exact ⟨rfl, b2⟩
  · have hn8 : (vs.length : Int) ≤ 8 := by omega
    have HCO := hide (fun w1 (hb : Below w.heap.size w w1) => choose_any w1 pages _ vs pss (HP.out.below hb) (hT.below hb))
    have HRC := hide (fun w1 (hb : Below w.heap.size w w1) => refChooseH_any w1 pages _ vs pss (HP.out.below hb))
    unfold GivesC at HCO HRC
    obtain ⟨C, hC⟩ : ∃ C, C = chooseS pages pss := ⟨_, rfl⟩
    rw [← hC] at HCO HRC
    obtain ⟨⟨ge, gp, gms, gus⟩, at0, er⟩ := C
    simp only at HCO HRC
    have HSA : Hid (∀ wx va vb, HdV wx va ⟨ge, gp, gms, gus⟩ → HdV wx vb ⟨ge, gp, gms, gus⟩ → Calls Tryd.prog 18 #[va, vb] wx fun r w' => r = .returned (.bool true) ∧ Below wx.heap.size wx w') := by
      intro wx va vb h1 h2
      have := refSameH_any wx va vb _ _ h1 h2
      rwa [sameH_self] at this
    have hza := zeroHeadRun
    clear hT hC
    go_enter Tryd.func5, Tryd.ntmps5
    go_wp2_with (go_at_call 9; refine (HL.out _ HB0.out).mono ?_; rintro e' w1 ⟨rfl, b1⟩; have HB1 := hide b1; clear HB0 b1 HL)
    go_loopg [23] vs.length (fun gl i wr => ∃ j : Nat, gl + j = vs.length ∧ i = .int .i64 j ∧ wr = w1)
    case atStart => exact ⟨0, by omega, rfl, rfl⟩
    case round =>
      obtain ⟨j, hj, rfl, hwr⟩ := hrel
      subst wr
      cases gk with
      | zero =>
        obtain rfl : j = vs.length := by omega
        have HC1 := hide (HCO.out w1 HB1.out)
        clear HCO hn hn8
        go_wp2_with (first
          | (go_at_call 25; refine HC1.out.mono ?_; rintro e' w3 ⟨ma, mc, ua, uc, rfl, V3, hb3⟩; have b3 := HB1.out.trans ((hb3.alloc hb3.size (.cells #[.int .u64 ge, .int .i64 gp, .slice ma gms.length mc, .slice ua gus.length uc] 26)).mono HB1.out.size); have HQ3 := hide (Blk.new w3 26 [.int .u64 ge, .int .i64 gp, .slice ma gms.length mc, .slice ua gus.length uc]); have HV3 := hide (V3.alloc (.cells #[.int .u64 ge, .int .i64 gp, .slice ma gms.length mc, .slice ua gus.length uc] 26)); have HR3 := hide (HRC.out _ b3); have HB3 := hide b3; unfold hdV; clear HC1 HRC V3 hb3 b3 HB1)
          | (go_at_call 26; refine HR3.out.mono ?_; rintro e' w5 ⟨ma5, mc5, ua5, uc5, rfl, V5, hb5⟩; have b5 := hb5.alloc hb5.size (.cells #[.int .u64 ge, .int .i64 gp, .slice ma5 gms.length mc5, .slice ua5 gus.length uc5] 26); have q5 := Blk.new w5 26 [.int .u64 ge, .int .i64 gp, .slice ma5 gms.length mc5, .slice ua5 gus.length uc5]; have v5 := V5.alloc (.cells #[.int .u64 ge, .int .i64 gp, .slice ma5 gms.length mc5, .slice ua5 gus.length uc5] 26); have HS5 := hide (HSA.out _ _ _ (HV3.out.below b5).val v5.val); obtain ⟨c0, c1, c2, c3⟩ := box_cells (HQ3.out.below b5 HQ3.out.lt); obtain ⟨d0, d1, d2, d3⟩ := box_cells q5; have HB5 := hide (HB3.out.trans (b5.mono HB3.out.size)); unfold hdV at HS5 ⊢; clear HR3 HSA V5 hb5 b5 q5 v5 HQ3 HV3 HB3)
          | (go_at_call 18; refine HS5.out.mono ?_; rintro e' w6 ⟨rfl, hb6⟩; clear c0 c1 c2 c3 d0 d1 d2 d3; have HB6 := hide (HB5.out.trans (hb6.mono HB5.out.size)); clear HS5 HB5 hb6))
        go_ret
        exact ⟨rfl, HB6.out⟩
      | succ gl =>
        have hjv : j < vs.length := by omega
        have hji : (j : Int) < (vs.length : Int) := by omega
        obtain ⟨b, off, rfl, cj, sj⟩ := (HP.out.below HB1.out).at j hjv
        obtain ⟨uj, huj⟩ : ∃ u, u = vs.getD j (.slice none 0 0) := ⟨_, rfl⟩
        rw [← huj] at cj sj
        obtain ⟨ja, jn, jc, rfl⟩ := sl_form sj
        clear huj sj
        by_cases hbig : (3000 : Int) < (jn : Int)
        · go_wp2
          go_ret
          exact ⟨rfl, HB1.out⟩
        · have hbig' : decide ((3000 : Int) < (jn : Int)) = false := decide_eq_false hbig
          go_wp2
          go_roundg gl
          case measure => omega
          case rel => exact ⟨j + 1, by omega, by go_num, rfl⟩

end Go.Proofs.YtmeiahmolmneeaaDoor
