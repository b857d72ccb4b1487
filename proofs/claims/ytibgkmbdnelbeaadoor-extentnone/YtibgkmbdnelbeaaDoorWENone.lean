/- The walk of ExtentNone. -/
import Derived.Test.YtibgkmbdnelbeaaDoorENone
namespace Go.Proofs.YtibgkmbdnelbeaaDoor
set_option maxRecDepth 20000
open Go.RowKit
set_option linter.unusedVariables false
set_option maxRecDepth 100000

set_option maxHeartbeats 4000000 in
theorem extentNone_walk (w : World) (p : Int) (hp : (Lit.int .i64 p).wf = true) (hT : TabB w) : Calls Tryd.prog 7 #[.int .i64 p] w fun e w' => e = .returned (.bool true) ∧ Below w.heap.size w w' := by
  have HT := hide hT
  clear hT
  go_enter Tryd.func7, Tryd.ntmps7
  go_wp2
  go_loopg [11] 2 (fun g i wr => ∃ k : Nat, g + k = 2 ∧ i = .int .i64 k ∧ Blk wr (w.heap.size + 1) 23 [.pointer none, dp w.heap.size] ∧ wr.cell? ⟨w.heap.size, 0, none⟩ = some (.int .i64 0) ∧ Below w.heap.size w wr)
  case atStart =>
    refine ⟨0, rfl, rfl, ?_, ?_, ((Below.refl _ w).alloc (Nat.le_refl _) _).alloc (by simp) _⟩
    · have := Blk.new (w.alloc (.cells #[.int .i64 0, .int .u64 0, .int .u64 0, .int .u64 0, .int .u64 0, .int .u64 0, .int .u64 0, .int .u64 0, .int .u64 0, .int .u64 0, .int .u64 0, .int .u64 0, .int .u64 0, .int .u64 0, .int .u64 0, .int .u64 0, .int .u64 0, .int .u64 0, .int .u64 0, .int .u64 0, .int .u64 0, .int .u64 0, .int .u64 0, .int .u64 0, .int .u64 0, .int .u64 0, .int .u64 0, .int .u64 0, .int .u64 0, .int .u64 0, .int .u64 0, .int .u64 0, .int .u64 0] 54)) 23 [.pointer none, dp w.heap.size]
      rw [World.size_alloc] at this
      exact this
    · exact ((Blk.new w 54 [.int .i64 0, .int .u64 0, .int .u64 0, .int .u64 0, .int .u64 0, .int .u64 0, .int .u64 0, .int .u64 0, .int .u64 0, .int .u64 0, .int .u64 0, .int .u64 0, .int .u64 0, .int .u64 0, .int .u64 0, .int .u64 0, .int .u64 0, .int .u64 0, .int .u64 0, .int .u64 0, .int .u64 0, .int .u64 0, .int .u64 0, .int .u64 0, .int .u64 0, .int .u64 0, .int .u64 0, .int .u64 0, .int .u64 0, .int .u64 0, .int .u64 0, .int .u64 0, .int .u64 0]).alloc _).cell 0
  case round =>
    obtain ⟨k, hk, rfl, hB, hz, hb⟩ := hrel
    have HB := hide hB
    have HZ := hide hz
    have HBW := hide hb
    cases gk with
    | zero =>
      obtain rfl : k = 2 := by omega
      have HL := hide (live_any wr (HT.out.below hb))
      have HOF : Hid (∀ W, Calls Tryd.prog 18 #[.int .i64 8, .slice none 0 0] W fun e w' => ∃ b, e = .returned (dp b) ∧ SetB w' b 8 (ofF 8 []) ∧ Below W.heap.size W w') := fun W => by
        refine (of_ok W 8 (by decide) (by decide) _ [] (Is.nil W)).mono ?_
        rintro e w' ⟨rfl, h1, h2⟩
        exact ⟨_, rfl, h1, h2⟩
      have HSM : Hid (∀ W b, SetB W b 8 (ofF 8 []) → Calls Tryd.prog 26 #[dp b, .pointer none] W fun e w' => e = .returned (.bool false) ∧ w' = W) := fun W b h => same_nil W ⟨b, 0, none⟩ true (made_cell W b 8 h.c0)
      clear hB hz hb
      go_wp2_with (first
        | (go_at_call 10; refine HL.out.mono ?_; rintro e w1 ⟨rfl, hb1⟩; have HB1 := hide (below_on HBW.out hb1); clear HL hb1)
        | (go_at_call 18; refine (HOF.out w1).mono ?_; rintro e w2 ⟨b, rfl, hs2, hb2⟩; have HS2 := hide hs2; have HB2 := hide (below_on HB1.out hb2); clear HOF hs2 hb2)
        | (go_at_call 26; refine (HSM.out w2 b HS2.out).mono ?_; rintro e w3 ⟨rfl, hw⟩; subst w3; clear HSM))
      go_ret
      exact ⟨rfl, HB2.out⟩
    | succ g =>
      have hk2 : (k : Int) < 2 := by omega
      obtain ⟨pv, hpv, hU⟩ : ∃ pv, wr.cell? ⟨w.heap.size + 1, k, none⟩ = some (.pointer pv) ∧ UM wr pv := by
        have : k = 0 ∨ k = 1 := by omega
        rcases this with rfl | rfl
        · exact ⟨none, hB.cell 0, .inl rfl⟩
        · exact ⟨some ⟨w.heap.size, 0, none⟩, hB.cell 1, .inr ⟨_, rfl, hz⟩⟩
      have HU := hide hU
      have HRF := hide (runs_of wr pv)
      have HRS := hide (hU.runs 9 (by decide))
      clear hB hz hb hU
      go_wp2_with (first
        | (go_at_call 20; refine HRF.out.mono ?_; rintro e w1 ⟨rfl, hw⟩; subst w1; clear HRF)
        | (go_at_call 19; refine HRS.out.mono ?_; rintro e w1 ⟨ao1, cap1, u1, rfl, hb1⟩; have HB1 := hide hb1; have HU1 := hide (HU.out.below hb1); clear HRS HU hb1)
        | (go_at_call 25; refine HU1.out.size.mono ?_; rintro e w2 ⟨rfl, hw⟩; subst w2)
        | (go_at_call 22; refine HU1.out.len.mono ?_; rintro e w2 ⟨rfl, hw⟩; subst w2)
        | (go_at_call 12; refine (HU1.out.add p).mono ?_; rintro e w2 ⟨rfl, hw⟩; subst w2)
        | (go_at_call 13; refine (HU1.out.drop p).mono ?_; rintro e w2 ⟨rfl, hw⟩; subst w2)
        | (go_at_call 21; refine (HU1.out.has p).mono ?_; rintro e w2 ⟨rfl, hb2⟩; have HB2 := hide (below_on HB1.out hb2); have HU2 := hide (HU1.out.below hb2); clear hb2 HU1)
        | (go_at_call 27; refine (HU2.out.first p).mono ?_; rintro e w3 ⟨rfl, hw⟩; subst w3)
        | (go_at_call 23; refine (HU2.out.run p).mono ?_; rintro e w3 ⟨rfl, hb3⟩; have HB3 := hide (below_on HB2.out hb3); have HU3 := hide (HU2.out.below hb3); clear hb3 HU2)
        | (go_at_call 29; refine (all_any w3 pv).mono ?_; rintro e w4 ⟨rfl, hw⟩; subst w4)
        | (go_at_call 28; refine (HU3.out.pages 9 (by decide)).mono ?_; rintro e w4 ⟨ao4, cap4, rfl, hb4⟩; have HB4 := hide (below_on HB3.out hb4); have HU4 := hide (HU3.out.below hb4); clear hb4 HU3)
        | (go_at_call 24; refine HU4.out.unmade.nt.mono ?_; rintro e w5 ⟨rfl, hw⟩; subst w5)
        | (go_at_call 11; refine HU4.out.unmade.clone.mono ?_; rintro e w5 ⟨rfl, hw⟩; subst w5)
        | (go_at_call 26; refine HU4.out.same.mono ?_; rintro e w5 ⟨rfl, hw⟩; subst w5))
      go_roundg g
      case measure => omega
      case rel => exact ⟨k + 1, by omega, by go_num, HB.out.below HB4.out HB.out.lt, (HB4.out.cell (p := ⟨w.heap.size, 0, none⟩) (World.block_lt_of_cell? _ _ HZ.out)).trans HZ.out, below_on HBW.out HB4.out⟩

end Go.Proofs.YtibgkmbdnelbeaaDoor
