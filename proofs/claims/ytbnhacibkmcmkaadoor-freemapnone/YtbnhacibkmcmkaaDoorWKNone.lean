/- The walk of FreemapNone. -/
import Derived.Test.YtbnhacibkmcmkaaDoorKNone
namespace Go.Proofs.YtbnhacibkmcmkaaDoor
set_option maxRecDepth 20000
open Go.RowKit
set_option linter.unusedVariables false
set_option maxRecDepth 100000

set_option maxHeartbeats 4000000 in
theorem freemapNone_walk (w : World) (p : Int) (hp : (Lit.int .i64 p).wf = true) (hT : TabB w) : Calls Tryd.prog 8 #[.int .i64 p] w fun e w' => e = .returned (.bool true) ∧ Below w.heap.size w w' := by
  have HT := hide hT
  clear hT
  go_enter Tryd.func8, Tryd.ntmps8
  go_wp2
  go_loopg [13] 2 (fun g i wr => ∃ k : Nat, g + k = 2 ∧ i = .int .i64 k ∧ Blk wr (w.heap.size + 1) 37 [.pointer none, dp w.heap.size] ∧ wr.cell? ⟨w.heap.size, 0, none⟩ = some (.pointer none) ∧ Below w.heap.size w wr)
  case atStart =>
    refine ⟨0, rfl, rfl, ?_, ?_, ((Below.refl _ w).alloc (Nat.le_refl _) _).alloc (by simp) _⟩
    · have := Blk.new (w.alloc (.cells #[.pointer none, .pointer none] 66)) 37 [.pointer none, dp w.heap.size]
      rw [World.size_alloc] at this
      exact this
    · exact ((Blk.new w 66 [.pointer none, .pointer none]).alloc _).cell 0
  case round =>
    obtain ⟨k, hk, rfl, hB, hz, hb⟩ := hrel
    have HB := hide hB
    have HZ := hide hz
    have HBW := hide hb
    cases gk with
    | zero =>
      obtain rfl : k = 2 := by omega
      have HL := hide (live_any wr (HT.out.below hb))
      clear hB hz hb
      go_wp2_with (first
        | (go_at_call 9; refine HL.out.mono ?_; rintro e w1 ⟨rfl, hb1⟩; have HB1 := hide (below_on HBW.out hb1); clear HL hb1))
      go_ret
      exact ⟨rfl, HB1.out⟩
    | succ g =>
      have hk2 : (k : Int) < 2 := by omega
      obtain ⟨pv, hpv, hU⟩ : ∃ pv, wr.cell? ⟨w.heap.size + 1, k, none⟩ = some (.pointer pv) ∧ UMM wr pv := by
        have : k = 0 ∨ k = 1 := by omega
        rcases this with rfl | rfl
        · exact ⟨none, hB.cell 0, .inl rfl⟩
        · exact ⟨some ⟨w.heap.size, 0, none⟩, hB.cell 1, .inr ⟨_, rfl, hz⟩⟩
      have HU := hide hU
      clear hB hz hb hU
      go_wp2_with (first
        | (go_at_call 24; refine HU.out.alloc.mono ?_; rintro e w1 ⟨rfl, hb1⟩; have HB1 := hide hb1; have HU1 := hide (HU.out.below hb1); clear HU hb1)
        | (go_at_call 29; refine (HU1.out.run p).mono ?_; rintro e w2 ⟨rfl, hb2⟩; have HB2 := hide (below_on HB1.out hb2); have HU2 := hide (HU1.out.below hb2); clear HU1 hb2)
        | (go_at_call 25; refine (HU2.out.free p).mono ?_; rintro e w3 ⟨rfl, hw⟩; subst w3)
        | (go_at_call 30; refine HU2.out.commit.mono ?_; rintro e w3 ⟨rfl, hw⟩; subst w3)
        | (go_at_call 26; refine HU2.out.abort.mono ?_; rintro e w3 ⟨rfl, hw⟩; subst w3)
        | (go_at_call 36; refine (HU2.out.has p).mono ?_; rintro e w3 ⟨rfl, hw⟩; subst w3)
        | (go_at_call 37; refine (HU2.out.mine p).mono ?_; rintro e w3 ⟨rfl, hw⟩; subst w3)
        | (go_at_call 33; refine HU2.out.avail.mono ?_; rintro e w3 ⟨rfl, hw⟩; subst w3)
        | (go_at_call 32; refine HU2.out.held.mono ?_; rintro e w3 ⟨rfl, hb3⟩; have HB3 := hide (below_on HB2.out hb3); have HU3 := hide (HU2.out.below hb3); clear HU2 hb3)
        | (go_at_call 31; refine HU3.out.taken.mono ?_; rintro e w4 ⟨rfl, hw⟩; subst w4)
        | (go_at_call 35; refine (mall_any w3 pv).mono ?_; rintro e w4 ⟨rfl, hw⟩; subst w4)
        | (go_at_call 34; refine (HU3.out.told 9 (by decide)).mono ?_; rintro e w4 ⟨ao4, cap4, rfl, hb4⟩; have HB4 := hide (below_on HB3.out hb4); have HU4 := hide (HU3.out.below hb4); clear hb4 HU3)
        | (go_at_call 23; refine HU4.out.clone.mono ?_; rintro e w5 ⟨rfl, hw⟩; subst w5))
      go_roundg g
      case measure => omega
      case rel => exact ⟨k + 1, by omega, by go_num, HB.out.below HB4.out HB.out.lt, (HB4.out.cell (p := ⟨w.heap.size, 0, none⟩) (World.block_lt_of_cell? _ _ HZ.out)).trans HZ.out, below_on HBW.out HB4.out⟩

end Go.Proofs.YtbnhacibkmcmkaaDoor
