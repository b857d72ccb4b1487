/- Contract: the chapter's example (incipitlaw08.live). -/
import Derived.Test.YtbnhacibkmcmkaaDoorKClone
import Derived.Test.YtbnhacibkmcmkaaDoorKSl
namespace Go.Proofs.YtbnhacibkmcmkaaDoor
set_option maxRecDepth 20000
open Go.RowKit
set_option linter.unusedVariables false
set_option maxRecDepth 100000

/-- the example's maps, one behind the other -/
def lf0 : Nat → Bool := inL [0, 1, 4]
def lf1 : Nat → Bool := alF 8 lf0 lf0 1
def lf2 : Nat → Bool := alF 8 lf1 lf0 2
def lf3 : Nat → Bool := dropF lf2 4
def lf4 : Nat → Bool := dropF lf3 2
def lf5 : Nat → Bool := alF 8 lf4 lf0 1
theorem live1 : alV 8 lf0 lf0 1 = 2 ∧ alE 8 lf0 lf0 1 = 0 := by decide +kernel
theorem live2 : alV 8 lf1 lf0 2 = 5 ∧ alE 8 lf1 lf0 2 = 0 := by decide +kernel
theorem live3 : freeE lf2 4 = 0 ∧ freeE lf3 2 = 0 := by decide +kernel
theorem live4 : alV 8 lf4 lf0 1 = 2 ∧ alE 8 lf4 lf0 1 = 0 := by decide +kernel
theorem live5 : ci (pagesF lf5 8) = [0, 1, 2, 5, 6] := by decide +kernel
theorem liveM : mayB 8 [0, 1, 4] = true := by decide +kernel

set_option maxHeartbeats 4000000 in
theorem live_any (w : World) (hT : TabB w) : Calls Tryd.prog 9 #[] w fun e w' => e = .returned (.bool true) ∧ Below w.heap.size w w' := by
  have hp : 0 < w.heap.size := World.block_lt_of_cell? w _ (hT 0 (by decide))
  obtain ⟨w1, hw1⟩ : ∃ w1, w.alloc (.cells #[.int .i64 0, .int .i64 1, .int .i64 4] 3) = w1 := ⟨_, rfl⟩
  have hb1 : Below w.heap.size w w1 := by rw [← hw1]; exact (Below.refl _ w).alloc (Nat.le_refl _) _
  have hs1 : w1.heap.size = w.heap.size + 1 := by rw [← hw1]; simp
  have hi1 : Is w1 (.slice (some ⟨w.heap.size, 0, none⟩) 3 3) [0, 1, 4] := by rw [← hw1]; exact (ints_lit w [0, 1, 4] (by decide)).is
  have H1 := hide (open_ok w1 8 _ [0, 1, 4] hi1 liveM (hT.below hb1) (by omega))
  have HB1 := hide hb1
  have HS1 := hide hs1
  clear hp hb1 hs1 hi1 hT
  have hf0 : inL [0, 1, 4] = lf0 := rfl
  rw [hf0] at H1
  obtain ⟨B, hB⟩ : ∃ B, w1.heap.size = B := ⟨_, rfl⟩
  have HBB := hide hB
  have H2 : Hid (∀ wx b, MapE wx B b 8 lf0 lf0 → Calls Tryd.prog 24 #[dp b] wx fun e w' => e = .returned (.tuple #[.int .i64 2, .int .i64 0]) ∧ MapE w' B b 8 lf1 lf0 ∧ OnlyM B wx w') := fun wx b h => by
    have := malloc_any wx B b 8 lf0 lf0 h
    rw [live1.1, live1.2] at this
    exact this
  have H3 : Hid (∀ wx b, MapE wx B b 8 lf1 lf0 → Calls Tryd.prog 29 #[dp b, .int .i64 2] wx fun e w' => e = .returned (.tuple #[.int .i64 5, .int .i64 0]) ∧ MapE w' B b 8 lf2 lf0 ∧ OnlyM B wx w') := fun wx b h => by
    have := mrun_any wx B b 8 lf1 lf0 2 h
    rw [live2.1, live2.2] at this
    exact this
  have H4 : Hid (∀ wx b, MapE wx B b 8 lf2 lf0 → Calls Tryd.prog 25 #[dp b, .int .i64 4] wx fun e w' => e = .returned (.int .i64 0) ∧ MapE w' B b 8 lf3 lf0 ∧ OnlyM B wx w') := fun wx b h => by
    have := mfree_any wx B b 8 lf2 lf0 4 h
    rw [live3.1] at this
    exact this
  have H5 : Hid (∀ wx b, MapE wx B b 8 lf3 lf0 → Calls Tryd.prog 25 #[dp b, .int .i64 2] wx fun e w' => e = .returned (.int .i64 0) ∧ MapE w' B b 8 lf4 lf0 ∧ OnlyM B wx w') := fun wx b h => by
    have := mfree_any wx B b 8 lf3 lf0 2 h
    rw [live3.2] at this
    exact this
  have H6 : Hid (∀ wx b, MapE wx B b 8 lf4 lf0 → Calls Tryd.prog 24 #[dp b] wx fun e w' => e = .returned (.tuple #[.int .i64 2, .int .i64 0]) ∧ MapE w' B b 8 lf5 lf0 ∧ OnlyM B wx w') := fun wx b h => by
    have := malloc_any wx B b 8 lf4 lf0 h
    rw [live4.1, live4.2] at this
    exact this
  have H7 : Hid (∀ wx b, MapE wx B b 8 lf5 lf0 → Calls Tryd.prog 30 #[dp b] wx fun e w' => e = .returned (.int .i64 0) ∧ MapE w' B b 8 lf5 lf5 ∧ OnlyM B wx w') := fun wx b h => mcommit_any wx B b 8 lf5 lf0 h
  have H8 : Hid (∀ wx b, MapE wx B b 8 lf5 lf5 → Calls Tryd.prog 31 #[dp b] wx fun e w' => ∃ v, e = .returned v ∧ Ints w' wx.heap.size v [0, 1, 2, 5, 6] ∧ Below wx.heap.size wx w') := fun wx b h => by
    have := mtaken_any wx B b 8 lf5 lf5 h
    rw [live5] at this
    exact this
  have H9 : Hid (∀ wx v, Is wx v [0, 1, 2, 5, 6] → Calls Tryd.prog 17 #[v, .slice (some ⟨wx.heap.size, 0, none⟩) 5 5] (wx.alloc (.cells #[.int .i64 0, .int .i64 1, .int .i64 2, .int .i64 5, .int .i64 6] 3)) fun e w' => e = .returned (.bool true) ∧ Below wx.heap.size wx w') := fun wx v h => by
    have hb : Below wx.heap.size wx (wx.alloc (.cells #[.int .i64 0, .int .i64 1, .int .i64 2, .int .i64 5, .int .i64 6] 3)) := (Below.refl _ wx).alloc (Nat.le_refl _) _
    refine (sEqual_any _ v _ [0, 1, 2, 5, 6] [0, 1, 2, 5, 6] (h.below hb) (ints_lit wx [0, 1, 2, 5, 6] (by decide)).is).mono ?_
    rintro e w' ⟨rfl, q, rfl⟩
    exact ⟨by simp, below_on hb (belowN _ q)⟩
  rw [hB] at H1
  go_enter Tryd.func9, Tryd.ntmps9
  go_wp2_with (first
    | (go_at_call 18; refine H1.out.mono ?_; rintro e w2 ⟨b, rfl, hm2, hb2⟩; have HM2 := hide hm2; have HB2 := hide hb2; clear H1 hm2 hb2)
    | (go_at_call 24; refine (H2.out _ _ HM2.out).mono ?_; rintro e w3 ⟨rfl, hm3, ho3⟩; have HM3 := hide hm3; have HO3 := hide ho3; clear H2 HM2 hm3 ho3)
    | (go_at_call 29; refine (H3.out _ _ HM3.out).mono ?_; rintro e w4 ⟨rfl, hm4, ho4⟩; have HM4 := hide hm4; have HO4 := hide ho4; clear H3 HM3 hm4 ho4)
    | (go_at_call 25; refine (H4.out _ _ HM4.out).mono ?_; rintro e w5 ⟨rfl, hm5, ho5⟩; have HM5 := hide hm5; have HO5 := hide ho5; clear H4 HM4 hm5 ho5)
    | (go_at_call 25; refine (H5.out _ _ HM5.out).mono ?_; rintro e w6 ⟨rfl, hm6, ho6⟩; have HM6 := hide hm6; have HO6 := hide ho6; clear H5 HM5 hm6 ho6)
    | (go_at_call 24; refine (H6.out _ _ HM6.out).mono ?_; rintro e w7 ⟨rfl, hm7, ho7⟩; have HM7 := hide hm7; have HO7 := hide ho7; clear H6 HM6 hm7 ho7)
    | (go_at_call 30; refine (H7.out _ _ HM7.out).mono ?_; rintro e w8 ⟨rfl, hm8, ho8⟩; have HM8 := hide hm8; have HO8 := hide ho8; clear H7 HM7 hm8 ho8)
    | (go_at_call 31; refine (H8.out _ _ HM8.out).mono ?_; rintro e w9 ⟨v9, rfl, hi9, hb9⟩; have HI9 := hide hi9.is; have HB9 := hide hb9; clear H8 hi9 hb9)
    | (go_at_call 17; refine (H9.out _ _ HI9.out).mono ?_; rintro e w10 ⟨rfl, hb10⟩; have HB10 := hide hb10; clear H9 HI9 hb10))
  go_ret
  refine ⟨rfl, ?_⟩
  have hle : w.heap.size ≤ B := by have := HS1.out; have := HBB.out; omega
  have hb : ∀ {a c : World}, OnlyM B a c → Below w.heap.size w a → B ≤ a.heap.size → Below w.heap.size w c ∧ B ≤ c.heap.size := fun {a c} h h1 h2 => ⟨h1.trans ((h.below h2).mono hle), Nat.le_trans h2 h.size⟩
  have h2 : Below w.heap.size w w2 := HB1.out.trans (HB2.out.mono hle)
  have s2 : B ≤ w2.heap.size := by have := HB2.out.size; have := HBB.out; omega
  obtain ⟨h3, s3⟩ := hb HO3.out h2 s2
  obtain ⟨h4, s4⟩ := hb HO4.out h3 s3
  obtain ⟨h5, s5⟩ := hb HO5.out h4 s4
  obtain ⟨h6, s6⟩ := hb HO6.out h5 s5
  obtain ⟨h7, s7⟩ := hb HO7.out h6 s6
  obtain ⟨h8, s8⟩ := hb HO8.out h7 s7
  exact below_on (below_on h8 HB9.out) HB10.out

end Go.Proofs.YtbnhacibkmcmkaaDoor
