/- The walk of the statement CacheNone. -/
import Derived.Test.YtoplhehcjgldeaaCNot
import Derived.OpenShut
namespace Go.Proofs.Ytoplhehcjgldeaa
open Go.RowKit Go.ChangeShapes Go.WideShapes
set_option linter.unusedVariables false

set_option maxHeartbeats 2000000 in
set_option maxRecDepth 20000 in
theorem cacheNone_walk (w : World) (p : Int) (v : Value) (zs : List Int) (hp : (Lit.int .i64 p).wf = true) (hS : Sl w v zs) :
    Calls Try.prog 6 #[.int .i64 p, v] w fun e w' => e = .returned (.bool true) ∧ Below w.heap.size w w' := by
  clear hp hS
  have HN0 := hide (cnew_not w (.pointer none) 4 (.inl rfl))
  have HN1 : Hid (Calls Try.prog 8 #[dp w.heap.size, .int .i64 4] (w.alloc (.cells #[.slice none 0 0, .slice none 0 0, .map none, .bool false, .bool false, .int .i64 0, .int .i64 0] 50)) fun e w' => e = .returned (.tuple #[.pointer none, .int .i64 2]) ∧ w' = w.alloc (.cells #[.slice none 0 0, .slice none 0 0, .map none, .bool false, .bool false, .int .i64 0, .int .i64 0] 50)) := cnew_not _ _ 4 (.inr ⟨_, 0, none, rfl, (Blk.new w 50 [.slice none 0 0, .slice none 0 0, .map none, .bool false, .bool false, .int .i64 0, .int .i64 0]).cell 0⟩)
  go_enter Try.func6, Try.ntmps6
  go_wp2_with (first
    | (go_at_call 8; refine HN0.out.mono ?_; rintro e w1 ⟨rfl, hw⟩; subst w1; clear HN0)
    | (go_at_call 8; refine HN1.out.mono ?_; rintro e w1 ⟨rfl, hw⟩; subst w1; clear HN1))
  obtain ⟨w1, hw1⟩ : ∃ w1, w.alloc (.cells #[.slice none 0 0, .slice none 0 0, .map none, .bool false, .bool false, .int .i64 0, .int .i64 0] 50) = w1 := ⟨_, rfl⟩
  have hs1 : w1.heap.size = w.heap.size + 1 := by rw [← hw1]; simp
  have hb1 : Below w.heap.size w w1 := by rw [← hw1]; exact (Below.refl _ w).alloc (Nat.le_refl _) _
  have hA : Blk ((w1.alloc (.cells #[.pointer none, .int .i64 0, .map none, .slice none 0 0, .int .i64 0, .int .i64 0] 53)).alloc (.cells #[.pointer none, dp (w.heap.size + 1)] 27)) (w.heap.size + 1) 53 [.pointer none, .int .i64 0, .map none, .slice none 0 0, .int .i64 0, .int .i64 0] := by
    have := (Blk.new w1 53 [.pointer none, .int .i64 0, .map none, .slice none 0 0, .int .i64 0, .int .i64 0]).alloc (.cells #[.pointer none, dp (w.heap.size + 1)] 27)
    rw [hs1] at this
    exact this
  have hP : Blk ((w1.alloc (.cells #[.pointer none, .int .i64 0, .map none, .slice none 0 0, .int .i64 0, .int .i64 0] 53)).alloc (.cells #[.pointer none, dp (w.heap.size + 1)] 27)) (w.heap.size + 2) 27 [.pointer none, dp (w.heap.size + 1)] := by
    have := Blk.new (w1.alloc (.cells #[.pointer none, .int .i64 0, .map none, .slice none 0 0, .int .i64 0, .int .i64 0] 53)) 27 [.pointer none, dp (w.heap.size + 1)]
    rw [World.size_alloc, hs1] at this
    exact this
  have hb3 : Below w.heap.size w ((w1.alloc (.cells #[.pointer none, .int .i64 0, .map none, .slice none 0 0, .int .i64 0, .int .i64 0] 53)).alloc (.cells #[.pointer none, dp (w.heap.size + 1)] 27)) := (hb1.alloc (by omega) _).alloc (by simp; omega) _
  try rw [hw1]
  go_loopg [10, 11, 12, 13, 14, 43] 2 (fun g s10 s11 s12 s13 s14 i wr => ∃ k : Nat, g + k = 2 ∧ i = .int .i64 k ∧ Blk wr (w.heap.size + 1) 53 [.pointer none, .int .i64 0, .map none, .slice none 0 0, .int .i64 0, .int .i64 0] ∧ Blk wr (w.heap.size + 2) 27 [.pointer none, dp (w.heap.size + 1)] ∧ Below w.heap.size w wr)
  case atStart =>
    exact ⟨0, rfl, rfl, hA, hP, hb3⟩
  case round =>
    obtain ⟨k, hk, rfl, c0, c1, hb⟩ := hrel
    clear hA hP hb3 hb1
    cases gk with
    | zero =>
      obtain rfl : k = 2 := by omega
      have HL := hide (live5_any wr)
      go_wp2_with (go_at_call 9; refine HL.out.mono ?_; rintro e w1 ⟨rfl, hb1⟩; clear HL)
      go_ret
      exact ⟨rfl, below_then hb hb1 (Nat.le_refl _)⟩
    | succ g =>
      have hki : (k : Int) < 2 := by omega
      obtain ⟨pv, hpv, cpv⟩ : ∃ pv, Nil5 wr pv ∧ wr.cell? ⟨w.heap.size + 2, k, none⟩ = some (.pointer pv) := by
        have : k = 0 ∨ k = 1 := by omega
        rcases this with rfl | rfl
        · exact ⟨_, .inl rfl, c1.cell 0⟩
        · exact ⟨_, .inr ⟨_, rfl, c0⟩, c1.cell 1⟩
      have HD := hide (cdrop_not wr pv hpv)
      have HG := hide (cget_not wr pv p hpv)
      have HCo := hide (ccounts_not wr pv hpv)
      have HPu := hide (cput_not wr pv p v hpv)
      have HPi := hide (cpin_not wr pv p hpv)
      have HUn := hide (cunpin_not wr pv p hpv)
      have HFo := hide (cforget_not wr pv p hpv)
      have HFl := hide (cflush_not wr pv hpv)
      have C0 := hide c0
      have C1 := hide c1
      have HN := hide hpv
      clear c0 c1 hpv
      go_wp2_with (first
        | (go_at_call 23; refine HD.out.mono ?_; rintro e w1 ⟨rfl, hw⟩; subst w1; clear HD)
        | (go_at_call 15; refine HG.out.mono ?_; rintro e w1 ⟨rfl, hw⟩; subst w1; clear HG)
        | (go_at_call 24; refine HCo.out.mono ?_; rintro e w1 ⟨rfl, hw⟩; subst w1; clear HCo)
        | (go_at_call 10; refine HPu.out.mono ?_; rintro e w1 ⟨rfl, hw⟩; subst w1; clear HPu)
        | (go_at_call 18; refine HPi.out.mono ?_; rintro e w1 ⟨rfl, hw⟩; subst w1; clear HPi)
        | (go_at_call 22; refine HUn.out.mono ?_; rintro e w1 ⟨rfl, hw⟩; subst w1; clear HUn)
        | (go_at_call 21; refine HFo.out.mono ?_; rintro e w1 ⟨rfl, hw⟩; subst w1; clear HFo)
        | (go_at_call 12; refine HFl.out.mono ?_; rintro e w3 ⟨rfl, hb3⟩; have HB3 := hide hb3; have HH := hide (cheld_not w3 pv (HN.out.below hb3)); have HC := hide (cchanged_not w3 pv (HN.out.below hb3)); clear HFl hb3)
        | (go_at_call 20; refine HH.out.mono ?_; rintro e w1 ⟨rfl, hw⟩; subst w1; clear HH)
        | (go_at_call 13; refine HC.out.mono ?_; rintro e w4 ⟨v4, rfl, hi4, hb4⟩; obtain ⟨ao4, cap4, rfl⟩ := hi4.shape; have HB4 := hide (HB3.out.trans (hb4.mono HB3.out.size)); have HHa := hide (chas_not w4 pv p (HN.out.below HB4.out)); clear HC hi4 hb4 HB3)
        | (go_at_call 19; refine HHa.out.mono ?_; rintro e w1 ⟨rfl, hw⟩; subst w1; clear HHa)
        | (go_at_call 26; refine (all_any w4 pv).mono ?_; rintro e w5 ⟨rfl, hw⟩; have HT := hide (told_not w5 w4 pv (HN.out.below HB4.out) hw); have HB5 : Hid (Below wr.heap.size wr w5) := (by rw [hw]; exact HB4.out.alloc HB4.out.size _); clear hw)
        | (go_at_call 25; refine HT.out.mono ?_; rintro e w6 ⟨cap6, ao6, rfl, hb6⟩; have HB6 := hide (HB5.out.trans (hb6.mono HB5.out.size)); clear HT hb6 HB5 HB4))
      go_roundg g
      case measure => omega
      case rel => exact ⟨k + 1, by omega, by go_num, C0.out.below HB6.out C0.out.lt, C1.out.below HB6.out C1.out.lt, hb.trans (HB6.out.mono hb.size)⟩

end Go.Proofs.Ytoplhehcjgldeaa
