/- Contract: the beginning of layer 15's laws (incipitlaw15.live). -/
import Derived.Test.YtmjkpgmmfooajaaPoFind
import Derived.Test.YtmjkpgmmfooajaaPoList
import Derived.Test.YtmjkpgmmfooajaaJPoSame
namespace Go.Proofs.Ytmjkpgmmfooajaa
set_option maxRecDepth 20000
open Go.RowKit
set_option linter.unusedVariables false
set_option linter.unusedSimpArgs false
set_option maxRecDepth 100000

theorem is_lit (w : World) (e : TypeId) (zs : List Int) (hm : zs.length ≤ maxLen) :
    Is (w.alloc (.cells (zs.map (Value.int .i64)).toArray e)) (.slice (some ⟨w.heap.size, 0, none⟩) zs.length zs.length) zs := by
  refine ⟨_, _, rfl, Nat.le_refl _, hm, fun _ => ⟨_, 0, rfl, fun i hi => ?_⟩⟩
  rw [World.cell?_alloc_mark, Nat.zero_add, getD_lt zs hi]
  simp [hi]
def exP : List Po := [⟨3, [0, 5]⟩, ⟨300, [7]⟩]
def exB : List Int := [3, 2, 0, 5, 169, 2, 1, 7]
theorem ex_list : listR exP = exB := by decide +kernel
theorem ex_listE : listE exP = 0 := by decide +kernel
theorem ex_find : findL 300 (allP 0 exB) = (⟨300, [7]⟩, true) := by kernel_rfl

theorem blk_push {w : World} {cs : Array Value} {e : TypeId} : Blk (w.alloc (.cells cs e)) w.heap.size e cs.toList := Blk.new w e cs.toList

set_option maxHeartbeats 400000 in
theorem live_any (w : World) : Calls Try.prog 8 #[] w fun e w' => e = .returned (.bool true) ∧ Below w.heap.size w w' := by
  obtain ⟨W3, hW3⟩ : ∃ W3, ((w.alloc (.cells #[.int .i64 0, .int .i64 5] 3)).alloc (.cells #[.int .i64 7] 3)).alloc (.cells #[.int .u32 3, .slice (some ⟨w.heap.size, 0, none⟩) 2 2, .int .u32 300, .slice (some ⟨w.heap.size + 1, 0, none⟩) 1 1] 34) = W3 := ⟨_, rfl⟩
  have hb3 : Below w.heap.size w W3 := by rw [← hW3]; exact (((Below.refl _ w).alloc (Nat.le_refl _) _).alloc (by simp) _).alloc (by simp; omega) _
  have h1 : Is W3 (.slice (some ⟨w.heap.size, 0, none⟩) 2 2) [0, 5] := by
    rw [← hW3]
    exact (is_lit w 3 [0, 5] (by simp [maxLen])).below (((Below.refl _ _).alloc (by simp) _).alloc (by simp) _)
  have h2 : Is W3 (.slice (some ⟨w.heap.size + 1, 0, none⟩) 1 1) [7] := by
    rw [← hW3]
    have := is_lit (w.alloc (.cells #[.int .i64 0, .int .i64 5] 3)) 3 [7] (by simp [maxLen])
    rw [World.size_alloc] at this
    exact this.below ((Below.refl _ _).alloc (by simp) _)
  have h3 : Blk W3 (w.heap.size + 1 + 1) 34 [.int .u32 3, .slice (some ⟨w.heap.size, 0, none⟩) 2 2, .int .u32 300, .slice (some ⟨w.heap.size + 1, 0, none⟩) 1 1] := by
    rw [← hW3]
    have := Blk.new ((w.alloc (.cells #[.int .i64 0, .int .i64 5] 3)).alloc (.cells #[.int .i64 7] 3)) 34 [.int .u32 3, .slice (some ⟨w.heap.size, 0, none⟩) 2 2, .int .u32 300, .slice (some ⟨w.heap.size + 1, 0, none⟩) 1 1]
    simpa using this
  have hP : Pps W3 (.slice (some ⟨w.heap.size + 1 + 1, 0, none⟩) 2 2) [.slice (some ⟨w.heap.size, 0, none⟩) 2 2, .slice (some ⟨w.heap.size + 1, 0, none⟩) 1 1] exP := by
    refine ⟨rfl, _, _, rfl, Nat.le_refl _, by simp [maxLen], fun i hi => ?_, fun _ => ⟨_, 0, rfl, fun i hi => ?_⟩⟩
    · match i, hi with
      | 0, _ => exact ⟨by decide, h1⟩
      | 1, _ => exact ⟨by decide, h2⟩
    · match i, hi with
      | 0, _ =>
        intro j v hj
        match j, hj with
        | 0, hj => cases hj; exact h3.cell 0
        | 1, hj => cases hj; exact h3.cell 1
      | 1, _ =>
        intro j v hj
        match j, hj with
        | 0, hj => cases hj; exact h3.cell 2
        | 1, hj => cases hj; exact h3.cell 3
  have hL := list_any W3 _ _ _ hP
  rw [ex_list, ex_listE] at hL
  have HL := hide hL
  have hxb : ByteOk exB := by intro z hz; simp [exB] at hz; omega
  have HF : Hid (∀ W ao m cap, Sl W (.slice ao m cap) exB → Calls Try.prog 24 #[.slice ao m cap, .int .u32 300] W fun e w' => ∃ uo uc, e = .returned (.tuple #[.agg #[.int .u32 300, .slice uo 1 uc], .bool true]) ∧ PoV w' (.agg #[.int .u32 300, .slice uo 1 uc]) ⟨300, [7]⟩ ∧ Below W.heap.size W w') := fun W ao m cap hs => by
    have := find_any W _ exB hs (by simp [exB]) 300 (by decide)
    rw [ex_find] at this
    exact this.mono fun e w' ⟨v, he, hp, hb⟩ => by
      obtain ⟨uo, uc, rfl, _⟩ := hp.val.open
      exact ⟨uo, uc, he, hp.val, hb⟩
  have HS : Hid (∀ W ao m cap b, W.heap.size = b → Sl W (.slice ao m cap) exB → Calls Try.prog 12 #[.slice ao m cap, .slice (some ⟨b, 0, none⟩) 8 8] (W.alloc (.cells #[.int .u8 3, .int .u8 2, .int .u8 0, .int .u8 5, .int .u8 169, .int .u8 2, .int .u8 1, .int .u8 7] 5)) fun e w' => e = .returned (.bool true) ∧ Below W.heap.size W w') := fun W ao m cap b hb0 hs => by
    subst hb0
    exact (refSame_any _ _ _ exB exB (hs.alloc _) (sl_lit W 5 exB hxb (by simp [maxLen, exB]))).mono fun e w' ⟨he, hb⟩ => ⟨by rw [he, decide_eq_true rfl], ((Below.refl _ W).alloc (Nat.le_refl _) _).trans (hb.mono (by simp))⟩
  have HQ : Hid (∀ W uo uc, PoV W (.agg #[.int .u32 300, .slice uo 1 uc]) ⟨300, [7]⟩ → Calls Try.prog 19 #[.agg #[.int .u32 300, .slice uo 1 uc], .agg #[.int .u32 300, .slice (some ⟨W.heap.size, 0, none⟩) 1 1]] (W.alloc (.cells #[.int .i64 7] 3)) fun e w' => e = .returned (.bool true) ∧ Below W.heap.size W w') := fun W uo uc hp =>
    (refSameP_any _ _ _ ⟨300, [7]⟩ ⟨300, [7]⟩ (hp.below ((Below.refl _ W).alloc (Nat.le_refl _) _)) ⟨by decide, _, rfl, is_lit W 3 [7] (by simp [maxLen])⟩).mono fun e w' ⟨he, hb⟩ => ⟨by rw [he, sameP_refl], ((Below.refl _ W).alloc (Nat.le_refl _) _).trans (hb.mono (by simp))⟩
  have HB3 := hide hb3
  clear h1 h2 h3 hP hL hb3
  go_enter Try.func8, Try.ntmps8
  go_wp2_with (first
    | (go_at_call 10; (try rw [hW3]); refine HL.out.mono ?_; rintro e w4 hg; obtain ⟨ao, m, cap, rfl, hs, hm, hb⟩ := hg.sl hxb; clear hm hxb hW3; have HS4 := hide hs; have HB4 := hide (HB3.out.trans (hb.mono HB3.out.size)); clear HL hs hb hg)
    | (go_at_call 24; refine (HF.out w4 _ _ _ HS4.out).mono ?_; rintro e w5 ⟨uo, uc, rfl, hp, hb⟩; have HP5 := hide hp; have HS5 := hide (HS4.out.keep (fun j _ hlt => hb.block j hlt)); have HB5 := hide (HB4.out.trans (hb.mono HB4.out.size)); clear HF hp hb HS4 HB4)
    | (go_at_call 12; refine (HS.out (w5.alloc (.cells #[.int .u32 300, .slice uo 1 uc] 34)) ao m cap (w5.heap.size + 1) (by simp) (HS5.out.alloc _)).mono ?_; rintro e w6 ⟨rfl, hb⟩; have hb6 : Below w5.heap.size w5 w6 := ((Below.refl _ w5).alloc (Nat.le_refl _) _).trans (hb.mono (by simp)); obtain ⟨p0, p1⟩ := box_po ((Blk.new w5 34 [.int .u32 300, .slice uo 1 uc]).below hb (by simp)); have HP6 := hide (HP5.out.below hb6); have HB6 := hide (HB5.out.trans (hb6.mono HB5.out.size)); clear HS hb hb6 HP5 HS5 HB5)
    | (go_at_call 19; refine (HQ.out _ _ _ HP6.out).mono ?_; rintro e w7 ⟨rfl, hb⟩; have HB7 := hide (HB6.out.trans (hb.mono HB6.out.size)); clear HQ hb))
  go_ret
  exact ⟨rfl, HB7.out⟩

end Go.Proofs.Ytmjkpgmmfooajaa
