/- Contract: does a changed page go, and is it written? (incipitlaw05.live) -/
import Derived.Test.YtoplhehcjgldeaaCInts
import Derived.Test.YtoplhehcjgldeaaCView
namespace Go.Proofs.Ytoplhehcjgldeaa
open Go.RowKit
set_option linter.unusedVariables false
set_option maxRecDepth 100000

section
variable (w0 w w1 : World) (S X : Nat → Prop) (c b : Nat) (ch : Ch) (d : Dv)
theorem put_pg (k : Nat) (hk : k < 900000) (h : Duos w0 S X w c b ch d) (hf : Few k ch d) (hb : Below w.heap.size w w1) (g : Nat) (z : Int) (h0 : 0 ≤ z) (h1 : z ≤ 255) (hg : w.heap.size ≤ g) (hB : Blk w1 g 5 (pc (pg z))) (p : Int) :
    Calls Try.prog 10 #[dp c, .int .i64 p, .slice (some ⟨g, 0, none⟩) 256 256] w1 fun e w' => e = .returned (.int .i64 (putC ch d p (pg z)).1) ∧ Duos w0 S X w' c b (putC ch d p (pg z)).2.1 (putC ch d p (pg z)).2.2 ∧ Turn w0 S X w1 w' := by
  refine (put_any w0 w1 S _ c b ch d k hk (h.grow hb) hf p _ (pg z) (blk_sl hB (pg_ok h0 h1)) (fun j hj => ?_)).mono ?_
  · simp [Value.ownBlock] at hj
    subst hj
    exact .inr ⟨hg, hB.lt⟩
  · rintro e w' ⟨rfl, h2, h3⟩
    exact ⟨rfl, h2.less (fun _ h => .inl h), h3.mono (fun k _ h => ⟨h.1, fun hx => h.2 (.inl hx)⟩)⟩
theorem getC_err {ch : Ch} {d : Dv} {p : Int} (h : (getC ch d p).1 ≠ 0) : (getC ch d p).2.1 = [] := by
  unfold getC at h ⊢
  split
  · rename_i hp
    rw [if_pos hp] at h
    split
    · rename_i x hx
      rw [hx] at h
      exact absurd rfl h
    · rename_i hx
      rw [hx] at h
      simp only at h
      split
      · rename_i he
        rw [if_pos he] at h
        split
        · rfl
        · rename_i ho
          rw [if_neg ho] at h
          exact absurd rfl h
      · rfl
  · rfl
theorem get_sl (k : Nat) (hk : k < 900000) (h : Duos w0 S X w c b ch d) (hf : Few k ch d) (p : Int) :
    Calls Try.prog 15 #[dp c, .int .i64 p] w fun e w' => ∃ v, e = .returned (.tuple #[v, .int .i64 (getC ch d p).1]) ∧ Sl w' v (getC ch d p).2.1 ∧ Duos w0 S X w' c b (getC ch d p).2.2.1 (getC ch d p).2.2.2 ∧ Turn w0 S X w w' := by
  refine (get_any w0 w S X c b ch d k hk h hf p).mono ?_
  rintro e w' ⟨v, rfl, hh, ht⟩
  refine ⟨v, rfl, ?_, ?_, ht⟩
  · rcases hh with ⟨_, g, rfl, hz, hB, _⟩ | ⟨he, rfl, _⟩
    · exact blk_sl hB hz
    · rw [getC_err he]; exact Sl.nil _
  · rcases hh with ⟨_, g, rfl, hz, hB, _, hd⟩ | ⟨he, rfl, hd⟩
    · exact hd.less (fun _ h => .inl h)
    · exact hd
end

def liveP : Hd := ⟨0, pg 7, true, 0⟩
def liveQ : Hd := ⟨1, pg 8, true, 0⟩
def liveE : Dv := spendD { newD 8 with ws := (newD 8).ws ++ [(0, pg 7)] }
def liveR : Hd := ⟨2, showsD liveE 2, false, 0⟩
theorem pg_len (z : Int) : (pg z).length = 256 := pageS_len _
theorem newD_len : (newD 8).st.length = 8 := List.length_replicate
theorem live_1 : putC (newC 2) (newD 8) 0 (pg 7) = (0, ⟨2, [liveP], 0, 1⟩, newD 8) := by
  unfold putC
  rw [if_pos ⟨⟨by decide, by rw [newD_len]; decide⟩, pg_len 7⟩]
  rfl
theorem live_2 : putC ⟨2, [liveP], 0, 1⟩ (newD 8) 1 (pg 8) = (0, ⟨2, [liveQ, liveP], 0, 2⟩, newD 8) := by
  unfold putC
  rw [if_pos ⟨⟨by decide, by rw [newD_len]; decide⟩, pg_len 8⟩]
  rfl
theorem live_3 : getC ⟨2, [liveQ, liveP], 0, 2⟩ (newD 8) 2 = (0, showsD liveE 2, ⟨2, [liveR, liveQ], 0, 3⟩, liveE) := by
  unfold getC
  rw [if_pos ⟨by decide, by rw [newD_len]; decide⟩]
  rfl
theorem live_4 : showsD liveE 0 = pg 7 := rfl
theorem live_few {ch : Ch} (d : Dv) (h1 : ch.hits ≤ 3) (h2 : ch.misses ≤ 3) (h3 : ∀ h ∈ ch.l, h.pins ≤ 3) (h4 : d.ws.length ≤ 3) (h5 : d.done ≤ 3) : Few 3 ch d := ⟨h1, h2, h3, h4, h5⟩

theorem ints_lit (w : World) (zs : List Int) (hm : zs.length ≤ maxLen) : Ints (w.alloc (.cells (iv zs).toArray 3)) w.heap.size (.slice (some ⟨w.heap.size, 0, none⟩) zs.length zs.length) zs := World.ownsRow_lit (size := 1) w _ zs.length (Nat.le_refl _) hm (by simp)

set_option maxHeartbeats 2000000 in
theorem live5_any (w : World) : Calls Try.prog 9 #[] w fun e w' => e = .returned (.bool true) ∧ Below w.heap.size w w' := by
  have HN := hide (new_ok w 8 (by omega) (by omega))
  have HC : Hid (∀ (w1 : World) (b : Nat), Dev w1 b (fun k => w.heap.size ≤ k) (newD 8) → Below w.heap.size w w1 → Calls Try.prog 8 #[dp b, .int .i64 2] w1 fun e w' => ∃ c, e = .returned (.tuple #[dp c, .int .i64 0]) ∧ Duos w (fun _ => False) (fun _ => False) w' c b (newC 2) (newD 8) ∧ Below w1.heap.size w1 w') := fun w1 b hd hb => cnew_ok w w1 (fun _ => False) (fun _ => False) b _ (newD 8) hd (fun k hk => ⟨.inr hk, fun h => h⟩) (fun _ h => h.elim) (Only.of_below _ hb) 2 (by omega) (by omega)
  have HF1 : Hid (Few 3 (newC 2) (newD 8)) := live_few _ (by decide) (by decide) (fun _ h => by cases h) (by decide) (by decide)
  have HF2 : Hid (Few 3 ⟨2, [liveP], 0, 1⟩ (newD 8)) := live_few _ (by decide) (by decide) (fun x h => by simp at h; subst h; decide) (by decide) (by decide)
  have HF3 : Hid (Few 3 ⟨2, [liveQ, liveP], 0, 2⟩ (newD 8)) := live_few _ (by decide) (by decide) (fun x h => by simp at h; rcases h with rfl | rfl <;> decide) (by decide) (by decide)
  have HG7 := hide (fun wx : World => page5_any wx 7 (by decide) (by decide))
  have HG8 := hide (fun wx : World => page5_any wx 8 (by decide) (by decide))
  have HL : Hid (∀ wx : World, Ints (wx.alloc (.cells #[.int .i64 2, .int .i64 1] 3)) wx.heap.size (.slice (some ⟨wx.heap.size, 0, none⟩) 2 2) [2, 1]) := fun wx => ints_lit wx [2, 1] (by simp [maxLen])
  go_enter Try.func9, Try.ntmps9
  go_wp2_with (first
    | (go_at_call 7; refine HN.out.mono ?_; rintro e w1 ⟨b, rfl, hd1, hb1⟩; have HD1 := hide hd1; have HB1 := hide hb1; clear HN hd1 hb1)
    | (go_at_call 8; refine (HC.out w1 b HD1.out HB1.out).mono ?_; rintro e w2 ⟨c, rfl, hd2, hb2⟩; have HD2 := hide hd2; clear HC HD1 HB1 hd2 hb2)
    | (go_at_call 11; refine (HG7.out w2).mono ?_; rintro e w3 ⟨g3, rfl, hp3, hg3, hb3⟩; have HP3 := hide (put_pg w w2 w3 (fun _ => False) (fun _ => False) c b (newC 2) (newD 8) 3 (by omega) HD2.out HF1.out hb3 g3 7 (by decide) (by decide) hg3 hp3 0); rw [live_1] at HP3; clear HF1 hp3 hg3 hb3 HD2)
    | (go_at_call 10; refine HP3.out.mono ?_; rintro e w4 ⟨rfl, hd4, ht4⟩; have HD4 := hide hd4; clear HP3 hd4 ht4)
    | (go_at_call 11; refine (HG8.out w4).mono ?_; rintro e w5 ⟨g5, rfl, hp5, hg5, hb5⟩; have HP5 := hide (put_pg w w4 w5 (fun _ => False) (fun _ => False) c b _ (newD 8) 3 (by omega) HD4.out HF2.out hb5 g5 8 (by decide) (by decide) hg5 hp5 1); rw [live_2] at HP5; clear HF2 hp5 hg5 hb5 HD4 HG8)
    | (go_at_call 10; refine HP5.out.mono ?_; rintro e w6 ⟨rfl, hd6, ht6⟩; have HP6 := hide (get_sl w w6 (fun _ => False) (fun _ => False) c b _ (newD 8) 3 (by omega) hd6 HF3.out 2); rw [live_3] at HP6; clear HP5 hd6 ht6 HF3)
    | (go_at_call 15; refine HP6.out.mono ?_; rintro e w7 ⟨v7, rfl, hs7, hd7, ht7⟩; obtain ⟨G7, hg7⟩ := duos_dev w w7 _ _ c b _ _ hd7; have HR7 := hide (read_ok w7 b G7 liveE 0 hg7 (by decide) rfl); rw [live_4] at HR7; have HD7 := hide hd7; clear HP6 hs7 hd7 ht7 hg7)
    | (go_at_call 17; refine HR7.out.mono ?_; rintro e w8 ⟨rfl, hp8, hb8⟩; have HQ8 := hide hp8; have HD8 := hide (HD7.out.below hb8); clear HR7 HD7 hp8 hb8)
    | (go_at_call 11; refine (HG7.out w8).mono ?_; rintro e w9 ⟨g9, rfl, hp9, hg9, hb9⟩; have HQ9 := hide hp9; have HQ89 := hide (HQ8.out.below hb9 HQ8.out.lt); have HD9 := hide (HD8.out.below hb9); clear HG7 HD8 HQ8 hp9 hb9 hg9)
    | (go_at_call 16; refine (refSame_any w9 _ _ (pg 7) (pg 7) (blk_sl HQ89.out (pg_ok (by decide) (by decide))) (blk_sl HQ9.out (pg_ok (by decide) (by decide)))).mono ?_; rw [decide_eq_true rfl]; rintro e w10 ⟨rfl, hb10⟩; have HD10 := hide (HD9.out.below hb10); clear HQ89 HQ9 HD9 hb10)
    | (go_at_call 20; refine (held_any w w10 (fun _ => False) (fun _ => False) c b _ _ HD10.out).mono ?_; rintro e w11 ⟨v11, rfl, hi11, hb11⟩; have HI11 := hide hi11; have HD11 := hide (HD10.out.below hb11); clear HD10 hi11 hb11)
    | (go_at_call 28; refine (refInts_any _ _ _ v11 _ [2, 1] [2, 1] (HI11.out.below ((Below.refl _ w11).alloc (Nat.le_refl _) _)) (HL.out w11)).mono ?_; rw [decide_eq_true rfl]; rintro e w12 ⟨rfl, hb12⟩; have HD12 := hide ((HD11.out.below ((Below.refl _ w11).alloc (Nat.le_refl _) _)).below hb12); clear HI11 HD11 hb12))
  go_ret
  exact ⟨rfl, HD12.out.only.below (Nat.le_refl _) (fun _ _ h => h)⟩

end Go.Proofs.Ytoplhehcjgldeaa
