/- Contract: does a write come about by its first sector? (incipitlaw03.live) -/
import Derived.Test.YtofpngmabjpfhaaDCrash
import Derived.Test.YtofpngmabjpfhaaRCmp
namespace Go.Proofs.Ytofpngmabjpfhaa
open Go.RowKit
set_option linter.unusedVariables false

def fullPage : List Int := pageS [1, 1, 1, 1]
def liveD1 : Dv := spendD { newD 8 with ws := [(3, fullPage)] }
def liveD2 : Dv := crashD liveD1 [1]
theorem liveD1_eq : liveD1 = ⟨List.replicate 8 zeroPage, [(3, fullPage)], false, none, 1⟩ := rfl
theorem live_shows : showsD liveD2 3 = pageS [1] := by
  have : showsD liveD2 3 = mixS fullPage zeroPage 64 := rfl
  rw [this]
  decide +kernel
theorem live_st : liveD2.st.length = 8 := by
  show (crashK _ _ _ _).length = 8
  rw [crashK_len]
  exact List.length_replicate
theorem ones_ok : ByteOk [1, 1, 1, 1] := by intro z hz; simp at hz; omega
theorem one_ok : ByteOk [1] := by intro z hz; simp at hz; omega

theorem Dev.below {w w' : World} {b : Nat} {F : Nat → Prop} {d : Dv} (h : Dev w b F d) (hb : Below w.heap.size w w') : Dev w' b F d := h.keep (Only.of_below (fun _ => False) hb) (fun _ _ h => h)

theorem sl_page {w : World} {g : Nat} {e : TypeId} {zs : List Int} (h : Blk w g e (pc zs)) (hz : PageOk zs) : Sl w (.slice (some ⟨g, 0, none⟩) 256 256) zs := by
  have := sl_of_range (cap := 256) (h.range 0 (pc zs) (fun j _ => by rw [Nat.zero_add])) hz.2 (by rw [hz.1]; omega) (by unfold maxLen; omega)
  rwa [hz.1] at this
theorem fullPage_ok : PageOk fullPage := pageS_ok ones_ok

theorem live_write (w : World) (b g : Nat) (F : Nat → Prop) (h : Dev w b F (newD 8)) (hq : Blk w g 5 (pc fullPage)) :
    Calls Try.prog 15 #[dp b, .int .i64 3, .slice (some ⟨g, 0, none⟩) 256 256] w fun e w' => e = .returned (.int .i64 0) ∧ Dev w' b (fun k => F k ∨ w.heap.size ≤ k) liveD1 ∧ Only F w w' := by
  have := write_ok w b F (newD 8) 3 _ fullPage h (by rw [show (newD 8).st.length = 8 from List.length_replicate]; omega) rfl (sl_page hq fullPage_ok) fullPage_ok.1 (by show 0 < 1000000; omega) (by show 0 < 1000000000; omega)
  exact this
theorem live_crash (w w' : World) (b g : Nat) (F : Nat → Prop) (h : Dev w b F liveD1) (hg : w.heap.size ≤ g) (hs : Sl w' (.slice (some ⟨g, 0, none⟩) 1 1) [1]) (hw : w' = w.alloc (.cells #[.int .u8 1] 5)) :
    Calls Try.prog 17 #[dp b, .slice (some ⟨g, 0, none⟩) 1 1] w' fun e w'' => e = .returned (.int .i64 0) ∧ Dev w'' b F liveD2 ∧ Only F w' w'' := by
  have h1 := (h.bound).keep (S := fun _ => False) (w' := w') (by rw [hw]; exact (Only.refl _ w).alloc _) (fun _ _ h => h)
  refine (crash_ok w' b _ liveD1 _ [1] h1 hs (fun k hk hf => ?_)).mono ?_
  · simp [Value.ownBlock] at hk
    have := hf.2
    omega
  · rintro e w'' ⟨rfl, h2, ho⟩
    exact ⟨rfl, h2.mono (fun k _ hk => hk.1), ho.mono (fun k _ hk => hk.1)⟩
theorem live_read (w : World) (b : Nat) (F : Nat → Prop) (h : Dev w b F liveD2) :
    Calls Try.prog 23 #[dp b, .int .i64 3] w fun e w' => e = .returned (.tuple #[.slice (some ⟨w.heap.size, 0, none⟩) 256 256, .int .i64 0]) ∧ Blk w' w.heap.size 73 (pc (pageS [1])) ∧ Below w.heap.size w w' := by
  have := read_ok w b F liveD2 3 h (by rw [live_st]; omega) rfl
  rw [live_shows] at this
  exact this

set_option maxHeartbeats 1000000 in
theorem live_any (w : World) : Calls Try.prog 9 #[] w fun e w' => e = .returned (.bool true) ∧ Below w.heap.size w w' := by
  have HN := hide (new_ok w 8 (by omega) (by omega))
  have HP1 : Hid (∀ w1 : World, Calls Try.prog _ _ _ _) := fun w1 => page_any (w1.alloc (.cells #[.int .u8 1, .int .u8 1, .int .u8 1, .int .u8 1] 5)) _ [1, 1, 1, 1] (sl_lit w1 5 [1, 1, 1, 1] ones_ok (by simp [maxLen]))
  have HP2 : Hid (∀ w1 : World, Calls Try.prog _ _ _ _) := fun w1 => page_any (w1.alloc (.cells #[.int .u8 1] 5)) _ [1] (sl_lit w1 5 [1] one_ok (by simp [maxLen]))
  have HL : Hid (∀ w1 : World, Sl (w1.alloc (.cells #[.int .u8 1] 5)) (.slice (some ⟨w1.heap.size, 0, none⟩) 1 1) [1]) := fun w1 => sl_lit w1 5 [1] one_ok (by simp [maxLen])
  go_enter Try.func9, Try.ntmps9
  go_wp2_with (first
    | (go_at_call 10; refine HN.out.mono ?_; rintro e w1 ⟨b, rfl, hd1, hb1⟩; have HD1 := hide hd1; have HB1 := hide hb1; clear HN hd1 hb1)
    | (go_at_call 16; refine (HP1.out w1).mono ?_; rintro e w2 ⟨rfl, hp2, hb2⟩; have HD2 := hide ((HD1.out.below ((Below.refl _ w1).alloc (Nat.le_refl _) _)).below hb2); have HQ2 : Hid (Blk w2 (w1.heap.size + 1) 5 (pc fullPage)) := (by have k := hp2; rw [World.size_alloc] at k; exact k); have HB2 := hide (after_alloc hb2); clear HP1 hp2 hb2 HD1)
    | (go_at_call 15; refine (live_write w2 b _ _ HD2.out HQ2.out).mono ?_; rintro e w3 ⟨rfl, hd3, ho3⟩; have HD3 := hide hd3; have HO3 := hide ho3; clear HD2 HQ2 hd3 ho3)
    | (go_at_call 17; refine (live_crash w3 _ b _ _ HD3.out (Nat.le_refl _) (HL.out w3) rfl).mono ?_; rintro e w4 ⟨rfl, hd4, ho4⟩; have HD4 := hide hd4; have HO4 := hide ho4; clear HD3 hd4 ho4)
    | (go_at_call 23; refine (live_read w4 b _ HD4.out).mono ?_; rintro e w5 ⟨rfl, hp5, hb5⟩; have HQ5 := hide hp5; have HB5 := hide hb5; clear HD4 hp5 hb5)
    | (go_at_call 16; refine (HP2.out w5).mono ?_; rintro e w6 ⟨rfl, hp6, hb6⟩; have HQ6 : Hid (Blk w6 (w5.heap.size + 1) 5 (pc (pageS [1]))) := (by have k := hp6; rw [World.size_alloc] at k; exact k); have HB6 := hide hb6; clear HP2 hp6 hb6)
    | (go_at_call 18; refine (refSame_any w6 _ _ (pageS [1]) (pageS [1]) (sl_page (HQ5.out.below (after_alloc HB6.out) HQ5.out.lt) (pageS_ok one_ok)) (sl_page HQ6.out (pageS_ok one_ok))).mono ?_; rw [decide_eq_true rfl]; rintro e w7 ⟨rfl, hb7⟩))
  go_ret
  have s1 := HB1.out.size
  have s2 := HB2.out.size
  have o1 : Only (fun k => w.heap.size ≤ k) w w1 := Only.of_below _ HB1.out
  have o2 := o1.trans (Only.of_below (fun k => w.heap.size ≤ k) HB2.out) (fun _ _ h => h)
  have o3 := o2.trans HO3.out (fun _ _ h => h)
  have o4 := (o3.alloc (.cells #[.int .u8 1] 5)).trans HO4.out (fun i _ h => by rcases h with h | h <;> omega)
  have o5 := o4.trans (Only.of_below (fun k => w.heap.size ≤ k) HB5.out) (fun _ _ h => h)
  have o6 := o5.trans (Only.of_below (fun k => w.heap.size ≤ k) (after_alloc HB6.out)) (fun _ _ h => h)
  have o7 := o6.trans (Only.of_below (fun k => w.heap.size ≤ k) hb7) (fun _ _ h => h)
  exact ⟨rfl, o7.below (Nat.le_refl _) (fun k hk => by omega)⟩

end Go.Proofs.Ytofpngmabjpfhaa
