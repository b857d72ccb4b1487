/- The walk of the statement FrameBack. -/
import Derived.Test.YtlnedhbeciepdaaDoorWPlace
import Derived.Test.YtlnedhbeciepdaaDoorFSame
namespace Go.Proofs.YtlnedhbeciepdaaDoor
open Go.RowKit
set_option linter.unusedVariables false

/-- the frame of bytes: its value with the length shown -/
theorem gets_w (w : World) (hT : Tab w) (q : Int) (w1 : World) (v : Value) (xs : List Int) (hb : Below w.heap.size w w1) (h : Sl w1 v xs) (g : Fr) (hg : getS xs q = g) (hok : ByteOk g.data) :
    Calls Tryd.prog 18 #[v, .int .i64 q] w1 fun r w2 => ∃ a c, r = .returned (.tuple #[.agg #[.int .i64 g.kind, .int .i64 g.page, .int .u64 g.epoch, .slice a g.data.length c], .int .i64 g.err]) ∧ Sl w2 (.slice a g.data.length c) g.data ∧ Below w1.heap.size w1 w2 := by
  refine (get_any w1 v xs q h (hT.below hb)).mono ?_
  rintro r w2 ⟨a, n, c, rfl, ho, hb2⟩
  rw [hg] at ho ⊢
  obtain rfl := own_n ho
  exact ⟨a, c, rfl, sl_of_own_len ho hok, hb2⟩
theorem puts_w (w : World) (k p e : Nat) (hT : Tab w) (hk : 1 ≤ k ∧ k ≤ 4) (hp : p ≤ 2047) (he : e < 18446744073709551616) (zs : List Int) (hz : zs.length ≤ 240) (w1 : World) (v : Value) (hb : Below w.heap.size w w1) (hS : Sl w1 v zs) :
    Calls Tryd.prog 11 #[.agg #[.int .i64 k, .int .i64 p, .int .u64 e, v]] w1 fun r w2 => ∃ a' c', r = .returned (.tuple #[.slice a' 256 c', .int .i64 0]) ∧ Sl w2 (.slice a' 256 c') (pageS k p e zs) ∧ Below w1.heap.size w1 w2 := by
  refine (put_ok w1 k p e v zs hS (hT.below hb) hk hp he hz).mono ?_
  rintro r w2 ⟨u, rfl, ho, hb2⟩
  have hS2 := sl_of_own ho (pageS_ok (by omega) hS.bytes) rfl
  obtain ⟨a', n', c', rfl⟩ := sl_form hS2
  obtain rfl := own_n ho
  exact ⟨a', c', rfl, hS2, hb2⟩

theorem Bx.box {w w1 : World} {f : Fm} (h : Bx w w1 f) (b : Nat) (hb : b = w.heap.size) : Blk w1 b 25 f.cells := by subst hb; exact h.2

set_option maxHeartbeats 8000000 in
theorem frameBack_walk (w : World) (v : Value) (f : Fm) (zs : List Int) (bv : Value) (bs : List Int) (q : Int) (hf : FrIn w v f zs) (hbs : Sl w bv bs) (hq : (Lit.int .i64 q).wf = true) (hT : Tab w) :
    Calls Tryd.prog 5 #[v, bv, .int .i64 q] w fun e w' => e = .returned (.bool true) ∧ Below w.heap.size w w' := by
  obtain ⟨rfl, hS, he⟩ := hf
  obtain ⟨k, p, e, a, n, c⟩ := f
  simp only at hS he
  obtain rfl := (sl_cap hS).1
  obtain ⟨bo, bc, rfl⟩ := sl_form' hbs
  unfold Fm.val
  simp only
  have HN := hide (Bx.new w ⟨k, p, e, a, zs.length, c⟩)
  have HL := hide (live_bx w ⟨k, p, e, a, zs.length, c⟩ hT)
  have HS := hide (short_bx w ⟨k, p, e, a, zs.length, c⟩)
  simp only at HN HS
  by_cases hn : zs.length ≤ 3000
  · rw [decide_eq_true hn] at HS
    by_cases hbl : (3000 : Int) < (bs.length : Int)
    · clear hS hbs
      go_enter Tryd.func5, Tryd.ntmps5
      go_wp2_with (first
        | (go_at_call 8; refine (HL.out _ HN.out).mono ?_; rintro e1 w1 ⟨rfl, b1⟩; obtain ⟨c0, c1, c2, c3⟩ := b1.cells; have HS1 := hide (HS.out w1 b1); clear HN HS b1)
        | (go_at_call 9; refine HS1.out.mono ?_; rintro e1 w2 ⟨rfl, b2⟩; have HB2 := hide b2; clear HS1 b2 c0 c1 c2 c3)
        | (go_at_call 8; refine (HL.out _ HB2.out).mono ?_; rintro e1 w3 ⟨rfl, b3⟩; clear HB2))
      go_ret
      exact ⟨rfl, b3.1⟩
    · -- what is got of the bytes
      have hGb : (∃ E, E ≠ 0 ∧ getS bs q = noFr E) ∨ ∃ (k6 p6 e6 : Nat) (D : List Int), (1 ≤ k6 ∧ k6 ≤ 4) ∧ p6 ≤ 2047 ∧ e6 < 18446744073709551616 ∧ getS bs q = ⟨0, k6, p6, e6, D⟩ ∧ D.length = 240 ∧ ByteOk D ∧ pageS k6 p6 e6 D = bs := by
        by_cases h0 : (getS bs q).err = 0
        · obtain ⟨k6, p6, e6, h1, h2, h3, h4, h5, h6, h7⟩ := getS_back bs q hbs.bytes h0
          exact .inr ⟨k6, p6, e6, _, h1, h2, h3, h5, h6, (hbs.bytes.drop 4).drop 12, h7⟩
        · exact .inl ⟨_, h0, getS_err bs q h0⟩
      by_cases hc : checkS k p zs.length = 0
      · obtain ⟨hk, hp, hz⟩ := checkS_ok.1 hc
        obtain ⟨K, rfl⟩ : ∃ K : Nat, k = K := ⟨k.toNat, by omega⟩
        obtain ⟨P, rfl⟩ : ∃ P : Nat, p = P := ⟨p.toNat, by omega⟩
        have HP := hide (puts_bx w K P e a zs.length c zs hS hT (by omega) (by omega) he (by omega))
        have hg := getS_page K P e zs P (by omega) (by omega) he
        rw [if_pos rfl] at hg
        have HG := hide (fun w1 v hb h => gets_w w hT P w1 v _ hb h _ hg (loadS_ok hS.bytes 0))
        simp only [loadS_len] at HG
        have hsm : sameB K P e (loadS zs 0) K P e zs = true := decide_eq_true ⟨rfl, rfl, rfl, (trimD_same _ _).2 (sameD_load (by omega))⟩
        have HSa : Hid (∀ w1 a4 l4, Below w.heap.size w w1 → Sl w1 (.slice a4 240 l4) (loadS zs 0) → Calls Tryd.prog 15 #[.agg #[.int .i64 K, .int .i64 P, .int .u64 e, .slice a4 240 l4], .agg #[.int .i64 K, .int .i64 P, .int .u64 e, .slice a zs.length c]] w1 fun r w2 => r = .returned (.bool true) ∧ Below w1.heap.size w1 w2) := by
          intro w1 a4 l4 hb h4
          have := same_any w1 K P K P e e a4 a l4 c (loadS zs 0) zs (by rw [loadS_len]; exact h4) (hS.below hb) (by rw [loadS_len]; omega) hn
          rw [hsm, loadS_len] at this
          exact this
        rcases hGb with ⟨E, hE, hgb⟩ | ⟨k6, p6, e6, D, hk6, hp6, he6, hgb, hD, okD, hpg⟩
        · have HGb : Hid (∀ w1, Below w.heap.size w w1 → _) := fun w1 hb => gets_w w hT q w1 _ bs hb (hbs.below hb) _ hgb (by intro z hz; cases hz)
          simp only [noFr, List.length_nil] at HGb
          have HA := hide (fun wx (a : Option Addr) (c : Nat) hx => alike_any wx 0 0 0 0 0 0 a none 0 0 c 0 [] [] hx (Sl.nil _))
          have hne : (E != 0) = true := by simpa using hE
          clear hS hc hg hT hsm hgb hbs
          go_enter Tryd.func5, Tryd.ntmps5
          go_wp2_with (first
            | (go_at_call 8; refine (HL.out _ HN.out).mono ?_; rintro e1 w1 ⟨rfl, b1⟩; obtain ⟨c0, c1, c2, c3⟩ := b1.cells; have HS1 := hide (HS.out w1 b1); clear HN HS b1)
            | (go_at_call 9; refine HS1.out.mono ?_; rintro e1 w2 ⟨rfl, b2⟩; clear c0 c1 c2 c3; obtain ⟨c0, c1, c2, c3⟩ := b2.cells; have HP2 := hide (HP.out w2 _ b2); clear HS1 b2 HP)
            | (go_at_call 11; refine HP2.out.mono ?_; rintro e1 w3 ⟨a3, l3, rfl, S3, b3⟩; clear c0 c1 c2 c3; obtain ⟨c0, c1, c2, c3⟩ := b3.cells; have HB3 := hide b3; have HG3 := hide (HG.out w3 _ b3.1 S3); clear HP2 HG S3 b3)
            | (go_at_call 18; refine HG3.out.mono ?_; rintro e1 w4 ⟨a4, l4, rfl, S4, hb4⟩; have b4 := HB3.out.below hb4; have b4' := b4.alloc (.cells #[.int .i64 K, .int .i64 P, .int .u64 e, .slice a4 240 l4] 25); clear c0 c1 c2 c3; obtain ⟨c0, c1, c2, c3⟩ := b4'.cells; have HSM := hide (HSa.out _ a4 l4 b4'.1 (S4.alloc (.cells #[.int .i64 K, .int .i64 P, .int .u64 e, .slice a4 240 l4] 25))); have HQ4 := hide (Blk.new w4 25 [.int .i64 K, .int .i64 P, .int .u64 e, .slice a4 240 l4]); have HB4 := hide b4'; clear HG3 HSa S4 b4 b4' hb4 HB3)
            | (go_at_call 15; refine HSM.out.mono ?_; rintro e1 w5 ⟨rfl, hb5⟩; have b5 := HB4.out.below hb5; have B5 := HQ4.out.below hb5 HQ4.out.lt; clear c0 c1 c2 c3; obtain ⟨c0, c1, c2, c3⟩ := b5.cells; obtain ⟨d0, d1, d2, d3⟩ := box_cells B5; have HB5 := hide b5; have HG5 := hide (HGb.out w5 b5.1); clear HSM HB4 HQ4 HGb hb5 b5 B5)
            | (go_at_call 18; refine HG5.out.mono ?_; rintro e1 w6 ⟨a6, l6, rfl, S6, hb6⟩; have b6 := (HB5.out.below hb6).alloc (.cells #[.int .i64 0, .int .i64 0, .int .u64 0, .slice a6 0 l6] 25); have HA6 := hide (HA.out _ a6 l6 (S6.alloc (.cells #[.int .i64 0, .int .i64 0, .int .u64 0, .slice a6 0 l6] 25))); have HB6 := hide b6; clear HG5 HB5 S6 hb6 b6 HA)
            | (go_at_call 22; refine HA6.out.mono ?_; rintro e1 w7 ⟨rfl, hb7⟩; have HB7 := hide (HB6.out.below hb7); clear HA6 HB6 hb7))
          go_ret
          exact ⟨rfl, HB7.out.1⟩
        · have HGb : Hid (∀ w1, Below w.heap.size w w1 → _) := fun w1 hb => gets_w w hT q w1 _ bs hb (hbs.below hb) _ hgb okD
          simp only [hD] at HGb
          have HPb := hide (fun w1 v hb hs => puts_w w k6 p6 e6 hT hk6 hp6 he6 D (by omega) w1 v hb hs)
          rw [hpg] at HPb
          have HE : Hid (∀ w1 a7 l7, Below w.heap.size w w1 → Sl w1 (.slice a7 256 l7) bs → Calls Tryd.prog 17 #[.slice a7 256 l7, .slice bo bs.length bc] w1 fun r w2 => r = .returned (.bool true) ∧ w2 = w1) := by
            intro w1 a7 l7 hb h7
            have := equal_any w1 _ _ _ _ h7 (hbs.below hb)
            rwa [decide_eq_true rfl] at this
          clear hS hc hg hT hsm hgb hbs hpg okD
          go_enter Tryd.func5, Tryd.ntmps5
          go_wp2_with (first
            | (go_at_call 8; refine (HL.out _ HN.out).mono ?_; rintro e1 w1 ⟨rfl, b1⟩; obtain ⟨c0, c1, c2, c3⟩ := b1.cells; have HS1 := hide (HS.out w1 b1); clear HN HS b1)
            | (go_at_call 9; refine HS1.out.mono ?_; rintro e1 w2 ⟨rfl, b2⟩; clear c0 c1 c2 c3; obtain ⟨c0, c1, c2, c3⟩ := b2.cells; have HP2 := hide (HP.out w2 _ b2); clear HS1 b2 HP)
            | (go_at_call 11; refine HP2.out.mono ?_; rintro e1 w3 ⟨a3, l3, rfl, S3, b3⟩; clear c0 c1 c2 c3; obtain ⟨c0, c1, c2, c3⟩ := b3.cells; have HB3 := hide b3; have HG3 := hide (HG.out w3 _ b3.1 S3); clear HP2 HG S3 b3)
            | (go_at_call 18; refine HG3.out.mono ?_; rintro e1 w4 ⟨a4, l4, rfl, S4, hb4⟩; have b4 := HB3.out.below hb4; have b4' := b4.alloc (.cells #[.int .i64 K, .int .i64 P, .int .u64 e, .slice a4 240 l4] 25); clear c0 c1 c2 c3; obtain ⟨c0, c1, c2, c3⟩ := b4'.cells; have HSM := hide (HSa.out _ a4 l4 b4'.1 (S4.alloc (.cells #[.int .i64 K, .int .i64 P, .int .u64 e, .slice a4 240 l4] 25))); have HQ4 := hide (Blk.new w4 25 [.int .i64 K, .int .i64 P, .int .u64 e, .slice a4 240 l4]); have HB4 := hide b4'; clear HG3 HSa S4 b4 b4' hb4 HB3)
            | (go_at_call 15; refine HSM.out.mono ?_; rintro e1 w5 ⟨rfl, hb5⟩; have b5 := HB4.out.below hb5; have B5 := HQ4.out.below hb5 HQ4.out.lt; clear c0 c1 c2 c3; obtain ⟨c0, c1, c2, c3⟩ := b5.cells; obtain ⟨d0, d1, d2, d3⟩ := box_cells B5; have HB5 := hide b5; have HG5 := hide (HGb.out w5 b5.1); clear HSM HB4 HQ4 HGb hb5 b5 B5)
            | (go_at_call 18; refine HG5.out.mono ?_; rintro e1 w6 ⟨a6, l6, rfl, S6, hb6⟩; have b6 := (HB5.out.below hb6).alloc (.cells #[.int .i64 k6, .int .i64 p6, .int .u64 e6, .slice a6 240 l6] 25); have HP6 := hide (HPb.out _ _ b6.1 (S6.alloc (.cells #[.int .i64 k6, .int .i64 p6, .int .u64 e6, .slice a6 240 l6] 25))); have HB6 := hide b6; clear HG5 HB5 S6 hb6 b6 HPb)
            | (go_at_call 11; refine HP6.out.mono ?_; rintro e1 w7 ⟨a7, l7, rfl, S7, hb7⟩; have b7 := HB6.out.below hb7; have HE7 := hide (HE.out w7 a7 l7 b7.1 S7); have HB7 := hide b7; clear HP6 HB6 S7 hb7 b7 HE)
            | (go_at_call 17; refine HE7.out.mono ?_; rintro e1 w8 ⟨rfl, hw⟩; subst w8; clear HE7))
          go_ret
          exact ⟨rfl, HB7.out.1⟩
      · have HP := hide (put_bx w k p e a zs.length c zs hS hc)
        obtain ⟨d, hd⟩ : ∃ d, d = checkS k p zs.length := ⟨_, rfl⟩
        rw [← hd] at HP hc
        have hne0 : (d == 0) = false := by simpa using hc
        rcases hGb with ⟨E, hE, hgb⟩ | ⟨k6, p6, e6, D, hk6, hp6, he6, hgb, hD, okD, hpg⟩
        · have HGb : Hid (∀ w1, Below w.heap.size w w1 → _) := fun w1 hb => gets_w w hT q w1 _ bs hb (hbs.below hb) _ hgb (by intro z hz; cases hz)
          simp only [noFr, List.length_nil] at HGb
          have HA := hide (fun wx (a : Option Addr) (c : Nat) hx => alike_any wx 0 0 0 0 0 0 a none 0 0 c 0 [] [] hx (Sl.nil _))
          have hne : (E != 0) = true := by simpa using hE
          clear hS hT hgb hbs hd
          go_enter Tryd.func5, Tryd.ntmps5
          go_wp2_with (first
            | (go_at_call 8; refine (HL.out _ HN.out).mono ?_; rintro e1 w1 ⟨rfl, b1⟩; obtain ⟨c0, c1, c2, c3⟩ := b1.cells; have HS1 := hide (HS.out w1 b1); clear HN HS b1)
            | (go_at_call 9; refine HS1.out.mono ?_; rintro e1 w2 ⟨rfl, b2⟩; clear c0 c1 c2 c3; obtain ⟨c0, c1, c2, c3⟩ := b2.cells; have HP2 := hide (HP.out w2 _ b2); clear HS1 b2 HP)
            | (go_at_call 11; refine HP2.out.mono ?_; rintro e1 w5 ⟨rfl, b5⟩; clear c0 c1 c2 c3; obtain ⟨c0, c1, c2, c3⟩ := b5.cells; have HB5 := hide b5; have HG5 := hide (HGb.out w5 b5.1); clear HP2 HGb b5)
            | (go_at_call 18; refine HG5.out.mono ?_; rintro e1 w6 ⟨a6, l6, rfl, S6, hb6⟩; have b6 := (HB5.out.below hb6).alloc (.cells #[.int .i64 0, .int .i64 0, .int .u64 0, .slice a6 0 l6] 25); have HA6 := hide (HA.out _ a6 l6 (S6.alloc (.cells #[.int .i64 0, .int .i64 0, .int .u64 0, .slice a6 0 l6] 25))); have HB6 := hide b6; clear HG5 HB5 S6 hb6 b6 HA)
            | (go_at_call 22; refine HA6.out.mono ?_; rintro e1 w7 ⟨rfl, hb7⟩; have HB7 := hide (HB6.out.below hb7); clear HA6 HB6 hb7))
          go_ret
          exact ⟨rfl, HB7.out.1⟩
        · have HGb : Hid (∀ w1, Below w.heap.size w w1 → _) := fun w1 hb => gets_w w hT q w1 _ bs hb (hbs.below hb) _ hgb okD
          simp only [hD] at HGb
          have HPb := hide (fun w1 v hb hs => puts_w w k6 p6 e6 hT hk6 hp6 he6 D (by omega) w1 v hb hs)
          rw [hpg] at HPb
          have HE : Hid (∀ w1 a7 l7, Below w.heap.size w w1 → Sl w1 (.slice a7 256 l7) bs → Calls Tryd.prog 17 #[.slice a7 256 l7, .slice bo bs.length bc] w1 fun r w2 => r = .returned (.bool true) ∧ w2 = w1) := by
            intro w1 a7 l7 hb h7
            have := equal_any w1 _ _ _ _ h7 (hbs.below hb)
            rwa [decide_eq_true rfl] at this
          clear hS hT hgb hbs hpg okD hd
          go_enter Tryd.func5, Tryd.ntmps5
          go_wp2_with (first
            | (go_at_call 8; refine (HL.out _ HN.out).mono ?_; rintro e1 w1 ⟨rfl, b1⟩; obtain ⟨c0, c1, c2, c3⟩ := b1.cells; have HS1 := hide (HS.out w1 b1); clear HN HS b1)
            | (go_at_call 9; refine HS1.out.mono ?_; rintro e1 w2 ⟨rfl, b2⟩; clear c0 c1 c2 c3; obtain ⟨c0, c1, c2, c3⟩ := b2.cells; have HP2 := hide (HP.out w2 _ b2); clear HS1 b2 HP)
            | (go_at_call 11; refine HP2.out.mono ?_; rintro e1 w5 ⟨rfl, b5⟩; clear c0 c1 c2 c3; obtain ⟨c0, c1, c2, c3⟩ := b5.cells; have HB5 := hide b5; have HG5 := hide (HGb.out w5 b5.1); clear HP2 HGb b5)
            | (go_at_call 18; refine HG5.out.mono ?_; rintro e1 w6 ⟨a6, l6, rfl, S6, hb6⟩; have b6 := (HB5.out.below hb6).alloc (.cells #[.int .i64 k6, .int .i64 p6, .int .u64 e6, .slice a6 240 l6] 25); have HP6 := hide (HPb.out _ _ b6.1 (S6.alloc (.cells #[.int .i64 k6, .int .i64 p6, .int .u64 e6, .slice a6 240 l6] 25))); have HB6 := hide b6; clear HG5 HB5 S6 hb6 b6 HPb)
            | (go_at_call 11; refine HP6.out.mono ?_; rintro e1 w7 ⟨a7, l7, rfl, S7, hb7⟩; have b7 := HB6.out.below hb7; have HE7 := hide (HE.out w7 a7 l7 b7.1 S7); have HB7 := hide b7; clear HP6 HB6 S7 hb7 b7 HE)
            | (go_at_call 17; refine HE7.out.mono ?_; rintro e1 w8 ⟨rfl, hw⟩; subst w8; clear HE7))
          go_ret
          exact ⟨rfl, HB7.out.1⟩
  · rw [decide_eq_false hn] at HS
    clear hS hbs
    go_enter Tryd.func5, Tryd.ntmps5
    go_wp2_with (first
      | (go_at_call 8; refine (HL.out _ HN.out).mono ?_; rintro e1 w1 ⟨rfl, b1⟩; obtain ⟨c0, c1, c2, c3⟩ := b1.cells; have HS1 := hide (HS.out w1 b1); clear HN HS b1)
      | (go_at_call 9; refine HS1.out.mono ?_; rintro e1 w2 ⟨rfl, b2⟩; have HB2 := hide b2; clear HS1 b2 c0 c1 c2 c3)
      | (go_at_call 8; refine (HL.out _ HB2.out).mono ?_; rintro e1 w3 ⟨rfl, b3⟩; clear HB2))
    go_ret
    exact ⟨rfl, b3.1⟩

end Go.Proofs.YtlnedhbeciepdaaDoor
