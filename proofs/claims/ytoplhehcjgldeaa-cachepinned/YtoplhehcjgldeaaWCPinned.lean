/- CachePinned's walk. -/
import Derived.Test.YtoplhehcjgldeaaCPn
namespace Go.Proofs.Ytoplhehcjgldeaa
open Go.ChangeShapes Go.WideShapes Go.ChangeAt Go.RowKit
set_option linter.unusedVariables false
set_option maxRecDepth 100000

set_option maxHeartbeats 4000000 in
theorem cachePinned_walk (W : World) (z : Int) (v : Value) (os : List Oc) (hz : (Lit.int .u8 z).wf = true) (hs : Scr W v os) :
    Calls Try.prog 5 #[.int .u8 z, v] W fun e w' => e = .returned (.bool true) ∧ Below W.heap.size W w' := by
  obtain ⟨hz0, hz1⟩ := bounds_u8 hz
  clear hz
  obtain ⟨N, hN⟩ : ∃ N : Nat, 2 + z % 4 = (N : Int) := ⟨(2 + z % 4).toNat, by omega⟩
  have hN1 : 2 ≤ N := by omega
  have hN2 : N ≤ 5 := by omega
  have HN := hide (new_ok W 12 (by omega) (by omega))
  have HC : Hid (∀ (w1 : World) (b : Nat), Dev w1 b (fun k => W.heap.size ≤ k) (newD 12) → Below W.heap.size W w1 → Calls Try.prog 8 #[dp b, .int .i64 N] w1 fun e w' => ∃ c, e = .returned (.tuple #[dp c, .int .i64 0]) ∧ Duos W Non Non w' c b (newC N) (newD 12) ∧ Below w1.heap.size w1 w') := fun w1 b hd hb => cnew_ok W w1 Non Non b _ (newD 12) hd (fun k hk => ⟨.inr hk, fun h => h⟩) (fun _ h => h.elim) (Only.of_below _ hb) N hN1 (by omega)
  have HG5 := hide (fun wx : World => page5_any wx 5 (by decide) (by decide))
  have HP1 := hide (pn_first W N hN1 (by omega))
  obtain ⟨ao, cap, rfl, hc1, hc2⟩ := hs.form
  have HS := hide hs
  obtain ⟨m, hm⟩ : ∃ m : Nat, min (os.length : Int) 40 = (m : Int) := ⟨(min (os.length : Int) 40).toNat, by omega⟩
  have hm1 : m ≤ os.length := by omega
  have hm2 : m ≤ 40 := by omega
  have hm3 : max (m : Int) 0 = (m : Int) := by omega
  clear hs
  go_enter Try.func5, Try.ntmps5
  go_wp2_with (first
    | (go_at_call 7; refine HN.out.mono ?_; rintro e w1 ⟨b, rfl, hd1, hb1⟩; have HD1 := hide hd1; have HB1 := hide hb1; clear HN hd1 hb1)
    | (go_at_call 8; refine (HC.out w1 b HD1.out HB1.out).mono ?_; rintro e w2 ⟨c, rfl, hd2, hb2⟩; have HD2 := hide hd2; clear HC HD1 HB1 hd2 hb2)
    | (go_at_call 9; refine (live5_any w2).mono ?_; rintro e w3 ⟨rfl, hb3⟩; have HD3 := hide (HD2.out.below hb3); clear HD2 hb3)
    | (go_at_call 11; refine (HG5.out w3).mono ?_; rintro e w4 ⟨g4, rfl, hp4, hg4, hb4⟩; have HP4 := hide (HP1.out Non w3 w4 c b g4 HD3.out hb4 hg4 hp4); clear hp4 hg4 hb4 HD3 HP1)
    | (go_at_call 10; refine HP4.out.mono ?_; rintro e w5 ⟨rfl, hd5⟩; have HP5 := hide (pn_pin N 0 2 W Non w5 c b (by omega) hd5 (by omega)); clear HP4 hd5)
    | (go_at_call 18; refine HP5.out.mono ?_; rintro e w6 ⟨rfl, hd6⟩; have HD6 := hide hd6; clear HP5 hd6))
  have hza := zeroOcRun
  go_loopg [11, 12, 13, 68] m (fun g oo pp ee i wr => ∃ k : Nat, g + k = m ∧ i = .int .i64 k ∧ Pn N 1 (3 + 4 * k) W Non wr c b)
  case atStart => exact ⟨0, by omega, rfl, HD6.out⟩
  case round =>
    obtain ⟨k, hgk, rfl, hpn⟩ := hrel
    have HPN := hide hpn
    clear hpn HD6
    by_cases hk : k < m
    · have hki : (k : Int) < (m : Int) := by omega
      have hs := HS.out.below HPN.out.only
      have hop := hs.op (i := k) (by omega)
      obtain ⟨g, off, hao, hgl, hr⟩ := hs.at (i := k) (by omega)
      subst hao
      obtain ⟨o, ho⟩ : ∃ o, ocAt os k = o := ⟨_, rfl⟩
      rw [ho] at hop hr
      obtain ⟨z1, z2, z3, z4⟩ := oc_facts o
      have HR := hide hr
      have HZ1 := hide z1
      have HZ2 := hide z2
      have HZ3 := hide z3
      have HZ4 := hide z4
      have hB := Blk.new wr 33 (occ o)
      have q0 : (wr.alloc (.cells (occ o).toArray 33)).cell? ⟨wr.heap.size, 0, none⟩ = some (.int .i64 o.dO) := hB.cell 0
      have q1 : (wr.alloc (.cells (occ o).toArray 33)).cell? ⟨wr.heap.size, 1, none⟩ = some (.int .i64 o.p) := hB.cell 1
      have q2 : (wr.alloc (.cells (occ o).toArray 33)).cell? ⟨wr.heap.size, 2, none⟩ = some (.int .u8 o.c) := hB.cell 2
      have hbA : Below wr.heap.size wr (wr.alloc (.cells (occ o).toArray 33)) := (Below.refl _ wr).alloc (Nat.le_refl _) _
      have HA := hide (HPN.out.new (.cells (occ o).toArray 33))
      have HQB := hide hB
      have HPG := hide (fun wx : World => page5_any wx o.c hop.c0 hop.c1)
      have hc0 := hop.c0
      have hcc := hop.c1
      obtain ⟨hpl, hph⟩ := bounds_i64 hop.hp
      clear hs hop ho hr z1 z2 z3 z4 hB hbA HPN
      by_cases hp : 0 < o.p
      · obtain ⟨q, hq⟩ : ∃ q : Nat, 1 + o.p % 11 = (q : Int) := ⟨(1 + o.p % 11).toNat, by omega⟩
        have hq1 : 0 < q := by omega
        have hq2 : q < 12 := by omega
        by_cases h0 : o.dO = 0
        · clear q0
          go_wp2_with (first
            | ((with_reducible refine wpList_load_mid rfl 33 (.tmp 70) rfl g (off + k * 4) ?_ (occ o) _ HR.out Try.underlying33 rfl HZ1.out ?_); exact rfl)
            | ((with_reducible refine wpList_store_new rfl 33 (.tmp 11) (.tmp 71) rfl ocZero (occ o).toArray 33 ?_ ?_ HZ3.out HZ2.out HZ4.out ?_); exact rfl; exact rfl)
            | (go_at_call 11; refine (HPG.out _).mono ?_; rintro e w7 ⟨g7, rfl, hp7, hg7, hb7⟩; have HB7 := hide (HQB.out.below hb7 HQB.out.lt); have HP7 := hide (pn_put N 1 (3 + 4 * k) W _ _ c b (by omega) HA.out (by omega) w7 hb7 g7 o.c hc0 hcc hg7 hp7 q (by omega) (by omega) (by omega)); clear hp7 hg7 hb7 HA HPG)
            | (go_at_call 10; refine HP7.out.mono ?_; rintro e w8 ⟨rfl, hd8, ht8⟩; have HB8 := hide (HB7.out.only ht8 (fun h => h.2 rfl)); have c80 : w8.cell? ⟨wr.heap.size, 0, none⟩ = some (.int .i64 o.dO) := HB8.out.cell 0; rw [h0] at c80; have HD8 := hide hd8; clear HP7 hd8 ht8 HB7)
            | (go_at_call 15; refine (pn_get N 1 _ W _ w8 c b (by omega) HD8.out (by omega) q (by omega)).mono ?_; rintro e w9 ⟨v9, rfl, hd9, ht9⟩; have HD9 := hide hd9.pn; clear HD8 hd9 ht9)
            | (go_at_call 19; refine (pn_has N 1 _ W _ w9 c b HD9.out (by omega)).mono ?_; rintro e w10 ⟨rfl, hw⟩; subst w10)
            | (go_at_call 20; refine (pn_held N 1 _ W _ w9 c b HD9.out).mono ?_; rintro e w11 ⟨ao11, n11, cap11, rfl, hn11, hd11⟩; have hni : ¬ (N : Int) < (n11 : Int) := (by omega); have HD11 := hide hd11; clear HD9 hd11))
          go_roundg (gk - 1)
          case measure => omega
          case rel => exact ⟨k + 1, by omega, by go_num, (HD11.out.less (fun _ h => h.elim)).mono (by omega)⟩
        · clear q0
          go_wp2_with (first
            | ((with_reducible refine wpList_load_mid rfl 33 (.tmp 70) rfl g (off + k * 4) ?_ (occ o) _ HR.out Try.underlying33 rfl HZ1.out ?_); exact rfl)
            | ((with_reducible refine wpList_store_new rfl 33 (.tmp 11) (.tmp 71) rfl ocZero (occ o).toArray 33 ?_ ?_ HZ3.out HZ2.out HZ4.out ?_); exact rfl; exact rfl)
            | (go_at_call 11; refine (HPG.out _).mono ?_; rintro e w7 ⟨g7, rfl, hp7, hg7, hb7⟩; have HB7 := hide (HQB.out.below hb7 HQB.out.lt); have HP7 := hide (pn_put N 1 (3 + 4 * k) W _ _ c b (by omega) HA.out (by omega) w7 hb7 g7 o.c hc0 hcc hg7 hp7 q (by omega) (by omega) (by omega)); clear hp7 hg7 hb7 HA HPG)
            | (go_at_call 10; refine HP7.out.mono ?_; rintro e w8 ⟨rfl, hd8, ht8⟩; have HB8 := hide (HB7.out.only ht8 (fun h => h.2 rfl)); have c80 : w8.cell? ⟨wr.heap.size, 0, none⟩ = some (.int .i64 o.dO) := HB8.out.cell 0; have HD8 := hide hd8; clear HP7 hd8 ht8 HB7)
            | (go_at_call 19; refine (pn_has N 1 _ W _ w8 c b HD8.out (by omega)).mono ?_; rintro e w10 ⟨rfl, hw⟩; subst w10)
            | (go_at_call 20; refine (pn_held N 1 _ W _ w8 c b HD8.out).mono ?_; rintro e w11 ⟨ao11, n11, cap11, rfl, hn11, hd11⟩; have hni : ¬ (N : Int) < (n11 : Int) := (by omega); have HD11 := hide hd11; clear HD8 hd11))
          go_roundg (gk - 1)
          case measure => omega
          case rel => exact ⟨k + 1, by omega, by go_num, (HD11.out.less (fun _ h => h.elim)).mono (by omega)⟩
      · by_cases h0 : o.dO = 0
        · clear q0
          go_wp2_with (first
            | ((with_reducible refine wpList_load_mid rfl 33 (.tmp 70) rfl g (off + k * 4) ?_ (occ o) _ HR.out Try.underlying33 rfl HZ1.out ?_); exact rfl)
            | ((with_reducible refine wpList_store_new rfl 33 (.tmp 11) (.tmp 71) rfl ocZero (occ o).toArray 33 ?_ ?_ HZ3.out HZ2.out HZ4.out ?_); exact rfl; exact rfl)
            | (go_at_call 11; refine (HPG.out _).mono ?_; rintro e w7 ⟨g7, rfl, hp7, hg7, hb7⟩; have HB7 := hide (HQB.out.below hb7 HQB.out.lt); have HP7 := hide (pn_put N 1 (3 + 4 * k) W _ _ c b (by omega) HA.out (by omega) w7 hb7 g7 o.c hc0 hcc hg7 hp7 1 (by omega) (by omega) (by omega)); clear hp7 hg7 hb7 HA HPG)
            | (go_at_call 10; refine HP7.out.mono ?_; rintro e w8 ⟨rfl, hd8, ht8⟩; have HB8 := hide (HB7.out.only ht8 (fun h => h.2 rfl)); have c80 : w8.cell? ⟨wr.heap.size, 0, none⟩ = some (.int .i64 o.dO) := HB8.out.cell 0; rw [h0] at c80; have HD8 := hide hd8; clear HP7 hd8 ht8 HB7)
            | (go_at_call 15; refine (pn_get N 1 _ W _ w8 c b (by omega) HD8.out (by omega) 1 (by omega)).mono ?_; rintro e w9 ⟨v9, rfl, hd9, ht9⟩; have HD9 := hide hd9.pn; clear HD8 hd9 ht9)
            | (go_at_call 19; refine (pn_has N 1 _ W _ w9 c b HD9.out (by omega)).mono ?_; rintro e w10 ⟨rfl, hw⟩; subst w10)
            | (go_at_call 20; refine (pn_held N 1 _ W _ w9 c b HD9.out).mono ?_; rintro e w11 ⟨ao11, n11, cap11, rfl, hn11, hd11⟩; have hni : ¬ (N : Int) < (n11 : Int) := (by omega); have HD11 := hide hd11; clear HD9 hd11))
          go_roundg (gk - 1)
          case measure => omega
          case rel => exact ⟨k + 1, by omega, by go_num, (HD11.out.less (fun _ h => h.elim)).mono (by omega)⟩
        · clear q0
          go_wp2_with (first
            | ((with_reducible refine wpList_load_mid rfl 33 (.tmp 70) rfl g (off + k * 4) ?_ (occ o) _ HR.out Try.underlying33 rfl HZ1.out ?_); exact rfl)
            | ((with_reducible refine wpList_store_new rfl 33 (.tmp 11) (.tmp 71) rfl ocZero (occ o).toArray 33 ?_ ?_ HZ3.out HZ2.out HZ4.out ?_); exact rfl; exact rfl)
            | (go_at_call 11; refine (HPG.out _).mono ?_; rintro e w7 ⟨g7, rfl, hp7, hg7, hb7⟩; have HB7 := hide (HQB.out.below hb7 HQB.out.lt); have HP7 := hide (pn_put N 1 (3 + 4 * k) W _ _ c b (by omega) HA.out (by omega) w7 hb7 g7 o.c hc0 hcc hg7 hp7 1 (by omega) (by omega) (by omega)); clear hp7 hg7 hb7 HA HPG)
            | (go_at_call 10; refine HP7.out.mono ?_; rintro e w8 ⟨rfl, hd8, ht8⟩; have HB8 := hide (HB7.out.only ht8 (fun h => h.2 rfl)); have c80 : w8.cell? ⟨wr.heap.size, 0, none⟩ = some (.int .i64 o.dO) := HB8.out.cell 0; have HD8 := hide hd8; clear HP7 hd8 ht8 HB7)
            | (go_at_call 19; refine (pn_has N 1 _ W _ w8 c b HD8.out (by omega)).mono ?_; rintro e w10 ⟨rfl, hw⟩; subst w10)
            | (go_at_call 20; refine (pn_held N 1 _ W _ w8 c b HD8.out).mono ?_; rintro e w11 ⟨ao11, n11, cap11, rfl, hn11, hd11⟩; have hni : ¬ (N : Int) < (n11 : Int) := (by omega); have HD11 := hide hd11; clear HD8 hd11))
          go_roundg (gk - 1)
          case measure => omega
          case rel => exact ⟨k + 1, by omega, by go_num, (HD11.out.less (fun _ h => h.elim)).mono (by omega)⟩
    · have hkm : k = m := by omega
      subst hkm
      have HF := hide (pn_forget N 1 _ W Non wr c b HPN.out (by omega))
      go_wp2_with (go_at_call 21; refine HF.out.mono ?_; rintro e w12 ⟨rfl, hd12⟩; have HD12 := hide hd12; clear HF HPN hd12)
      go_loopg [14, 15, 16] (N - 1) (fun g pp bb ee wr => ∃ p : Nat, g + p = N ∧ 0 < p ∧ pp = .int .i64 p ∧ Pn N p (200 + 4 * p) W Non wr c b)
      case atStart => exact ⟨1, by omega, by omega, rfl, HD12.out.mono (by omega)⟩
      case round =>
        obtain ⟨p, hgp, hp0, rfl, hpn⟩ := hrel
        have HPN := hide hpn
        clear hpn HD12
        by_cases hpN : p < N
        · have hpi : (p : Int) < (N : Int) := by omega
          go_wp2_with (first
            | (go_at_call 15; refine (pn_get N p _ W _ _ c b (by omega) HPN.out hpN p (by omega)).mono ?_; rintro e w13 ⟨v13, rfl, hd13, ht13⟩; have HD13 := hide hd13; clear hd13 ht13)
            | (go_at_call 18; refine (pn_pin N p _ W _ w13 c b (by omega) HD13.out (by omega)).mono ?_; rintro e w14 ⟨rfl, hd14⟩; have HD14 := hide hd14; clear hd14 HD13))
          go_roundg (gk - 1)
          case measure => omega
          case rel => exact ⟨p + 1, by omega, by omega, by go_num, HD14.out.mono (by omega)⟩
        · have hpe : p = N := by omega
          subst hpe
          have HPF := hide (pn_full p _ W Non wr c b (by omega) HPN.out (by omega))
          go_wp2_with (first
            | (go_at_call 15; refine HPF.out.mono ?_; rintro e w15 ⟨v15, rfl, hd15⟩; have HP0 := hide (pn_get0 p p _ W Non w15 c b (by omega) hd15 (by omega)); clear HPF HPN hd15)
            | (go_at_call 15; refine HP0.out.mono ?_; rintro e w16 ⟨v16, rfl, hs16, hd16⟩; have HS16 := hide hs16; have HZ16 := hide (hd16.z (by omega) (by omega)); clear HP0 hs16 hd16)
            | (go_at_call 11; refine (HG5.out w16).mono ?_; rintro e w17 ⟨g17, rfl, hp17, hg17, hb17⟩; have HQ17 := hide hp17; have HS17 := hide (HS16.out.below hb17); have HZ17 := hide (HZ16.out.below hb17); clear HG5 hp17 hb17 hg17 HS16 HZ16)
            | (go_at_call 16; refine (refSame_any w17 _ _ (pg 5) (pg 5) HS17.out (blk_sl HQ17.out (pg_ok (by decide) (by decide)))).mono ?_; rw [decide_eq_true rfl]; rintro e w18 ⟨rfl, hb18⟩; have HU1 := hide (pz_unpin W Non w18 c b (HZ17.out.below hb18)); clear HQ17 HS17 HZ17 hb18)
            | (go_at_call 22; refine HU1.out.mono ?_; rintro e w19 ⟨rfl, hz19⟩; have HU2 := hide (pz_unpin0 W Non w19 c b hz19); clear HU1 hz19)
            | (go_at_call 22; refine HU2.out.mono ?_; rintro e w20 ⟨rfl, hz20⟩; have HU3 := hide (pz_forget W Non w20 c b hz20); clear HU2 hz20)
            | (go_at_call 21; refine HU3.out.mono ?_; rintro e w21 ⟨rfl, ch21, d21, hd21, hf21⟩; have HU4 := hide (duos_hasnt W w21 Non Non c b ch21 d21 hd21 0 (by decide) hf21); have HBL := hide hd21.only; clear HU3 hd21 hf21)
            | (go_at_call 19; refine HU4.out.mono ?_; rintro e w22 ⟨rfl, hw⟩; subst w22; clear HU4))
          go_ret
          exact ⟨rfl, HBL.out.below (Nat.le_refl _) (fun _ _ h => h)⟩

end Go.Proofs.Ytoplhehcjgldeaa
