/- CacheShows's walk. -/
import Derived.Test.YtoplhehcjgldeaaCSv
namespace Go.Proofs.Ytoplhehcjgldeaa
open Go.ChangeShapes Go.WideShapes Go.ChangeAt Go.RowKit
set_option linter.unusedVariables false
set_option maxRecDepth 100000

theorem zeroLast (w : World) : (zeroValue 31).run Try.prog w = .ok (.agg #[.int .u8 0, .int .u8 0, .int .u8 0, .int .u8 0, .int .u8 0, .int .u8 0, .int .u8 0, .int .u8 0]) w := by kernel_rfl

set_option maxHeartbeats 8000000 in
theorem cacheShows_walk (W : World) (z : Int) (v : Value) (os : List Oc) (hz : (Lit.int .u8 z).wf = true) (hs : Scr W v os) :
    Calls Try.prog 3 #[.int .u8 z, v] W fun e w' => e = .returned (.bool true) ∧ Below W.heap.size W w' := by
  obtain ⟨hz0, hz1⟩ := bounds_u8 hz
  clear hz
  obtain ⟨N, hN⟩ : ∃ N : Nat, 2 + z % 63 = (N : Int) := ⟨(2 + z % 63).toNat, by omega⟩
  have hN1 : 2 ≤ N := by omega
  have hN2 : N ≤ 64 := by omega
  have HN := hide (new_ok W 8 (by omega) (by omega))
  have HC : Hid (∀ (w1 : World) (b : Nat), Dev w1 b (fun k => W.heap.size ≤ k) (newD 8) → Below W.heap.size W w1 → Calls Try.prog 8 #[dp b, .int .i64 N] w1 fun e w' => ∃ c, e = .returned (.tuple #[dp c, .int .i64 0]) ∧ Duos W Non Non w' c b (newC N) (newD 8) ∧ Below w1.heap.size w1 w') := fun w1 b hd hb => cnew_ok W w1 Non Non b _ (newD 8) hd (fun k hk => ⟨.inr hk, fun h => h⟩) (fun _ h => h.elim) (Only.of_below _ hb) N hN1 hN2
  obtain ⟨ao, cap, rfl, hc1, hc2⟩ := hs.form
  have HS := hide hs
  obtain ⟨m, hm⟩ : ∃ m : Nat, min (os.length : Int) 60 = (m : Int) := ⟨(min (os.length : Int) 60).toNat, by omega⟩
  have hm1 : m ≤ os.length := by omega
  have hm2 : m ≤ 60 := by omega
  have hm3 : max (m : Int) 0 = (m : Int) := by omega
  have hzl := zeroLast
  clear hs
  go_enter Try.func3, Try.ntmps3
  go_wp2_with (first
    | (go_at_call 7; refine HN.out.mono ?_; rintro e w1 ⟨b, rfl, hd1, hb1⟩; have HD1 := hide hd1; have HB1 := hide hb1; clear HN hd1 hb1)
    | (go_at_call 8; refine (HC.out w1 b HD1.out HB1.out).mono ?_; rintro e w2 ⟨c, rfl, hd2, hb2⟩; have HD2 := hide hd2; clear HC HD1 HB1 hd2 hb2)
    | (go_at_call 9; refine (live5_any w2).mono ?_; rintro e w3 ⟨rfl, hb3⟩; have HD3 := hide (sv_begin N hN1 hN2 W w3 Non c b (HD2.out.below hb3)); clear HD2 hb3))
  have HD4 := hide ((HD3.out.new (.cells #[.int .u8 0, .int .u8 0, .int .u8 0, .int .u8 0, .int .u8 0, .int .u8 0, .int .u8 0, .int .u8 0] 31)).less (X' := (· = w3.heap.size)) (fun _ e => .inr e))
  have HL4 : Hid (Blk (w3.alloc (.cells #[.int .u8 0, .int .u8 0, .int .u8 0, .int .u8 0, .int .u8 0, .int .u8 0, .int .u8 0, .int .u8 0] 31)) w3.heap.size 31 (pc (List.replicate 8 0))) := Blk.new w3 _ _
  have hWl : W.heap.size ≤ w3.heap.size := HD3.out.only.size
  generalize w3.alloc (.cells #[.int .u8 0, .int .u8 0, .int .u8 0, .int .u8 0, .int .u8 0, .int .u8 0, .int .u8 0, .int .u8 0] 31) = w4 at *
  generalize w3.heap.size = lb at *
  clear HD3 hzl
  have hza := zeroOcRun
  go_loopg [11, 12, 13, 14, 52] m (fun g oo pp bb ee i wr => ∃ (k : Nat) (ls : List Int), g + k = m ∧ i = .int .i64 k ∧ Sv N (70 * k) (lastF ls) W (· = lb) wr c b ∧ Blk wr lb 31 (pc ls) ∧ ls.length = 8 ∧ ByteOk ls)
  case atStart => exact ⟨0, List.replicate 8 0, by omega, rfl, HD4.out, HL4.out, List.length_replicate, fun x hx => by rw [(List.mem_replicate.1 hx).2]; omega⟩
  case round =>
    obtain ⟨k, ls, hgk, rfl, hsv, hlB, hls, hlb⟩ := hrel
    have HSV := hide hsv
    have HLB0 := hide hlB
    clear hsv hlB HD4 HL4
    by_cases hk : k < m
    · have hki : (k : Int) < (m : Int) := by omega
      have hs := HS.out.below HSV.out.only
      have hop := hs.op (i := k) (by omega)
      obtain ⟨g, off, hao, hgl, hr⟩ := hs.at (i := k) (by omega)
      subst hao
      obtain ⟨o, ho⟩ : ∃ o, ocAt os k = o := ⟨_, rfl⟩
      rw [ho] at hop hr
      obtain ⟨z1, z2, z3, z4⟩ := oc_facts o
      have HR := hide hr
      have HZ1 := hide z1
      have HZ2 := hide z2
      have HZ3 := hide z3
      have HZ4 := hide z4
      have hB := Blk.new wr 33 (occ o)
      have q0 : (wr.alloc (.cells (occ o).toArray 33)).cell? ⟨wr.heap.size, 0, none⟩ = some (.int .i64 o.dO) := hB.cell 0
      have q1 : (wr.alloc (.cells (occ o).toArray 33)).cell? ⟨wr.heap.size, 1, none⟩ = some (.int .i64 o.p) := hB.cell 1
      have q2 : (wr.alloc (.cells (occ o).toArray 33)).cell? ⟨wr.heap.size, 2, none⟩ = some (.int .u8 o.c) := hB.cell 2
      have HA := hide (HSV.out.new (.cells (occ o).toArray 33))
      have HLB := hide (HLB0.out.alloc (.cells (occ o).toArray 33))
      have HQB := hide hB
      have HPG := hide (fun wx : World => page5_any wx o.c hop.c0 hop.c1)
      have hc0 := hop.c0
      have hcc := hop.c1
      obtain ⟨hpl, hph⟩ := bounds_i64 hop.hp
      clear hs hop ho hr z1 z2 z3 z4 hB HSV HLB0
      by_cases hp : 0 < o.p
      · obtain ⟨q, hq⟩ : ∃ q : Nat, o.p % 8 = (q : Int) := ⟨(o.p % 8).toNat, by omega⟩
        have hq2 : q < 8 := by omega
        obtain ⟨Z, hZ⟩ : ∃ Z, ls.getD q 0 = Z := ⟨_, rfl⟩
        have HZZ := hide hZ
        have HZB : Hid (0 ≤ Z ∧ Z ≤ 255) := hZ ▸ hlb.get q
        clear hZ
        by_cases h1 : o.dO = 1
        · rw [h1] at q0
          go_wp2_with (first
            | ((with_reducible refine wpList_load_mid rfl 33 (.tmp 54) rfl g (off + k * 4) ?_ (occ o) _ HR.out Try.underlying33 rfl HZ1.out ?_); exact rfl)
            | ((with_reducible refine wpList_store_new rfl 33 (.tmp 11) (.tmp 55) rfl ocZero (occ o).toArray 33 ?_ ?_ HZ3.out HZ2.out HZ4.out ?_); exact rfl; exact rfl)
            | (go_at_call 11; refine (HPG.out _).mono ?_; rintro e w7 ⟨g7, rfl, hp7, hg7, hb7⟩; have HB7 := hide (HQB.out.below hb7 HQB.out.lt); have HL7 := hide (HLB.out.below hb7 HLB.out.lt); have HP7 := hide (sv_put N (70 * k) _ W _ _ c b (by omega) hN1 HA.out w7 hb7 g7 o.c hc0 hcc hg7 hp7 q (by omega)); clear hp7 hg7 hb7 HA HPG HLB)
            | (go_at_call 10; refine HP7.out.mono ?_; rintro e w8 ⟨rfl, hd8, ht8⟩; have hB8 := HB7.out.only ht8 (fun h => h.2 (.inr rfl)); have hL8 := HL7.out.only ht8 (fun h => h.2 (.inl rfl)); have c82 : w8.cell? ⟨wr.heap.size, 2, none⟩ = some (.int .u8 o.c) := hB8.cell 2; have cl8 : w8.cell? ⟨lb, q, none⟩ = some (.int .u8 (ls.getD q 0)) := (hL8.cell q).trans (pc_get ls q (by omega)); have fl8 := hL8.frozen q; have HL8 := hide hL8; have HD8 := hide hd8; clear HP7 hd8 ht8 HB7 HL7 hB8 hL8))
          go_roundg (gk - 1)
          case measure => omega
          case rel =>
            have ho : Only (· = lb) w8 (w8.setCell ⟨lb, q, none⟩ (.int .u8 o.c)) := (Only.refl (· = lb) w8).setCell ⟨lb, q, none⟩ _ (fun _ => rfl)
            have hB9 := HL8.out.set q (.int .u8 o.c)
            rw [pc_set] at hB9
            refine ⟨k + 1, ls.set q o.c, by omega, by go_num, ((((HD8.out.keep ho (fun j e => .inl (.inl e)) (fun j hj e => by omega)).less (fun _ h => .inl h)).congr (fun r _ => (lastF_set ls q o.c (by omega) r).symm)).mono (by omega)), hB9, by simp [hls], bytes_set hlb q hc0 hcc⟩
        · by_cases h5 : o.dO = 5
          · rw [h5] at q0
            clear h1
            go_wp2_with (first
              | ((with_reducible refine wpList_load_mid rfl 33 (.tmp 54) rfl g (off + k * 4) ?_ (occ o) _ HR.out Try.underlying33 rfl HZ1.out ?_); exact rfl)
              | ((with_reducible refine wpList_store_new rfl 33 (.tmp 11) (.tmp 55) rfl ocZero (occ o).toArray 33 ?_ ?_ HZ3.out HZ2.out HZ4.out ?_); exact rfl; exact rfl)
              | (go_at_call 12; refine (sv_flush N (70 * k) _ W _ _ c b (by omega) HA.out).mono ?_; rintro e w7 ⟨rfl, hd7, ht7⟩; have hL7 := HLB.out.only ht7 (fun h => h.2 (.inl rfl)); have HL7 := hide hL7; have HD7 := hide hd7; clear hd7 ht7 hL7 HA HLB HPG)
              | (go_at_call 13; refine (sv_changed N _ _ W _ w7 c b HD7.out).mono ?_; rintro e w8 ⟨ao8, cap8, rfl, hb8⟩; have HL8 := hide (HL7.out.below hb8 HL7.out.lt); have HD8 := hide (HD7.out.sv.below hb8); clear HL7 HD7 hb8))
            go_roundg (gk - 1)
            case measure => omega
            case rel => exact ⟨k + 1, ls, by omega, by go_num, ((HD8.out.less (fun _ h => .inl h)).mono (by omega)), HL8.out, hls, hlb⟩
          · by_cases h7 : o.dO = 7
            · rw [h7] at q0
              clear h1 h5
              go_wp2_with (first
                | ((with_reducible refine wpList_load_mid rfl 33 (.tmp 54) rfl g (off + k * 4) ?_ (occ o) _ HR.out Try.underlying33 rfl HZ1.out ?_); exact rfl)
                | ((with_reducible refine wpList_store_new rfl 33 (.tmp 11) (.tmp 55) rfl ocZero (occ o).toArray 33 ?_ ?_ HZ3.out HZ2.out HZ4.out ?_); exact rfl; exact rfl)
                | (go_at_call 14; refine (sv_sync N (70 * k) _ W _ _ c b (by omega) HA.out).mono ?_; rintro e w8 ⟨rfl, hd8, ht8⟩; have HL8 := hide (HLB.out.only ht8 (fun h => h.2 (.inl rfl))); have HD8 := hide hd8; clear hd8 ht8 HA HLB HPG))
              go_roundg (gk - 1)
              case measure => omega
              case rel => exact ⟨k + 1, ls, by omega, by go_num, ((HD8.out.less (fun _ h => .inl h)).mono (by omega)), HL8.out, hls, hlb⟩
            ·
              go_wp2_with (first
                | ((with_reducible refine wpList_load_mid rfl 33 (.tmp 54) rfl g (off + k * 4) ?_ (occ o) _ HR.out Try.underlying33 rfl HZ1.out ?_); exact rfl)
                | ((with_reducible refine wpList_store_new rfl 33 (.tmp 11) (.tmp 55) rfl ocZero (occ o).toArray 33 ?_ ?_ HZ3.out HZ2.out HZ4.out ?_); exact rfl; exact rfl)
                | (go_at_call 15; refine (sv_get N (70 * k) _ W _ _ c b (by omega) hN1 HA.out q (by omega)).mono ?_; rintro e w7 ⟨v7, rfl, hs7, hd7, ht7⟩; have hL7 := HLB.out.only ht7 (fun h => h.2 (.inl rfl)); have cl7 : w7.cell? ⟨lb, q, none⟩ = some (.int .u8 Z) := (by have := (hL7.cell q).trans (pc_get ls q (by omega)); rw [HZZ.out] at this; exact this); have HS7 := hide hs7; have HL7 := hide hL7; have HD7 := hide hd7; clear hd7 hs7 ht7 hL7 HA HLB HPG)
                | (go_at_call 11; refine (page5_any w7 Z HZB.out.1 HZB.out.2).mono ?_; rintro e w8 ⟨g8, rfl, hp8, hg8, hb8⟩; have HQ8 := hide hp8; have HS8 := hide (HS7.out.below hb8); have HL8 := hide (HL7.out.below hb8 HL7.out.lt); have HD8 := hide (HD7.out.below hb8); clear HS7 HL7 HD7 hp8 hb8 hg8)
                | (go_at_call 16; refine (refSame_any w8 _ _ (pg (ls.getD q 0)) (pg Z) HS8.out (blk_sl HQ8.out (pg_ok HZB.out.1 HZB.out.2))).mono ?_; rw [decide_eq_true (by rw [HZZ.out])]; rintro e w9 ⟨rfl, hb9⟩; have HL9 := hide (HL8.out.below hb9 HL8.out.lt); have HD9 := hide (HD8.out.below hb9); clear HS8 HL8 HD8 HQ8 hb9))
              go_roundg (gk - 1)
              case measure => omega
              case rel => exact ⟨k + 1, ls, by omega, by go_num, ((HD9.out.less (fun _ h => .inl h)).mono (by omega)), HL9.out, hls, hlb⟩
      · have hq2 : 0 < 8 := by omega
        obtain ⟨Z, hZ⟩ : ∃ Z, ls.getD 0 0 = Z := ⟨_, rfl⟩
        have HZZ := hide hZ
        have HZB : Hid (0 ≤ Z ∧ Z ≤ 255) := hZ ▸ hlb.get 0
        clear hZ
        by_cases h1 : o.dO = 1
        · rw [h1] at q0
          go_wp2_with (first
            | ((with_reducible refine wpList_load_mid rfl 33 (.tmp 54) rfl g (off + k * 4) ?_ (occ o) _ HR.out Try.underlying33 rfl HZ1.out ?_); exact rfl)
            | ((with_reducible refine wpList_store_new rfl 33 (.tmp 11) (.tmp 55) rfl ocZero (occ o).toArray 33 ?_ ?_ HZ3.out HZ2.out HZ4.out ?_); exact rfl; exact rfl)
            | (go_at_call 11; refine (HPG.out _).mono ?_; rintro e w7 ⟨g7, rfl, hp7, hg7, hb7⟩; have HB7 := hide (HQB.out.below hb7 HQB.out.lt); have HL7 := hide (HLB.out.below hb7 HLB.out.lt); have HP7 := hide (sv_put N (70 * k) _ W _ _ c b (by omega) hN1 HA.out w7 hb7 g7 o.c hc0 hcc hg7 hp7 0 (by omega)); clear hp7 hg7 hb7 HA HPG HLB)
            | (go_at_call 10; refine HP7.out.mono ?_; rintro e w8 ⟨rfl, hd8, ht8⟩; have hB8 := HB7.out.only ht8 (fun h => h.2 (.inr rfl)); have hL8 := HL7.out.only ht8 (fun h => h.2 (.inl rfl)); have c82 : w8.cell? ⟨wr.heap.size, 2, none⟩ = some (.int .u8 o.c) := hB8.cell 2; have cl8 : w8.cell? ⟨lb, 0, none⟩ = some (.int .u8 (ls.getD 0 0)) := (hL8.cell 0).trans (pc_get ls 0 (by omega)); have fl8 := hL8.frozen 0; have HL8 := hide hL8; have HD8 := hide hd8; clear HP7 hd8 ht8 HB7 HL7 hB8 hL8))
          go_roundg (gk - 1)
          case measure => omega
          case rel =>
            have ho : Only (· = lb) w8 (w8.setCell ⟨lb, 0, none⟩ (.int .u8 o.c)) := (Only.refl (· = lb) w8).setCell ⟨lb, 0, none⟩ _ (fun _ => rfl)
            have hB9 := HL8.out.set 0 (.int .u8 o.c)
            rw [pc_set] at hB9
            refine ⟨k + 1, ls.set 0 o.c, by omega, by go_num, ((((HD8.out.keep ho (fun j e => .inl (.inl e)) (fun j hj e => by omega)).less (fun _ h => .inl h)).congr (fun r _ => (lastF_set ls 0 o.c (by omega) r).symm)).mono (by omega)), hB9, by simp [hls], bytes_set hlb 0 hc0 hcc⟩
        · by_cases h5 : o.dO = 5
          · rw [h5] at q0
            clear h1
            go_wp2_with (first
              | ((with_reducible refine wpList_load_mid rfl 33 (.tmp 54) rfl g (off + k * 4) ?_ (occ o) _ HR.out Try.underlying33 rfl HZ1.out ?_); exact rfl)
              | ((with_reducible refine wpList_store_new rfl 33 (.tmp 11) (.tmp 55) rfl ocZero (occ o).toArray 33 ?_ ?_ HZ3.out HZ2.out HZ4.out ?_); exact rfl; exact rfl)
              | (go_at_call 12; refine (sv_flush N (70 * k) _ W _ _ c b (by omega) HA.out).mono ?_; rintro e w7 ⟨rfl, hd7, ht7⟩; have hL7 := HLB.out.only ht7 (fun h => h.2 (.inl rfl)); have HL7 := hide hL7; have HD7 := hide hd7; clear hd7 ht7 hL7 HA HLB HPG)
              | (go_at_call 13; refine (sv_changed N _ _ W _ w7 c b HD7.out).mono ?_; rintro e w8 ⟨ao8, cap8, rfl, hb8⟩; have HL8 := hide (HL7.out.below hb8 HL7.out.lt); have HD8 := hide (HD7.out.sv.below hb8); clear HL7 HD7 hb8))
            go_roundg (gk - 1)
            case measure => omega
            case rel => exact ⟨k + 1, ls, by omega, by go_num, ((HD8.out.less (fun _ h => .inl h)).mono (by omega)), HL8.out, hls, hlb⟩
          · by_cases h7 : o.dO = 7
            · rw [h7] at q0
              clear h1 h5
              go_wp2_with (first
                | ((with_reducible refine wpList_load_mid rfl 33 (.tmp 54) rfl g (off + k * 4) ?_ (occ o) _ HR.out Try.underlying33 rfl HZ1.out ?_); exact rfl)
                | ((with_reducible refine wpList_store_new rfl 33 (.tmp 11) (.tmp 55) rfl ocZero (occ o).toArray 33 ?_ ?_ HZ3.out HZ2.out HZ4.out ?_); exact rfl; exact rfl)
                | (go_at_call 14; refine (sv_sync N (70 * k) _ W _ _ c b (by omega) HA.out).mono ?_; rintro e w8 ⟨rfl, hd8, ht8⟩; have HL8 := hide (HLB.out.only ht8 (fun h => h.2 (.inl rfl))); have HD8 := hide hd8; clear hd8 ht8 HA HLB HPG))
              go_roundg (gk - 1)
              case measure => omega
              case rel => exact ⟨k + 1, ls, by omega, by go_num, ((HD8.out.less (fun _ h => .inl h)).mono (by omega)), HL8.out, hls, hlb⟩
            ·
              go_wp2_with (first
                | ((with_reducible refine wpList_load_mid rfl 33 (.tmp 54) rfl g (off + k * 4) ?_ (occ o) _ HR.out Try.underlying33 rfl HZ1.out ?_); exact rfl)
                | ((with_reducible refine wpList_store_new rfl 33 (.tmp 11) (.tmp 55) rfl ocZero (occ o).toArray 33 ?_ ?_ HZ3.out HZ2.out HZ4.out ?_); exact rfl; exact rfl)
                | (go_at_call 15; refine (sv_get N (70 * k) _ W _ _ c b (by omega) hN1 HA.out 0 (by omega)).mono ?_; rintro e w7 ⟨v7, rfl, hs7, hd7, ht7⟩; have hL7 := HLB.out.only ht7 (fun h => h.2 (.inl rfl)); have cl7 : w7.cell? ⟨lb, 0, none⟩ = some (.int .u8 Z) := (by have := (hL7.cell 0).trans (pc_get ls 0 (by omega)); rw [HZZ.out] at this; exact this); have HS7 := hide hs7; have HL7 := hide hL7; have HD7 := hide hd7; clear hd7 hs7 ht7 hL7 HA HLB HPG)
                | (go_at_call 11; refine (page5_any w7 Z HZB.out.1 HZB.out.2).mono ?_; rintro e w8 ⟨g8, rfl, hp8, hg8, hb8⟩; have HQ8 := hide hp8; have HS8 := hide (HS7.out.below hb8); have HL8 := hide (HL7.out.below hb8 HL7.out.lt); have HD8 := hide (HD7.out.below hb8); clear HS7 HL7 HD7 hp8 hb8 hg8)
                | (go_at_call 16; refine (refSame_any w8 _ _ (pg (ls.getD 0 0)) (pg Z) HS8.out (blk_sl HQ8.out (pg_ok HZB.out.1 HZB.out.2))).mono ?_; rw [decide_eq_true (by rw [HZZ.out])]; rintro e w9 ⟨rfl, hb9⟩; have HL9 := hide (HL8.out.below hb9 HL8.out.lt); have HD9 := hide (HD8.out.below hb9); clear HS8 HL8 HD8 HQ8 hb9))
              go_roundg (gk - 1)
              case measure => omega
              case rel => exact ⟨k + 1, ls, by omega, by go_num, ((HD9.out.less (fun _ h => .inl h)).mono (by omega)), HL9.out, hls, hlb⟩
    · have hkm : k = m := by omega
      subst hkm
      go_wp2
      go_ret
      exact ⟨rfl, HSV.out.only⟩

end Go.Proofs.Ytoplhehcjgldeaa
