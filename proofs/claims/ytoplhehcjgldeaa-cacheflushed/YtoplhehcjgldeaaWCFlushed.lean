/- CacheFlushed's walk. -/
import Derived.Test.YtoplhehcjgldeaaCSv2
namespace Go.Proofs.Ytoplhehcjgldeaa
open Go.ChangeShapes Go.WideShapes Go.ChangeAt Go.RowKit
set_option linter.unusedVariables false
set_option maxRecDepth 100000

theorem zeroLastF (w : World) : (zeroValue 31).run Try.prog w = .ok (.agg #[.int .u8 0, .int .u8 0, .int .u8 0, .int .u8 0, .int .u8 0, .int .u8 0, .int .u8 0, .int .u8 0]) w := by kernel_rfl

set_option maxHeartbeats 8000000 in
theorem cacheFlushed_walk (W : World) (z : Int) (v : Value) (os : List Oc) (hz : (Lit.int .u8 z).wf = true) (hs : Scr W v os) :
    Calls Try.prog 4 #[.int .u8 z, v] W fun e w' => e = .returned (.bool true) ∧ Below W.heap.size W w' := by
  obtain ⟨hz0, hz1⟩ := bounds_u8 hz
  clear hz
  obtain ⟨N, hN⟩ : ∃ N : Nat, 2 + z % 63 = (N : Int) := ⟨(2 + z % 63).toNat, by omega⟩
  have hN1 : 2 ≤ N := by omega
  have hN2 : N ≤ 64 := by omega
  have HN := hide (new_ok W 8 (by omega) (by omega))
  have HC : Hid (∀ (w1 : World) (b : Nat), Dev w1 b (fun k => W.heap.size ≤ k) (newD 8) → Below W.heap.size W w1 → Calls Try.prog 8 #[dp b, .int .i64 N] w1 fun e w' => ∃ c, e = .returned (.tuple #[dp c, .int .i64 0]) ∧ Duos W Non Non w' c b (newC N) (newD 8) ∧ Below w1.heap.size w1 w') := fun w1 b hd hb => cnew_ok W w1 Non Non b _ (newD 8) hd (fun k hk => ⟨.inr hk, fun h => h⟩) (fun _ h => h.elim) (Only.of_below _ hb) N hN1 hN2
  obtain ⟨ao, cap, rfl, hc1, hc2⟩ := hs.form
  have HS := hide hs
  obtain ⟨m, hm⟩ : ∃ m : Nat, min (os.length : Int) 60 = (m : Int) := ⟨(min (os.length : Int) 60).toNat, by omega⟩
  have hm1 : m ≤ os.length := by omega
  have hm2 : m ≤ 60 := by omega
  have hm3 : max (m : Int) 0 = (m : Int) := by omega
  have hzl := zeroLastF
  clear hs
  go_enter Try.func4, Try.ntmps4
  go_wp2_with (first
    | (go_at_call 7; refine HN.out.mono ?_; rintro e w1 ⟨b, rfl, hd1, hb1⟩; have HD1 := hide hd1; have HB1 := hide hb1; clear HN hd1 hb1)
    | (go_at_call 8; refine (HC.out w1 b HD1.out HB1.out).mono ?_; rintro e w2 ⟨c, rfl, hd2, hb2⟩; have HD2 := hide hd2; clear HC HD1 HB1 hd2 hb2)
    | (go_at_call 9; refine (live5_any w2).mono ?_; rintro e w3 ⟨rfl, hb3⟩; have HD3 := hide (sv_begin N hN1 hN2 W w3 Non c b (HD2.out.below hb3)); clear HD2 hb3))
  have HD4 := hide ((HD3.out.new (.cells #[.int .u8 0, .int .u8 0, .int .u8 0, .int .u8 0, .int .u8 0, .int .u8 0, .int .u8 0, .int .u8 0] 31)).less (X' := (· = w3.heap.size)) (fun _ e => .inr e))
  have HL4 : Hid (Blk (w3.alloc (.cells #[.int .u8 0, .int .u8 0, .int .u8 0, .int .u8 0, .int .u8 0, .int .u8 0, .int .u8 0, .int .u8 0] 31)) w3.heap.size 31 (pc (List.replicate 8 0))) := Blk.new w3 _ _
  have hWl : W.heap.size ≤ w3.heap.size := HD3.out.only.size
  generalize w3.alloc (.cells #[.int .u8 0, .int .u8 0, .int .u8 0, .int .u8 0, .int .u8 0, .int .u8 0, .int .u8 0, .int .u8 0] 31) = w4 at *
  generalize w3.heap.size = lb at *
  clear HD3 hzl
  have hza := zeroOcRun
  go_loopg [11, 12, 13, 54] m (fun g oo bb ee i wr => ∃ (k : Nat) (ls : List Int), g + k = m ∧ i = .int .i64 k ∧ Sv N (70 * k) (lastF ls) W (· = lb) wr c b ∧ Blk wr lb 31 (pc ls) ∧ ls.length = 8 ∧ ByteOk ls)
  case atStart => exact ⟨0, List.replicate 8 0, by omega, rfl, HD4.out, HL4.out, List.length_replicate, fun x hx => by rw [(List.mem_replicate.1 hx).2]; omega⟩
  case round =>
    obtain ⟨k, ls, hgk, rfl, hsv, hlB, hls, hlb⟩ := hrel
    have HSV := hide hsv
    have HLB0 := hide hlB
    clear hsv hlB HD4 HL4
    by_cases hk : k < m
    · have hki : (k : Int) < (m : Int) := by omega
      have hs := HS.out.below HSV.out.only
      have hop := hs.op (i := k) (by omega)
      obtain ⟨g, off, hao, hgl, hr⟩ := hs.at (i := k) (by omega)
      subst hao
      obtain ⟨o, ho⟩ : ∃ o, ocAt os k = o := ⟨_, rfl⟩
      rw [ho] at hop hr
      obtain ⟨z1, z2, z3, z4⟩ := oc_facts o
      have HR := hide hr
      have HZ1 := hide z1
      have HZ2 := hide z2
      have HZ3 := hide z3
      have HZ4 := hide z4
      have hB := Blk.new wr 33 (occ o)
      have q0 : (wr.alloc (.cells (occ o).toArray 33)).cell? ⟨wr.heap.size, 0, none⟩ = some (.int .i64 o.dO) := hB.cell 0
      have q1 : (wr.alloc (.cells (occ o).toArray 33)).cell? ⟨wr.heap.size, 1, none⟩ = some (.int .i64 o.p) := hB.cell 1
      have q2 : (wr.alloc (.cells (occ o).toArray 33)).cell? ⟨wr.heap.size, 2, none⟩ = some (.int .u8 o.c) := hB.cell 2
      have HA := hide (HSV.out.new (.cells (occ o).toArray 33))
      have HLB := hide (HLB0.out.alloc (.cells (occ o).toArray 33))
      have HQB := hide hB
      have HPG := hide (fun wx : World => page5_any wx o.c hop.c0 hop.c1)
      have hc0 := hop.c0
      have hcc := hop.c1
      obtain ⟨hpl, hph⟩ := bounds_i64 hop.hp
      clear hs hop ho hr z1 z2 z3 z4 hB HSV HLB0
      have hLd : ∀ (t : World → Prop), True := fun _ => trivial
      by_cases hp : 0 ≤ o.p ∧ o.p ≤ 7
      · obtain ⟨q, hq⟩ : ∃ q : Nat, o.p = (q : Int) := ⟨o.p.toNat, by omega⟩
        have hq2 : q < 8 := by omega
        rw [hq] at q1
        clear hp hq hpl hph hLd
        by_cases h1 : o.dO = 1
        · rw [h1] at q0
          go_wp2_with (first
            | ((with_reducible refine wpList_load_mid rfl 33 (.tmp 56) rfl g (off + k * 4) ?_ (occ o) _ HR.out Try.underlying33 rfl HZ1.out ?_); exact rfl)
            | ((with_reducible refine wpList_store_new rfl 33 (.tmp 11) (.tmp 57) rfl ocZero (occ o).toArray 33 ?_ ?_ HZ3.out HZ2.out HZ4.out ?_); exact rfl; exact rfl))
          obtain ⟨X1, hX1⟩ : ∃ X1 : Nat → Prop, (fun j => j = lb ∨ j = wr.heap.size) = X1 := ⟨_, rfl⟩
          obtain ⟨ob, hob⟩ : ∃ ob, wr.heap.size = ob := ⟨_, rfl⟩
          rw [hX1] at HA
          have HXB : Hid (X1 lb ∧ X1 ob) := by subst hX1; exact ⟨.inl rfl, .inr hob.symm⟩
          rw [hob] at q0 q1 q2 HQB ⊢
          obtain ⟨W1, hW1⟩ : ∃ W1, wr.alloc (.cells (occ o).toArray 33) = W1 := ⟨_, rfl⟩
          rw [hW1] at q0 q1 q2 HQB HA HLB ⊢
          have HOL : Hid (ob < W1.heap.size) := HQB.out.lt
          have HCX : Hid (∀ wx, Only (fun j => (W.heap.size ≤ j ∧ ¬ X1 j) ∧ j < W1.heap.size) W1 wx → wx.cell? ⟨ob, 1, none⟩ = some (.int .i64 (q : Int)) ∧ wx.cell? ⟨ob, 2, none⟩ = some (.int .u8 o.c)) := fun wx ho => ⟨((HQB.out.only ho (fun h => h.1.2 HXB.out.2)).cell 1).trans (by rw [← q1]; exact (HQB.out.cell 1).symm), (HQB.out.only ho (fun h => h.1.2 HXB.out.2)).cell 2⟩
          clear hX1 hob hW1 q0 HR HZ1 HZ2 HZ3 HZ4 h1
          refine wp_region_only (fun j => (W.heap.size ≤ j ∧ ¬ X1 j) ∧ j < W1.heap.size) [isV (dp c), isV (.pointer (some ⟨ob, 1, none⟩)), isV ((.int .i64 (q : Int))), isV (.pointer (some ⟨ob, 2, none⟩)), isV ((.int .u8 o.c)), isPg5 W1.heap.size o.c, isSv N (70 * k + 2) (fun r => if r = q then pg o.c else lastF ls r) W X1 c b] 6 122 7 (by kernel_rfl) (by kernel_rfl) (by kernel_rfl) (by kernel_rfl) rfl ?_ ?_ ?_
          · repeat (first | exact trivial | refine allStL_isV ?_ | refine ⟨stS_isPg5 _ _ _ (fun _ h => h.elim), fun _ => stS_isPg5 _ _ _ (fun k hk => hk.2), ?_⟩ | refine ⟨stS_isSv _ _ _ _ _ _ _, fun h => absurd rfl h, ?_⟩)
          · refine ⟨?_, ?_, ?_, ?_, ?_, ?_, ?_, trivial⟩
            · intro a wx h
              have e7 : a.eval (.tmp 7) = dp c := h.old 7 (by kernel_rfl)
              have hrel := h.rel
              clear h
              refine gives_by rfl a.eval rfl ?_
              generalize a.eval = ρ at *
              intro hf hc
              go_simp
              exact ⟨relM_quiet (by decide) (Only.refl _ _), rfl⟩
            · intro a wx h
              have e11 : a.eval (.tmp 11) = .pointer (some ⟨ob, 0, none⟩) := h.old 11 (by kernel_rfl)
              have hrel := h.rel
              clear h
              refine gives_by rfl a.eval rfl ?_
              generalize a.eval = ρ at *
              intro hf hc
              go_simp
              exact ⟨relM_quiet (by decide) (Only.refl _ _), rfl⟩
            · intro a wx h
              obtain ⟨v70, e70, f70⟩ := h.val 1 70 (by kernel_rfl)
              obtain rfl : v70 = .pointer (some ⟨ob, 1, none⟩) := f70
              have hrel := h.rel
              clear h
              have c1x := (HCX.out wx hrel).1
              refine gives_by rfl a.eval rfl ?_
              generalize a.eval = ρ at *
              intro hf hc
              go_simp
              exact ⟨relM_quiet (by decide) (Only.refl _ _), rfl⟩
            · intro a wx h
              have e11 : a.eval (.tmp 11) = .pointer (some ⟨ob, 0, none⟩) := h.old 11 (by kernel_rfl)
              have hrel := h.rel
              clear h
              refine gives_by rfl a.eval rfl ?_
              generalize a.eval = ρ at *
              intro hf hc
              go_simp
              exact ⟨relM_quiet (by decide) (Only.refl _ _), rfl⟩
            · intro a wx h
              obtain ⟨v72, e72, f72⟩ := h.val 3 72 (by kernel_rfl)
              obtain rfl : v72 = .pointer (some ⟨ob, 2, none⟩) := f72
              have hrel := h.rel
              clear h
              have c2x := (HCX.out wx hrel).2
              refine gives_by rfl a.eval rfl ?_
              generalize a.eval = ρ at *
              intro hf hc
              go_simp
              exact ⟨relM_quiet (by decide) (Only.refl _ _), rfl⟩
            · intro a wx h
              obtain ⟨v73, e73, f73⟩ := h.val 4 73 (by kernel_rfl)
              obtain rfl : v73 = (.int .u8 o.c) := f73
              have hrel := h.rel
              clear h
              refine gives_by rfl a.eval rfl ?_
              generalize a.eval = ρ at *
              intro hf hc
              go_simp
              refine (HPG.out wx).mono ?_
              rintro e wy ⟨g7, rfl, hp7, hg7, hb7⟩
              have hsz := hrel.size
              exact ⟨_, rfl, relM_quiet (by decide) (Only.of_below _ hb7), ⟨g7, rfl, hp7, Nat.le_trans hsz hg7⟩⟩
            · intro a wx h
              obtain ⟨v69, e69, f69⟩ := h.val 0 69 (by kernel_rfl)
              obtain rfl : v69 = dp c := f69
              obtain ⟨v71, e71, f71⟩ := h.val 2 71 (by kernel_rfl)
              obtain rfl : v71 = (.int .i64 (q : Int)) := f71
              obtain ⟨v74, e74, f74⟩ := h.val 5 74 (by kernel_rfl)
              obtain ⟨g7, rfl, hB7, hg7⟩ := f74
              have hrel := h.rel
              have hq := h.relq rfl
              clear h
              refine gives_by rfl a.eval rfl ?_
              generalize a.eval = ρ at *
              intro hf hc
              go_simp
              refine (sv_putR N (70 * k) _ W X1 W1 wx c b (by omega) hN1 HA.out hq g7 o.c hc0 hcc hg7 hB7 q hq2).mono ?_
              rintro e wy ⟨rfl, hsv, ho⟩
              exact ⟨_, rfl, relM_turn ho, rfl, hsv⟩
          · intro oL hoL vals w8 ho8 hv
            simp only [List.getElem?_toArray, List.getElem?_cons_succ, List.getElem?_cons_zero, Option.some.injEq] at hoL
            subst hoL
            have hv6 : isSv N (70 * k + 2) (fun r => if r = q then pg o.c else lastF ls r) W X1 c b (vals 6) w8 := hv 6 75 (by decide) (by kernel_rfl)
            clear hv
            generalize hact : putAll _ vals 0 _ = act
            obtain ⟨hv6, hd8⟩ := hv6
            have hB8 := HQB.out.only ho8 (fun h => h.1.2 HXB.out.2)
            have hL8 := HLB.out.only ho8 (fun h => h.1.2 HXB.out.1)
            have c81 := (HCX.out w8 ho8).1
            have c82 := (HCX.out w8 ho8).2
            have cl8 : w8.cell? ⟨lb, q, none⟩ = some (.int .u8 (ls.getD q 0)) := (hL8.cell q).trans (pc_get ls q (by omega))
            have fl8 := hL8.frozen q
            have HL8 := hide hL8
            have HD8 := hide hd8
            clear hd8 ho8 hB8 hL8 HCX HA HLB HQB
            subst hact
            simp only [List.dropLast, putAll, Act.put, List.setIfInBounds_toArray, List.set_cons_zero, List.set_cons_succ, hv6, Nat.zero_add, Nat.reduceAdd]
            refine gives_of_run (v := .bool false) (w' := w8) rfl (by go_simp) ?_
            clear hv6
            go_wp2
            go_roundg (gk - 1)
            case measure => omega
            case rel =>
              have ho : Only (· = lb) w8 (w8.setCell ⟨lb, q, none⟩ (.int .u8 o.c)) := (Only.refl (· = lb) w8).setCell ⟨lb, q, none⟩ _ (fun _ => rfl)
              have hB9 := HL8.out.set q (.int .u8 o.c)
              rw [pc_set] at hB9
              refine ⟨k + 1, ls.set q o.c, by omega, by go_num, ((((HD8.out.keep ho (fun j e => .inl (by rw [show j = lb from e]; exact HXB.out.1)) (fun j hj e => by omega)).less (X' := (· = lb)) (fun j h => by rw [show j = lb from h]; exact HXB.out.1)).congr (fun r _ => (lastF_set ls q o.c (by omega) r).symm)).mono (by omega)), hB9, by simp [hls], bytes_set hlb q hc0 hcc⟩
        · go_wp2_with (first
            | ((with_reducible refine wpList_load_mid rfl 33 (.tmp 56) rfl g (off + k * 4) ?_ (occ o) _ HR.out Try.underlying33 rfl HZ1.out ?_); exact rfl)
            | ((with_reducible refine wpList_store_new rfl 33 (.tmp 11) (.tmp 57) rfl ocZero (occ o).toArray 33 ?_ ?_ HZ3.out HZ2.out HZ4.out ?_); exact rfl; exact rfl)
            | (go_at_call 15; refine (sv_get N (70 * k) _ W _ _ c b (by omega) hN1 HA.out q (by omega)).mono ?_; rintro e w7 ⟨v7, rfl, hs7, hd7, ht7⟩; have HL8 := hide (HLB.out.only ht7 (fun h => h.2 (.inl rfl))); have HD8 := hide hd7; clear hd7 hs7 ht7 HA HLB HPG))
          go_roundg (gk - 1)
          case measure => omega
          case rel => exact ⟨k + 1, ls, by omega, by go_num, ((HD8.out.less (fun _ h => .inl h)).mono (by omega)), HL8.out, hls, hlb⟩
      · by_cases hp0 : o.p < 0
        · go_wp2_with (first
            | ((with_reducible refine wpList_load_mid rfl 33 (.tmp 56) rfl g (off + k * 4) ?_ (occ o) _ HR.out Try.underlying33 rfl HZ1.out ?_); exact rfl)
            | ((with_reducible refine wpList_store_new rfl 33 (.tmp 11) (.tmp 57) rfl ocZero (occ o).toArray 33 ?_ ?_ HZ3.out HZ2.out HZ4.out ?_); exact rfl; exact rfl))
          go_roundg (gk - 1)
          case measure => omega
          case rel => exact ⟨k + 1, ls, by omega, by go_num, ((HA.out.less (fun _ h => .inl h)).mono (by omega)), HLB.out, hls, hlb⟩
        · have hp7 : (7 : Int) < o.p := by omega
          go_wp2_with (first
            | ((with_reducible refine wpList_load_mid rfl 33 (.tmp 56) rfl g (off + k * 4) ?_ (occ o) _ HR.out Try.underlying33 rfl HZ1.out ?_); exact rfl)
            | ((with_reducible refine wpList_store_new rfl 33 (.tmp 11) (.tmp 57) rfl ocZero (occ o).toArray 33 ?_ ?_ HZ3.out HZ2.out HZ4.out ?_); exact rfl; exact rfl))
          go_roundg (gk - 1)
          case measure => omega
          case rel => exact ⟨k + 1, ls, by omega, by go_num, ((HA.out.less (fun _ h => .inl h)).mono (by omega)), HLB.out, hls, hlb⟩
    · have hkm : k = m := by omega
      subst hkm
      have HF := hide (sv_flush N _ _ W _ wr c b (by omega) HSV.out)
      go_wp2_with (first
        | (go_at_call 12; refine HF.out.mono ?_; rintro e w7 ⟨rfl, hd7, ht7⟩; have HL7 := hide (HLB0.out.only ht7 (fun h => h.2 rfl)); have HD7 := hide hd7; clear HF HSV HLB0 hd7 ht7)
        | (go_at_call 13; refine (sv_changed N _ _ W _ w7 c b HD7.out).mono ?_; rintro e w8 ⟨ao8, cap8, rfl, hb8⟩; have HL8 := hide (HL7.out.below hb8 HL7.out.lt); have HD8 := hide (HD7.out.below hb8); clear HL7 HD7 hb8))
      go_loopg [14, 15, 16, 101] 8 (fun g pp bb ee i wr => ∃ q : Nat, g + q = 8 ∧ i = .int .i64 q ∧ SvC N (70 * k + 64) (lastF ls) W (· = lb) wr c b ∧ Blk wr lb 31 (pc ls))
      case atStart => exact ⟨0, by omega, rfl, HD8.out, HL8.out⟩
      case round =>
        obtain ⟨q, hgq, rfl, hsv, hlB⟩ := hrel
        have HSV := hide hsv
        have HLB := hide hlB
        clear hsv hlB HD8 HL8
        by_cases hq : q < 8
        · obtain ⟨Z, hZ⟩ : ∃ Z, ls.getD q 0 = Z := ⟨_, rfl⟩
          have HZZ := hide hZ
          have HZB : Hid (0 ≤ Z ∧ Z ≤ 255) := hZ ▸ hlb.get q
          have hqi : (q : Int) < 8 := by omega
          clear hZ
          go_wp2_with (first
            | (go_at_call 17; refine (sv_read N _ _ W _ _ c b HSV.out q (by omega)).mono ?_; rintro e w9 ⟨v9, rfl, hs9, hb9⟩; have hL9 := HLB.out.below hb9 HLB.out.lt; have cl9 : w9.cell? ⟨lb, q, none⟩ = some (.int .u8 Z) := (by have := (hL9.cell q).trans (pc_get ls q (by omega)); rw [HZZ.out] at this; exact this); have HS9 := hide hs9; have HL9 := hide hL9; have HD9 := hide (HSV.out.below hb9); clear hs9 hb9 hL9 HSV HLB)
            | (go_at_call 11; refine (page5_any w9 Z HZB.out.1 HZB.out.2).mono ?_; rintro e w10 ⟨g10, rfl, hp10, hg10, hb10⟩; have HQ10 := hide hp10; have HS10 := hide (HS9.out.below hb10); have HL10 := hide (HL9.out.below hb10 HL9.out.lt); have HD10 := hide (HD9.out.below hb10); clear HS9 HL9 HD9 hp10 hb10 hg10)
            | (go_at_call 16; refine (refSame_any w10 _ _ (pg (ls.getD q 0)) (pg Z) HS10.out (blk_sl HQ10.out (pg_ok HZB.out.1 HZB.out.2))).mono ?_; rw [decide_eq_true (by rw [HZZ.out])]; rintro e w11 ⟨rfl, hb11⟩; have HL11 := hide (HL10.out.below hb11 HL10.out.lt); have HD11 := hide (HD10.out.below hb11); clear HS10 HL10 HD10 HQ10 hb11))
          go_roundg (gk - 1)
          case measure => omega
          case rel => exact ⟨q + 1, by omega, by go_num, HD11.out, HL11.out⟩
        · have hqe : q = 8 := by omega
          subst hqe
          go_wp2
          go_ret
          exact ⟨rfl, HSV.out.sv.only⟩

end Go.Proofs.Ytoplhehcjgldeaa
