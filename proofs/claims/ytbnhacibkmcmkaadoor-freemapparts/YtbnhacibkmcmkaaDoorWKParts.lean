/- The walk of FreemapParts. -/
import Derived.Test.YtbnhacibkmcmkaaDoorKActs
namespace Go.Proofs.YtbnhacibkmcmkaaDoor
set_option maxRecDepth 20000
open Go.RowKit
set_option linter.unusedVariables false
set_option maxRecDepth 100000

/-- between two acts -/
structure Kp8 (w : World) (B b n : Nat) (cv : Value) (f g : Nat → Bool) (wr : World) : Prop where
  map : MapE wr B b n f g
  cnt : Ints wr w.heap.size cv (ci (pagesF g n))
  below : Below w.heap.size w wr
theorem Kp8.step {w : World} {B b n : Nat} {cv : Value} {f g : Nat → Bool} {wr W : World} (h : Kp8 w B b n cv f g wr) (hB : w.heap.size ≤ B) {f' : Nat → Bool} (hm : MapE W B b n f' g) (ho : OnlyM B wr W) : Kp8 w B b n cv f' g W :=
  ⟨hm, h.cnt.keepM ho, h.below.trans ((ho.below h.map.le).mono hB)⟩
theorem Kp8.grow {w : World} {B b n : Nat} {cv : Value} {f g : Nat → Bool} {wr W : World} (h : Kp8 w B b n cv f g wr) (hb : Below wr.heap.size wr W) : Kp8 w B b n cv f g W :=
  ⟨h.map.below hb, h.cnt.below hb, below_on h.below hb⟩
theorem held_none (f : Nat → Bool) (n : Nat) : cntF (heF f f) n = 0 := cntF_none (fun j _ => by rw [heF]; cases f j <;> rfl)

/-- what a map tells of itself -/
theorem tells (B b n : Nat) (f g : Nat → Bool) (hn : n ≤ 2048) : ∃ C1 C2 C3 : Nat, C1 + C2 + C3 = n ∧
    (∀ W, MapE W B b n f g → Calls Tryd.prog 31 #[dp b] W fun e w' => ∃ ao cap, e = .returned (.slice ao C1 cap) ∧ Below W.heap.size W w') ∧
    (∀ W, MapE W B b n f g → Calls Tryd.prog 32 #[dp b] W fun e w' => e = .returned (.int .i64 (C2 : Int)) ∧ Below W.heap.size W w') ∧
    (∀ W, MapE W B b n f g → Calls Tryd.prog 33 #[dp b] W fun e w' => e = .returned (.int .i64 (C3 : Int)) ∧ Below W.heap.size W w') ∧
    (∀ W, MapE W B b n f g → Calls Tryd.prog 34 #[.func (.func 60) #[] #[.pointer (some ⟨W.heap.size, 0, none⟩)], .int .i64 1048576] (W.alloc (.cells #[dp b] 37)) fun e w' => ∃ ao cap, e = .returned (.slice ao C3 cap) ∧ Is w' (.slice ao C3 cap) (ci (pagesF (frF n f g) n)) ∧ Below W.heap.size W w') := by
  refine ⟨cntF f n, cntF (heF f g) n, cntF (frF n f g) n, cnt_parts n f g, fun W h => ?_, fun W h => mheld_any W B b n f g h, fun W h => mavail_any W B b n f g h, fun W h => ?_⟩
  · refine (mtaken_any W B b n f g h).mono ?_
    rintro e w' ⟨v, rfl, hi, hb⟩
    obtain ⟨ao, cap, hv⟩ := hi.shape
    rw [ci_length, pagesF_len] at hv
    exact ⟨ao, cap, by rw [hv], hb⟩
  · have hb : Below W.heap.size W (W.alloc (.cells #[dp b] 37)) := (Below.refl _ W).alloc (Nat.le_refl _) _
    have hpl := pagesF_le (frF n f g) n
    refine (told_any _ 60 #[.pointer (some ⟨W.heap.size, 0, none⟩)] (pagesF (frF n f g) n) (MapV W.heap.size b n f g) enters_mall (mall_iter _ b n f g) (fun k W' ho => mapV_of (h.below hb) (ho.below (Nat.le_refl _) (fun _ _ h => h)) ((Blk.new W 37 [dp b]).only ho (fun h => h)) k) (by omega) 1048576 (by decide)).mono ?_
    rintro e w' ⟨v, rfl, hi, hb2⟩
    rw [List.take_of_length_le (by omega)] at hi
    have hii := hi.is
    obtain ⟨ao, cap, hv⟩ := hi.shape
    rw [ci_length, pagesF_len] at hv
    exact ⟨ao, cap, by rw [hv], by rw [← hv]; exact hii, below_on hb hb2⟩

set_option maxHeartbeats 8000000 in
theorem freemapParts_walk (w : World) (pages : Int) (v1 : Value) (ks : List Int) (v2 : Value) (os : List OpE) (hpg : (Lit.int .i64 pages).wf = true) (hv1 : Is w v1 ks) (hv2 : Script w v2 os) (hT : TabB w) : Calls Tryd.prog 7 #[.int .i64 pages, v1, v2] w fun e w' => e = .returned (.bool true) ∧ Below w.heap.size w w' := by
  have HL := hide (fun (W : World) (hb : Below w.heap.size w W) => live_any W (hT.below hb))
  obtain ⟨ao1, cap1, rfl⟩ : ∃ ao cap, v1 = .slice ao ks.length cap := by obtain ⟨ao, cap, h, _⟩ := hv1; exact ⟨ao, cap, h⟩
  obtain ⟨ao2, T, cap2, rfl⟩ : ∃ ao T cap, v2 = .slice ao T cap := by obtain ⟨_, ao, cap, h, _⟩ := hv2; exact ⟨ao, _, cap, h⟩
  obtain ⟨hTe, hT2, hT3, hat⟩ := script_at hv2 rfl
  clear hTe
  unfold maxLen at hT3
  have HV1 := hide hv1
  obtain ⟨N1, hN1⟩ : ∃ N1, ks.length = N1 := ⟨_, rfl⟩
  rw [hN1] at HV1 ⊢
  by_cases hbig : 5000 < N1
  · have hbigi : (5000 : Int) < (N1 : Int) := by omega
    clear hv1 hv2 hat hN1 hT
    go_enter Tryd.func7, Tryd.ntmps7
    go_wp2_with (first
      | (go_at_call 9; refine (HL.out w (Below.refl _ w)).mono ?_; rintro e w1 ⟨rfl, hb1⟩; have HB1 := hide hb1; clear hb1)
      | (go_at_call 9; refine (HL.out w1 HB1.out).mono ?_; rintro e w2 ⟨rfl, hb2⟩; have HB2 := hide (below_on HB1.out hb2); clear hb2 HL))
    go_ret
    exact ⟨rfl, HB2.out⟩
  · have hbigi : ¬ (5000 : Int) < (N1 : Int) := by omega
    cases hmay : mayB pages ks with
    | false =>
      have HO : Hid (∀ W, Below w.heap.size w W → Calls Tryd.prog 18 #[.int .i64 pages, .slice ao1 N1 cap1] W fun e w' => e = .returned (.tuple #[.pointer none, .int .i64 1]) ∧ w' = W) := fun W hb => open_bad W pages _ ks (HV1.out.below hb) hmay
      clear hv1 hv2 hat hN1 hT
      go_enter Tryd.func7, Tryd.ntmps7
      go_wp2_with (first
        | (go_at_call 9; refine (HL.out w (Below.refl _ w)).mono ?_; rintro e w1 ⟨rfl, hb1⟩; have HB1 := hide hb1; clear hb1 HL)
        | (go_at_call 18; refine (HO.out w1 HB1.out).mono ?_; rintro e w2 ⟨rfl, hw⟩; subst w2; clear HO))
      go_ret
      exact ⟨rfl, HB1.out⟩
    | true =>
      have hsz : 8 ≤ pages ∧ pages ≤ 2048 := by rw [mayB, Bool.and_eq_true, sizeB_iff] at hmay; exact hmay.1
      obtain ⟨n, rfl⟩ : ∃ n : Nat, pages = n := ⟨pages.toNat, by omega⟩
      have hri : riseB n (-1) ks = true := by rw [mayB, Bool.and_eq_true] at hmay; exact hmay.2
      have HO : Hid (∀ W, Below w.heap.size w W → Calls Tryd.prog 18 #[.int .i64 n, .slice ao1 N1 cap1] W fun e w' => ∃ b, e = .returned (.tuple #[dp b, .int .i64 0]) ∧ MapE w' W.heap.size b n (inL ks) (inL ks) ∧ Below W.heap.size W w') := fun W hb => open_ok W n _ ks (HV1.out.below hb) hmay (hT.below hb) (by have := World.block_lt_of_cell? w _ (hT 0 (by decide)); exact Nat.lt_of_lt_of_le this hb.size)
      have HC : Hid (∀ W, Below w.heap.size w W → Calls Tryd.prog 19 #[.slice ao1 N1 cap1] W fun e w' => ∃ v', e = .returned v' ∧ Ints w' W.heap.size v' (ci (pagesF (inL ks) n)) ∧ Below W.heap.size W w') := fun W hb => by
        have := sClone_any W _ ks (HV1.out.below hb) (by omega)
        rw [ci_inL hri]
        exact this
      obtain ⟨m, hm⟩ : ∃ m, min T 80 = m := ⟨_, rfl⟩
      have hmin : ∀ (ts : Array TypeId) (t : TypeId) (wx : World), (Builtin.min_ ts t #[.int .i64 (T : Int), .int .i64 80]).run Tryd.prog wx = .ok (.int .i64 (m : Int)) wx := run_min80 T 80 m hm
      have hm80 : m ≤ 80 := by omega
      have hmT : m ≤ T := by omega
      have hcut : ∀ wx, (Instr.slice 36 (.slice ao2 T cap2) none (some (.int .i64 (m : Int))) none).run Tryd.prog wx = .ok (.slice ao2 m cap2) wx := cut_head 36 45 2 Tryd.underlying36 sizeOp ao2 T cap2 m (by omega) (by unfold maxLen; exact hT3)
      have HAT := hide hat
      clear hv1 hv2 hat hN1 hT hmay hri hm
      go_enter Tryd.func7, Tryd.ntmps7
      go_wp2_with (first
        | (go_at_call 9; refine (HL.out w (Below.refl _ w)).mono ?_; rintro e w1 ⟨rfl, hb1⟩; have HB1 := hide hb1; clear hb1 HL)
        | (go_at_call 18; refine (HO.out w1 HB1.out).mono ?_; rintro e w2 ⟨b, rfl, hm2, hb2⟩; have HM2 := hide hm2; have HB2 := hide (below_on HB1.out hb2); clear HO hm2 hb2)
        | (go_at_call 19; refine (HC.out w2 HB2.out).mono ?_; rintro e w3 ⟨cv0, rfl, hi3, hb3⟩; have HK3 : Hid (Kp8 w w1.heap.size b n cv0 (inL ks) (inL ks) w3) := ⟨HM2.out.below hb3, hi3.base HB2.out.size, below_on HB2.out hb3⟩; clear HC hi3 hb3 HM2))
      clear hmin hcut
      obtain ⟨B, hB⟩ : ∃ B, w1.heap.size = B := ⟨_, rfl⟩
      rw [hB] at HK3
      have hwB : w.heap.size ≤ B := by rw [← hB]; exact HB1.out.size
      clear HB1 HB2 hB
      have HHS : Hid (∀ W f g p, MapE W B b n f g → Calls Tryd.prog 36 #[dp b, .int .i64 p] W fun e w' => e = .returned (.bool (hasI f p)) ∧ ∃ m, w' = W.drewN m) := fun W f g p h => mhas_any W B b n f g p h
      have HMN : Hid (∀ W f g p, MapE W B b n f g → Calls Tryd.prog 37 #[dp b, .int .i64 p] W fun e w' => e = .returned (.bool (hasI f p && !hasI g p)) ∧ ∃ m, w' = W.drewN m) := fun W f g p h => mmine_any W B b n f g p h
      go_loopg [9, 49] m (fun gg cv kv wr => ∃ (k : Nat) (f g : Nat → Bool), gg + k = m ∧ kv = .int .i64 k ∧ Kp8 w B b n cv f g wr)
      case atStart => exact ⟨0, _, _, by omega, rfl, HK3.out⟩
      case round =>
        obtain ⟨k, f, g, hk, rfl, hkp⟩ := hrel
        have HKP := hide hkp
        cases gk with
        | zero =>
          have h1 : ¬ (k : Int) < (m : Int) := by omega
          clear hkp
          go_wp2
          go_ret
          exact ⟨rfl, HKP.out.below⟩
        | succ gg =>
          have h1 : (k : Int) < (m : Int) := by omega
          obtain ⟨gb, off, hao, hgb, hrg, hpl, hph⟩ := HAT.out k (by omega)
          obtain ⟨z1, z2, z3, z4⟩ := op_facts (opAt os k)
          have hrg' := range_below hrg hkp.below hgb
          obtain ⟨⟨D, P⟩, ho⟩ : ∃ o, opAt os k = o := ⟨_, rfl⟩
          rw [ho] at hpl hph hrg' z1 z2 z3 z4
          simp only at hpl hph
          have HRG := hide hrg'
          have HZ1 := hide z1
          have HZ2 := hide z2
          have HZ3 := hide z3
          have HZ4 := hide z4
          have hz := zeroOpRun
          subst hao
          obtain ⟨W1, hW1⟩ : ∃ W1, wr.alloc (.cells (opc ⟨D, P⟩).toArray 45) = W1 := ⟨_, rfl⟩
          have hob : Blk W1 wr.heap.size 45 (opc ⟨D, P⟩) := by rw [← hW1]; exact Blk.new wr _ _
          have hb1 : Below wr.heap.size wr W1 := by rw [← hW1]; exact (Below.refl _ wr).alloc (Nat.le_refl _) _
          have HK1 := hide (hkp.grow hb1)
          have HT0 := hide (mtaken_any W1 B b n f g HK1.out.map)
          have c0 : W1.cell? ⟨wr.heap.size, 0, none⟩ = some (.int .i64 D) := hob.cell 0
          have HOB := hide hob
          clear hkp hrg hrg' z1 z2 z3 z4 ho hob hb1 HKP HAT
          by_cases hd0 : D = 0
          · subst hd0
            obtain ⟨C1, C2, C3, hC, htk, hhd, hav, htl⟩ := tells B b n (alF n f g 1) (g) (by omega)
            have htk := hide htk
            have hhd := hide hhd
            have hav := hide hav
            have htl := hide htl
            obtain ⟨S, hS⟩ : ∃ S, C1 + C2 = S := ⟨_, rfl⟩
            have hs1 : (C1 : Int) + (C2 : Int) = (S : Int) := by omega
            have hs2 : (S : Int) + (C3 : Int) = (n : Int) := by omega
            have hw1 := wrap_i64_in S (by omega)
            have hw2 := wrap_i64_in n (by omega)
            have hC3 : C3 ≤ 2048 := by omega
            clear hC hS
            have HA : Hid (∀ W, MapE W B b n f g → Calls Tryd.prog 24 #[dp b] W fun e w' => (∃ v, e = .returned v) ∧ MapE w' B b n (alF n f g 1) g ∧ OnlyM B W w') := fun W h => (malloc_any W B b n f g h).mono (fun e w' h => ⟨⟨_, h.1⟩, h.2⟩)
            go_wp2_with (first
              | ((with_reducible refine wpList_load_mid rfl 45 (.tmp 51) rfl gb (off + k * 2) ?_ (opc ⟨0, P⟩) _ HRG.out Tryd.underlying45 rfl HZ1.out ?_); exact rfl)
              | ((with_reducible refine wpList_store_new rfl 45 (.tmp 11) (.tmp 52) rfl opZero (opc ⟨0, P⟩).toArray 45 ?_ ?_ HZ3.out HZ2.out HZ4.out ?_); exact rfl; exact rfl)
              | (go_at_call 31; refine HT0.out.mono ?_; rintro e W2 ⟨wv, rfl, hi2, hb2⟩; have HK2 := hide (HK1.out.grow hb2); have HW2 := hide (hi2.base (Nat.le_trans HK1.out.below.size (Nat.le_refl _))); have HOB2 := hide (HOB.out.below hb2 HOB.out.lt); have d0 : W2.cell? ⟨wr.heap.size, 0, none⟩ = some (.int .i64 0) := HOB2.out.cell 0; have d1 : W2.cell? ⟨wr.heap.size, 1, none⟩ = some (.int .i64 P) := HOB2.out.cell 1; clear HT0 hi2 hb2 HK1 HOB)
              | (go_at_call 24; refine (HA.out W2 HK2.out.map).mono ?_; rintro e W3 ⟨⟨va, rfl⟩, hm3, ho3⟩; have HK3' := hide (HK2.out.step hwB hm3 ho3); clear HA hm3 ho3 HK2)
              | (go_at_call 31; refine (htk.out _ HK3'.out.map).mono ?_; rintro e W5 ⟨ao5, cap5, rfl, hb5⟩; have HK5 := hide (HK3'.out.grow hb5); clear hb5 HK3' htk)
              | (go_at_call 32; refine (hhd.out _ HK5.out.map).mono ?_; rintro e W6 ⟨rfl, hb6⟩; have HK6 := hide (HK5.out.grow hb6); clear hb6 HK5 hhd)
              | (go_at_call 33; refine (hav.out _ HK6.out.map).mono ?_; rintro e W7 ⟨rfl, hb7⟩; have HK7 := hide (HK6.out.grow hb7); clear hb7 HK6 hav)
              | (go_at_call 35; refine (mall_any W7 _).mono ?_; rintro e W8 ⟨rfl, hw⟩; subst W8)
              | (go_at_call 34; refine (htl.out _ HK7.out.map).mono ?_; rintro e W9 ⟨ao9, cap9, rfl, hi9, hb9⟩; have HK9 := hide (HK7.out.grow hb9); have HI9 := hide hi9; clear hi9 hb9 HK7 htl))
            clear c0 d0 d1
            go_loopg [123] C3 (fun g2 iv wr2 => ∃ j : Nat, g2 + j = C3 ∧ iv = .int .i64 j ∧ Kp8 w B b n u9 (alF n f g 1) (g) wr2 ∧ Is wr2 (.slice ao9 C3 cap9) (ci (pagesF (frF n (alF n f g 1) (g)) n)))
            case atStart => exact ⟨0, by omega, rfl, HK9.out, HI9.out⟩
            case round =>
              obtain ⟨j, hj, rfl, hk9, hi9⟩ := hrel
              have HKR := hide hk9
              have HIR := hide hi9
              have hcp := hi9.cap
              cases gk with
              | zero =>
                have h2 : ¬ (j : Int) < (C3 : Int) := by omega
                clear hk9 hi9 hcp
                go_wp2
                go_roundg gg
                case measure => omega
                case rel => exact ⟨k + 1, _, _, by omega, by go_num, HKR.out⟩
              | succ g3 =>
                have h2 : (j : Int) < (C3 : Int) := by omega
                have hjl : j < (ci (pagesF (frF n (alF n f g 1) (g)) n)).length := by rw [← hcp.1]; omega
                obtain ⟨bc, offc, hao, hcell⟩ := Is.at hi9 j hjl
                subst hao
                have hin : (ci (pagesF (frF n (alF n f g 1) (g)) n)).getD j 0 ∈ ci (pagesF (frF n (alF n f g 1) (g)) n) := by rw [getD_lt _ hjl]; exact List.getElem_mem hjl
                obtain ⟨q, hq1, hq2⟩ := mem_ci.1 hin
                have hqf := frF_lt (mem_pagesF.1 hq1).2
                rw [← hq2] at hcell
                have hqn : ¬ (n : Int) ≤ (q : Int) := by omega
                have hq0 : ¬ (q : Int) < 0 := by omega
                have HH1 := HHS.out wr (alF n f g 1) (g) (q : Int) hk9.map
                rw [show hasI (alF n f g 1) (q : Int) = false by simpa [hasI] using hqf.2.1] at HH1
                have HH1 := hide HH1
                have HH2 : Hid (∀ mm, Calls Tryd.prog 37 #[dp b, .int .i64 (q : Int)] (wr.drewN mm) fun e w' => e = .returned (.bool false) ∧ Kp8 w B b n u9 (alF n f g 1) (g) w' ∧ Is w' (.slice (some ⟨bc, offc, none⟩) C3 cap9) (ci (pagesF (frF n (alF n f g 1) (g)) n))) := fun mm => by
                  have HM := HMN.out (wr.drewN mm) (alF n f g 1) (g) (q : Int) (hk9.map.drewN mm)
                  rw [show hasI (alF n f g 1) (q : Int) = false by simpa [hasI] using hqf.2.1] at HM
                  refine HM.mono ?_
                  rintro e w' ⟨rfl, m2, rfl⟩
                  exact ⟨rfl, (hk9.grow (belowN _ mm)).grow (belowN _ m2), (hi9.below (belowN _ mm)).below (belowN _ m2)⟩
                clear hk9 hi9 hcp hjl hin hq1 hq2 hqf
                go_wp2_with (first
                  | (go_at_call 36; refine HH1.out.mono ?_; rintro e W10 ⟨rfl, mm, hw⟩; subst W10; clear HH1)
                  | (go_at_call 37; refine (HH2.out mm).mono ?_; rintro e W11 ⟨rfl, hk11, hi11⟩; have HK11 := hide hk11; have HI11 := hide hi11; clear HH2 hk11 hi11))
                go_roundg g3
                case measure => omega
                case rel => exact ⟨j + 1, by omega, by go_num, HK11.out, HI11.out⟩
          ·
            by_cases hd1 : D = 1
            · subst hd1
              obtain ⟨C1, C2, C3, hC, htk, hhd, hav, htl⟩ := tells B b n (alF n f g P) (g) (by omega)
              have htk := hide htk
              have hhd := hide hhd
              have hav := hide hav
              have htl := hide htl
              obtain ⟨S, hS⟩ : ∃ S, C1 + C2 = S := ⟨_, rfl⟩
              have hs1 : (C1 : Int) + (C2 : Int) = (S : Int) := by omega
              have hs2 : (S : Int) + (C3 : Int) = (n : Int) := by omega
              have hw1 := wrap_i64_in S (by omega)
              have hw2 := wrap_i64_in n (by omega)
              have hC3 : C3 ≤ 2048 := by omega
              clear hC hS
              have HA : Hid (∀ W, MapE W B b n f g → Calls Tryd.prog 29 #[dp b, .int .i64 P] W fun e w' => (∃ v, e = .returned v) ∧ MapE w' B b n (alF n f g P) g ∧ OnlyM B W w') := fun W h => (mrun_any W B b n f g P h).mono (fun e w' h => ⟨⟨_, h.1⟩, h.2⟩)
              go_wp2_with (first
                | ((with_reducible refine wpList_load_mid rfl 45 (.tmp 51) rfl gb (off + k * 2) ?_ (opc ⟨1, P⟩) _ HRG.out Tryd.underlying45 rfl HZ1.out ?_); exact rfl)
                | ((with_reducible refine wpList_store_new rfl 45 (.tmp 11) (.tmp 52) rfl opZero (opc ⟨1, P⟩).toArray 45 ?_ ?_ HZ3.out HZ2.out HZ4.out ?_); exact rfl; exact rfl)
                | (go_at_call 31; refine HT0.out.mono ?_; rintro e W2 ⟨wv, rfl, hi2, hb2⟩; have HK2 := hide (HK1.out.grow hb2); have HW2 := hide (hi2.base (Nat.le_trans HK1.out.below.size (Nat.le_refl _))); have HOB2 := hide (HOB.out.below hb2 HOB.out.lt); have d0 : W2.cell? ⟨wr.heap.size, 0, none⟩ = some (.int .i64 1) := HOB2.out.cell 0; have d1 : W2.cell? ⟨wr.heap.size, 1, none⟩ = some (.int .i64 P) := HOB2.out.cell 1; clear HT0 hi2 hb2 HK1 HOB)
                | (go_at_call 29; refine (HA.out W2 HK2.out.map).mono ?_; rintro e W3 ⟨⟨va, rfl⟩, hm3, ho3⟩; have HK3' := hide (HK2.out.step hwB hm3 ho3); clear HA hm3 ho3 HK2)
                | (go_at_call 31; refine (htk.out _ HK3'.out.map).mono ?_; rintro e W5 ⟨ao5, cap5, rfl, hb5⟩; have HK5 := hide (HK3'.out.grow hb5); clear hb5 HK3' htk)
                | (go_at_call 32; refine (hhd.out _ HK5.out.map).mono ?_; rintro e W6 ⟨rfl, hb6⟩; have HK6 := hide (HK5.out.grow hb6); clear hb6 HK5 hhd)
                | (go_at_call 33; refine (hav.out _ HK6.out.map).mono ?_; rintro e W7 ⟨rfl, hb7⟩; have HK7 := hide (HK6.out.grow hb7); clear hb7 HK6 hav)
                | (go_at_call 35; refine (mall_any W7 _).mono ?_; rintro e W8 ⟨rfl, hw⟩; subst W8)
                | (go_at_call 34; refine (htl.out _ HK7.out.map).mono ?_; rintro e W9 ⟨ao9, cap9, rfl, hi9, hb9⟩; have HK9 := hide (HK7.out.grow hb9); have HI9 := hide hi9; clear hi9 hb9 HK7 htl))
              clear c0 d0 d1
              go_loopg [123] C3 (fun g2 iv wr2 => ∃ j : Nat, g2 + j = C3 ∧ iv = .int .i64 j ∧ Kp8 w B b n u9 (alF n f g P) (g) wr2 ∧ Is wr2 (.slice ao9 C3 cap9) (ci (pagesF (frF n (alF n f g P) (g)) n)))
              case atStart => exact ⟨0, by omega, rfl, HK9.out, HI9.out⟩
              case round =>
                obtain ⟨j, hj, rfl, hk9, hi9⟩ := hrel
                have HKR := hide hk9
                have HIR := hide hi9
                have hcp := hi9.cap
                cases gk with
                | zero =>
                  have h2 : ¬ (j : Int) < (C3 : Int) := by omega
                  clear hk9 hi9 hcp
                  go_wp2
                  go_roundg gg
                  case measure => omega
                  case rel => exact ⟨k + 1, _, _, by omega, by go_num, HKR.out⟩
                | succ g3 =>
                  have h2 : (j : Int) < (C3 : Int) := by omega
                  have hjl : j < (ci (pagesF (frF n (alF n f g P) (g)) n)).length := by rw [← hcp.1]; omega
                  obtain ⟨bc, offc, hao, hcell⟩ := Is.at hi9 j hjl
                  subst hao
                  have hin : (ci (pagesF (frF n (alF n f g P) (g)) n)).getD j 0 ∈ ci (pagesF (frF n (alF n f g P) (g)) n) := by rw [getD_lt _ hjl]; exact List.getElem_mem hjl
                  obtain ⟨q, hq1, hq2⟩ := mem_ci.1 hin
                  have hqf := frF_lt (mem_pagesF.1 hq1).2
                  rw [← hq2] at hcell
                  have hqn : ¬ (n : Int) ≤ (q : Int) := by omega
                  have hq0 : ¬ (q : Int) < 0 := by omega
                  have HH1 := HHS.out wr (alF n f g P) (g) (q : Int) hk9.map
                  rw [show hasI (alF n f g P) (q : Int) = false by simpa [hasI] using hqf.2.1] at HH1
                  have HH1 := hide HH1
                  have HH2 : Hid (∀ mm, Calls Tryd.prog 37 #[dp b, .int .i64 (q : Int)] (wr.drewN mm) fun e w' => e = .returned (.bool false) ∧ Kp8 w B b n u9 (alF n f g P) (g) w' ∧ Is w' (.slice (some ⟨bc, offc, none⟩) C3 cap9) (ci (pagesF (frF n (alF n f g P) (g)) n))) := fun mm => by
                    have HM := HMN.out (wr.drewN mm) (alF n f g P) (g) (q : Int) (hk9.map.drewN mm)
                    rw [show hasI (alF n f g P) (q : Int) = false by simpa [hasI] using hqf.2.1] at HM
                    refine HM.mono ?_
                    rintro e w' ⟨rfl, m2, rfl⟩
                    exact ⟨rfl, (hk9.grow (belowN _ mm)).grow (belowN _ m2), (hi9.below (belowN _ mm)).below (belowN _ m2)⟩
                  clear hk9 hi9 hcp hjl hin hq1 hq2 hqf
                  go_wp2_with (first
                    | (go_at_call 36; refine HH1.out.mono ?_; rintro e W10 ⟨rfl, mm, hw⟩; subst W10; clear HH1)
                    | (go_at_call 37; refine (HH2.out mm).mono ?_; rintro e W11 ⟨rfl, hk11, hi11⟩; have HK11 := hide hk11; have HI11 := hide hi11; clear HH2 hk11 hi11))
                  go_roundg g3
                  case measure => omega
                  case rel => exact ⟨j + 1, by omega, by go_num, HK11.out, HI11.out⟩
            ·
              by_cases hd2 : D = 2
              · subst hd2
                obtain ⟨C1, C2, C3, hC, htk, hhd, hav, htl⟩ := tells B b n (dropF f P) (g) (by omega)
                have htk := hide htk
                have hhd := hide hhd
                have hav := hide hav
                have htl := hide htl
                obtain ⟨S, hS⟩ : ∃ S, C1 + C2 = S := ⟨_, rfl⟩
                have hs1 : (C1 : Int) + (C2 : Int) = (S : Int) := by omega
                have hs2 : (S : Int) + (C3 : Int) = (n : Int) := by omega
                have hw1 := wrap_i64_in S (by omega)
                have hw2 := wrap_i64_in n (by omega)
                have hC3 : C3 ≤ 2048 := by omega
                clear hC hS
                have HA : Hid (∀ W, MapE W B b n f g → Calls Tryd.prog 25 #[dp b, .int .i64 P] W fun e w' => (∃ v, e = .returned v) ∧ MapE w' B b n (dropF f P) g ∧ OnlyM B W w') := fun W h => (mfree_any W B b n f g P h).mono (fun e w' h => ⟨⟨_, h.1⟩, h.2⟩)
                go_wp2_with (first
                  | ((with_reducible refine wpList_load_mid rfl 45 (.tmp 51) rfl gb (off + k * 2) ?_ (opc ⟨2, P⟩) _ HRG.out Tryd.underlying45 rfl HZ1.out ?_); exact rfl)
                  | ((with_reducible refine wpList_store_new rfl 45 (.tmp 11) (.tmp 52) rfl opZero (opc ⟨2, P⟩).toArray 45 ?_ ?_ HZ3.out HZ2.out HZ4.out ?_); exact rfl; exact rfl)
                  | (go_at_call 31; refine HT0.out.mono ?_; rintro e W2 ⟨wv, rfl, hi2, hb2⟩; have HK2 := hide (HK1.out.grow hb2); have HW2 := hide (hi2.base (Nat.le_trans HK1.out.below.size (Nat.le_refl _))); have HOB2 := hide (HOB.out.below hb2 HOB.out.lt); have d0 : W2.cell? ⟨wr.heap.size, 0, none⟩ = some (.int .i64 2) := HOB2.out.cell 0; have d1 : W2.cell? ⟨wr.heap.size, 1, none⟩ = some (.int .i64 P) := HOB2.out.cell 1; clear HT0 hi2 hb2 HK1 HOB)
                  | (go_at_call 25; refine (HA.out W2 HK2.out.map).mono ?_; rintro e W3 ⟨⟨va, rfl⟩, hm3, ho3⟩; have HK3' := hide (HK2.out.step hwB hm3 ho3); clear HA hm3 ho3 HK2)
                  | (go_at_call 31; refine (htk.out _ HK3'.out.map).mono ?_; rintro e W5 ⟨ao5, cap5, rfl, hb5⟩; have HK5 := hide (HK3'.out.grow hb5); clear hb5 HK3' htk)
                  | (go_at_call 32; refine (hhd.out _ HK5.out.map).mono ?_; rintro e W6 ⟨rfl, hb6⟩; have HK6 := hide (HK5.out.grow hb6); clear hb6 HK5 hhd)
                  | (go_at_call 33; refine (hav.out _ HK6.out.map).mono ?_; rintro e W7 ⟨rfl, hb7⟩; have HK7 := hide (HK6.out.grow hb7); clear hb7 HK6 hav)
                  | (go_at_call 35; refine (mall_any W7 _).mono ?_; rintro e W8 ⟨rfl, hw⟩; subst W8)
                  | (go_at_call 34; refine (htl.out _ HK7.out.map).mono ?_; rintro e W9 ⟨ao9, cap9, rfl, hi9, hb9⟩; have HK9 := hide (HK7.out.grow hb9); have HI9 := hide hi9; clear hi9 hb9 HK7 htl))
                clear c0 d0 d1
                go_loopg [123] C3 (fun g2 iv wr2 => ∃ j : Nat, g2 + j = C3 ∧ iv = .int .i64 j ∧ Kp8 w B b n u9 (dropF f P) (g) wr2 ∧ Is wr2 (.slice ao9 C3 cap9) (ci (pagesF (frF n (dropF f P) (g)) n)))
                case atStart => exact ⟨0, by omega, rfl, HK9.out, HI9.out⟩
                case round =>
                  obtain ⟨j, hj, rfl, hk9, hi9⟩ := hrel
                  have HKR := hide hk9
                  have HIR := hide hi9
                  have hcp := hi9.cap
                  cases gk with
                  | zero =>
                    have h2 : ¬ (j : Int) < (C3 : Int) := by omega
                    clear hk9 hi9 hcp
                    go_wp2
                    go_roundg gg
                    case measure => omega
                    case rel => exact ⟨k + 1, _, _, by omega, by go_num, HKR.out⟩
                  | succ g3 =>
                    have h2 : (j : Int) < (C3 : Int) := by omega
                    have hjl : j < (ci (pagesF (frF n (dropF f P) (g)) n)).length := by rw [← hcp.1]; omega
                    obtain ⟨bc, offc, hao, hcell⟩ := Is.at hi9 j hjl
                    subst hao
                    have hin : (ci (pagesF (frF n (dropF f P) (g)) n)).getD j 0 ∈ ci (pagesF (frF n (dropF f P) (g)) n) := by rw [getD_lt _ hjl]; exact List.getElem_mem hjl
                    obtain ⟨q, hq1, hq2⟩ := mem_ci.1 hin
                    have hqf := frF_lt (mem_pagesF.1 hq1).2
                    rw [← hq2] at hcell
                    have hqn : ¬ (n : Int) ≤ (q : Int) := by omega
                    have hq0 : ¬ (q : Int) < 0 := by omega
                    have HH1 := HHS.out wr (dropF f P) (g) (q : Int) hk9.map
                    rw [show hasI (dropF f P) (q : Int) = false by simpa [hasI] using hqf.2.1] at HH1
                    have HH1 := hide HH1
                    have HH2 : Hid (∀ mm, Calls Tryd.prog 37 #[dp b, .int .i64 (q : Int)] (wr.drewN mm) fun e w' => e = .returned (.bool false) ∧ Kp8 w B b n u9 (dropF f P) (g) w' ∧ Is w' (.slice (some ⟨bc, offc, none⟩) C3 cap9) (ci (pagesF (frF n (dropF f P) (g)) n))) := fun mm => by
                      have HM := HMN.out (wr.drewN mm) (dropF f P) (g) (q : Int) (hk9.map.drewN mm)
                      rw [show hasI (dropF f P) (q : Int) = false by simpa [hasI] using hqf.2.1] at HM
                      refine HM.mono ?_
                      rintro e w' ⟨rfl, m2, rfl⟩
                      exact ⟨rfl, (hk9.grow (belowN _ mm)).grow (belowN _ m2), (hi9.below (belowN _ mm)).below (belowN _ m2)⟩
                    clear hk9 hi9 hcp hjl hin hq1 hq2 hqf
                    go_wp2_with (first
                      | (go_at_call 36; refine HH1.out.mono ?_; rintro e W10 ⟨rfl, mm, hw⟩; subst W10; clear HH1)
                      | (go_at_call 37; refine (HH2.out mm).mono ?_; rintro e W11 ⟨rfl, hk11, hi11⟩; have HK11 := hide hk11; have HI11 := hide hi11; clear HH2 hk11 hi11))
                    go_roundg g3
                    case measure => omega
                    case rel => exact ⟨j + 1, by omega, by go_num, HK11.out, HI11.out⟩
              ·
                by_cases hd3 : D = 3
                · subst hd3
                  obtain ⟨C1, C2, C3, hC, htk, hhd, hav, htl⟩ := tells B b n (f) (f) (by omega)
                  have htk := hide htk
                  have hhd := hide hhd
                  have hav := hide hav
                  have htl := hide htl
                  obtain ⟨S, hS⟩ : ∃ S, C1 + C2 = S := ⟨_, rfl⟩
                  have hs1 : (C1 : Int) + (C2 : Int) = (S : Int) := by omega
                  have hs2 : (S : Int) + (C3 : Int) = (n : Int) := by omega
                  have hw1 := wrap_i64_in S (by omega)
                  have hw2 := wrap_i64_in n (by omega)
                  have hC3 : C3 ≤ 2048 := by omega
                  clear hC hS
                  have HA : Hid (∀ W, MapE W B b n f g → Calls Tryd.prog 30 #[dp b] W fun e w' => e = .returned (.int .i64 0) ∧ MapE w' B b n f f ∧ OnlyM B W w') := fun W h => mcommit_any W B b n f g h
                  have HT1 : Hid (∀ W, MapE W B b n f f → Calls Tryd.prog 31 #[dp b] W fun e w' => ∃ v, e = .returned v ∧ Ints w' W.heap.size v (ci (pagesF f n)) ∧ Below W.heap.size W w') := fun W h => mtaken_any W B b n f f h
                  have HEQ : Hid (∀ W v cv, Kp8 w B b n cv f f W → Is W v (ci (pagesF f n)) → Calls Tryd.prog 17 #[v, cv] W fun e w' => e = .returned (.bool true) ∧ Kp8 w B b n cv f f w') := fun W v cv h hv => by
                    refine (sEqual_any W _ _ _ _ hv h.cnt.is).mono ?_
                    rintro e w' ⟨rfl, q, rfl⟩
                    exact ⟨by simp, h.grow (belowN W q)⟩
                  have HH0 : Hid (∀ W, MapE W B b n f f → Calls Tryd.prog 32 #[dp b] W fun e w' => e = .returned (.int .i64 0) ∧ Below W.heap.size W w') := fun W h => by
                    have := mheld_any W B b n f f h
                    rw [held_none] at this
                    exact this
                  go_wp2_with (first
                    | ((with_reducible refine wpList_load_mid rfl 45 (.tmp 51) rfl gb (off + k * 2) ?_ (opc ⟨3, P⟩) _ HRG.out Tryd.underlying45 rfl HZ1.out ?_); exact rfl)
                    | ((with_reducible refine wpList_store_new rfl 45 (.tmp 11) (.tmp 52) rfl opZero (opc ⟨3, P⟩).toArray 45 ?_ ?_ HZ3.out HZ2.out HZ4.out ?_); exact rfl; exact rfl)
                    | (go_at_call 31; refine HT0.out.mono ?_; rintro e W2 ⟨wv, rfl, hi2, hb2⟩; have HK2 := hide (HK1.out.grow hb2); have HW2 := hide (hi2.base (Nat.le_trans HK1.out.below.size (Nat.le_refl _))); have HOB2 := hide (HOB.out.below hb2 HOB.out.lt); have d0 : W2.cell? ⟨wr.heap.size, 0, none⟩ = some (.int .i64 3) := HOB2.out.cell 0; have d1 : W2.cell? ⟨wr.heap.size, 1, none⟩ = some (.int .i64 P) := HOB2.out.cell 1; clear HT0 hi2 hb2 HK1 HOB)
                    | (go_at_call 30; refine (HA.out W2 HK2.out.map).mono ?_; rintro e W3 ⟨rfl, hm3, ho3⟩; have HK3' : Hid (Kp8 w B b n wv f f W3) := ⟨hm3, HW2.out.keepM ho3, HK2.out.below.trans ((ho3.below HK2.out.map.le).mono hwB)⟩; clear HA hm3 ho3 HK2 HW2)
                    | (go_at_call 31; refine (HT1.out W3 HK3'.out.map).mono ?_; rintro e W3a ⟨v3, rfl, hi3, hb3⟩; have HK3a := hide (HK3'.out.grow hb3); have HI3 := hide hi3.is; clear HT1 HK3' hi3 hb3)
                    | (go_at_call 17; refine (HEQ.out W3a _ _ HK3a.out HI3.out).mono ?_; rintro e W3b ⟨rfl, hk3⟩; have HK3b := hide hk3; clear HEQ HK3a HI3 hk3)
                    | (go_at_call 32; refine (HH0.out W3b HK3b.out.map).mono ?_; rintro e W4 ⟨rfl, hb4⟩; have HK4 := hide (HK3b.out.grow hb4); clear HH0 HK3b hb4)
                    | (go_at_call 31; refine (htk.out _ HK4.out.map).mono ?_; rintro e W5 ⟨ao5, cap5, rfl, hb5⟩; have HK5 := hide (HK4.out.grow hb5); clear hb5 HK4 htk)
                    | (go_at_call 32; refine (hhd.out _ HK5.out.map).mono ?_; rintro e W6 ⟨rfl, hb6⟩; have HK6 := hide (HK5.out.grow hb6); clear hb6 HK5 hhd)
                    | (go_at_call 33; refine (hav.out _ HK6.out.map).mono ?_; rintro e W7 ⟨rfl, hb7⟩; have HK7 := hide (HK6.out.grow hb7); clear hb7 HK6 hav)
                    | (go_at_call 35; refine (mall_any W7 _).mono ?_; rintro e W8 ⟨rfl, hw⟩; subst W8)
                    | (go_at_call 34; refine (htl.out _ HK7.out.map).mono ?_; rintro e W9 ⟨ao9, cap9, rfl, hi9, hb9⟩; have HK9 := hide (HK7.out.grow hb9); have HI9 := hide hi9; clear hi9 hb9 HK7 htl))
                  clear c0 d0 d1
                  go_loopg [123] C3 (fun g2 iv wr2 => ∃ j : Nat, g2 + j = C3 ∧ iv = .int .i64 j ∧ Kp8 w B b n wv (f) (f) wr2 ∧ Is wr2 (.slice ao9 C3 cap9) (ci (pagesF (frF n (f) (f)) n)))
                  case atStart => exact ⟨0, by omega, rfl, HK9.out, HI9.out⟩
                  case round =>
                    obtain ⟨j, hj, rfl, hk9, hi9⟩ := hrel
                    have HKR := hide hk9
                    have HIR := hide hi9
                    have hcp := hi9.cap
                    cases gk with
                    | zero =>
                      have h2 : ¬ (j : Int) < (C3 : Int) := by omega
                      clear hk9 hi9 hcp
                      go_wp2
                      go_roundg gg
                      case measure => omega
                      case rel => exact ⟨k + 1, _, _, by omega, by go_num, HKR.out⟩
                    | succ g3 =>
                      have h2 : (j : Int) < (C3 : Int) := by omega
                      have hjl : j < (ci (pagesF (frF n (f) (f)) n)).length := by rw [← hcp.1]; omega
                      obtain ⟨bc, offc, hao, hcell⟩ := Is.at hi9 j hjl
                      subst hao
                      have hin : (ci (pagesF (frF n (f) (f)) n)).getD j 0 ∈ ci (pagesF (frF n (f) (f)) n) := by rw [getD_lt _ hjl]; exact List.getElem_mem hjl
                      obtain ⟨q, hq1, hq2⟩ := mem_ci.1 hin
                      have hqf := frF_lt (mem_pagesF.1 hq1).2
                      rw [← hq2] at hcell
                      have hqn : ¬ (n : Int) ≤ (q : Int) := by omega
                      have hq0 : ¬ (q : Int) < 0 := by omega
                      have HH1 := HHS.out wr (f) (f) (q : Int) hk9.map
                      rw [show hasI (f) (q : Int) = false by simpa [hasI] using hqf.2.1] at HH1
                      have HH1 := hide HH1
                      have HH2 : Hid (∀ mm, Calls Tryd.prog 37 #[dp b, .int .i64 (q : Int)] (wr.drewN mm) fun e w' => e = .returned (.bool false) ∧ Kp8 w B b n wv (f) (f) w' ∧ Is w' (.slice (some ⟨bc, offc, none⟩) C3 cap9) (ci (pagesF (frF n (f) (f)) n))) := fun mm => by
                        have HM := HMN.out (wr.drewN mm) (f) (f) (q : Int) (hk9.map.drewN mm)
                        rw [show hasI (f) (q : Int) = false by simpa [hasI] using hqf.2.1] at HM
                        refine HM.mono ?_
                        rintro e w' ⟨rfl, m2, rfl⟩
                        exact ⟨rfl, (hk9.grow (belowN _ mm)).grow (belowN _ m2), (hi9.below (belowN _ mm)).below (belowN _ m2)⟩
                      clear hk9 hi9 hcp hjl hin hq1 hq2 hqf
                      go_wp2_with (first
                        | (go_at_call 36; refine HH1.out.mono ?_; rintro e W10 ⟨rfl, mm, hw⟩; subst W10; clear HH1)
                        | (go_at_call 37; refine (HH2.out mm).mono ?_; rintro e W11 ⟨rfl, hk11, hi11⟩; have HK11 := hide hk11; have HI11 := hide hi11; clear HH2 hk11 hi11))
                      go_roundg g3
                      case measure => omega
                      case rel => exact ⟨j + 1, by omega, by go_num, HK11.out, HI11.out⟩
                ·
                  by_cases hd4 : D = 4
                  · subst hd4
                    obtain ⟨C1, C2, C3, hC, htk, hhd, hav, htl⟩ := tells B b n (g) (g) (by omega)
                    have htk := hide htk
                    have hhd := hide hhd
                    have hav := hide hav
                    have htl := hide htl
                    obtain ⟨S, hS⟩ : ∃ S, C1 + C2 = S := ⟨_, rfl⟩
                    have hs1 : (C1 : Int) + (C2 : Int) = (S : Int) := by omega
                    have hs2 : (S : Int) + (C3 : Int) = (n : Int) := by omega
                    have hw1 := wrap_i64_in S (by omega)
                    have hw2 := wrap_i64_in n (by omega)
                    have hC3 : C3 ≤ 2048 := by omega
                    clear hC hS
                    have HA : Hid (∀ W, MapE W B b n f g → Calls Tryd.prog 26 #[dp b] W fun e w' => e = .returned (.int .i64 0) ∧ MapE w' B b n g g ∧ OnlyM B W w') := fun W h => mabort_any W B b n f g h
                    have HT1 : Hid (∀ W, MapE W B b n g g → Calls Tryd.prog 31 #[dp b] W fun e w' => ∃ v, e = .returned v ∧ Ints w' W.heap.size v (ci (pagesF g n)) ∧ Below W.heap.size W w') := fun W h => mtaken_any W B b n g g h
                    have HEQ : Hid (∀ W v cv, Kp8 w B b n cv g g W → Is W v (ci (pagesF g n)) → Calls Tryd.prog 17 #[v, cv] W fun e w' => e = .returned (.bool true) ∧ Kp8 w B b n cv g g w') := fun W v cv h hv => by
                      refine (sEqual_any W _ _ _ _ hv h.cnt.is).mono ?_
                      rintro e w' ⟨rfl, q, rfl⟩
                      exact ⟨by simp, h.grow (belowN W q)⟩
                    have HH0 : Hid (∀ W, MapE W B b n g g → Calls Tryd.prog 32 #[dp b] W fun e w' => e = .returned (.int .i64 0) ∧ Below W.heap.size W w') := fun W h => by
                      have := mheld_any W B b n g g h
                      rw [held_none] at this
                      exact this
                    go_wp2_with (first
                      | ((with_reducible refine wpList_load_mid rfl 45 (.tmp 51) rfl gb (off + k * 2) ?_ (opc ⟨4, P⟩) _ HRG.out Tryd.underlying45 rfl HZ1.out ?_); exact rfl)
                      | ((with_reducible refine wpList_store_new rfl 45 (.tmp 11) (.tmp 52) rfl opZero (opc ⟨4, P⟩).toArray 45 ?_ ?_ HZ3.out HZ2.out HZ4.out ?_); exact rfl; exact rfl)
                      | (go_at_call 31; refine HT0.out.mono ?_; rintro e W2 ⟨wv, rfl, hi2, hb2⟩; have HK2 := hide (HK1.out.grow hb2); have HW2 := hide (hi2.base (Nat.le_trans HK1.out.below.size (Nat.le_refl _))); have HOB2 := hide (HOB.out.below hb2 HOB.out.lt); have d0 : W2.cell? ⟨wr.heap.size, 0, none⟩ = some (.int .i64 4) := HOB2.out.cell 0; have d1 : W2.cell? ⟨wr.heap.size, 1, none⟩ = some (.int .i64 P) := HOB2.out.cell 1; clear HT0 hi2 hb2 HK1 HOB)
                      | (go_at_call 26; refine (HA.out W2 HK2.out.map).mono ?_; rintro e W3 ⟨rfl, hm3, ho3⟩; have HK3' := hide (HK2.out.step hwB hm3 ho3); clear HA hm3 ho3 HK2 HW2)
                      | (go_at_call 31; refine (HT1.out W3 HK3'.out.map).mono ?_; rintro e W3a ⟨v3, rfl, hi3, hb3⟩; have HK3a := hide (HK3'.out.grow hb3); have HI3 := hide hi3.is; clear HT1 HK3' hi3 hb3)
                      | (go_at_call 17; refine (HEQ.out W3a _ _ HK3a.out HI3.out).mono ?_; rintro e W3b ⟨rfl, hk3⟩; have HK3b := hide hk3; clear HEQ HK3a HI3 hk3)
                      | (go_at_call 32; refine (HH0.out W3b HK3b.out.map).mono ?_; rintro e W4 ⟨rfl, hb4⟩; have HK4 := hide (HK3b.out.grow hb4); clear HH0 HK3b hb4)
                      | (go_at_call 31; refine (htk.out _ HK4.out.map).mono ?_; rintro e W5 ⟨ao5, cap5, rfl, hb5⟩; have HK5 := hide (HK4.out.grow hb5); clear hb5 HK4 htk)
                      | (go_at_call 32; refine (hhd.out _ HK5.out.map).mono ?_; rintro e W6 ⟨rfl, hb6⟩; have HK6 := hide (HK5.out.grow hb6); clear hb6 HK5 hhd)
                      | (go_at_call 33; refine (hav.out _ HK6.out.map).mono ?_; rintro e W7 ⟨rfl, hb7⟩; have HK7 := hide (HK6.out.grow hb7); clear hb7 HK6 hav)
                      | (go_at_call 35; refine (mall_any W7 _).mono ?_; rintro e W8 ⟨rfl, hw⟩; subst W8)
                      | (go_at_call 34; refine (htl.out _ HK7.out.map).mono ?_; rintro e W9 ⟨ao9, cap9, rfl, hi9, hb9⟩; have HK9 := hide (HK7.out.grow hb9); have HI9 := hide hi9; clear hi9 hb9 HK7 htl))
                    clear c0 d0 d1
                    go_loopg [123] C3 (fun g2 iv wr2 => ∃ j : Nat, g2 + j = C3 ∧ iv = .int .i64 j ∧ Kp8 w B b n u9 (g) (g) wr2 ∧ Is wr2 (.slice ao9 C3 cap9) (ci (pagesF (frF n (g) (g)) n)))
                    case atStart => exact ⟨0, by omega, rfl, HK9.out, HI9.out⟩
                    case round =>
                      obtain ⟨j, hj, rfl, hk9, hi9⟩ := hrel
                      have HKR := hide hk9
                      have HIR := hide hi9
                      have hcp := hi9.cap
                      cases gk with
                      | zero =>
                        have h2 : ¬ (j : Int) < (C3 : Int) := by omega
                        clear hk9 hi9 hcp
                        go_wp2
                        go_roundg gg
                        case measure => omega
                        case rel => exact ⟨k + 1, _, _, by omega, by go_num, HKR.out⟩
                      | succ g3 =>
                        have h2 : (j : Int) < (C3 : Int) := by omega
                        have hjl : j < (ci (pagesF (frF n (g) (g)) n)).length := by rw [← hcp.1]; omega
                        obtain ⟨bc, offc, hao, hcell⟩ := Is.at hi9 j hjl
                        subst hao
                        have hin : (ci (pagesF (frF n (g) (g)) n)).getD j 0 ∈ ci (pagesF (frF n (g) (g)) n) := by rw [getD_lt _ hjl]; exact List.getElem_mem hjl
                        obtain ⟨q, hq1, hq2⟩ := mem_ci.1 hin
                        have hqf := frF_lt (mem_pagesF.1 hq1).2
                        rw [← hq2] at hcell
                        have hqn : ¬ (n : Int) ≤ (q : Int) := by omega
                        have hq0 : ¬ (q : Int) < 0 := by omega
                        have HH1 := HHS.out wr (g) (g) (q : Int) hk9.map
                        rw [show hasI (g) (q : Int) = false by simpa [hasI] using hqf.2.1] at HH1
                        have HH1 := hide HH1
                        have HH2 : Hid (∀ mm, Calls Tryd.prog 37 #[dp b, .int .i64 (q : Int)] (wr.drewN mm) fun e w' => e = .returned (.bool false) ∧ Kp8 w B b n u9 (g) (g) w' ∧ Is w' (.slice (some ⟨bc, offc, none⟩) C3 cap9) (ci (pagesF (frF n (g) (g)) n))) := fun mm => by
                          have HM := HMN.out (wr.drewN mm) (g) (g) (q : Int) (hk9.map.drewN mm)
                          rw [show hasI (g) (q : Int) = false by simpa [hasI] using hqf.2.1] at HM
                          refine HM.mono ?_
                          rintro e w' ⟨rfl, m2, rfl⟩
                          exact ⟨rfl, (hk9.grow (belowN _ mm)).grow (belowN _ m2), (hi9.below (belowN _ mm)).below (belowN _ m2)⟩
                        clear hk9 hi9 hcp hjl hin hq1 hq2 hqf
                        go_wp2_with (first
                          | (go_at_call 36; refine HH1.out.mono ?_; rintro e W10 ⟨rfl, mm, hw⟩; subst W10; clear HH1)
                          | (go_at_call 37; refine (HH2.out mm).mono ?_; rintro e W11 ⟨rfl, hk11, hi11⟩; have HK11 := hide hk11; have HI11 := hide hi11; clear HH2 hk11 hi11))
                        go_roundg g3
                        case measure => omega
                        case rel => exact ⟨j + 1, by omega, by go_num, HK11.out, HI11.out⟩
                  ·
                    obtain ⟨C1, C2, C3, hC, htk, hhd, hav, htl⟩ := tells B b n (f) (g) (by omega)
                    have htk := hide htk
                    have hhd := hide hhd
                    have hav := hide hav
                    have htl := hide htl
                    obtain ⟨S, hS⟩ : ∃ S, C1 + C2 = S := ⟨_, rfl⟩
                    have hs1 : (C1 : Int) + (C2 : Int) = (S : Int) := by omega
                    have hs2 : (S : Int) + (C3 : Int) = (n : Int) := by omega
                    have hw1 := wrap_i64_in S (by omega)
                    have hw2 := wrap_i64_in n (by omega)
                    have hC3 : C3 ≤ 2048 := by omega
                    clear hC hS
                    go_wp2_with (first
                      | ((with_reducible refine wpList_load_mid rfl 45 (.tmp 51) rfl gb (off + k * 2) ?_ (opc ⟨D, P⟩) _ HRG.out Tryd.underlying45 rfl HZ1.out ?_); exact rfl)
                      | ((with_reducible refine wpList_store_new rfl 45 (.tmp 11) (.tmp 52) rfl opZero (opc ⟨D, P⟩).toArray 45 ?_ ?_ HZ3.out HZ2.out HZ4.out ?_); exact rfl; exact rfl)
                      | (go_at_call 31; refine HT0.out.mono ?_; rintro e W2 ⟨wv, rfl, hi2, hb2⟩; have HK2 := hide (HK1.out.grow hb2); have HW2 := hide (hi2.base (Nat.le_trans HK1.out.below.size (Nat.le_refl _))); have HOB2 := hide (HOB.out.below hb2 HOB.out.lt); have d0 : W2.cell? ⟨wr.heap.size, 0, none⟩ = some (.int .i64 D) := HOB2.out.cell 0; have d1 : W2.cell? ⟨wr.heap.size, 1, none⟩ = some (.int .i64 P) := HOB2.out.cell 1; clear HT0 hi2 hb2 HK1 HOB)
                      | (go_at_call 31; refine (htk.out _ HK2.out.map).mono ?_; rintro e W5 ⟨ao5, cap5, rfl, hb5⟩; have HK5 := hide (HK2.out.grow hb5); clear hb5 HK2 htk)
                      | (go_at_call 32; refine (hhd.out _ HK5.out.map).mono ?_; rintro e W6 ⟨rfl, hb6⟩; have HK6 := hide (HK5.out.grow hb6); clear hb6 HK5 hhd)
                      | (go_at_call 33; refine (hav.out _ HK6.out.map).mono ?_; rintro e W7 ⟨rfl, hb7⟩; have HK7 := hide (HK6.out.grow hb7); clear hb7 HK6 hav)
                      | (go_at_call 35; refine (mall_any W7 _).mono ?_; rintro e W8 ⟨rfl, hw⟩; subst W8)
                      | (go_at_call 34; refine (htl.out _ HK7.out.map).mono ?_; rintro e W9 ⟨ao9, cap9, rfl, hi9, hb9⟩; have HK9 := hide (HK7.out.grow hb9); have HI9 := hide hi9; clear hi9 hb9 HK7 htl))
                    clear c0 d0 d1
                    go_loopg [123] C3 (fun g2 iv wr2 => ∃ j : Nat, g2 + j = C3 ∧ iv = .int .i64 j ∧ Kp8 w B b n u9 (f) (g) wr2 ∧ Is wr2 (.slice ao9 C3 cap9) (ci (pagesF (frF n (f) (g)) n)))
                    case atStart => exact ⟨0, by omega, rfl, HK9.out, HI9.out⟩
                    case round =>
                      obtain ⟨j, hj, rfl, hk9, hi9⟩ := hrel
                      have HKR := hide hk9
                      have HIR := hide hi9
                      have hcp := hi9.cap
                      cases gk with
                      | zero =>
                        have h2 : ¬ (j : Int) < (C3 : Int) := by omega
                        clear hk9 hi9 hcp
                        go_wp2
                        go_roundg gg
                        case measure => omega
                        case rel => exact ⟨k + 1, _, _, by omega, by go_num, HKR.out⟩
                      | succ g3 =>
                        have h2 : (j : Int) < (C3 : Int) := by omega
                        have hjl : j < (ci (pagesF (frF n (f) (g)) n)).length := by rw [← hcp.1]; omega
                        obtain ⟨bc, offc, hao, hcell⟩ := Is.at hi9 j hjl
                        subst hao
                        have hin : (ci (pagesF (frF n (f) (g)) n)).getD j 0 ∈ ci (pagesF (frF n (f) (g)) n) := by rw [getD_lt _ hjl]; exact List.getElem_mem hjl
                        obtain ⟨q, hq1, hq2⟩ := mem_ci.1 hin
                        have hqf := frF_lt (mem_pagesF.1 hq1).2
                        rw [← hq2] at hcell
                        have hqn : ¬ (n : Int) ≤ (q : Int) := by omega
                        have hq0 : ¬ (q : Int) < 0 := by omega
                        have HH1 := HHS.out wr (f) (g) (q : Int) hk9.map
                        rw [show hasI (f) (q : Int) = false by simpa [hasI] using hqf.2.1] at HH1
                        have HH1 := hide HH1
                        have HH2 : Hid (∀ mm, Calls Tryd.prog 37 #[dp b, .int .i64 (q : Int)] (wr.drewN mm) fun e w' => e = .returned (.bool false) ∧ Kp8 w B b n u9 (f) (g) w' ∧ Is w' (.slice (some ⟨bc, offc, none⟩) C3 cap9) (ci (pagesF (frF n (f) (g)) n))) := fun mm => by
                          have HM := HMN.out (wr.drewN mm) (f) (g) (q : Int) (hk9.map.drewN mm)
                          rw [show hasI (f) (q : Int) = false by simpa [hasI] using hqf.2.1] at HM
                          refine HM.mono ?_
                          rintro e w' ⟨rfl, m2, rfl⟩
                          exact ⟨rfl, (hk9.grow (belowN _ mm)).grow (belowN _ m2), (hi9.below (belowN _ mm)).below (belowN _ m2)⟩
                        clear hk9 hi9 hcp hjl hin hq1 hq2 hqf
                        go_wp2_with (first
                          | (go_at_call 36; refine HH1.out.mono ?_; rintro e W10 ⟨rfl, mm, hw⟩; subst W10; clear HH1)
                          | (go_at_call 37; refine (HH2.out mm).mono ?_; rintro e W11 ⟨rfl, hk11, hi11⟩; have HK11 := hide hk11; have HI11 := hide hi11; clear HH2 hk11 hi11))
                        go_roundg g3
                        case measure => omega
                        case rel => exact ⟨j + 1, by omega, by go_num, HK11.out, HI11.out⟩

end Go.Proofs.YtbnhacibkmcmkaaDoor
