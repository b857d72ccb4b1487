/- The walk of FreemapKeeps. -/
import Derived.Test.YtbnhacibkmcmkaaDoorKActs
namespace Go.Proofs.YtbnhacibkmcmkaaDoor
set_option maxRecDepth 20000
open Go.RowKit
set_option linter.unusedVariables false
set_option maxRecDepth 100000

/-- between two acts -/
structure Kp8 (w : World) (B b n : Nat) (cv : Value) (f g : Nat → Bool) (wr : World) : Prop where
  map : MapE wr B b n f g
  cnt : Ints wr w.heap.size cv (ci (pagesF g n))
  below : Below w.heap.size w wr
theorem Kp8.step {w : World} {B b n : Nat} {cv : Value} {f g : Nat → Bool} {wr W : World} (h : Kp8 w B b n cv f g wr) (hB : w.heap.size ≤ B) {f' : Nat → Bool} (hm : MapE W B b n f' g) (ho : OnlyM B wr W) : Kp8 w B b n cv f' g W :=
  ⟨hm, h.cnt.keepM ho, h.below.trans ((ho.below h.map.le).mono hB)⟩
theorem Kp8.grow {w : World} {B b n : Nat} {cv : Value} {f g : Nat → Bool} {wr W : World} (h : Kp8 w B b n cv f g wr) (hb : Below wr.heap.size wr W) : Kp8 w B b n cv f g W :=
  ⟨h.map.below hb, h.cnt.below hb, below_on h.below hb⟩

set_option maxHeartbeats 4000000 in
theorem freemapKeeps_walk (w : World) (pages : Int) (v1 : Value) (ks : List Int) (v2 : Value) (os : List OpE) (hpg : (Lit.int .i64 pages).wf = true) (hv1 : Is w v1 ks) (hv2 : Script w v2 os) (hT : TabB w) : Calls Tryd.prog 6 #[.int .i64 pages, v1, v2] w fun e w' => e = .returned (.bool true) ∧ Below w.heap.size w w' := by
  have HL := hide (fun (W : World) (hb : Below w.heap.size w W) => live_any W (hT.below hb))
  obtain ⟨ao1, cap1, rfl⟩ : ∃ ao cap, v1 = .slice ao ks.length cap := by obtain ⟨ao, cap, h, _⟩ := hv1; exact ⟨ao, cap, h⟩
  obtain ⟨ao2, T, cap2, rfl⟩ : ∃ ao T cap, v2 = .slice ao T cap := by obtain ⟨_, ao, cap, h, _⟩ := hv2; exact ⟨ao, _, cap, h⟩
  obtain ⟨hTe, hT2, hT3, hat⟩ := script_at hv2 rfl
  clear hTe
  unfold maxLen at hT3
  have HV1 := hide hv1
  obtain ⟨N1, hN1⟩ : ∃ N1, ks.length = N1 := ⟨_, rfl⟩
  rw [hN1] at HV1 ⊢
  by_cases hbig : 5000 < N1
  · have hbigi : (5000 : Int) < (N1 : Int) := by omega
    clear hv1 hv2 hat hN1 hT
    go_enter Tryd.func6, Tryd.ntmps6
    go_wp2_with (first
      | (go_at_call 9; refine (HL.out w (Below.refl _ w)).mono ?_; rintro e w1 ⟨rfl, hb1⟩; have HB1 := hide hb1; clear hb1)
      | (go_at_call 9; refine (HL.out w1 HB1.out).mono ?_; rintro e w2 ⟨rfl, hb2⟩; have HB2 := hide (below_on HB1.out hb2); clear hb2 HL))
    go_ret
    exact ⟨rfl, HB2.out⟩
  · have hbigi : ¬ (5000 : Int) < (N1 : Int) := by omega
    cases hmay : mayB pages ks with
    | false =>
      have HO : Hid (∀ W, Below w.heap.size w W → Calls Tryd.prog 18 #[.int .i64 pages, .slice ao1 N1 cap1] W fun e w' => e = .returned (.tuple #[.pointer none, .int .i64 1]) ∧ w' = W) := fun W hb => open_bad W pages _ ks (HV1.out.below hb) hmay
      clear hv1 hv2 hat hN1 hT
      go_enter Tryd.func6, Tryd.ntmps6
      go_wp2_with (first
        | (go_at_call 9; refine (HL.out w (Below.refl _ w)).mono ?_; rintro e w1 ⟨rfl, hb1⟩; have HB1 := hide hb1; clear hb1 HL)
        | (go_at_call 18; refine (HO.out w1 HB1.out).mono ?_; rintro e w2 ⟨rfl, hw⟩; subst w2; clear HO))
      go_ret
      exact ⟨rfl, HB1.out⟩
    | true =>
      have hsz : 8 ≤ pages ∧ pages ≤ 2048 := by rw [mayB, Bool.and_eq_true, sizeB_iff] at hmay; exact hmay.1
      obtain ⟨n, rfl⟩ : ∃ n : Nat, pages = n := ⟨pages.toNat, by omega⟩
      have hri : riseB n (-1) ks = true := by rw [mayB, Bool.and_eq_true] at hmay; exact hmay.2
      have HO : Hid (∀ W, Below w.heap.size w W → Calls Tryd.prog 18 #[.int .i64 n, .slice ao1 N1 cap1] W fun e w' => ∃ b, e = .returned (.tuple #[dp b, .int .i64 0]) ∧ MapE w' W.heap.size b n (inL ks) (inL ks) ∧ Below W.heap.size W w') := fun W hb => open_ok W n _ ks (HV1.out.below hb) hmay (hT.below hb) (by have := World.block_lt_of_cell? w _ (hT 0 (by decide)); exact Nat.lt_of_lt_of_le this hb.size)
      have HC : Hid (∀ W, Below w.heap.size w W → Calls Tryd.prog 19 #[.slice ao1 N1 cap1] W fun e w' => ∃ v', e = .returned v' ∧ Ints w' W.heap.size v' (ci (pagesF (inL ks) n)) ∧ Below W.heap.size W w') := fun W hb => by
        have := sClone_any W _ ks (HV1.out.below hb) (by omega)
        rw [ci_inL hri]
        exact this
      obtain ⟨m, hm⟩ : ∃ m, min T 80 = m := ⟨_, rfl⟩
      have hmin : ∀ (ts : Array TypeId) (t : TypeId) (wx : World), (Builtin.min_ ts t #[.int .i64 (T : Int), .int .i64 80]).run Tryd.prog wx = .ok (.int .i64 (m : Int)) wx := run_min80 T 80 m hm
      have hm80 : m ≤ 80 := by omega
      have hmT : m ≤ T := by omega
      have hcut : ∀ wx, (Instr.slice 36 (.slice ao2 T cap2) none (some (.int .i64 (m : Int))) none).run Tryd.prog wx = .ok (.slice ao2 m cap2) wx := cut_head 36 45 2 Tryd.underlying36 sizeOp ao2 T cap2 m (by omega) (by unfold maxLen; exact hT3)
      have HAT := hide hat
      clear hv1 hv2 hat hN1 hT hmay hri hm
      go_enter Tryd.func6, Tryd.ntmps6
      go_wp2_with (first
        | (go_at_call 9; refine (HL.out w (Below.refl _ w)).mono ?_; rintro e w1 ⟨rfl, hb1⟩; have HB1 := hide hb1; clear hb1 HL)
        | (go_at_call 18; refine (HO.out w1 HB1.out).mono ?_; rintro e w2 ⟨b, rfl, hm2, hb2⟩; have HM2 := hide hm2; have HB2 := hide (below_on HB1.out hb2); clear HO hm2 hb2)
        | (go_at_call 19; refine (HC.out w2 HB2.out).mono ?_; rintro e w3 ⟨cv0, rfl, hi3, hb3⟩; have HK3 : Hid (Kp8 w w1.heap.size b n cv0 (inL ks) (inL ks) w3) := ⟨HM2.out.below hb3, hi3.base HB2.out.size, below_on HB2.out hb3⟩; clear HC hi3 hb3 HM2))
      clear hmin hcut
      obtain ⟨B, hB⟩ : ∃ B, w1.heap.size = B := ⟨_, rfl⟩
      rw [hB] at HK3
      have hwB : w.heap.size ≤ B := by rw [← hB]; exact HB1.out.size
      clear HB1 HB2 hB
      go_loopg [9, 52] m (fun gg cv kv wr => ∃ (k : Nat) (f g : Nat → Bool), gg + k = m ∧ kv = .int .i64 k ∧ Kp8 w B b n cv f g wr)
      case atStart => exact ⟨0, _, _, by omega, rfl, HK3.out⟩
      case round =>
        obtain ⟨k, f, g, hk, rfl, hkp⟩ := hrel
        have HKP := hide hkp
        cases gk with
        | zero =>
          have h1 : ¬ (k : Int) < (m : Int) := by omega
          clear hkp
          go_wp2
          go_ret
          exact ⟨rfl, HKP.out.below⟩
        | succ gg =>
          have h1 : (k : Int) < (m : Int) := by omega
          obtain ⟨gb, off, hao, hgb, hrg, hpl, hph⟩ := HAT.out k (by omega)
          obtain ⟨z1, z2, z3, z4⟩ := op_facts (opAt os k)
          have hrg' := range_below hrg hkp.below hgb
          obtain ⟨⟨D, P⟩, ho⟩ : ∃ o, opAt os k = o := ⟨_, rfl⟩
          rw [ho] at hpl hph hrg' z1 z2 z3 z4
          simp only at hpl hph
          have HRG := hide hrg'
          have HZ1 := hide z1
          have HZ2 := hide z2
          have HZ3 := hide z3
          have HZ4 := hide z4
          have hz := zeroOpRun
          subst hao
          obtain ⟨W1, hW1⟩ : ∃ W1, wr.alloc (.cells (opc ⟨D, P⟩).toArray 45) = W1 := ⟨_, rfl⟩
          have hob : Blk W1 wr.heap.size 45 (opc ⟨D, P⟩) := by rw [← hW1]; exact Blk.new wr _ _
          have hb1 : Below wr.heap.size wr W1 := by rw [← hW1]; exact (Below.refl _ wr).alloc (Nat.le_refl _) _
          have HK1 := hide (hkp.grow hb1)
          have c0 : W1.cell? ⟨wr.heap.size, 0, none⟩ = some (.int .i64 D) := hob.cell 0
          have c1 : W1.cell? ⟨wr.heap.size, 1, none⟩ = some (.int .i64 P) := hob.cell 1
          have HOB := hide hob
          obtain ⟨aoc, capc, hcv⟩ := hkp.cnt.shape
          obtain ⟨Lc, hLc⟩ : ∃ Lc, (ci (pagesF g n)).length = Lc := ⟨_, rfl⟩
          rw [hLc] at hcv
          subst hcv
          have HLC := hide hLc
          have hLc2 : Lc ≤ 2048 := by rw [← hLc, ci_length]; have := pagesF_le g n; omega
          clear hkp hrg hrg' z1 z2 z3 z4 ho hob hb1 hLc HKP
          by_cases hd0 : D = 0
          · subst hd0
            have HA := malloc_any W1 B b n f g HK1.out.map
            have hnot := @al_not1 n f g
            generalize alV n f g 1 = av at *
            generalize alE n f g 1 = ae at *
            by_cases hae : ae = 0
            · subst hae
              have HA := hide HA
              have HCN : Hid (∀ W, Kp8 w B b n (.slice aoc Lc capc) (alF n f g 1) g W → Calls Tryd.prog 28 #[.slice aoc Lc capc, .int .i64 av] W fun e w' => e = .returned (.bool false) ∧ w' = W) := fun W h => by
                have := sContains_any W _ _ av h.cnt.is
                rw [decide_eq_false (hnot rfl)] at this
                exact this
              clear hnot HAT
              go_wp2_with (first
                | ((with_reducible refine wpList_load_mid rfl 45 (.tmp 54) rfl gb (off + k * 2) ?_ (opc ⟨0, P⟩) _ HRG.out Tryd.underlying45 rfl HZ1.out ?_); exact rfl)
                | ((with_reducible refine wpList_store_new rfl 45 (.tmp 11) (.tmp 55) rfl opZero (opc ⟨0, P⟩).toArray 45 ?_ ?_ HZ3.out HZ2.out HZ4.out ?_); exact rfl; exact rfl)
                | (go_at_call 24; refine HA.out.mono ?_; rintro e W2 ⟨rfl, hm2, ho2⟩; have HK2 := hide (HK1.out.step hwB hm2 ho2); clear HA hm2 ho2 HK1)
                | (go_at_call 28; refine (HCN.out W2 HK2.out).mono ?_; rintro e W3 ⟨rfl, hw⟩; subst W3; clear HCN))
              go_roundg gg
              case measure => omega
              case rel => exact ⟨k + 1, _, g, by omega, by go_num, HK2.out⟩
            · have HA := hide HA
              clear hnot HAT
              go_wp2_with (first
                | ((with_reducible refine wpList_load_mid rfl 45 (.tmp 54) rfl gb (off + k * 2) ?_ (opc ⟨0, P⟩) _ HRG.out Tryd.underlying45 rfl HZ1.out ?_); exact rfl)
                | ((with_reducible refine wpList_store_new rfl 45 (.tmp 11) (.tmp 55) rfl opZero (opc ⟨0, P⟩).toArray 45 ?_ ?_ HZ3.out HZ2.out HZ4.out ?_); exact rfl; exact rfl)
                | (go_at_call 24; refine HA.out.mono ?_; rintro e W2 ⟨rfl, hm2, ho2⟩; have HK2 := hide (HK1.out.step hwB hm2 ho2); clear HA hm2 ho2 HK1))
              go_roundg gg
              case measure => omega
              case rel => exact ⟨k + 1, _, g, by omega, by go_num, HK2.out⟩
          · by_cases hd1 : D = 1
            · subst hd1
              have HA := mrun_any W1 B b n f g P HK1.out.map
              have hnot := @al_not n f g P
              have hfew := @al_few n f g P
              generalize alV n f g P = av at *
              generalize alE n f g P = ae at *
              obtain ⟨av, rfl⟩ : ∃ a : Nat, av = a := ⟨av.toNat, by omega⟩
              have hav : av ≤ 2048 := by omega
              by_cases hae : ae = 0
              · subst hae
                have HA := hide HA
                have HNOT := hide (hnot rfl)
                clear hnot HAT hfew
                go_wp2_with (first
                  | ((with_reducible refine wpList_load_mid rfl 45 (.tmp 54) rfl gb (off + k * 2) ?_ (opc ⟨1, P⟩) _ HRG.out Tryd.underlying45 rfl HZ1.out ?_); exact rfl)
                  | ((with_reducible refine wpList_store_new rfl 45 (.tmp 11) (.tmp 55) rfl opZero (opc ⟨1, P⟩).toArray 45 ?_ ?_ HZ3.out HZ2.out HZ4.out ?_); exact rfl; exact rfl)
                  | (go_at_call 29; refine HA.out.mono ?_; rintro e W2 ⟨rfl, hm2, ho2⟩; have HK2 := hide (HK1.out.step hwB hm2 ho2); have HOB2 := hide (HOB.out.keepM ho2 (by decide) (by decide)); clear HA hm2 ho2 HK1))
                have d1 : W2.cell? ⟨wr.heap.size, 1, none⟩ = some (.int .i64 P) := HOB2.out.cell 1
                clear c0 c1
                go_loopg [85] Lc (fun g2 iv wr2 => ∃ j : Nat, g2 + j = Lc ∧ iv = .int .i64 j ∧ W2 = wr2)
                case atStart => exact ⟨0, by omega, rfl, rfl⟩
                case round =>
                  obtain ⟨j, hj, rfl, rfl⟩ := hrel
                  cases gk with
                  | zero =>
                    have h2 : ¬ (j : Int) < (Lc : Int) := by omega
                    go_wp2
                    go_roundg gg
                    case measure => omega
                    case rel => exact ⟨k + 1, _, g, by omega, by go_num, HK2.out⟩
                  | succ g3 =>
                    have h2 : (j : Int) < (Lc : Int) := by omega
                    have hjl : j < (ci (pagesF g n)).length := by rw [HLC.out]; omega
                    obtain ⟨bc, offc, hao, hcell⟩ := Is.at HK2.out.cnt.is j hjl
                    subst hao
                    have hin : (ci (pagesF g n)).getD j 0 ∈ ci (pagesF g n) := by rw [getD_lt _ hjl]; exact List.getElem_mem hjl
                    obtain ⟨q, hq1, hq2⟩ := mem_ci.1 hin
                    have hqn := (mem_pagesF.1 hq1).1
                    have hno := HNOT.out _ hin
                    rw [← hq2] at hcell hno
                    clear hjl hin hq1 hq2
                    by_cases hlt : q < av
                    · have hlti : ¬ (av : Int) ≤ (q : Int) := by omega
                      go_wp2
                      go_roundg g3
                      case measure => omega
                      case rel => exact ⟨j + 1, by omega, by go_num, rfl⟩
                    · have hlti : (av : Int) ≤ (q : Int) := by omega
                      obtain ⟨S, hS⟩ : ∃ S, q - av = S := ⟨_, rfl⟩
                      have hsub : (q : Int) - (av : Int) = (S : Int) := by omega
                      have hwr := wrap_i64_in S (by omega)
                      have hPS : ¬ (S : Int) < P := by omega
                      clear hno hS
                      go_wp2
                      go_roundg g3
                      case measure => omega
                      case rel => exact ⟨j + 1, by omega, by go_num, rfl⟩
              · have HA := hide HA
                clear hnot HAT hfew
                go_wp2_with (first
                  | ((with_reducible refine wpList_load_mid rfl 45 (.tmp 54) rfl gb (off + k * 2) ?_ (opc ⟨1, P⟩) _ HRG.out Tryd.underlying45 rfl HZ1.out ?_); exact rfl)
                  | ((with_reducible refine wpList_store_new rfl 45 (.tmp 11) (.tmp 55) rfl opZero (opc ⟨1, P⟩).toArray 45 ?_ ?_ HZ3.out HZ2.out HZ4.out ?_); exact rfl; exact rfl)
                  | (go_at_call 29; refine HA.out.mono ?_; rintro e W2 ⟨rfl, hm2, ho2⟩; have HK2 := hide (HK1.out.step hwB hm2 ho2); clear HA hm2 ho2 HK1))
                go_roundg gg
                case measure => omega
                case rel => exact ⟨k + 1, _, g, by omega, by go_num, HK2.out⟩
            · by_cases hd2 : D = 2
              · subst hd2
                have HA := hide (mfree_any W1 B b n f g P HK1.out.map)
                clear HAT
                go_wp2_with (first
                  | ((with_reducible refine wpList_load_mid rfl 45 (.tmp 54) rfl gb (off + k * 2) ?_ (opc ⟨2, P⟩) _ HRG.out Tryd.underlying45 rfl HZ1.out ?_); exact rfl)
                  | ((with_reducible refine wpList_store_new rfl 45 (.tmp 11) (.tmp 55) rfl opZero (opc ⟨2, P⟩).toArray 45 ?_ ?_ HZ3.out HZ2.out HZ4.out ?_); exact rfl; exact rfl)
                  | (go_at_call 25; refine HA.out.mono ?_; rintro e W2 ⟨rfl, hm2, ho2⟩; have HK2 := hide (HK1.out.step hwB hm2 ho2); clear HA hm2 ho2 HK1))
                go_roundg gg
                case measure => omega
                case rel => exact ⟨k + 1, _, g, by omega, by go_num, HK2.out⟩
              · by_cases hd3 : D = 3
                · subst hd3
                  have HA := hide (mcommit_any W1 B b n f g HK1.out.map)
                  have HTK : Hid (∀ W, MapE W B b n f f → Calls Tryd.prog 31 #[dp b] W fun e w' => ∃ v, e = .returned v ∧ Ints w' W.heap.size v (ci (pagesF f n)) ∧ Below W.heap.size W w') := fun W h => mtaken_any W B b n f f h
                  clear HAT
                  go_wp2_with (first
                    | ((with_reducible refine wpList_load_mid rfl 45 (.tmp 54) rfl gb (off + k * 2) ?_ (opc ⟨3, P⟩) _ HRG.out Tryd.underlying45 rfl HZ1.out ?_); exact rfl)
                    | ((with_reducible refine wpList_store_new rfl 45 (.tmp 11) (.tmp 55) rfl opZero (opc ⟨3, P⟩).toArray 45 ?_ ?_ HZ3.out HZ2.out HZ4.out ?_); exact rfl; exact rfl)
                    | (go_at_call 30; refine HA.out.mono ?_; rintro e W2 ⟨rfl, hm2, ho2⟩; have HM2 := hide hm2; have HB2 := hide (HK1.out.below.trans ((ho2.below HK1.out.map.le).mono hwB)); clear HA hm2 ho2 HK1)
                    | (go_at_call 31; refine (HTK.out W2 HM2.out).mono ?_; rintro e W3 ⟨cv3, rfl, hi3, hb3⟩; have HK3' : Hid (Kp8 w B b n cv3 f f W3) := ⟨HM2.out.below hb3, hi3.base HB2.out.size, below_on HB2.out hb3⟩; clear HTK HM2 HB2 hi3 hb3))
                  go_roundg gg
                  case measure => omega
                  case rel => exact ⟨k + 1, f, f, by omega, by go_num, HK3'.out⟩
                · by_cases hd4 : D = 4
                  · subst hd4
                    have HA := hide (mabort_any W1 B b n f g HK1.out.map)
                    have HTK : Hid (∀ W, MapE W B b n g g → Calls Tryd.prog 31 #[dp b] W fun e w' => ∃ v, e = .returned v ∧ Ints w' W.heap.size v (ci (pagesF g n)) ∧ Below W.heap.size W w') := fun W h => mtaken_any W B b n g g h
                    have HEQ : Hid (∀ W v, Kp8 w B b n (.slice aoc Lc capc) g g W → Is W v (ci (pagesF g n)) → Calls Tryd.prog 17 #[v, .slice aoc Lc capc] W fun e w' => e = .returned (.bool true) ∧ Kp8 w B b n (.slice aoc Lc capc) g g w') := fun W v h hv => by
                      refine (sEqual_any W _ _ _ _ hv h.cnt.is).mono ?_
                      rintro e w' ⟨rfl, q, rfl⟩
                      exact ⟨by simp, h.grow (belowN W q)⟩
                    clear HAT
                    go_wp2_with (first
                      | ((with_reducible refine wpList_load_mid rfl 45 (.tmp 54) rfl gb (off + k * 2) ?_ (opc ⟨4, P⟩) _ HRG.out Tryd.underlying45 rfl HZ1.out ?_); exact rfl)
                      | ((with_reducible refine wpList_store_new rfl 45 (.tmp 11) (.tmp 55) rfl opZero (opc ⟨4, P⟩).toArray 45 ?_ ?_ HZ3.out HZ2.out HZ4.out ?_); exact rfl; exact rfl)
                      | (go_at_call 26; refine HA.out.mono ?_; rintro e W2 ⟨rfl, hm2, ho2⟩; have HK2 := hide (HK1.out.step hwB hm2 ho2); clear HA hm2 ho2 HK1)
                      | (go_at_call 31; refine (HTK.out W2 HK2.out.map).mono ?_; rintro e W3 ⟨cv3, rfl, hi3, hb3⟩; have HK3' := hide (HK2.out.grow hb3); have HI3 := hide hi3.is; clear HTK HK2 hi3 hb3)
                      | (go_at_call 17; refine (HEQ.out W3 _ HK3'.out HI3.out).mono ?_; rintro e W4 ⟨rfl, hk4⟩; have HK4 := hide hk4; clear HEQ HK3' HI3 hk4))
                    go_roundg gg
                    case measure => omega
                    case rel => exact ⟨k + 1, g, g, by omega, by go_num, HK4.out⟩
                  · clear HAT
                    go_wp2_with (first
                      | ((with_reducible refine wpList_load_mid rfl 45 (.tmp 54) rfl gb (off + k * 2) ?_ (opc ⟨D, P⟩) _ HRG.out Tryd.underlying45 rfl HZ1.out ?_); exact rfl)
                      | ((with_reducible refine wpList_store_new rfl 45 (.tmp 11) (.tmp 55) rfl opZero (opc ⟨D, P⟩).toArray 45 ?_ ?_ HZ3.out HZ2.out HZ4.out ?_); exact rfl; exact rfl)
                      )
                    go_roundg gg
                    case measure => omega
                    case rel => exact ⟨k + 1, f, g, by omega, by go_num, HK1.out⟩

end Go.Proofs.YtbnhacibkmcmkaaDoor
