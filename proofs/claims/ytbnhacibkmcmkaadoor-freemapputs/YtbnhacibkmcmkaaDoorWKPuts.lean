/- The walk of FreemapPuts. -/
import Derived.Test.YtbnhacibkmcmkaaDoorKRefG
import Derived.Test.YtbnhacibkmcmkaaDoorKLive
namespace Go.Proofs.YtbnhacibkmcmkaaDoor
set_option maxRecDepth 20000
open Go.RowKit
set_option linter.unusedVariables false
set_option maxRecDepth 100000

/-- what Put answers, by both -/
theorem put_two (n : Int) (ks : List Int) (i : Int) : ∃ (zs : List Int) (er : Int), (∀ W v, Is W v ks → Calls Tryd.prog 10 #[.int .i64 n, v, .int .i64 i] W fun e w' => ∃ x, e = .returned (.tuple #[x, .int .i64 er]) ∧ Sl w' x zs ∧ Below W.heap.size W w') ∧
    ∀ W v, Is W v ks → Calls Tryd.prog 11 #[.int .i64 n, v, .int .i64 i] W fun e w' => ∃ x, e = .returned (.tuple #[x, .int .i64 er]) ∧ Sl w' x zs ∧ Below W.heap.size W w' := by
  by_cases h : mayB n ks = true ∧ 0 ≤ i ∧ i < needN n
  · obtain ⟨hm, h0, h1⟩ := h
    have hs : 8 ≤ n ∧ n ≤ 2048 := by rw [mayB, Bool.and_eq_true, sizeB_iff] at hm; exact hm.1
    obtain ⟨N, rfl⟩ : ∃ N : Nat, n = N := ⟨n.toNat, by omega⟩
    obtain ⟨I, rfl⟩ : ∃ I : Nat, i = I := ⟨i.toNat, by omega⟩
    refine ⟨putS I ks, 0, fun W v hv => ?_, fun W v hv => ?_⟩
    · refine (put_ok W N v ks I hv hm h1).mono ?_
      rintro e w' ⟨rfl, hB, hb⟩
      exact ⟨_, rfl, sl_pg (putS_ok _ _) (putS_length _ _) hB, hb⟩
    · refine (refPut_ok W N v ks I hv hm h1).mono ?_
      rintro e w' ⟨g, rfl, _, hB, hb⟩
      exact ⟨_, rfl, sl_pg (putS_ok _ _) (putS_length _ _) hB, hb⟩
  · refine ⟨[], 1, fun W v hv => ?_, fun W v hv => ?_⟩
    · refine (put_bad W n v ks i hv h).mono ?_
      rintro e w' ⟨rfl, rfl⟩
      exact ⟨_, rfl, Sl.nil _, Below.refl _ _⟩
    · refine (refPut_bad W n v ks i hv h).mono ?_
      rintro e w' ⟨rfl, hb⟩
      exact ⟨_, rfl, Sl.nil _, hb⟩

set_option maxHeartbeats 4000000 in
theorem freemapPuts_walk (w : World) (pages : Int) (v1 : Value) (ks : List Int) (i : Int) (v3 : Value) (vs : List Value) (pss : List (List Int)) (hpg : (Lit.int .i64 pages).wf = true) (hv1 : Is w v1 ks) (hiw : (Lit.int .i64 i).wf = true) (hv3 : Parts w v3 vs pss) (hT : TabB w) : Calls Tryd.prog 3 #[.int .i64 pages, v1, .int .i64 i, v3] w fun e w' => e = .returned (.bool true) ∧ Below w.heap.size w w' := by
  have HL := hide (fun (W : World) (hb : Below w.heap.size w W) => live_any W (hT.below hb))
  obtain ⟨ao1, cap1, rfl⟩ : ∃ ao cap, v1 = .slice ao ks.length cap := by obtain ⟨ao, cap, h, _⟩ := hv1; exact ⟨ao, cap, h⟩
  have HV1 := hide hv1
  have HP := hide hv3
  obtain ⟨ao3, cap3, rfl, hc1, hc2, hvl⟩ := hv3.shape
  unfold maxLen at hc2
  obtain ⟨N1, hN1⟩ : ∃ N1, ks.length = N1 := ⟨_, rfl⟩
  rw [hN1] at HV1 ⊢
  obtain ⟨m, hm⟩ : ∃ m, pss.length = m := ⟨_, rfl⟩
  rw [hm] at HP hc1 hvl ⊢
  have HVL := hide hvl
  have HM := hide hm
  by_cases hbig : 5000 < N1
  · have hbigi : (5000 : Int) < (N1 : Int) := by omega
    clear hv1 hv3 hN1 hT hm hvl
    go_enter Tryd.func3, Tryd.ntmps3
    go_wp2_with (first
      | (go_at_call 9; refine (HL.out w (Below.refl _ w)).mono ?_; rintro e w1 ⟨rfl, hb1⟩; have HB1 := hide hb1; clear hb1)
      | (go_at_call 9; refine (HL.out w1 HB1.out).mono ?_; rintro e w2 ⟨rfl, hb2⟩; have HB2 := hide (below_on HB1.out hb2); clear hb2 HL))
    go_ret
    exact ⟨rfl, HB2.out⟩
  · have hbigi : ¬ (5000 : Int) < (N1 : Int) := by omega
    by_cases hbig2 : 8 < m
    · have hbig2i : (8 : Int) < (m : Int) := by omega
      clear hv1 hv3 hN1 hT hm hvl
      go_enter Tryd.func3, Tryd.ntmps3
      go_wp2_with (first
        | (go_at_call 9; refine (HL.out w (Below.refl _ w)).mono ?_; rintro e w1 ⟨rfl, hb1⟩; have HB1 := hide hb1; clear hb1)
        | (go_at_call 9; refine (HL.out w1 HB1.out).mono ?_; rintro e w2 ⟨rfl, hb2⟩; have HB2 := hide (below_on HB1.out hb2); clear hb2 HL))
      go_ret
      exact ⟨rfl, HB2.out⟩
    · have hbig2i : ¬ (8 : Int) < (m : Int) := by omega
      obtain ⟨zs, er, hp1, hp2⟩ := put_two pages ks i
      have HPP : Hid (∀ W, Below w.heap.size w W → Calls Tryd.prog 10 #[.int .i64 pages, .slice ao1 N1 cap1, .int .i64 i] W fun e w' => ∃ x, e = .returned (.tuple #[x, .int .i64 er]) ∧ Sl w' x zs ∧ Below W.heap.size W w') := fun W hb => hp1 W _ (HV1.out.below hb)
      have HRP : Hid (∀ W, Below w.heap.size w W → Calls Tryd.prog 11 #[.int .i64 pages, .slice ao1 N1 cap1, .int .i64 i] W fun e w' => ∃ x, e = .returned (.tuple #[x, .int .i64 er]) ∧ Sl w' x zs ∧ Below W.heap.size W w') := fun W hb => hp2 W _ (HV1.out.below hb)
      obtain ⟨eg, heg⟩ : ∃ eg, getE pages pss = eg := ⟨_, rfl⟩
      have HGG : Hid (∀ W, Below w.heap.size w W → Calls Tryd.prog 12 #[.int .i64 pages, .slice ao3 m cap3] W fun e w' => ∃ u, e = .returned (.tuple #[u, .int .i64 eg]) ∧ Is w' u (getL pages pss) ∧ Below W.heap.size W w') := fun W hb => by
        refine (get_any W pages _ vs pss (HP.out.below hb) (by omega)).mono ?_
        rintro e w' ⟨u, rfl, hi, hb'⟩
        exact ⟨u, by rw [heg], hi.is, hb'⟩
      have HRG : Hid (∀ W, Below w.heap.size w W → Calls Tryd.prog 13 #[.int .i64 pages, .slice ao3 m cap3] W fun e w' => ∃ u, e = .returned (.tuple #[u, .int .i64 eg]) ∧ Is w' u (getL pages pss) ∧ Below W.heap.size W w') := fun W hb => by
        refine (refGet_any W pages _ vs pss (HP.out.below hb) (by omega)).mono ?_
        rintro e w' ⟨u, rfl, hi, hb'⟩
        exact ⟨u, by rw [heg], hi.is, hb'⟩
      obtain ⟨nn, hnn⟩ : ∃ nn, needN pages = nn := ⟨_, rfl⟩
      have HN1 : Hid (∀ W, Calls Tryd.prog 14 #[.int .i64 pages] W fun e w' => e = .returned (.int .i64 nn) ∧ w' = W) := fun W => by rw [← hnn]; exact need_any W pages
      have HN2 : Hid (∀ W, Calls Tryd.prog 15 #[.int .i64 pages] W fun e w' => e = .returned (.int .i64 nn) ∧ w' = W) := fun W => by rw [← hnn]; exact refNeed_any W pages
      have HEQ : Hid (∀ W x y, Sl W x zs → Sl W y zs → Calls Tryd.prog 16 #[x, y] W fun e w' => e = .returned (.bool true) ∧ w' = W) := fun W x y h1 h2 => by
        have := equal_any W x y zs zs h1 h2
        rw [decide_eq_true rfl] at this
        exact this
      have HEI : Hid (∀ W x y, Is W x (getL pages pss) → Is W y (getL pages pss) → Calls Tryd.prog 17 #[x, y] W fun e w' => e = .returned (.bool true) ∧ Below W.heap.size W w') := fun W x y h1 h2 => by
        refine (sEqual_any W x y _ _ h1 h2).mono ?_
        rintro e w' ⟨rfl, q, rfl⟩
        exact ⟨by simp, belowN W q⟩
      clear hv1 hv3 hN1 hT hm hvl hp1 hp2 heg hnn
      go_enter Tryd.func3, Tryd.ntmps3
      go_wp2_with (first
        | (go_at_call 9; refine (HL.out w (Below.refl _ w)).mono ?_; rintro e w1 ⟨rfl, hb1⟩; have HB1 := hide hb1; clear hb1 HL))
      go_loopg [34] m (fun gg kv wr => ∃ k : Nat, gg + k = m ∧ kv = .int .i64 k ∧ w1 = wr)
      case atStart => exact ⟨0, by omega, rfl, rfl⟩
      case round =>
        obtain ⟨k, hk, rfl, rfl⟩ := hrel
        cases gk with
        | zero =>
          have h3 : ¬ (k : Int) < (m : Int) := by omega
          clear hk
          go_wp2_with (first
            | (go_at_call 10; refine (HPP.out w1 HB1.out).mono ?_; rintro e w2 ⟨x2, rfl, hs2, hb2⟩; have HS2 := hide hs2; have HB2 := hide (below_on HB1.out hb2); clear HPP hs2 hb2)
            | (go_at_call 11; refine (HRP.out w2 HB2.out).mono ?_; rintro e w3 ⟨x3, rfl, hs3, hb3⟩; have HS3 := hide hs3; have HS2' := hide (HS2.out.below hb3); have HB3 := hide (below_on HB2.out hb3); clear HRP HS2 hs3 hb3)
            | (go_at_call 12; refine (HGG.out w3 HB3.out).mono ?_; rintro e w4 ⟨x4, rfl, hi4, hb4⟩; have HI4 := hide hi4; have HS4 := hide (And.intro (HS2'.out.below hb4) (HS3.out.below hb4)); have HB4 := hide (below_on HB3.out hb4); clear HGG HS2' HS3 hi4 hb4)
            | (go_at_call 13; refine (HRG.out w4 HB4.out).mono ?_; rintro e w5 ⟨x5, rfl, hi5, hb5⟩; have HI5 := hide (And.intro (HI4.out.below hb5) hi5); have HS5 := hide (And.intro (HS4.out.1.below hb5) (HS4.out.2.below hb5)); have HB5 := hide (below_on HB4.out hb5); clear HRG HI4 HS4 hi5 hb5)
            | (go_at_call 14; refine (HN1.out w5).mono ?_; rintro e w6 ⟨rfl, hw⟩; subst w6; clear HN1)
            | (go_at_call 15; refine (HN2.out w5).mono ?_; rintro e w6 ⟨rfl, hw⟩; subst w6; clear HN2)
            | (go_at_call 16; refine (HEQ.out w5 _ _ HS5.out.1 HS5.out.2).mono ?_; rintro e w6 ⟨rfl, hw⟩; subst w6; clear HEQ HS5)
            | (go_at_call 17; refine (HEI.out w5 _ _ HI5.out.1 HI5.out.2).mono ?_; rintro e w6 ⟨rfl, hb6⟩; have HB6 := hide (below_on HB5.out hb6); clear HEI HI5 hb6))
          go_ret
          exact ⟨rfl, HB6.out⟩
        | succ gg =>
          have h3 : (k : Int) < (m : Int) := by omega
          have hkl : k < vs.length := by rw [HVL.out]; omega
          obtain ⟨b, off, hao, hcell, hsl⟩ := (HP.out.below HB1.out).at k hkl
          subst hao
          obtain ⟨u, hu⟩ : ∃ u, vs.getD k (.slice none 0 0) = u := ⟨_, rfl⟩
          rw [hu] at hcell hsl
          obtain ⟨aob, capb, hub, _, _⟩ := hsl.shape
          obtain ⟨lb, hlb⟩ : ∃ lb, (pss.getD k []).length = lb := ⟨_, rfl⟩
          rw [hlb] at hub
          subst hub
          clear hlb hu hsl hkl
          by_cases h3k : 3000 < lb
          · have h3ki : (3000 : Int) < (lb : Int) := by omega
            go_wp2
            go_ret
            exact ⟨rfl, HB1.out⟩
          · have h3ki : ¬ (3000 : Int) < (lb : Int) := by omega
            go_wp2
            go_roundg gg
            case measure => omega
            case rel => exact ⟨k + 1, by omega, by go_num, rfl⟩

end Go.Proofs.YtbnhacibkmcmkaaDoor
