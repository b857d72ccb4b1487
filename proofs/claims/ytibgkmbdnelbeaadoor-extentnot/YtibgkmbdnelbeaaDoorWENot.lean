/- The walk of ExtentNot. -/
import Derived.Test.YtibgkmbdnelbeaaDoorWEFits
namespace Go.Proofs.YtibgkmbdnelbeaaDoor
set_option maxRecDepth 20000
open Go.RowKit
set_option linter.unusedVariables false
set_option maxRecDepth 100000

theorem ofF_out (n : Nat) (ks : List Int) (p : Nat) (h : n ≤ p) : ofF n ks p = false := by simp [ofF, show ¬ p < n by omega]
theorem ntF_nt (n : Nat) (f : Nat → Bool) (hf : ∀ p, n ≤ p → f p = false) (p : Nat) : ntF n (ntF n f) p = f p := by
  simp only [ntF]
  by_cases h : p < n
  · rw [decide_eq_true h]; simp
  · rw [decide_eq_false h, hf p (by omega)]; simp
theorem same_false {n : Nat} {f : Nat → Bool} {r : Bool} (hn : 1 ≤ n) (h : r = true ↔ n = n ∧ ∀ p, f p = ntF n f p) : r = false := by
  cases r with
  | false => rfl
  | true =>
    have := (h.1 rfl).2 0
    simp only [ntF] at this
    rw [decide_eq_true (show 0 < n from hn)] at this
    cases hf : f 0 <;> simp [hf] at this
theorem ntF_in {n : Nat} {f : Nat → Bool} {p : Nat} (h : p < n) : ntF n f p = !f p := by simp [ntF, h]

set_option maxHeartbeats 1000000 in
theorem extentNot_walk (w : World) (size : Int) (v : Value) (ks : List Int) (v' : Value) (ms : List Int) (hsz : (Lit.int .i64 size).wf = true) (hv : Is w v ks) (hv' : Is w v' ms) (hT : TabB w) : Calls Tryd.prog 6 #[.int .i64 size, v, v'] w fun e w' => e = .returned (.bool true) ∧ Below w.heap.size w w' := by
  have HL := hide (fun (W : World) (hb : Below w.heap.size w W) => live_any W (hT.below hb))
  have HL2 := hide HL.out
  obtain ⟨ao, cap, rfl⟩ := hv.form
  obtain ⟨ao', cap', rfl⟩ := hv'.form
  have HFW := hide (fun W : World => few_any W size ao ks.length cap)
  rcases few_cases size ks.length with ⟨N, rfl, hN1, hN2, hN3, hd⟩ | hd
  · rw [hd] at HFW
    obtain ⟨L, hLL⟩ : ∃ L, ks.length = L := ⟨_, rfl⟩
    obtain ⟨L', hLL'⟩ : ∃ L', ms.length = L' := ⟨_, rfl⟩
    have HOF : Hid (∀ W, Below w.heap.size w W → Calls Tryd.prog 18 #[.int .i64 N, .slice ao L cap] W fun e w' => ∃ b, e = .returned (dp b) ∧ SetB w' b N (ofF N ks) ∧ Below W.heap.size W w') := fun W hb => by
      refine (of_ok W N hN1 (by omega) _ ks (by rw [← hLL]; exact hv.below hb)).mono ?_
      rintro e w' ⟨rfl, h1, h2⟩
      exact ⟨_, rfl, h1, h2⟩
    have HOG : Hid (∀ W, Below w.heap.size w W → Calls Tryd.prog 18 #[.int .i64 N, .slice ao' L' cap'] W fun e w' => ∃ b, e = .returned (dp b) ∧ SetB w' b N (ofF N ms) ∧ Below W.heap.size W w') := fun W hb => by
      refine (of_ok W N hN1 (by omega) _ ms (by rw [← hLL']; exact hv'.below hb)).mono ?_
      rintro e w' ⟨rfl, h1, h2⟩
      exact ⟨_, rfl, h1, h2⟩
    obtain ⟨f, hf⟩ : ∃ f, ofF N ks = f := ⟨_, rfl⟩
    obtain ⟨g, hg⟩ : ∃ g, ofF N ms = g := ⟨_, rfl⟩
    rw [hf] at HOF
    rw [hg] at HOG
    rw [hLL] at HFW ⊢
    rw [hLL']
    have HFO : Hid (∀ p, N ≤ p → f p = false) := fun p hp => by rw [← hf]; exact ofF_out N ks p hp
    have HGO : Hid (∀ p, N ≤ p → g p = false) := fun p hp => by rw [← hg]; exact ofF_out N ms p hp
    have HNT : Hid (∀ W b h, SetB W b N h → Calls Tryd.prog 24 #[dp b] W fun e w' => ∃ c, e = .returned (dp c) ∧ SetB w' c N (ntF N h) ∧ Below W.heap.size W w') := fun W b h hs => by
      refine (not_any W b N h hs).mono ?_
      rintro e w' ⟨rfl, h1, h2⟩
      exact ⟨_, rfl, h1, h2⟩
    have HNT2 := hide HNT.out
    have hsum := cntF_not f N
    obtain ⟨C1, hC1⟩ : ∃ C, cntF (ntF N f) N = C := ⟨_, rfl⟩
    obtain ⟨C2, hC2⟩ : ∃ C, cntF f N = C := ⟨_, rfl⟩
    have hCs : C1 + C2 = N := by
      have e : cntF (ntF N f) N = cntF (fun p => !f p) N := cntF_ext (fun j hj => ntF_in hj)
      omega
    have HLC : Hid (∀ W c, SetB W c N (ntF N f) → Calls Tryd.prog 22 #[dp c] W fun e w' => e = .returned (.int .i64 C1) ∧ w' = W) := fun W c h => by
      have := len_any W c N _ h
      rw [hC1] at this
      exact this
    have HLB : Hid (∀ W c, SetB W c N f → Calls Tryd.prog 22 #[dp c] W fun e w' => e = .returned (.int .i64 C2) ∧ w' = W) := fun W c h => by
      have := len_any W c N _ h
      rw [hC2] at this
      exact this
    have hCi : (C1 : Int) + (C2 : Int) = (N : Int) := by omega
    have HS1 : Hid (∀ W b c, SetB W b N f → SetB W c N (ntF N f) → Calls Tryd.prog 26 #[dp b, dp c] W fun e w' => e = .returned (.bool false) ∧ Below W.heap.size W w') := fun W b c h k => by
      refine (same_any W b N f c N _ h k).mono ?_
      rintro e w' ⟨r, rfl, hr, hb⟩
      rw [same_false hN1 hr]
      exact ⟨rfl, hb⟩
    have HS2 : Hid (∀ W b c, SetB W b N (ntF N (ntF N f)) → SetB W c N f → Calls Tryd.prog 26 #[dp b, dp c] W fun e w' => e = .returned (.bool true) ∧ Below W.heap.size W w') := fun W b c h k => by
      refine (same_any W b N _ c N _ h k).mono ?_
      rintro e w' ⟨r, rfl, hr, hb⟩
      rw [hr.2 ⟨rfl, ntF_nt N f HFO.out⟩]
      exact ⟨rfl, hb⟩
    have HS3 : Hid (∀ W b c (x : Bool), x = decide (∀ i, i < N → f i = g i) → SetB W b N f → SetB W c N g → Calls Tryd.prog 26 #[dp b, dp c] W fun e w' => e = .returned (.bool x) ∧ Below W.heap.size W w') := fun W b c x hx h k => by
      refine (same_any W b N _ c N _ h k).mono ?_
      rintro e w' ⟨r, rfl, hr, hb⟩
      refine ⟨?_, hb⟩
      rw [hx]
      congr 2
      rw [Bool.eq_iff_iff, hr, decide_eq_true_eq]
      constructor
      · intro h i _; exact h.2 i
      · intro h; refine ⟨rfl, fun p => ?_⟩
        by_cases hp : p < N
        · exact h p hp
        · rw [HFO.out p (by omega), HGO.out p (by omega)]
    have HS4 : Hid (∀ W b c (x : Bool), x = decide (∀ i, i < N → f i = g i) → SetB W b N f → SetB W c N g → Calls Tryd.prog 26 #[dp c, dp b] W fun e w' => e = .returned (.bool x) ∧ Below W.heap.size W w') := fun W b c x hx h k => by
      refine (same_any W c N _ b N _ k h).mono ?_
      rintro e w' ⟨r, rfl, hr, hb⟩
      refine ⟨?_, hb⟩
      rw [hx]
      congr 2
      rw [Bool.eq_iff_iff, hr, decide_eq_true_eq]
      constructor
      · intro h i _; exact (h.2 i).symm
      · intro h; refine ⟨rfl, fun p => ?_⟩
        by_cases hp : p < N
        · exact (h p hp).symm
        · rw [HFO.out p (by omega), HGO.out p (by omega)]
    have HT := hide hT
    have HLN := hide hN3
    clear hv hv' hT hd hLL hf hsz hg hC1 hC2 hCs hsum hN3
    by_cases hL' : L' ≤ 400
    · have hLi : ¬ (400 : Int) < (L' : Int) := by omega
      clear hLL'
      go_enter Tryd.func6, Tryd.ntmps6
      go_wp2_with (first
        | (go_at_call 10; refine (HL.out w (Below.refl _ w)).mono ?_; rintro e w1 ⟨rfl, hb1⟩; have HB1 := hide hb1; clear HL hb1)
        | (go_at_call 17; refine (HFW.out w1).mono ?_; rintro e w2 ⟨rfl, hw⟩; subst w2; clear HFW)
        | (go_at_call 18; refine (HOF.out w1 HB1.out).mono ?_; rintro e w2 ⟨b, rfl, hs2, hb2⟩; have HS2b := hide hs2; have HB2 := hide (below_on HB1.out hb2); clear HOF hs2 hb2)
        | (go_at_call 18; refine (HOG.out w2 HB2.out).mono ?_; rintro e w3 ⟨d, rfl, hs3, hb3⟩; have HS3d := hide hs3; have HS3b := hide (HS2b.out.below hb3); have HB3 := hide (below_on HB2.out hb3); clear HOG hs3 hb3 HS2b)
        | (go_at_call 24; refine (HNT.out w3 b f HS3b.out).mono ?_; rintro e w4 ⟨c, rfl, hs4, hb4⟩; have HS4c := hide hs4; have HS4b := hide (HS3b.out.below hb4); have HS4d := hide (HS3d.out.below hb4); have HB4 := hide (below_on HB3.out hb4); clear HNT hs4 hb4 HS3b HS3d)
        | (go_at_call 25; refine (size_any w4 c N _ HS4c.out).mono ?_; rintro e w5 ⟨rfl, hw⟩; subst w5)
        | (go_at_call 22; refine (HLC.out w4 c HS4c.out).mono ?_; rintro e w5 ⟨rfl, hw⟩; subst w5; clear HLC)
        | (go_at_call 22; refine (HLB.out w4 b HS4b.out).mono ?_; rintro e w5 ⟨rfl, hw⟩; subst w5; clear HLB)
        | (go_at_call 26; refine (HS1.out w4 b c HS4b.out HS4c.out).mono ?_; rintro e w5 ⟨rfl, hb5⟩; have HS5c := hide (HS4c.out.below hb5); have HS5b := hide (HS4b.out.below hb5); have HS5d := hide (HS4d.out.below hb5); have HB5 := hide (below_on HB4.out hb5); clear HS1 hb5)
        | (go_at_call 24; refine (HNT2.out w5 c _ HS5c.out).mono ?_; rintro e w6 ⟨c2, rfl, hs6, hb6⟩; have HS6e := hide hs6; have HS6c := hide (HS5c.out.below hb6); have HS6b := hide (HS5b.out.below hb6); have HS6d := hide (HS5d.out.below hb6); have HB6 := hide (below_on HB5.out hb6); clear HNT2 hs6 hb6)
        | (go_at_call 26; refine (HS2.out w6 c2 b HS6e.out HS6b.out).mono ?_; rintro e w7 ⟨rfl, hb7⟩; have HS7c := hide (HS6c.out.below hb7); have HS7b := hide (HS6b.out.below hb7); have HS7d := hide (HS6d.out.below hb7); have HB7 := hide (below_on HB6.out hb7); clear HS2 hb7))
      clear hCi HS4c HS4b HS4d HS5c HS5b HS5d HS6e HS6c HS6b HS6d HB1 HB2 HB3 HB4 HB5 HB6
      go_loopg [10, 70] N (fun gg ev pv wr => ∃ p q : Nat, gg + p = N ∧ pv = .int .i64 p ∧ ev = .bool (decide (∀ i, i < p → f i = g i)) ∧ w7.drewN q = wr)
      case atStart => exact ⟨0, 0, by omega, rfl, by rw [decide_eq_true (fun i hi => by omega)], rfl⟩
      case round =>
        obtain ⟨p, q, hgp, rfl, rfl, rfl⟩ := hrel
        have sb := fun (q : Nat) => HS7b.out.only (only_drewN (fun _ => False) w7 q) (fun h => h)
        have sc' := fun (q : Nat) => HS7c.out.only (only_drewN (fun _ => False) w7 q) (fun h => h)
        have sd := fun (q : Nat) => HS7d.out.only (only_drewN (fun _ => False) w7 q) (fun h => h)
        have SB := hide sb
        have SC := hide sc'
        have SD := hide sd
        clear sb sc' sd
        cases gk with
        | zero =>
          have hpn : p = N := by omega
          have hpi : ¬ (p : Int) < (N : Int) := by omega
          obtain ⟨x, hx⟩ : ∃ x, decide (∀ i, i < p → f i = g i) = x := ⟨_, rfl⟩
          rw [hx]
          rw [hpn] at hx
          have HXX := hide hx.symm
          clear hx hpn
          go_wp2_with (first
            | (go_at_call 26; refine (HS3.out _ b d x HXX.out (SB.out q) (SD.out q)).mono ?_; rintro e w8 ⟨rfl, hb8⟩; have HS8b := hide ((SB.out q).below hb8); have HS8d := hide ((SD.out q).below hb8); have HB8 := hide (below_on (below_drewN HB7.out q) hb8); clear HS3 hb8)
            | (go_at_call 26; refine (HS4.out w8 b d x HXX.out HS8b.out HS8d.out).mono ?_; rintro e w9 ⟨rfl, hb9⟩; have HB9 := hide (below_on HB8.out hb9); clear HS4 hb9))
          go_ret
          exact ⟨by cases x <;> rfl, HB9.out⟩
        | succ gg =>
          have hpi : (p : Int) < (N : Int) := by omega
          have hpn : p < N := by omega
          have HA := hide (fun q => has_any (w7.drewN q) b N f (p : Int) (SB.out q))
          have HC := hide (fun q => has_any (w7.drewN q) c N _ (p : Int) (SC.out q))
          have HD := hide (fun q => has_any (w7.drewN q) d N g (p : Int) (SD.out q))
          simp only [hasI_nat, ntF_in hpn] at HA HC HD
          have HA2 := hide HA.out
          obtain ⟨fp, hfp⟩ : ∃ fp, f p = fp := ⟨_, rfl⟩
          obtain ⟨gp, hgp'⟩ : ∃ gp, g p = gp := ⟨_, rfl⟩
          simp only [hfp] at HA HC HA2
          simp only [hgp'] at HD
          have hne : ∀ x : Bool, (x == !x) = false := fun x => by cases x <;> rfl
          have hne1 := hne fp
          clear hne SB SC SD
          by_cases hall : ∀ i, i < p → f i = g i
          · have HE : Hid (decide (∀ i, i < p + 1 → f i = g i) = (fp == gp)) := by
              show _ = _
              by_cases h : fp = gp
              · rw [decide_eq_true (fun i hi => by
                  by_cases he : i = p
                  · rw [he, hfp, hgp', h]
                  · exact hall i (by omega))]
                simp [h]
              · rw [decide_eq_false (fun h2 => h (by rw [← hfp, ← hgp']; exact h2 p (by omega)))]
                simp [h]
            rw [decide_eq_true hall]
            clear hall hfp hgp'
            go_wp2_with (first
              | (go_at_call 21; refine (HA.out q).mono ?_; rintro e w8 ⟨rfl, q1, hw⟩; rw [World.drewN_drewN] at hw; subst w8; clear HA)
              | (go_at_call 21; refine (HC.out (q + q1)).mono ?_; rintro e w8 ⟨rfl, q2, hw⟩; rw [World.drewN_drewN] at hw; subst w8; clear HC)
              | (go_at_call 21; refine (HA2.out (q + q1 + q2)).mono ?_; rintro e w8 ⟨rfl, q3, hw⟩; rw [World.drewN_drewN] at hw; subst w8; clear HA2)
              | (go_at_call 21; refine (HD.out (q + q1 + q2 + q3)).mono ?_; rintro e w8 ⟨rfl, q4, hw⟩; rw [World.drewN_drewN] at hw; subst w8; clear HD))
            go_roundg gg
            case measure => omega
            case rel => exact ⟨p + 1, _, by omega, by go_num, by rw [HE.out], rfl⟩
          · have HE : Hid (decide (∀ i, i < p + 1 → f i = g i) = false) := decide_eq_false (fun h => hall (fun i hi => h i (by omega)))
            rw [decide_eq_false hall]
            clear hall hfp hgp'
            go_wp2_with (first
              | (go_at_call 21; refine (HA.out q).mono ?_; rintro e w8 ⟨rfl, q1, hw⟩; rw [World.drewN_drewN] at hw; subst w8; clear HA)
              | (go_at_call 21; refine (HC.out (q + q1)).mono ?_; rintro e w8 ⟨rfl, q2, hw⟩; rw [World.drewN_drewN] at hw; subst w8; clear HC))
            go_roundg gg
            case measure => omega
            case rel => exact ⟨p + 1, _, by omega, by go_num, by rw [HE.out], rfl⟩
    · have hLi : (400 : Int) < (L' : Int) := by omega
      clear hLL'
      go_enter Tryd.func6, Tryd.ntmps6
      go_wp2_with (first
        | (go_at_call 10; refine (HL.out w (Below.refl _ w)).mono ?_; rintro e w1 ⟨rfl, hb1⟩; have HB1 := hide hb1; clear HL hb1)
        | (go_at_call 10; refine (HL2.out w1 HB1.out).mono ?_; rintro e w2 ⟨rfl, hb2⟩; have HB2 := hide (below_on HB1.out hb2); clear HL2 hb2)
        | (go_at_call 17; refine (HFW.out w1).mono ?_; rintro e w2 ⟨rfl, hw⟩; subst w2; clear HFW))
      go_ret
      exact ⟨rfl, HB2.out⟩
  · rw [hd] at HFW
    obtain ⟨L, hLL⟩ : ∃ L, ks.length = L := ⟨_, rfl⟩
    obtain ⟨L', hLL'⟩ : ∃ L', ms.length = L' := ⟨_, rfl⟩
    rw [hLL] at HFW ⊢
    rw [hLL']
    clear hv hv' hT hd hLL hLL' hsz
    go_enter Tryd.func6, Tryd.ntmps6
    go_wp2_with (first
      | (go_at_call 10; refine (HL.out w (Below.refl _ w)).mono ?_; rintro e w1 ⟨rfl, hb1⟩; have HB1 := hide hb1; clear HL hb1)
      | (go_at_call 10; refine (HL2.out w1 HB1.out).mono ?_; rintro e w2 ⟨rfl, hb2⟩; have HB2 := hide (below_on HB1.out hb2); clear HL2 hb2)
      | (go_at_call 17; refine (HFW.out w1).mono ?_; rintro e w2 ⟨rfl, hw⟩; subst w2; clear HFW))
    go_ret
    exact ⟨rfl, HB2.out⟩

end Go.Proofs.YtibgkmbdnelbeaaDoor
