/- The walk of ExtentFits. -/
import Derived.Test.YtibgkmbdnelbeaaDoorELive
namespace Go.Proofs.YtibgkmbdnelbeaaDoor
set_option maxRecDepth 20000
open Go.RowKit
set_option linter.unusedVariables false
set_option maxRecDepth 100000

theorem hasI_nat (f : Nat → Bool) (q : Nat) : hasI f (q : Int) = f q := by simp [hasI]
/-- what is behind the first lines of each law: few, or not -/
theorem few_cases (n : Int) (m : Nat) : (∃ N : Nat, n = N ∧ 1 ≤ N ∧ N ≤ 300 ∧ m ≤ 400 ∧ decide (1 ≤ n ∧ n ≤ 300 ∧ m ≤ 400) = true) ∨ decide (1 ≤ n ∧ n ≤ 300 ∧ m ≤ 400) = false := by
  by_cases h : 1 ≤ n ∧ n ≤ 300 ∧ m ≤ 400
  · exact .inl ⟨n.toNat, by omega, by omega, by omega, h.2.2, decide_eq_true h⟩
  · exact .inr (decide_eq_false h)
theorem Is.form {w : World} {v : Value} {ks : List Int} (h : Is w v ks) : ∃ ao cap, v = .slice ao ks.length cap := by obtain ⟨ao, cap, h, _⟩ := h; exact ⟨ao, cap, h⟩

set_option maxHeartbeats 1000000 in
theorem extentFits_walk (w : World) (size : Int) (v : Value) (ks : List Int) (n : Nat) (hsz : (Lit.int .i64 size).wf = true) (hv : Is w v ks) (hn : n < 256) (hT : TabB w) : Calls Tryd.prog 5 #[.int .i64 size, v, .int .u8 n] w fun e w' => e = .returned (.bool true) ∧ Below w.heap.size w w' := by
  have HL := hide (fun (W : World) (hb : Below w.heap.size w W) => live_any W (hT.below hb))
  obtain ⟨ao, cap, rfl⟩ := hv.form
  have HFW := hide (fun W : World => few_any W size ao ks.length cap)
  rcases few_cases size ks.length with ⟨N, rfl, hN1, hN2, hN3, hd⟩ | hd
  · rw [hd] at HFW
    obtain ⟨L, hLL⟩ : ∃ L, ks.length = L := ⟨_, rfl⟩
    have HOF : Hid (∀ W, Below w.heap.size w W → Calls Tryd.prog 18 #[.int .i64 N, .slice ao L cap] W fun e w' => ∃ b, e = .returned (dp b) ∧ SetB w' b N (ofF N ks) ∧ Below W.heap.size W w') := fun W hb => by
      refine (of_ok W N hN1 (by omega) _ ks (by rw [← hLL]; exact hv.below hb)).mono ?_
      rintro e w' ⟨rfl, h1, h2⟩
      exact ⟨_, rfl, h1, h2⟩
    obtain ⟨f, hf⟩ : ∃ f, ofF N ks = f := ⟨_, rfl⟩
    rw [hf] at HOF
    rw [hLL] at HFW ⊢
    obtain ⟨m, hm⟩ : ∃ m, 1 + n % 40 = m := ⟨_, rfl⟩
    have hm1 : 1 ≤ m := by omega
    have hm2 : m ≤ 40 := by omega
    obtain ⟨r, hr⟩ : ∃ r, n % 40 = r := ⟨_, rfl⟩
    have hri : (n : Int) % 40 = (r : Int) := by omega
    have hrt : (n : Int).tmod 40 = (r : Int) := by rw [Int.tmod_eq_emod_of_nonneg (by omega)]; exact hri
    have hmi : 1 + (r : Int) = (m : Int) := by omega
    have HRU : Hid (∀ W b, SetB W b N f → TabB W → Calls Tryd.prog 23 #[dp b, .int .i64 m] W fun e w' => ∃ R, e = .returned (.int .i64 R) ∧ IsRun f N m R ∧ Below W.heap.size W w') := fun W b h hT => by
      refine (run_set W b N f h hT m).mono ?_
      rintro e w' ⟨rfl, h1⟩
      refine ⟨_, rfl, ?_, h1⟩
      rw [runR, if_neg (by omega)]
      exact runsF_run hm1
    have HT := hide hT
    clear hv hT hd hLL hf hm hr hsz
    go_enter Tryd.func5, Tryd.ntmps5
    go_wp2_with (first
      | (go_at_call 10; refine (HL.out w (Below.refl _ w)).mono ?_; rintro e w1 ⟨rfl, hb1⟩; have HB1 := hide hb1; clear HL hb1)
      | (go_at_call 17; refine (HFW.out w1).mono ?_; rintro e w2 ⟨rfl, hw⟩; subst w2; clear HFW)
      | (go_at_call 18; refine (HOF.out w1 HB1.out).mono ?_; rintro e w2 ⟨b, rfl, hs2, hb2⟩; have HS2 := hide hs2; have HB2 := hide (below_on HB1.out hb2); clear HOF hs2 hb2)
      | (go_at_call 23; refine (HRU.out w2 b HS2.out (HT.out.below HB2.out)).mono ?_; rintro e w3 ⟨R, rfl, hR, hb3⟩; have HR := hide hR; have HS3 := hide (HS2.out.below hb3); have HB3 := hide (below_on HB2.out hb3); clear HRU hR hb3))
    clear hri hmi hrt
    go_loopg [10] (N + 1) (fun g pv wr => ∃ p q : Nat, g + p = N + 1 ∧ pv = .int .i64 p ∧ (∀ p', p' < p → ¬ win f N m p') ∧ w3.drewN q = wr)
    case atStart => exact ⟨0, 0, by omega, rfl, fun p' h => by omega, rfl⟩
    case round =>
      obtain ⟨p, q, hgp, rfl, hno, rfl⟩ := hrel
      have HNO := hide hno
      clear hno
      have hNm : ∃ D : Int, (N : Int) - (m : Int) = D ∧ IntKind.i64.wrap D = D ∧ D = N - m := ⟨_, rfl, by rw [IntKind.wrap_i64]; omega, rfl⟩
      obtain ⟨D, hD1, hD2, hD3⟩ := hNm
      by_cases hpl : p + m ≤ N
      · have hpi : (p : Int) ≤ D := by omega
        obtain ⟨g, rfl⟩ : ∃ g, gk = g + 1 := ⟨gk - 1, by omega⟩
        have HD3 := hide hD3
        clear hD3
        go_wp2
        go_loopg [11, 42] m (fun g2 av kv wr => ∃ k q2 : Nat, g2 + k = m ∧ kv = .int .i64 k ∧ av = .bool (decide (∀ i, i < k → f (p + i) = true)) ∧ w3.drewN q2 = wr)
        case atStart => exact ⟨0, q, by omega, rfl, by rw [decide_eq_true (fun i hi => by omega)], rfl⟩
        case round =>
          obtain ⟨k, q2, hgk, rfl, rfl, rfl⟩ := hrel
          cases gk with
          | zero =>
            have hkm : k = m := by omega
            have hkn : ¬ (k : Int) < (m : Int) := by omega
            subst hkm
            by_cases hall : ∀ i, i < k → f (p + i) = true
            · rw [decide_eq_true hall]
              have HE : Hid (R = (p : Int)) := HR.out.uniq (.inr ⟨p, rfl, ⟨hpl, hall⟩, HNO.out⟩)
              clear hall
              go_wp2
              go_ret
              exact ⟨ret_bool (by rw [HE.out]; simp), below_drewN HB3.out _⟩
            · rw [decide_eq_false hall]
              have HW : Hid (¬ win f N k p) := fun hw => hall hw.2
              clear hall
              go_wp2
              go_roundg g
              case measure => omega
              case rel =>
                refine ⟨p + 1, q2, by omega, by go_num, fun p' hp' => ?_, rfl⟩
                by_cases he : p' = p
                · rw [he]; exact HW.out
                · exact HNO.out p' (by omega)
          | succ g2 =>
            have hki : (k : Int) < (m : Int) := by omega
            obtain ⟨t, ht⟩ : ∃ t, p + k = t := ⟨_, rfl⟩
            have hti : (p : Int) + (k : Int) = (t : Int) := by omega
            have HH := has_any (w3.drewN q2) b N f (t : Int) (HS3.out.only (only_drewN (fun _ => False) w3 q2) (fun h => h))
            rw [hasI_nat] at HH
            by_cases hall : ∀ i, i < k → f (p + i) = true
            · have HE : Hid (decide (∀ i, i < k + 1 → f (p + i) = true) = f t) := by
                show _ = _
                cases hft : f t with
                | true =>
                  refine decide_eq_true (fun i hi => ?_)
                  by_cases he : i = k
                  · rw [he, ht]; exact hft
                  · exact hall i (by omega)
                | false =>
                  refine decide_eq_false (fun h => ?_)
                  have := h k (by omega)
                  rw [ht, hft] at this; cases this
              rw [decide_eq_true hall]
              obtain ⟨ft, hft⟩ : ∃ ft, f t = ft := ⟨_, rfl⟩
              rw [hft] at HH HE
              have HH := hide HH
              clear hall hft ht
              go_wp2_with (go_at_call 21; refine HH.out.mono ?_; rintro e w4 ⟨rfl, q4, hw⟩; subst w4; clear HH)
              go_roundg g2
              case measure => omega
              case rel => exact ⟨k + 1, q2 + q4, by omega, by go_num, by rw [HE.out], by simp⟩
            · have HE : Hid (decide (∀ i, i < k + 1 → f (p + i) = true) = false) := decide_eq_false (fun h => hall (fun i hi => h i (by omega)))
              rw [decide_eq_false hall]
              clear hall ht HH
              go_wp2
              go_roundg g2
              case measure => omega
              case rel => exact ⟨k + 1, q2, by omega, by go_num, by rw [HE.out], rfl⟩
      · have hpi : ¬ (p : Int) ≤ D := by omega
        have HE : Hid (R = -1) := HR.out.uniq (.inl ⟨rfl, fun p' hw => by
          by_cases h : p' < p
          · exact HNO.out p' h hw
          · have := hw.1; omega⟩)
        clear hD3
        go_wp2
        go_ret
        exact ⟨ret_bool (by rw [HE.out]; rfl), below_drewN HB3.out _⟩
  · rw [hd] at HFW
    obtain ⟨L, hLL⟩ : ∃ L, ks.length = L := ⟨_, rfl⟩
    rw [hLL] at HFW ⊢
    have HL2 := hide HL.out
    clear hv hT hd hLL hsz
    go_enter Tryd.func5, Tryd.ntmps5
    go_wp2_with (first
      | (go_at_call 10; refine (HL.out w (Below.refl _ w)).mono ?_; rintro e w1 ⟨rfl, hb1⟩; have HB1 := hide hb1; clear HL hb1)
      | (go_at_call 10; refine (HL2.out w1 HB1.out).mono ?_; rintro e w2 ⟨rfl, hb2⟩; have HB2 := hide (below_on HB1.out hb2); clear HL2 hb2)
      | (go_at_call 17; refine (HFW.out w1).mono ?_; rintro e w2 ⟨rfl, hw⟩; subst w2; clear HFW))
    go_ret
    exact ⟨rfl, HB2.out⟩

end Go.Proofs.YtibgkmbdnelbeaaDoor
