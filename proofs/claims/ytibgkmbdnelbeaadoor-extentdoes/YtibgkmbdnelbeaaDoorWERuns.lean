/- The walk of ExtentRuns. -/
import Derived.Test.YtibgkmbdnelbeaaDoorWEFits
namespace Go.Proofs.YtibgkmbdnelbeaaDoor
set_option maxRecDepth 20000
open Go.RowKit
set_option linter.unusedVariables false
set_option maxRecDepth 100000

theorem r1_get (L : List (Nat × Nat)) (i : Nat) (hi : i < L.length) : (r1 L).getD i 0 = (L[i].1 : Int) := by
  rw [getD_lt _ (by rw [r1_length]; exact hi)]; simp [r1]
theorem r2_get (L : List (Nat × Nat)) (i : Nat) (hi : i < L.length) : (r2 L).getD i 0 = (L[i].2 : Int) := by
  rw [getD_lt _ (by rw [r2_length]; exact hi)]; simp [r2]
/-- how many pages the first i runs have -/
def sumTo (L : List (Nat × Nat)) (i : Nat) : Nat := ((L.take i).map (·.2)).sum
theorem sumTo_snoc (L : List (Nat × Nat)) (i : Nat) (hi : i < L.length) : sumTo L (i + 1) = sumTo L i + L[i].2 := by
  rw [sumTo, take_snoc L i hi, List.map_append, List.sum_append]; simp [sumTo]
theorem sumTo_le (L : List (Nat × Nat)) (i : Nat) : sumTo L i ≤ (L.map (·.2)).sum := by
  have : (L.map (·.2)).sum = sumTo L i + ((L.drop i).map (·.2)).sum := by
    conv => lhs; rw [← List.take_append_drop i L, List.map_append, List.sum_append]
    rfl
  omega

set_option maxHeartbeats 1000000 in
theorem extentRuns_walk (w : World) (size : Int) (v : Value) (ks : List Int) (hsz : (Lit.int .i64 size).wf = true) (hv : Is w v ks) (hT : TabB w) : Calls Tryd.prog 4 #[.int .i64 size, v] w fun e w' => e = .returned (.bool true) ∧ Below w.heap.size w w' := by
  have HL := hide (fun (W : World) (hb : Below w.heap.size w W) => live_any W (hT.below hb))
  have HL2 := hide HL.out
  obtain ⟨ao, cap, rfl⟩ := hv.form
  have HFW := hide (fun W : World => few_any W size ao ks.length cap)
  rcases few_cases size ks.length with ⟨N, rfl, hN1, hN2, hN3, hd⟩ | hd
  · rw [hd] at HFW
    obtain ⟨LL, hLL⟩ : ∃ L, ks.length = L := ⟨_, rfl⟩
    have HOF : Hid (∀ W, Below w.heap.size w W → Calls Tryd.prog 18 #[.int .i64 N, .slice ao LL cap] W fun e w' => ∃ b, e = .returned (dp b) ∧ SetB w' b N (ofF N ks) ∧ Below W.heap.size W w') := fun W hb => by
      refine (of_ok W N hN1 (by omega) _ ks (by rw [← hLL]; exact hv.below hb)).mono ?_
      rintro e w' ⟨rfl, h1, h2⟩
      exact ⟨_, rfl, h1, h2⟩
    obtain ⟨f, hf⟩ : ∃ f, ofF N ks = f := ⟨_, rfl⟩
    rw [hf] at HOF
    rw [hLL] at HFW ⊢
    obtain ⟨L, hL⟩ : ∃ L, runsF f N = L := ⟨_, rfl⟩
    have hLl : L.length ≤ N := by rw [← hL]; exact runsF_len f N
    have HMEM : Hid (∀ i (hi : i < L.length), 1 ≤ L[i].2 ∧ L[i].1 + L[i].2 ≤ N ∧ ∀ k, k < L[i].2 → f (L[i].1 + k) = true) := fun i hi => by
      have := rl_mem (f := f) (n := N) (N + 1) 0 L[i] (by have : rl f N (N + 1) 0 = L := hL; rw [this]; exact List.getElem_mem hi)
      exact this.2
    have HORD : Hid (∀ i (hi : i + 1 < L.length), L[i].1 + L[i].2 < L[i + 1].1) := fun i hi => by
      have e : rl f N (N + 1) 0 = L := hL
      refine rl_order (f := f) (n := N) (N + 1) 0 i L[i] L[i + 1] ?_ ?_
      · rw [e, List.getElem?_eq_getElem (by omega)]
      · rw [e, List.getElem?_eq_getElem hi]
    have HSUM : Hid ((L.map (·.2)).sum = cntF f N) := by show _ = _; rw [← hL]; exact runsF_sum f N
    have HRF := hide (fun (W : World) (b : Nat) => runs_of W (some ⟨b, 0, none⟩))
    have HRS : Hid (∀ W b, SetB W b N f → TabB W → Calls Tryd.prog 19 #[.func (.func 40) #[] #[.pointer (some ⟨W.heap.size, 0, none⟩)], .int .i64 1048576] (W.alloc (.cells #[dp b] 23)) fun e w' => ∃ a c a' c', e = .returned (.tuple #[.slice a L.length c, .slice a' L.length c']) ∧ Is w' (.slice a L.length c) (r1 L) ∧ Is w' (.slice a' L.length c') (r2 L) ∧ Below W.heap.size W w') := fun W b h hT => by
      refine (runs_set W b N f h hT 1048576 (by decide)).mono ?_
      rintro e w' ⟨v, u, rfl, h1, h2, h3⟩
      rw [hL, List.take_of_length_le (by omega)] at h1 h2
      obtain ⟨a, c, rfl⟩ := h1.shape
      obtain ⟨a', c', rfl⟩ := h2.shape
      have i1 := is_of_own h1
      have i2 := is_of_own h2
      rw [r1_length] at i1
      rw [r2_length] at i2
      exact ⟨a, c, a', c', by rw [r1_length, r2_length], i1, i2, h3⟩
    have hcl := cntF_le f N
    have HLE := hide (fun (W : World) (b : Nat) (h : SetB W b N f) => len_any W b N f h)
    obtain ⟨C, hC⟩ : ∃ C, cntF f N = C := ⟨_, rfl⟩
    rw [hC] at HLE HSUM hcl
    have HT := hide hT
    obtain ⟨M, hM⟩ : ∃ M, L.length = M := ⟨_, rfl⟩
    rw [hM] at HRS hLl
    have HM := hide hM
    clear hv hT hd hLL hf hsz hL hC hM
    go_enter Tryd.func4, Tryd.ntmps4
    go_wp2_with (first
      | (go_at_call 10; refine (HL.out w (Below.refl _ w)).mono ?_; rintro e w1 ⟨rfl, hb1⟩; have HB1 := hide hb1; clear HL hb1)
      | (go_at_call 17; refine (HFW.out w1).mono ?_; rintro e w2 ⟨rfl, hw⟩; subst w2; clear HFW)
      | (go_at_call 18; refine (HOF.out w1 HB1.out).mono ?_; rintro e w2 ⟨b, rfl, hs2, hb2⟩; have HS2 := hide hs2; have HB2 := hide (below_on HB1.out hb2); clear HOF hs2 hb2)
      | (go_at_call 20; refine (HRF.out w2 b).mono ?_; rintro e w3 ⟨rfl, hw⟩; subst w3; clear HRF)
      | (go_at_call 19; refine (HRS.out w2 b HS2.out (HT.out.below HB2.out)).mono ?_; rintro e w3 ⟨a, c, a', c', rfl, hi3, hj3, hb3⟩; have HI3 := hide hi3; have HJ3 := hide hj3; have HS3 := hide (HS2.out.below hb3); have HB3 := hide (below_on HB2.out hb3); clear HRS hi3 hj3 hb3))
    have hc1 := HI3.out.cap.2.1
    have hc2 := HI3.out.cap.2.2
    have hc1' := HJ3.out.cap.2.1
    have hc2' := HJ3.out.cap.2.2
    rw [r1_length, HM.out] at hc1
    rw [r2_length, HM.out] at hc1'
    unfold maxLen at hc2 hc2'
    go_loopg [8, 34] M (fun g av iv wr => ∃ i q : Nat, g + i = M ∧ iv = .int .i64 i ∧ av = .int .i64 (sumTo L i : Nat) ∧ w3.drewN q = wr)
    case atStart => exact ⟨0, 0, by omega, rfl, rfl, rfl⟩
    case round =>
      obtain ⟨i, q, hgi, rfl, rfl, rfl⟩ := hrel
      have SB := hide (fun (q : Nat) => HS3.out.only (only_drewN (fun _ => False) w3 q) (fun h => h))
      cases gk with
      | zero =>
        have hin : i = M := by omega
        have hii : ¬ (i : Int) < (M : Int) := by omega
        have HE : Hid (sumTo L i = C) := by show _ = _; rw [hin, ← HM.out, sumTo, List.take_of_length_le (Nat.le_refl _)]; exact HSUM.out
        obtain ⟨S, hS⟩ : ∃ S, sumTo L i = S := ⟨_, rfl⟩
        rw [hS] at HE ⊢
        clear hS hin
        go_wp2_with (first
          | (go_at_call 22; refine (HLE.out _ b (SB.out q)).mono ?_; rintro e w4 ⟨rfl, hw⟩; subst w4; clear HLE))
        go_ret
        exact ⟨ret_bool (by rw [HE.out]; simp), below_drewN HB3.out _⟩
      | succ g =>
        have hii : (i : Int) < (M : Int) := by omega
        have hil : i < L.length := by rw [HM.out]; omega
        obtain ⟨m1, m2, m3⟩ := HMEM.out i hil
        have hb4 : Below w3.heap.size w3 (w3.drewN q) := below_drewN (Below.refl _ w3) q
        obtain ⟨ba, oa, hao, ca⟩ := Is.at HI3.out i (by rw [r1_length]; exact hil)
        obtain ⟨bb, ob, hbo, cb⟩ := Is.at HJ3.out i (by rw [r2_length]; exact hil)
        rw [r1_get L i hil] at ca
        rw [r2_get L i hil] at cb
        have HPREV : Hid (∀ i0, i = i0 + 1 → w3.cell? ⟨ba, oa + i0, none⟩ = some (.int .i64 (L.getD i0 (0, 0)).1) ∧ w3.cell? ⟨bb, ob + i0, none⟩ = some (.int .i64 (L.getD i0 (0, 0)).2) ∧ (L.getD i0 (0, 0)).1 + (L.getD i0 (0, 0)).2 < L[i].1) := fun i0 he => by
          subst he
          obtain ⟨ba', oa', hao', ca'⟩ := Is.at HI3.out i0 (by rw [r1_length]; omega)
          obtain ⟨bb', ob', hbo', cb'⟩ := Is.at HJ3.out i0 (by rw [r2_length]; omega)
          rw [hao] at hao'
          rw [hbo] at hbo'
          cases hao'
          cases hbo'
          rw [r1_get L i0 (by omega)] at ca'
          rw [r2_get L i0 (by omega)] at cb'
          have e : L.getD i0 (0, 0) = L[i0] := by simp [List.getD, show i0 < L.length by omega]
          rw [e]
          exact ⟨ca', cb', HORD.out i0 hil⟩
        have HSN := hide (sumTo_snoc L i hil)
        have hsl := sumTo_le L (i + 1)
        rw [HSUM.out, HSN.out] at hsl
        have HM3 := hide m3
        obtain ⟨P, hP⟩ : ∃ P, L[i].1 = P := ⟨_, rfl⟩
        obtain ⟨Q, hQ⟩ : ∃ Q, L[i].2 = Q := ⟨_, rfl⟩
        rw [hP, hQ] at HM3 m2
        rw [hP] at ca HPREV
        rw [hQ] at cb HSN hsl m1
        obtain ⟨S, hS⟩ : ∃ S, sumTo L i = S := ⟨_, rfl⟩
        rw [hS] at HSN hsl ⊢
        subst hao
        subst hbo
        have hd1 : decide ((Q : Int) < 1) = false := decide_eq_false (by omega)
        have hd2 : decide ((P : Int) < 0) = false := decide_eq_false (by omega)
        obtain ⟨D, hD, hDw, hD3⟩ : ∃ D : Int, (N : Int) - (Q : Int) = D ∧ IntKind.i64.wrap D = D ∧ decide (D < (P : Int)) = false := ⟨_, rfl, by rw [IntKind.wrap_i64]; omega, decide_eq_false (by omega)⟩
        clear m3 hP hQ hS hb4 hil
        have HFIN : Hid (∀ k, k < Q → f (P + k) = true) := HM3.out
        by_cases hi0 : i = 0
        · subst hi0
          simp only [Nat.add_zero] at ca cb
          rw [show ((0 : Nat) : Int) = (0 : Int) from rfl] at hii ⊢
          have hM0 : decide (0 < M) = true := decide_eq_true (by omega)
          have hM1 : decide ((0 : Int) < (M : Int)) = true := decide_eq_true (by omega)
          have hM2 : 0 < M := by omega
          go_wp2
          go_quiet (fail)
          go_wp2
          go_loopg [81] Q (fun g2 kv wr => ∃ k q2 : Nat, g2 + k = Q ∧ kv = .int .i64 k ∧ w3.drewN q2 = wr)
          case atStart => exact ⟨0, _, by omega, rfl, rfl⟩
          case round =>
            obtain ⟨k, q2, hgk, rfl, rfl⟩ := hrel
            cases gk with
            | zero =>
              have hkm : k = Q := by omega
              have hkn : ¬ (k : Int) < (Q : Int) := by omega
              clear hkm
              go_wp2
              go_roundg g
              case measure => omega
              case rel => exact ⟨_, q2, (show g + (0 + 1) = M by omega), by go_num, by rw [HSN.out]; go_num, rfl⟩
            | succ g2 =>
              have hki : (k : Int) < (Q : Int) := by omega
              have hkQ : k < Q := by omega
              obtain ⟨t, ht⟩ : ∃ t, P + k = t := ⟨_, rfl⟩
              have hti : (P : Int) + (k : Int) = (t : Int) := by omega
              have HH := has_any (w3.drewN q2) b N f (t : Int) (SB.out q2)
              rw [hasI_nat, ← ht, HFIN.out k hkQ, ht] at HH
              have HH := hide HH
              clear ht hkQ
              go_wp2_with (go_at_call 21; refine HH.out.mono ?_; rintro e w4 ⟨rfl, q4, hw⟩; subst w4; clear HH)
              go_roundg g2
              case measure => omega
              case rel => exact ⟨k + 1, q2 + q4, by omega, by go_num, by simp⟩
        · obtain ⟨i0, hi1⟩ : ∃ i0, i = i0 + 1 := ⟨i - 1, by omega⟩
          obtain ⟨k1, k2, k3⟩ := HPREV.out i0 hi1
          obtain ⟨P0, hP0⟩ : ∃ P0, (L.getD i0 (0, 0)).1 = P0 := ⟨_, rfl⟩
          obtain ⟨Q0, hQ0⟩ : ∃ Q0, (L.getD i0 (0, 0)).2 = Q0 := ⟨_, rfl⟩
          rw [hP0] at k1 k3
          rw [hQ0] at k2 k3
          have hi0' : decide ((0 : Int) < (i : Int)) = true := decide_eq_true (by omega)
          have hi0'' : decide (0 < i) = true := decide_eq_true (by omega)
          have hsub : (i : Int) - 1 = (i0 : Int) := by omega
          have hi0m : (i0 : Int) < (M : Int) := by omega
          obtain ⟨E, hE, hE3, hE4⟩ : ∃ E : Nat, (P0 : Int) + (Q0 : Int) = (E : Int) ∧ decide ((P : Int) ≤ (E : Int)) = false ∧ decide (P ≤ E) = false := ⟨P0 + Q0, by omega, decide_eq_false (by omega), decide_eq_false (by omega)⟩
          have hEw := wrap_i64_in E (by have := of_decide_eq_false hE4; omega)
          clear hi0 hP0 hQ0 hi1 k3
          go_wp2
          go_quiet (fail)
          go_wp2
          go_loopg [81] Q (fun g2 kv wr => ∃ k q2 : Nat, g2 + k = Q ∧ kv = .int .i64 k ∧ w3.drewN q2 = wr)
          case atStart => exact ⟨0, _, by omega, rfl, rfl⟩
          case round =>
            obtain ⟨k, q2, hgk, rfl, rfl⟩ := hrel
            cases gk with
            | zero =>
              have hkm : k = Q := by omega
              have hkn : ¬ (k : Int) < (Q : Int) := by omega
              clear hkm
              go_wp2
              go_roundg g
              case measure => omega
              case rel => exact ⟨_, q2, (show g + (i + 1) = M by omega), by go_num, by rw [HSN.out]; go_num, rfl⟩
            | succ g2 =>
              have hki : (k : Int) < (Q : Int) := by omega
              have hkQ : k < Q := by omega
              obtain ⟨t, ht⟩ : ∃ t, P + k = t := ⟨_, rfl⟩
              have hti : (P : Int) + (k : Int) = (t : Int) := by omega
              have HH := has_any (w3.drewN q2) b N f (t : Int) (SB.out q2)
              rw [hasI_nat, ← ht, HFIN.out k hkQ, ht] at HH
              have HH := hide HH
              clear ht hkQ
              go_wp2_with (go_at_call 21; refine HH.out.mono ?_; rintro e w4 ⟨rfl, q4, hw⟩; subst w4; clear HH)
              go_roundg g2
              case measure => omega
              case rel => exact ⟨k + 1, q2 + q4, by omega, by go_num, by simp⟩
  · rw [hd] at HFW
    obtain ⟨L, hLL⟩ : ∃ L, ks.length = L := ⟨_, rfl⟩
    rw [hLL] at HFW ⊢
    clear hv hT hd hLL hsz
    go_enter Tryd.func4, Tryd.ntmps4
    go_wp2_with (first
      | (go_at_call 10; refine (HL.out w (Below.refl _ w)).mono ?_; rintro e w1 ⟨rfl, hb1⟩; have HB1 := hide hb1; clear HL hb1)
      | (go_at_call 10; refine (HL2.out w1 HB1.out).mono ?_; rintro e w2 ⟨rfl, hb2⟩; have HB2 := hide (below_on HB1.out hb2); clear HL2 hb2)
      | (go_at_call 17; refine (HFW.out w1).mono ?_; rintro e w2 ⟨rfl, hw⟩; subst w2; clear HFW))
    go_ret
    exact ⟨rfl, HB2.out⟩

end Go.Proofs.YtibgkmbdnelbeaaDoor
