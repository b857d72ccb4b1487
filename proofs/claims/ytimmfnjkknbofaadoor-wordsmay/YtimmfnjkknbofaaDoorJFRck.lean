/- Contract: what tables may be, by the document (incipitref13.Check). -/
import Derived.Test.YtimmfnjkknbofaaDoorJFTwo
namespace Go.Proofs.YtimmfnjkknbofaaDoor
set_option maxRecDepth 20000
open Go.RowKit
set_option linter.unusedVariables false
set_option linter.unusedSimpArgs false
set_option maxRecDepth 100000

theorem tblE_bad {xs : List Fd} (h : okR (-1) xs = false) : tblE xs = 130 := if_neg (by rw [tblB_eq, h]; simp)
theorem tblE_two {xs : List Fd} (h : twiceB xs = true) : tblE xs = 130 := if_neg (by rw [tblB_eq, h]; simp)
theorem tblE_long {xs : List Fd} (h : 8 < xs.length) : tblE xs = 130 := if_neg (by rw [tblB_eq, decide_eq_false (show ¬ xs.length ≤ 8 by omega)]; simp)
theorem okR_no {z : Int} {x : Fd} {xs : List Fd} (h : noB x = true) : okR z (x :: xs) = false := by unfold okR; rw [h]; rfl
theorem okR_lt {z : Int} {x : Fd} {xs : List Fd} (h : x.1 ≤ z) : okR z (x :: xs) = false := by unfold okR; rw [decide_eq_true h]; simp
theorem okR_on {z : Int} {x : Fd} {xs : List Fd} (h : noB x = false) (h2 : ¬ x.1 ≤ z) : okR z (x :: xs) = okR (x.1 + x.2.2 - 1) xs := by
  conv => lhs; unfold okR
  rw [h, decide_eq_false h2]
  rfl
theorem noB_bad {x : Fd} (h : ¬ (NOk x.2.2 ∧ ∀ k : Nat, (k : Int) < x.2.2 → letB (x.1 + k) = true ∧ letB (x.2.1 + k) = true)) : noB x = true := by
  cases hb : noB x with
  | true => rfl
  | false => exact absurd ((noB_iff x).1 hb) h
/-- a range that the first questions take -/
theorem noB_ends {x : Fd} (h : noB x = false) : (1 ≤ x.2.2 ∧ x.2.2 ≤ 256) ∧ (0 ≤ x.1 ∧ x.1 ≤ 1279) ∧ (0 ≤ x.2.1 ∧ x.2.1 ≤ 1279) := by
  obtain ⟨⟨h1, h2⟩, h3⟩ := (noB_iff x).1 h
  obtain ⟨a, b⟩ := h3 0 (by omega)
  have := letB_range a
  have := letB_range b
  omega

set_option maxHeartbeats 4000000 in
theorem refCheck_any (w : World) (v : Value) (xs : List Fd) (hT : Tbl w v xs) :
    Calls Tryd.prog 38 #[v] w fun e w' => e = .returned (.int .i64 (tblE xs)) ∧ Below w.heap.size w w' := by
  obtain ⟨ao, cap, rfl⟩ := hT.len
  have hmx := hT.max
  have HT := hide hT
  have HLG := hide (@tblE_long xs)
  obtain ⟨n, hn⟩ : ∃ n, xs.length = n := ⟨_, rfl⟩
  have HL := hide hn
  rw [hn] at HT hmx HLG ⊢
  clear hT
  by_cases h8 : 8 < n
  · have h8i : (8 : Int) < (n : Int) := by omega
    have HR := hide (HLG.out h8)
    clear hn
    go_enter Tryd.func38, Tryd.ntmps38
    go_wp2
    go_ret
    exact ⟨ret_int HR.out.symm, Below.refl _ w⟩
  have h8i : ¬ (8 : Int) < (n : Int) := by omega
  have HE : Hid (tblE xs = if okR (-1) xs = true ∧ twiceB xs = false then 0 else 130) := by
    show _ = _
    unfold tblE
    rw [tblB_eq, decide_eq_true (show xs.length ≤ 8 by omega)]
    cases okR (-1) xs <;> cases twiceB xs <;> rfl
  have HBAD := hide (@tblE_bad xs)
  have HTWO := hide (@tblE_two xs)
  generalize tblE xs = E at *
  clear hn HLG
  go_enter Tryd.func38, Tryd.ntmps38
  go_wp2
  go_loopg [3, 4] n (fun k l i wr => ∃ (j : Nat) (z : Int), k + j = n ∧ i = .int .i64 (j : Int) ∧ l = .int .i64 z ∧ okR z (xs.drop j) = okR (-1) xs ∧ (∀ x ∈ xs.take j, noB x = false) ∧ Below w.heap.size w wr)
  case atStart => exact ⟨0, -1, rfl, rfl, rfl, rfl, (fun x hx => by simp at hx), Below.refl _ w⟩
  case round =>
    obtain ⟨j, z, hk, rfl, rfl, hs, hall, hbw⟩ := hrel
    have HS := hide hs
    have HA := hide hall
    have HB := hide hbw
    clear hs hall hbw
    cases gk with
    | zero =>
      obtain rfl : j = n := by omega
      have hlt : ¬ (j : Int) < (j : Int) := by omega
      have HOK : Hid (okR (-1) xs = true) := by rw [← HS.out, List.drop_eq_nil_of_le (by rw [HL.out]; exact Nat.le_refl _)]; rfl
      have HAL : Hid (∀ x ∈ xs, noB x = false) := by
        have := HA.out
        rwa [List.take_of_length_le (by rw [HL.out]; exact Nat.le_refl _)] at this
      go_wp2
      go_loopg [6] j (fun k i wr2 => ∃ q : Nat, k + q = j ∧ i = .int .i64 (q : Int) ∧ (∀ x ∈ xs.take q, twoB x xs = false) ∧ Below w.heap.size w wr2)
      case atStart => exact ⟨0, by omega, rfl, (fun x hx => by simp at hx), HB.out⟩
      case round =>
        clear HB
        obtain ⟨q, hk2, rfl, hno, hbw2⟩ := hrel
        have HNO := hide hno
        have HB := hide hbw2
        clear hno hbw2
        cases gk with
        | zero =>
          obtain rfl : q = j := by omega
          have hlt2 : ¬ (q : Int) < (q : Int) := by omega
          have HR : Hid (E = 0) := by
            have hno2 := HNO.out
            rw [List.take_of_length_le (by rw [HL.out]; exact Nat.le_refl _)] at hno2
            have htw : twiceB xs = false := by
              unfold twiceB
              rw [List.any_eq_false]
              intro x hx
              rw [hno2 x hx]; simp
            rw [HE.out, if_pos ⟨HOK.out, htw⟩]
            rfl
          go_wp2
          go_ret
          exact ⟨ret_int HR.out.symm, HB.out⟩
        | succ GP =>
          have hqi : (q : Int) < (j : Int) := by omega
          have HK2 := hide hk2
          clear hk2
          obtain ⟨b, off, ⟨f, t, m⟩, rfl, hx, hok, q0, q1, q2⟩ := (HT.out.below HB.out).at q (by rw [HL.out]; omega)
          have hnx := HAL.out _ (List.mem_of_getElem? hx)
          obtain ⟨⟨m1, m2⟩, ⟨f1, f2⟩, ⟨t1, t2⟩⟩ := noB_ends hnx
          simp only at q0 q1 q2 m1 m2 f1 f2 t1 t2
          obtain ⟨N, rfl⟩ : ∃ N : Nat, m = (N : Int) := ⟨m.toNat, by omega⟩
          have HX := hide hx
          have HTI := hide (twoB_iff (f, t, (N : Int)) xs m1 (fun y hy => (noB_ends (HAL.out y hy)).1.1))
          clear hx hok hnx q0 q1 q2
          go_wp2
          go_loopg [7] N (fun k i wr3 => ∃ p : Nat, k + p = N ∧ i = .int .i64 (p : Int) ∧ (∀ a : Nat, a < p → ¬ 0 ≤ atL xs (t + a) 0) ∧ Below w.heap.size w wr3)
          case atStart => exact ⟨0, by omega, rfl, (fun a ha => by omega), HB.out⟩
          case round =>
            clear HB
            obtain ⟨p, hk3, rfl, hnp, hbw3⟩ := hrel
            have HNP := hide hnp
            have HB := hide hbw3
            clear hnp hbw3
            obtain ⟨b', off', x', he, hx', _, q0, q1, q2⟩ := (HT.out.below HB.out).at q (by rw [HL.out]; omega)
            simp only [Option.some.injEq, Addr.mk.injEq] at he
            obtain ⟨rfl, rfl, _⟩ := he
            obtain rfl : x' = (f, t, (N : Int)) := Option.some.inj (hx'.symm.trans HX.out)
            simp only at q0 q1 q2
            clear hx'
            cases gk with
            | zero =>
              obtain rfl : p = N := by omega
              have hlt3 : ¬ (p : Int) < (p : Int) := by omega
              have HNO2 : Hid (∀ x ∈ xs.take (q + 1), twoB x xs = false) := by
                obtain ⟨hi, e⟩ := List.getElem?_eq_some_iff.1 HX.out
                intro x hx
                rw [List.take_succ_eq_append_getElem hi, e] at hx
                rcases List.mem_append.1 hx with hx | hx
                · exact HNO.out x hx
                · obtain rfl : x = (f, t, (p : Int)) := by simpa using hx
                  cases hb : twoB (f, t, (p : Int)) xs with
                  | false => rfl
                  | true =>
                    obtain ⟨a, ha, h0⟩ := HTI.out.1 hb
                    exact absurd h0 (HNP.out a (by omega))
              go_wp2
              go_roundg GP
              case measure => omega
              case rel => exact ⟨q + 1, by have := HK2.out; omega, by go_num, HNO2.out, HB.out⟩
            | succ kk =>
              have hpi : (p : Int) < (N : Int) := by omega
              have hpw : IntKind.i32.wrap (p : Int) = (p : Int) := IntWalk.i32_in _ ⟨by omega, by omega⟩
              obtain ⟨T1, hT1⟩ : ∃ T1, t + (p : Int) = T1 := ⟨_, rfl⟩
              have hT1w : IntKind.i32.wrap T1 = T1 := IntWalk.i32_in _ ⟨by omega, by omega⟩
              have HFO : Hid (∀ W, Below w.heap.size w W → Calls Tryd.prog 64 #[.slice (some ⟨b, off, none⟩) j cap, .int .i32 T1] W fun e w' => e = .returned (.int .i64 (atL xs T1 0)) ∧ Below W.heap.size W w') := fun W h => refFolds_any W _ xs T1 (HT.out.below h) ⟨by omega, by omega⟩
              have HT1 := hide hT1
              obtain ⟨A, hA⟩ : ∃ A, atL xs T1 0 = A := ⟨_, rfl⟩
              rw [hA] at HFO
              have HAA := hide hA
              clear hA
              by_cases h0 : 0 ≤ A
              · have HR : Hid (E = 130) := HTWO.out (by
                  unfold twiceB
                  rw [List.any_eq_true]
                  exact ⟨_, List.mem_of_getElem? HX.out, HTI.out.2 ⟨p, hpi, by show 0 ≤ atL xs (t + (p : Int)) 0; rw [HT1.out, HAA.out]; exact h0⟩⟩)
                go_wp2_with (go_at_call 64; refine (HFO.out _ HB.out).mono ?_; rintro e w4 ⟨rfl, hb⟩; have HB4 := hide (HB.out.trans (hb.mono HB.out.size)); clear HFO hb)
                go_ret
                exact ⟨ret_int HR.out.symm, HB4.out⟩
              · have HNP2 : Hid (∀ a : Nat, a < p + 1 → ¬ 0 ≤ atL xs (t + a) 0) := fun a ha => by
                  by_cases hap : a < p
                  · exact HNP.out a hap
                  · obtain rfl : a = p := by omega
                    rw [HT1.out, HAA.out]
                    exact h0
                go_wp2_with (go_at_call 64; refine (HFO.out _ HB.out).mono ?_; rintro e w4 ⟨rfl, hb⟩; have HB4 := hide (HB.out.trans (hb.mono HB.out.size)); clear HFO hb)
                go_roundg kk
                case measure => omega
                case rel => exact ⟨p + 1, by omega, by go_num, HNP2.out, HB4.out⟩
    | succ GO =>
      have hj : (j : Int) < (n : Int) := by omega
      have HKO := hide hk
      clear hk
      obtain ⟨b, off, ⟨f, t, m⟩, rfl, hx, hok, q0, q1, q2⟩ := (HT.out.below HB.out).at j (by rw [HL.out]; omega)
      obtain ⟨⟨hf1, hf2⟩, ⟨ht1, ht2⟩, hm1, hm2⟩ := hok
      simp only at q0 q1 q2 hf1 hf2 ht1 ht2 hm1 hm2
      have hfw : IntKind.i64.wrap f = f := IntWalk.i64_in _ ⟨by omega, by omega⟩
      have HX := hide hx
      have HD := hide (drop_at hx)
      have HF0 : Hid (noB (f, t, m) = true → E = 130) := fun h => HBAD.out (by rw [← HS.out, HD.out]; exact okR_no h)
      have HEN : Hid (noB (f, t, m) = false → (1 ≤ m ∧ m ≤ 256) ∧ (0 ≤ f ∧ f ≤ 1279) ∧ (0 ≤ t ∧ t ≤ 1279)) := fun h => noB_ends h
      have HBB : Hid (¬ ((1 ≤ m ∧ m ≤ 256) ∧ (0 ≤ f ∧ f ≤ 1279) ∧ (0 ≤ t ∧ t ≤ 1279)) → E = 130) := fun h => HF0.out (by
        cases hb : noB (f, t, m) with
        | true => rfl
        | false => exact absurd (HEN.out hb) h)
      clear hx
      by_cases c1 : m < 1
      · have HR : Hid (E = 130) := HBB.out (by omega)
        go_wp2
        go_ret
        exact ⟨ret_int HR.out.symm, HB.out⟩
      by_cases c2 : 256 < m
      · have HR : Hid (E = 130) := HBB.out (by omega)
        go_wp2
        go_ret
        exact ⟨ret_int HR.out.symm, HB.out⟩
      by_cases c3 : f ≤ z
      · have HR : Hid (E = 130) := HBAD.out (by rw [← HS.out, HD.out]; exact okR_lt c3)
        go_wp2
        go_ret
        exact ⟨ret_int HR.out.symm, HB.out⟩
      by_cases c4 : f < 0
      · have HR : Hid (E = 130) := HBB.out (by omega)
        go_wp2
        go_ret
        exact ⟨ret_int HR.out.symm, HB.out⟩
      by_cases c5 : 1279 < f
      · have HR : Hid (E = 130) := HBB.out (by omega)
        go_wp2
        go_ret
        exact ⟨ret_int HR.out.symm, HB.out⟩
      by_cases c6 : t < 0
      · have HR : Hid (E = 130) := HBB.out (by omega)
        go_wp2
        go_ret
        exact ⟨ret_int HR.out.symm, HB.out⟩
      by_cases c7 : 1279 < t
      · have HR : Hid (E = 130) := HBB.out (by omega)
        go_wp2
        go_ret
        exact ⟨ret_int HR.out.symm, HB.out⟩
      obtain ⟨N, rfl⟩ : ∃ N : Nat, m = (N : Int) := ⟨m.toNat, by omega⟩
      have hN : (N : Int) ≤ 256 := by omega
      go_wp2
      clear q0 q1 q2
      go_loopg [5] N (fun k i wr2 => ∃ p : Nat, k + p = N ∧ i = .int .i64 (p : Int) ∧ (∀ a : Nat, a < p → letB (f + a) = true ∧ letB (t + a) = true) ∧ Below w.heap.size w wr2)
      case atStart => exact ⟨0, by omega, rfl, (fun a ha => by omega), HB.out⟩
      case round =>
        clear HB
        obtain ⟨p, hk3, rfl, hnp, hbw3⟩ := hrel
        have HNP := hide hnp
        have HB := hide hbw3
        clear hnp hbw3
        obtain ⟨b', off', x', he, hx', _, q0, q1, q2⟩ := (HT.out.below HB.out).at j (by rw [HL.out]; omega)
        simp only [Option.some.injEq, Addr.mk.injEq] at he
        obtain ⟨rfl, rfl, _⟩ := he
        obtain rfl : x' = (f, t, (N : Int)) := Option.some.inj (hx'.symm.trans HX.out)
        simp only at q0 q1 q2
        clear hx'
        cases gk with
        | zero =>
          obtain rfl : p = N := by omega
          have hlt3 : ¬ (p : Int) < (p : Int) := by omega
          have hnb : noB (f, t, (p : Int)) = false := (noB_iff _).2 ⟨⟨by simp only; omega, by simp only; omega⟩, fun k hk => HNP.out k (by simp only at hk; omega)⟩
          have HRS : Hid (okR (f + (p : Int) - 1) (xs.drop (j + 1)) = okR (-1) xs) := by rw [← HS.out, HD.out]; exact (okR_on (x := (f, t, (p : Int))) hnb (show ¬ f ≤ z by omega)).symm
          have HA2 : Hid (∀ x ∈ xs.take (j + 1), noB x = false) := by
            obtain ⟨hi, e⟩ := List.getElem?_eq_some_iff.1 HX.out
            intro x hx
            rw [List.take_succ_eq_append_getElem hi, e] at hx
            rcases List.mem_append.1 hx with hx | hx
            · exact HA.out x hx
            · obtain rfl : x = (f, t, (p : Int)) := by simpa using hx
              exact hnb
          obtain ⟨E1, hE1⟩ : ∃ E1, f + (p : Int) = E1 := ⟨_, rfl⟩
          have hE1w : IntKind.i64.wrap E1 = E1 := IntWalk.i64_in _ ⟨by omega, by omega⟩
          obtain ⟨E2, hE2⟩ : ∃ E2, E1 - 1 = E2 := ⟨_, rfl⟩
          have hE2w : IntKind.i64.wrap E2 = E2 := IntWalk.i64_in _ ⟨by omega, by omega⟩
          have HRS2 : Hid (okR E2 (xs.drop (j + 1)) = okR (-1) xs) := by rw [← hE2, ← hE1]; exact HRS.out
          clear hnb
          go_wp2
          go_quiet (fail)
          go_wp2
          go_roundg GO
          case measure => omega
          case rel => exact ⟨j + 1, E2, by have := HKO.out; omega, by go_num, rfl, HRS2.out, HA2.out, below_drewG HB.out _⟩
        | succ kk =>
          have hpi : (p : Int) < (N : Int) := by omega
          have hpw : IntKind.i32.wrap (p : Int) = (p : Int) := IntWalk.i32_in _ ⟨by omega, by omega⟩
          obtain ⟨F1, hF1⟩ : ∃ F1, f + (p : Int) = F1 := ⟨_, rfl⟩
          have hF1w : IntKind.i32.wrap F1 = F1 := IntWalk.i32_in _ ⟨by omega, by omega⟩
          obtain ⟨T1, hT1⟩ : ∃ T1, t + (p : Int) = T1 := ⟨_, rfl⟩
          have hT1w : IntKind.i32.wrap T1 = T1 := IntWalk.i32_in _ ⟨by omega, by omega⟩
          have HLF := hide (fun W => refLetter_any W F1 ⟨by omega, by omega⟩)
          have HLT := hide (fun W => refLetter_any W T1 ⟨by omega, by omega⟩)
          have HF1 := hide hF1
          have HT1 := hide hT1
          obtain ⟨A, hA⟩ : ∃ A, letB F1 = A := ⟨_, rfl⟩
          obtain ⟨B, hB⟩ : ∃ B, letB T1 = B := ⟨_, rfl⟩
          rw [hA] at HLF
          rw [hB] at HLT
          have HAA := hide hA
          have HBV := hide hB
          clear hA hB
          have HNB : Hid (A = false ∨ B = false → E = 130) := fun h => HF0.out (noB_bad (fun hh => by
            have := hh.2 p (by simp only; omega)
            simp only at this
            rw [HF1.out, HT1.out, HAA.out, HBV.out] at this
            rcases h with h | h
            · rw [h] at this; cases this.1
            · rw [h] at this; cases this.2))
          cases A with
          | false =>
            have HR := hide (HNB.out (.inl rfl))
            go_wp2_with (go_at_call 40; refine (HLF.out _).mono ?_; rintro e w4 ⟨rfl, hw⟩; subst w4; clear HLF)
            go_ret
            exact ⟨ret_int HR.out.symm, HB.out⟩
          | true =>
            cases B with
            | false =>
              have HR := hide (HNB.out (.inr rfl))
              go_wp2_with (first
                | (go_at_call 40; refine (HLF.out _).mono ?_; rintro e w4 ⟨rfl, hw⟩; subst w4; clear HLF)
                | (go_at_call 40; refine (HLT.out _).mono ?_; rintro e w4 ⟨rfl, hw⟩; subst w4; clear HLT))
              go_ret
              exact ⟨ret_int HR.out.symm, HB.out⟩
            | true =>
              have HNP2 : Hid (∀ a : Nat, a < p + 1 → letB (f + a) = true ∧ letB (t + a) = true) := fun a ha => by
                by_cases hap : a < p
                · exact HNP.out a hap
                · obtain rfl : a = p := by omega
                  rw [HF1.out, HT1.out]
                  exact ⟨HAA.out, HBV.out⟩
              go_wp2_with (first
                | (go_at_call 40; refine (HLF.out _).mono ?_; rintro e w4 ⟨rfl, hw⟩; subst w4; clear HLF)
                | (go_at_call 40; refine (HLT.out _).mono ?_; rintro e w4 ⟨rfl, hw⟩; subst w4; clear HLT))
              go_roundg kk
              case measure => omega
              case rel => exact ⟨p + 1, by omega, by go_num, HNP2.out, HB.out⟩

end Go.Proofs.YtimmfnjkknbofaaDoor
