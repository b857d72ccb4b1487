/- Contracts: package extent's Same, First. -/
import Derived.Test.YtbnhacibkmcmkaaDoorESet
namespace Go.Proofs.YtbnhacibkmcmkaaDoor
set_option maxRecDepth 20000
open Go.RowKit
set_option linter.unusedVariables false

/-- the lowest page from that one on, or -1 -/
def IsFst (f : Nat → Bool) (n : Nat) (p : Int) (r : Int) : Prop :=
  (r = -1 ∧ ∀ q : Nat, p ≤ q → q < n → f q = false) ∨ ∃ q : Nat, r = q ∧ p ≤ q ∧ q < n ∧ f q = true ∧ ∀ q' : Nat, p ≤ q' → q' < q → f q' = false
theorem IsFst.uniq {f : Nat → Bool} {n : Nat} {p r r' : Int} (h : IsFst f n p r) (h' : IsFst f n p r') : r = r' := by
  rcases h with ⟨rfl, h1⟩ | ⟨q, rfl, h1, h2, h3, h4⟩ <;> rcases h' with ⟨rfl, k1⟩ | ⟨q', rfl, k1, k2, k3, k4⟩
  · rfl
  · rw [h1 q' k1 k2] at k3; cases k3
  · rw [k1 q h1 h2] at h3; cases h3
  · rcases Nat.lt_trichotomy q q' with h | h | h
    · rw [k4 q h1 h] at h3; cases h3
    · rw [h]
    · rw [h4 q' k1 h] at k3; cases k3

/-- the word's bits from s on -/
theorem low_bits (x s : Nat) (hx : x < 18446744073709551616) (hs : s ≤ 64) : x &&& (18446744073709551615 - (2 ^ s - 1)) < 18446744073709551616 ∧ ∀ j, j < 64 → (x &&& (18446744073709551615 - (2 ^ s - 1))).testBit j = (decide (s ≤ j) && x.testBit j) := by
  refine ⟨Nat.lt_of_le_of_lt Nat.and_le_left hx, fun j hj => ?_⟩
  have hp : 2 ^ s ≤ 2 ^ 64 := Nat.pow_le_pow_right (by decide) hs
  have h0 : 0 < 2 ^ s := Nat.two_pow_pos s
  have e : 18446744073709551615 - (2 ^ s - 1) = 2 ^ 64 - (2 ^ s - 1 + 1) := by omega
  rw [Nat.testBit_and, e, Nat.testBit_two_pow_sub_succ (by omega), Nat.testBit_two_pow_sub_one]
  by_cases h : s ≤ j
  · simp [h, hj, show ¬ j < s by omega, Bool.and_comm]
  · simp [h, hj, show j < s by omega]
theorem ctz_bit (x : Nat) (hx : x < 18446744073709551616) (h0 : x ≠ 0) : Lib.ctz 64 x < 64 ∧ x.testBit (Lib.ctz 64 x) = true ∧ ∀ j, j < Lib.ctz 64 x → x.testBit j = false := by
  obtain ⟨hlow, hk⟩ := Lib.lowest_bit 64 x h0 hx
  have e : Lib.ctz 64 x = Lib.ctzFrom 64 x := by simp [Lib.ctz, h0]
  obtain ⟨m, hm, hk2⟩ := Lib.ctzFrom_spec 64 x (by omega) hx
  rw [← e] at hm
  generalize Lib.ctz 64 x = k at *
  refine ⟨hk, ?_, fun j hj => ?_⟩
  · rw [hm, Nat.mul_comm, Nat.testBit_mul_two_pow]
    simp
  · rw [hm, Nat.mul_comm, Nat.testBit_mul_two_pow]
    simp [show ¬ k ≤ j by omega]

section
variable (w : World) (b n : Nat) (f : Nat → Bool)
theorem first_nil (p : Int) : Calls Tryd.prog 67 #[.pointer none, .int .i64 p] w fun e w' => e = .returned (.int .i64 (-1)) ∧ w' = w := by
  have HM := hide (made_nil w)
  go_enter Tryd.func67, Tryd.ntmps67
  go_wp2_with (go_at_call 62; refine HM.out.mono ?_; rintro e w1 ⟨rfl, hw⟩; subst w1; clear HM)
  go_ret
  exact ⟨rfl, rfl⟩
theorem first_zero (p : Int) (c0 : w.cell? ⟨b, 0, none⟩ = some (.int .i64 0)) : Calls Tryd.prog 67 #[dp b, .int .i64 p] w fun e w' => e = .returned (.int .i64 (-1)) ∧ w' = w := by
  have HM := hide (made_cell w b 0 c0)
  go_enter Tryd.func67, Tryd.ntmps67
  go_wp2_with (go_at_call 62; refine HM.out.mono ?_; rintro e w1 ⟨rfl, hw⟩; subst w1; clear HM)
  go_ret
  exact ⟨rfl, rfl⟩
set_option maxHeartbeats 1000000 in
/-- from p on, p a page that there is (or below 0: then P is 0) -/
theorem first_in (p : Int) (P : Nat) (hP : max p 0 = (P : Int)) (hPn : P < n) (h : SetB w b n f) (hT : TabB w) : Calls Tryd.prog 67 #[dp b, .int .i64 p] w fun e w' => ∃ r, e = .returned (.int .i64 r) ∧ IsFst f n P r ∧ w' = w := by
  have HM := made_cell w b n h.c0
  rw [decide_eq_true (show 0 < n from h.lo)] at HM
  have HM := hide HM
  have c0 := h.c0
  have hn := h.hi
  have HX := hide h
  have HT := hide hT
  have hpn : p < n := by omega
  have hmax : (if p < 0 then (0 : Int) else p) = (P : Int) := by split <;> omega
  obtain ⟨A, hA⟩ : ∃ A, P / 64 = A := ⟨_, rfl⟩
  obtain ⟨s, hs⟩ : ∃ s, P % 64 = s := ⟨_, rfl⟩
  have hPA : P = 64 * A + s := by omega
  have hq : (P : Int) / 64 = (A : Int) := by omega
  have hm : (A : Int) * 64 = ((A * 64 : Nat) : Int) := by simp
  have hsub : (P : Int) - ((A * 64 : Nat) : Int) = (s : Int) := by omega
  have HBL := below_any w (s : Int)
  rw [show min (s : Int).toNat 64 = s by omega] at HBL
  have HBL := hide HBL
  have hs64 : s < 64 := by omega
  have hA32 : A < 32 := by omega
  have h32 : (32 : Int) - (A : Int) = ((32 - A : Nat) : Int) := by omega
  obtain ⟨M, hM⟩ : ∃ M, 32 - A = M := ⟨_, rfl⟩
  obtain ⟨A64, hA64⟩ : ∃ A64, A * 64 = A64 := ⟨_, rfl⟩
  rw [hM] at h32
  rw [hA64] at hm hsub
  have HPA := hide hPA
  have HHM := hide hM
  clear h hT hP hA hs hPA hM hA64
  go_enter Tryd.func67, Tryd.ntmps67
  go_wp2_with (first
    | (go_at_call 62; refine HM.out.mono ?_; rintro e w1 ⟨rfl, hw⟩; subst w1; clear HM)
    | (go_at_call 70; refine HBL.out.mono ?_; rintro e w1 ⟨rfl, hw⟩; subst w1; clear HBL))
  go_loopg [6, 31] M (fun g sk i wr => ∃ j t : Nat, g + j = M ∧ t < 64 ∧ (j = 0 → t = s) ∧ (j ≠ 0 → t = 0) ∧ sk = .int .u64 (2 ^ t - 1 : Nat) ∧ i = .int .i64 j ∧ (∀ q, P ≤ q → q < 64 * (A + j) → f q = false) ∧ w = wr)
  case atStart => exact ⟨0, s, rfl, hs64, fun _ => rfl, fun h => absurd rfl h, rfl, rfl, fun q h1 h2 => by have := HPA.out; omega, rfl⟩
  case round =>
    obtain ⟨j, t, hj, ht, ht0, ht1, rfl, rfl, hno, rfl⟩ := hrel
    have HNO := hide hno
    have HT0 := hide (And.intro ht0 ht1)
    clear hno ht0 ht1 hmax hq hm hsub hpn
    cases gk with
    | zero =>
      have hjM : j = M := by omega
      have h1 : ¬ (j : Int) < (M : Int) := by omega
      clear hjM
      go_wp2
      go_ret
      exact ⟨_, rfl, .inl ⟨rfl, fun q h1 h2 => HNO.out q (by omega) (by have := HHM.out; omega)⟩, rfl⟩
    | succ g =>
      have h1 : (j : Int) < (M : Int) := by omega
      obtain ⟨J, hJ⟩ : ∃ J, A + j = J := ⟨_, rfl⟩
      have hJ32 : J < 32 := by have := HHM.out; omega
      have hJi : (A : Int) + (j : Int) = (J : Int) := by omega
      have hJl : (J : Int) < 32 := by omega
      have cw := HX.out.cw J hJ32
      have hS : 2 ^ t ≤ 2 ^ 63 := Nat.pow_le_pow_right (by decide) (by omega)
      have hA := u64_andNot_nat (word f J) (2 ^ t - 1) (word_lt _ _) (by omega)
      obtain ⟨hl1, hl2⟩ := low_bits (word f J) t (word_lt _ _) (by omega)
      obtain ⟨L, hL⟩ : ∃ L, word f J &&& (18446744073709551615 - (2 ^ t - 1)) = L := ⟨_, rfl⟩
      rw [hL] at hA hl1 hl2
      have hbit : ∀ r, r < 64 → L.testBit r = (decide (t ≤ r) && f (64 * J + r)) := fun r hr => by rw [hl2 r hr, word_bit f J r hr]
      have HBIT := hide hbit
      have HJ := hide hJ
      obtain ⟨K, hK⟩ : ∃ K, word f J = K := ⟨_, rfl⟩
      obtain ⟨S, hSS⟩ : ∃ S, 2 ^ t - 1 = S := ⟨_, rfl⟩
      rw [hK] at hA cw
      rw [hSS] at hA ⊢
      clear hl2 hbit hL hK hSS hS hJ
      by_cases hL0 : L = 0
      · subst hL0
        go_wp2
        go_roundg g
        case measure => omega
        case rel =>
          refine ⟨j + 1, 0, by omega, by omega, fun h => by omega, fun _ => rfl, rfl, by go_num, fun q h1 h2 => ?_, rfl⟩
          have hJ := HJ.out
          by_cases hq : q < 64 * (A + j)
          · exact HNO.out q h1 hq
          · have hb := HBIT.out (q - 64 * J) (by omega)
            rw [show 64 * J + (q - 64 * J) = q by omega, Nat.zero_testBit] at hb
            have : t ≤ q - 64 * J := by
              by_cases hj0 : j = 0
              · have := HT0.out.1 hj0
                have := HPA.out
                omega
              · have := HT0.out.2 hj0
                omega
            simpa [this] using hb.symm
      · obtain ⟨k1, k2, k3⟩ := ctz_bit L hl1 hL0
        have HTZ := hide (tz_any w L hl1 hL0 HT.out)
        have hne : ((L : Int) != 0) = true := by simp [bne]; omega
        have HK2 := hide k2
        have HK3 := hide k3
        generalize Lib.ctz 64 L = c at *
        obtain ⟨X, hX⟩ : ∃ X, J * 64 = X := ⟨_, rfl⟩
        have hXi : (J : Int) * 64 = (X : Int) := by omega
        have hXw := wrap_i64_in X (by omega)
        have HXX := hide hX
        clear k2 k3 hX
        go_wp2_with (go_at_call 71; refine HTZ.out.mono ?_; rintro e w1 ⟨rfl, hw⟩; subst w1; clear HTZ)
        go_ret
        refine ⟨_, rfl, .inr ⟨X + c, by go_num, ?_⟩, rfl⟩
        have hb := HBIT.out c k1
        rw [HK2.out] at hb
        have hb' : t ≤ c ∧ f (64 * J + c) = true := by simpa using hb.symm
        have hX := HXX.out
        have hJ := HJ.out
        have hPA := HPA.out
        have hfc : f (X + c) = true := by rw [show X + c = 64 * J + c by omega]; exact hb'.2
        have hlo : P ≤ X + c := by
          by_cases hj0 : j = 0
          · have := HT0.out.1 hj0
            omega
          · omega
        refine ⟨by omega, ?_, hfc, fun q h1 h2 => ?_⟩
        · rcases Nat.lt_or_ge (X + c) n with h | h
          · exact h
          · rw [HX.out.out _ h] at hfc; cases hfc
        · by_cases hq : q < 64 * (A + j)
          · exact HNO.out q (by omega) hq
          · have hb2 := HBIT.out (q - 64 * J) (by omega)
            rw [HK3.out _ (by omega), show 64 * J + (q - 64 * J) = q by omega] at hb2
            have : t ≤ q - 64 * J := by
              by_cases hj0 : j = 0
              · have := HT0.out.1 hj0
                omega
              · have := HT0.out.2 hj0
                omega
            simpa [this] using hb2.symm
theorem first_past (p : Int) (hp : (n : Int) ≤ p) (h : SetB w b n f) : Calls Tryd.prog 67 #[dp b, .int .i64 p] w fun e w' => e = .returned (.int .i64 (-1)) ∧ w' = w := by
  have HM := made_cell w b n h.c0
  rw [decide_eq_true (show 0 < n from h.lo)] at HM
  have HM := hide HM
  have c0 := h.c0
  have h1 : ¬ p < n := by omega
  clear h
  go_enter Tryd.func67, Tryd.ntmps67
  go_wp2_with (go_at_call 62; refine HM.out.mono ?_; rintro e w1 ⟨rfl, hw⟩; subst w1; clear HM)
  go_ret
  exact ⟨rfl, rfl⟩
theorem first_any (p : Int) (h : SetB w b n f) (hT : TabB w) : Calls Tryd.prog 67 #[dp b, .int .i64 p] w fun e w' => ∃ r, e = .returned (.int .i64 r) ∧ IsFst f n p r ∧ w' = w := by
  by_cases hp : p < n
  · have hlo := h.lo
    refine (first_in w b n f p (max p 0).toNat (by omega) (by omega) h hT).mono ?_
    rintro e w' ⟨r, rfl, hr, rfl⟩
    refine ⟨r, rfl, ?_, rfl⟩
    rcases hr with ⟨rfl, h1⟩ | ⟨q, rfl, h1, h2, h3, h4⟩
    · exact .inl ⟨rfl, fun q hq => h1 q (by omega)⟩
    · exact .inr ⟨q, rfl, by omega, h2, h3, fun q' hq => h4 q' (by omega)⟩
  · refine (first_past w b n f p (by omega) h).mono ?_
    rintro e w' ⟨rfl, rfl⟩
    exact ⟨-1, rfl, .inl ⟨rfl, fun q h1 h2 => by omega⟩, rfl⟩

end

end Go.Proofs.YtbnhacibkmcmkaaDoor
