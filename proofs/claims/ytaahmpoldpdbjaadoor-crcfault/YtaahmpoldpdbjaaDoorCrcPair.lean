/- Contracts: the product, and two sums put together, by package crc and by the document's answer. -/
import Derived.Test.YtaahmpoldpdbjaaDoorCrcOf
namespace Go.Proofs.YtaahmpoldpdbjaaDoor
open Go.RowKit

theorem and31 (y : Nat) (h : y < 4294967296) : bits .and .u32 (y : Int) 2147483648 = if 2147483648 ≤ y then 2147483648 else 0 := by
  have := u32_and_nat y 2147483648 h (by omega)
  have e : y &&& 2147483648 = if 2147483648 ≤ y then 2147483648 else 0 := by
    have h2 := nat_midmask 32 31 y (by omega)
    rw [show (2 : Nat) ^ 32 - 2 ^ 31 = 2147483648 from rfl] at h2
    rw [h2]
    split <;> omega
  rw [e] at this
  refine this.trans ?_
  split <;> rfl

theorem i64_and_nat (a b : Nat) (ha : a < 9223372036854775808) (hb : b < 9223372036854775808) : bits .and .i64 (a : Int) (b : Int) = ((a &&& b : Nat) : Int) := by
  have hx : a &&& b < 2 ^ 63 := Nat.and_lt_two_pow _ (by omega)
  have e : ∀ x : Nat, x < 9223372036854775808 → (BitVec.ofInt 64 (x : Int)).toNat = x := by
    intro x hx
    rw [BitVec.ofInt_natCast, BitVec.toNat_ofNat]; exact Nat.mod_eq_of_lt (by omega)
  show IntKind.i64.wrap ((BitVec.ofInt 64 (a : Int) &&& BitVec.ofInt 64 (b : Int)).toNat : Int) = _
  rw [BitVec.toNat_and, e a ha, e b hb, IntKind.wrap_i64]
  omega

set_option maxHeartbeats 400000 in
theorem times_any (w : World) (a b : Nat) (ha : a < 4294967296) (hb : b < 4294967296) :
    Calls Tryd.prog 24 #[.int .u32 a, .int .u32 b] w fun e w' => e = .returned (.int .u32 (mul 32 a b : Nat)) ∧ w' = w := by
  go_enter Tryd.func24, Tryd.ntmps24
  go_wp2
  go_loopg [0, 1, 5] 32 (fun g aa bb pp wr => ∃ x y z : Nat, x < 4294967296 ∧ y < 4294967296 ∧ z < 4294967296 ∧ y * 2 ^ g % 4294967296 = 0 ∧ z ^^^ mul 32 x y = mul 32 a b ∧ aa = .int .u32 (x : Int) ∧ bb = .int .u32 (y : Int) ∧ pp = .int .u32 (z : Int) ∧ w = wr)
  case atStart => exact ⟨a, b, 0, ha, hb, by omega, by rw [show (2 : Nat) ^ 32 = 4294967296 from rfl]; omega, Nat.zero_xor _, rfl, rfl, rfl, rfl⟩
  case round =>
    obtain ⟨x, y, z, hx, hy, hz, hg, hm, rfl, rfl, rfl, rfl⟩ := hrel
    have HM := hide hm
    have HG := hide hg
    clear hm hg
    by_cases h0 : y = 0
    · subst h0
      go_wp2
      go_ret
      exact ⟨ret_int (by rw [← HM.out, mul_zero, Nat.xor_zero]), rfl⟩
    · have hne : ((y : Int) != 0) = true := by simp; exact h0
      have hst := stp_lt hx
      have HO := hide (onByBit_any w x hx)
      have hr := mul_round x y hy
      have h31 := and31 y hy
      obtain ⟨s, hs⟩ : ∃ s, s = stp x := ⟨_, rfl⟩
      rw [← hs] at HO hst hr
      cases gk with
      | zero =>
        have := HG.out
        simp at this
        omega
      | succ g =>
        have hg' : 2 * y % 4294967296 * 2 ^ g % 4294967296 = 0 := by
          have h := HG.out
          rw [Nat.pow_succ, Nat.mul_comm (2 ^ g) 2, ← Nat.mul_assoc, Nat.mul_comm y 2] at h
          rw [Nat.mod_mul_mod]
          exact h
        have HG' := hide hg'
        clear hg' hs
        by_cases hh : 2147483648 ≤ y
        · rw [if_pos hh] at h31 hr
          have hxr := xorN z x hz hx
          have hlt : z ^^^ x < 4294967296 := xor_lt32 hz hx
          obtain ⟨q, hq⟩ : ∃ q, q = z ^^^ x := ⟨_, rfl⟩
          rw [← hq] at hxr hlt
          have HQ := hide hq
          have HR := hide hr
          clear hq hr
          go_wp2_with (go_at_call 26; refine HO.out.mono ?_; rintro e w1 ⟨rfl, hw⟩; subst w1)
          go_roundg g
          case measure => omega
          case rel =>
            refine ⟨s, 2 * y % 4294967296, q, hst, by omega, hlt, HG'.out, ?_, rfl, by go_num, rfl, rfl⟩
            rw [HQ.out, Nat.xor_assoc, ← HR.out, HM.out]
        · rw [if_neg hh] at h31 hr
          have HR := hide hr
          clear hr
          go_wp2_with (go_at_call 26; refine HO.out.mono ?_; rintro e w1 ⟨rfl, hw⟩; subst w1)
          go_roundg g
          case measure => omega
          case rel =>
            refine ⟨s, 2 * y % 4294967296, z, hst, by omega, hz, HG'.out, ?_, rfl, by go_num, rfl, rfl⟩
            rw [← HM.out, HR.out, Nat.zero_xor]

theorem crcTwo_below (w : World) (a b : Nat) (n : Int) (h : n < 0) :
    Calls Tryd.prog 15 #[.int .u32 a, .int .u32 b, .int .i64 n] w fun e w' => e = .returned (.int .u32 a) ∧ w' = w := by
  go_enter Tryd.func15, Tryd.ntmps15
  go_wp2
  go_ret
  exact ⟨rfl, rfl⟩

set_option maxHeartbeats 400000 in
theorem crcTwo_any (w : World) (a b n : Nat) (ha : a < 4294967296) (hb : b < 4294967296) (hn : n < 1000000000) :
    Calls Tryd.prog 15 #[.int .u32 a, .int .u32 b, .int .i64 n] w fun e w' => e = .returned (.int .u32 (stpN (8 * n) a ^^^ b : Nat)) ∧ w' = w := by
  go_enter Tryd.func15, Tryd.ntmps15
  go_wp2
  go_loopg [0, 2, 7] n (fun g aa nn ss wr => ∃ x s k : Nat, x < 4294967296 ∧ g < 1000000000 ∧ Pow s k ∧ stpN (k * g) x = stpN (8 * n) a ∧ aa = .int .u32 (x : Int) ∧ nn = .int .i64 (g : Int) ∧ ss = .int .u32 (s : Int) ∧ w = wr)
  case atStart => exact ⟨a, 8388608, 8, ha, hn, pow_byte, rfl, rfl, rfl, rfl, rfl⟩
  case round =>
    obtain ⟨x, s, k, hx, hg, hp, hs, rfl, rfl, rfl, rfl⟩ := hrel
    have HS := hide hs
    have hs1 := hp.1
    have HP := hide hp
    clear hs hp
    by_cases h0 : gk = 0
    · subst h0
      have hxr := xorN x b hx hb
      go_wp2
      go_ret
      refine ⟨ret_int ?_, rfl⟩
      rw [← HS.out, Nat.mul_zero]
      rfl
    · have hpos : (0 : Int) < (gk : Int) := by omega
      have hsq := pow_square HP.out
      have hxs := HP.out.2 x hx
      have hlt := stpN_lt k hx
      have HT1 := hide (times_any w x s hx hs1)
      have HT2 := hide (times_any w s s hs1 hs1)
      rw [hxs] at HT1
      obtain ⟨x', hx'⟩ : ∃ x', x' = stpN k x := ⟨_, rfl⟩
      obtain ⟨s', hs'⟩ : ∃ s', s' = mul 32 s s := ⟨_, rfl⟩
      rw [← hx'] at HT1 hlt
      rw [← hs'] at HT2 hsq
      have HX' := hide hx'
      have HSQ := hide hsq
      clear hx' hs' hsq hxs
      rcases Nat.mod_two_eq_zero_or_one gk with hpar | hpar
      · have hand : bits .and .i64 (gk : Int) 1 = 0 := by
          have := i64_and_nat gk 1 (by omega) (by omega)
          rw [Nat.and_one_is_mod, hpar] at this
          exact this
        go_wp2_with (first
          | (go_at_call 24; refine HT2.out.mono ?_; rintro e w1 ⟨rfl, hw⟩; subst w1))
        go_roundg (gk / 2)
        case measure => omega
        case rel =>
          refine ⟨x, s', 2 * k, hx, by omega, HSQ.out, ?_, rfl, by go_num, rfl, rfl⟩
          rw [← HS.out, Nat.mul_comm 2 k, Nat.mul_assoc, show 2 * (gk / 2) = gk by omega]
      · have hand : bits .and .i64 (gk : Int) 1 = 1 := by
          have := i64_and_nat gk 1 (by omega) (by omega)
          rw [Nat.and_one_is_mod, hpar] at this
          exact this
        go_wp2_with (first
          | (go_at_call 24; refine HT1.out.mono ?_; rintro e w1 ⟨rfl, hw⟩; subst w1; clear HT1)
          | (go_at_call 24; refine HT2.out.mono ?_; rintro e w1 ⟨rfl, hw⟩; subst w1; clear HT2))
        go_roundg (gk / 2)
        case measure => omega
        case rel =>
          refine ⟨x', s', 2 * k, hlt, by omega, HSQ.out, ?_, rfl, by go_num, rfl, rfl⟩
          rw [HX'.out, ← stpN_add, ← HS.out]
          congr 1
          rw [Nat.mul_comm 2 k, Nat.mul_assoc]
          have : gk = 1 + 2 * (gk / 2) := by omega
          conv => rhs; rw [this, Nat.mul_add, Nat.mul_one]

theorem refTwo_below (w : World) (a b : Nat) (n : Int) (h : n < 0) :
    Calls Tryd.prog 16 #[.int .u32 a, .int .u32 b, .int .i64 n] w fun e w' => e = .returned (.int .u32 a) ∧ w' = w := by
  go_enter Tryd.func16, Tryd.ntmps16
  go_wp2
  go_ret
  exact ⟨rfl, rfl⟩

set_option maxHeartbeats 400000 in
theorem refTwo_any (w : World) (a b n : Nat) (ha : a < 4294967296) (hb : b < 4294967296) (hn : n < 1000000000) :
    Calls Tryd.prog 16 #[.int .u32 a, .int .u32 b, .int .i64 n] w fun e w' => e = .returned (.int .u32 (stpN (8 * n) a ^^^ b : Nat)) ∧ w' = w := by
  go_enter Tryd.func16, Tryd.ntmps16
  go_wp2
  go_loopg [0, 7] n (fun g aa ii wr => ∃ x i : Nat, x < 4294967296 ∧ g + i = n ∧ stpN (8 * g) x = stpN (8 * n) a ∧ aa = .int .u32 (x : Int) ∧ ii = .int .i64 (i : Int) ∧ w = wr)
  case atStart => exact ⟨a, 0, ha, rfl, rfl, rfl, rfl, rfl⟩
  case round =>
    obtain ⟨x, i, hx, hg, hs, rfl, rfl, rfl⟩ := hrel
    have HS := hide hs
    clear hs
    cases gk with
    | zero =>
      obtain rfl : i = n := by omega
      have hxr := xorN x b hx hb
      go_wp2
      go_ret
      exact ⟨ret_int (by rw [← HS.out]; rfl), rfl⟩
    | succ g =>
      have hi : (i : Int) < (n : Int) := by omega
      have HG := hide (goes_any w x 0 hx (by omega) (by omega))
      have hlt := stpN_lt 8 hx
      rw [show (0 : Int).toNat = 0 from rfl, Nat.xor_zero] at HG
      obtain ⟨x', hx'⟩ : ∃ x', x' = stpN 8 x := ⟨_, rfl⟩
      rw [← hx'] at HG hlt
      have HX' := hide hx'
      clear hx'
      go_wp2_with (go_at_call 23; refine HG.out.mono ?_; rintro e w1 ⟨rfl, hw⟩; subst w1)
      go_roundg g
      case measure => omega
      case rel =>
        refine ⟨x', i + 1, hlt, by omega, ?_, rfl, by go_num, rfl⟩
        rw [← HS.out, HX'.out, ← stpN_add]
        congr 1
        omega

end Go.Proofs.YtaahmpoldpdbjaaDoor
