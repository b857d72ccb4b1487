/- Contract: the short number that bytes begin with, by package pack. -/
import Derived.Test.YtmjkpgmmfooajaaNRd
namespace Go.Proofs.Ytmjkpgmmfooajaa
set_option maxRecDepth 20000
open Go.RowKit

/-- the number, how many bytes it has, and the error; from byte i on, with what the bytes ahead give -/
def shortAux (i acc : Nat) : List Int → Nat × Nat × Int
  | [] => (0, 0, 10)
  | c :: cs => if (i = 4 ∧ 15 < c) ∨ (0 < i ∧ c = 0) then (0, 0, 11) else if c < 128 then (acc + c.toNat * 128 ^ i, i + 1, 0) else shortAux (i + 1) (acc + (c.toNat % 128) * 128 ^ i) cs

def short (zs : List Int) : Nat × Nat × Int := shortAux 0 0 zs

set_option maxRecDepth 10000 in
theorem and127 : ∀ m : Fin 256, (m.val &&& 127) = m.val % 128 := by decide
theorem and127_u8 (x : Int) (h0 : 0 ≤ x) (h1 : x ≤ 255) : bits .and .u8 x 127 = ((x.toNat % 128 : Nat) : Int) := by
  have h := u8_and_nat x.toNat 127 (by omega) (by omega)
  rw [and127 ⟨x.toNat, by omega⟩] at h
  rw [show ((x.toNat : Nat) : Int) = x by omega] at h
  exact h

theorem or_shift (acc m k : Nat) (hacc : acc < 128 ^ k) : (acc ||| m * 128 ^ k) = acc + m * 128 ^ k := by
  have e : (128 : Nat) ^ k = 2 ^ (7 * k) := by rw [Nat.pow_mul]
  rw [e] at hacc ⊢
  have := Nat.two_pow_add_eq_or_of_lt hacc m
  rw [Nat.or_comm, Nat.mul_comm, ← this, Nat.add_comm]

theorem pow128 (k : Nat) : (2 : Int) ^ (7 * k) = ((128 ^ k : Nat) : Int) := by
  rw [Int.pow_mul]; norm_cast

theorem bitsShort (acc k : Nat) (x : Int) (hacc : acc < 128 ^ k) (hk : k ≤ 4) (h0 : 0 ≤ x) (h1 : x ≤ 255) (h4 : k = 4 → x ≤ 15) :
    bits .or .u32 (acc : Int) (bits .and .u8 x 127 % 4294967296 * 2 ^ (7 * k) % 4294967296) = ((acc + x.toNat % 128 * 128 ^ k : Nat) : Int) ∧ acc + x.toNat % 128 * 128 ^ k < 128 ^ (k + 1) ∧ acc + x.toNat % 128 * 128 ^ k < 4294967296 := by
  rw [and127_u8 x h0 h1, pow128]
  have hlt : x.toNat % 128 * 128 ^ k < 4294967296 ∧ acc + x.toNat % 128 * 128 ^ k < 4294967296 ∧ 128 ^ k ≤ 268435456 := by
    rcases (by omega : k = 0 ∨ k = 1 ∨ k = 2 ∨ k = 3 ∨ k = 4) with rfl | rfl | rfl | rfl | rfl <;> simp only [Nat.reducePow, Nat.pow_zero] at hacc ⊢ <;> omega
  refine ⟨?_, ?_, hlt.2.1⟩
  · have e : ((x.toNat % 128 : Nat) : Int) % 4294967296 * ((128 ^ k : Nat) : Int) % 4294967296 = ((x.toNat % 128 * 128 ^ k : Nat) : Int) := by
      have e1 : ((x.toNat % 128 : Nat) : Int) % 4294967296 = ((x.toNat % 128 : Nat) : Int) := Int.emod_eq_of_lt (by omega) (by omega)
      rw [e1, ← Int.natCast_mul]
      exact Int.emod_eq_of_lt (Int.natCast_nonneg _) (by have := hlt.1; omega)
    rw [e, u32_or_nat acc _ (by omega) hlt.1, or_shift acc _ k hacc]
  · rw [Nat.pow_succ]
    have : x.toNat % 128 * 128 ^ k ≤ 127 * 128 ^ k := Nat.mul_le_mul_right _ (by omega)
    omega

theorem ret3 {a b c a' b' c' : Int} {k1 k2 k3 : IntKind} (h1 : a = a') (h2 : b = b') (h3 : c = c') : Ending.returned (.tuple #[.int k1 a, .int k2 b, .int k3 c]) = .returned (.tuple #[.int k1 a', .int k2 b', .int k3 c']) := by rw [h1, h2, h3]

set_option maxHeartbeats 400000 in
theorem shortNumber_any (w : World) (v : Value) (zs : List Int) (h : Sl w v zs) :
    Calls Try.prog 55 #[v] w fun e w' => e = .returned (.tuple #[.int .u32 (short zs).1, .int .i64 (short zs).2.1, .int .i64 (short zs).2.2]) ∧ w' = w := by
  obtain ⟨hb, ao, cap, rfl, h1, h2, h3, h4⟩ := h
  unfold maxLen at h2
  go_enter Try.func55, Try.ntmps55
  go_wp2
  go_step3
  go_wp2
  go_step3
  go_wp2
  go_loop [5, 6, 7, 12] (fun vv nn ee i => ∃ (k acc : Nat), k ≤ 4 ∧ k ≤ zs.length ∧ acc < 128 ^ k ∧ shortAux k acc (zs.drop k) = short zs ∧ vv = .int .u32 acc ∧ nn = .int .i64 0 ∧ ee = .int .i64 10 ∧ i = .int .i64 k) (fun _ _ _ i => zs.length - (intOf i).toNat)
  case atStart => exact ⟨0, 0, by omega, by omega, by omega, rfl, rfl, rfl, rfl, rfl⟩
  case round =>
    obtain ⟨k, acc, hk4, hkl, hacc, hs, rfl, rfl, rfl, rfl⟩ := hrel
    by_cases hlt : k < zs.length
    · obtain ⟨b, o, rfl, hc⟩ := h4 (by intro h; simp [h] at hlt)
      have c1 := hc k hlt
      obtain ⟨x, hx⟩ : ∃ x, x = zs.getD k 0 := ⟨_, rfl⟩
      have hxb := hb.get k
      rw [← hx] at c1 hxb
      have HX := hide hx
      have HS := hide hs
      clear hx hs hc h4
      have hd := drop_cons zs k hlt
      rw [← HX.out] at hd
      have HD := hide hd
      clear hd
      by_cases hA : (k = 4 ∧ 15 < x) ∨ (0 < k ∧ x = 0)
      · have he : short zs = (0, 0, 11) := by rw [← HS.out, HD.out, shortAux, if_pos hA]
        rcases hA with ⟨rfl, hx⟩ | ⟨hk0, rfl⟩
        · go_wp2
          go_ret3
          refine ⟨?_, rfl⟩
          rw [he]; rfl
        · have hk0' : (0 : Int) < (k : Int) := by omega
          go_wp2
          all_goals
            go_ret3
            refine ⟨?_, rfl⟩
            rw [he]; rfl
      · have h4' : k = 4 → x ≤ 15 := fun h => by omega
        have hB := bitsShort acc k x hacc hk4 hxb.1 hxb.2 h4'
        obtain ⟨hB1, hB2, hB3⟩ := hB
        obtain ⟨N, hN⟩ : ∃ N, N = acc + x.toNat % 128 * 128 ^ k := ⟨_, rfl⟩
        rw [← hN] at hB1 hB2 hB3
        have HN := hide hN
        clear hN
        by_cases hx : x < 128
        · have he : short zs = (N, k + 1, 0) := by rw [← HS.out, HD.out, shortAux, if_neg hA, if_pos hx, HN.out, Nat.mod_eq_of_lt (by omega)]
          have hnx : ¬ (0 < k ∧ x = 0) := by omega
          by_cases hk : k = 4
          · subst hk
            have hB1' : bits .or .u32 (acc : Int) (bits .and .u8 x 127 % 4294967296 * 268435456 % 4294967296) = (N : Int) := hB1
            go_wp2
            all_goals
              go_ret3
              refine ⟨?_, rfl⟩
              rw [he]; rfl
          · go_wp2
            all_goals
              go_ret3
              refine ⟨?_, rfl⟩
              rw [he]; rfl
        · have he : shortAux (k + 1) N (zs.drop (k + 1)) = short zs := by rw [← HS.out, HD.out, shortAux, if_neg hA, if_neg hx, HN.out]
          have hk3 : k ≤ 3 := by omega
          go_wp2
          all_goals
            go_round
            case rel => exact ⟨k + 1, N, by omega, by omega, hB2, he, by go_num, rfl, rfl, by go_num⟩
            case measure => simp [intOf]; omega
    · have he : short zs = (0, 0, 10) := by rw [← hs, List.drop_eq_nil_of_le (by omega), shortAux]
      go_wp2
      go_ret3
      refine ⟨?_, rfl⟩
      rw [he]; rfl

end Go.Proofs.Ytmjkpgmmfooajaa
