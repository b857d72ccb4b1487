/- Contracts: how many bytes a short number has (math/bits.Len32, pack.Size). -/
import Derived.Test.YtmjkpgmmfooajaaOwn
import Derived.Lib.BitFns
import Derived.Lib.Walk
namespace Go.Proofs.Ytmjkpgmmfooajaa
set_option maxRecDepth 20000
open Go.RowKit

/-- a short number's bytes, in at most so many steps -/
def varGo : Nat → Nat → List Int
  | 0, v => [(v : Int)]
  | f + 1, v => if v < 128 then [(v : Int)] else ((128 + v % 128 : Nat) : Int) :: varGo f (v / 128)

theorem varGo_fuel : ∀ (f g v : Nat), v ≤ f → v ≤ g → varGo f v = varGo g v
  | 0, 0, _, _, _ => rfl
  | 0, g + 1, v, h, _ => by
    have : v < 128 := by omega
    simp [varGo, this]
  | f + 1, 0, v, _, h => by
    have : v < 128 := by omega
    simp [varGo, this]
  | f + 1, g + 1, v, h1, h2 => by
    by_cases hv : v < 128
    · simp [varGo, hv]
    · simp only [varGo, if_neg hv]
      rw [varGo_fuel f g (v / 128) (by omega) (by omega)]

/-- a short number's bytes -/
def varBytes (v : Nat) : List Int := varGo v v

theorem varBytes_lt {v : Nat} (h : v < 128) : varBytes v = [(v : Int)] := by
  unfold varBytes
  cases v with
  | zero => rfl
  | succ n => rw [varGo, if_pos h]
theorem varBytes_ge {v : Nat} (h : ¬ v < 128) : varBytes v = ((128 + v % 128 : Nat) : Int) :: varBytes (v / 128) := by
  obtain ⟨n, rfl⟩ : ∃ n, v = n + 1 := ⟨v - 1, by omega⟩
  unfold varBytes
  rw [varGo, if_neg h, varGo_fuel n ((n + 1) / 128) ((n + 1) / 128) (by omega) (Nat.le_refl _)]

def varLen (v : Nat) : Nat := (varBytes v).length
theorem varLen_lt {v : Nat} (h : v < 128) : varLen v = 1 := by rw [varLen, varBytes_lt h]; rfl
theorem varLen_ge {v : Nat} (h : ¬ v < 128) : varLen v = varLen (v / 128) + 1 := by rw [varLen, varBytes_ge h]; rfl

theorem varLen_le5 {v : Nat} (h : v < 4294967296) : 1 ≤ varLen v ∧ varLen v ≤ 5 := by
  by_cases h1 : v < 128
  · rw [varLen_lt h1]; omega
  · rw [varLen_ge h1]
    by_cases h2 : v / 128 < 128
    · rw [varLen_lt h2]; omega
    · rw [varLen_ge h2]
      by_cases h3 : v / 128 / 128 < 128
      · rw [varLen_lt h3]; omega
      · rw [varLen_ge h3]
        by_cases h4 : v / 128 / 128 / 128 < 128
        · rw [varLen_lt h4]; omega
        · rw [varLen_ge h4, varLen_lt (by omega)]; omega

theorem varBytes_ok (v : Nat) : ByteOk (varBytes v) := by
  induction v using Nat.strongRecOn with
  | ind v ih =>
    intro z hz
    by_cases h : v < 128
    · rw [varBytes_lt h] at hz; simp at hz; omega
    · rw [varBytes_ge h] at hz
      rcases List.mem_cons.1 hz with rfl | hz
      · omega
      · exact ih (v / 128) (by omega) z hz

theorem bl_gt (k x : Nat) (h : 2 ^ k ≤ x) (hx : x < 2 ^ 64) : k + 1 ≤ Lib.bitLen x := by
  rw [Lib.bitLen_shift k x h hx]
  have hp : 0 < 2 ^ k := Nat.two_pow_pos k
  have h1 : 1 ≤ x / 2 ^ k := (Nat.le_div_iff_mul_le hp).2 (by omega)
  have h2 : x / 2 ^ k ≤ x := Nat.div_le_self _ _
  rw [Lib.bitLen_half (x / 2 ^ k) (by omega) (by omega)]
  omega

theorem or_one (v : Nat) : v ||| 1 = 2 * (v / 2) + 1 := by
  have h1 : (v ||| 1) / 2 = v / 2 := by rw [Nat.or_div_two]; simp
  have h2 : (v ||| 1) % 2 = 1 := by rw [Nat.or_mod_two_eq_one]; simp
  omega

theorem size_len (v : Nat) (h : v < 4294967296) : (Lib.bitLen (v ||| 1) + 6) / 7 = varLen v := by
  rw [or_one]
  obtain ⟨x, hx⟩ : ∃ x, x = 2 * (v / 2) + 1 := ⟨_, rfl⟩
  rw [← hx]
  have le : ∀ k, x < 2 ^ k → Lib.bitLen x ≤ k := fun k hk => Lib.bitLenAux_le 64 x k hk
  have gt : ∀ k, 2 ^ k ≤ x → k + 1 ≤ Lib.bitLen x := fun k hk => bl_gt k x hk (by omega)
  by_cases h1 : v < 128
  · rw [varLen_lt h1]
    have a := le 7 (by omega); have b := gt 0 (by omega); omega
  · rw [varLen_ge h1]
    by_cases h2 : v / 128 < 128
    · rw [varLen_lt h2]
      have a := le 14 (by omega); have b := gt 7 (by omega); omega
    · rw [varLen_ge h2]
      by_cases h3 : v / 128 / 128 < 128
      · rw [varLen_lt h3]
        have a := le 21 (by omega); have b := gt 14 (by omega); omega
      · rw [varLen_ge h3]
        by_cases h4 : v / 128 / 128 / 128 < 128
        · rw [varLen_lt h4]
          have a := le 28 (by omega); have b := gt 21 (by omega); omega
        · rw [varLen_ge h4, varLen_lt (by omega)]
          have a := le 32 (by omega); have b := gt 28 (by omega); omega

set_option maxRecDepth 100000 in
theorem len32_any (x : Int) (w : World) (h0 : 0 ≤ x) (h1 : x ≤ 4294967295) :
    Calls Try.prog 56 #[.int .u32 x] w fun e w' => e = .returned (.int .i64 (Lib.bitLen x.toNat)) ∧ w' = w := by
  by_cases c1 : 65536 ≤ x
  · by_cases c2 : 256 ≤ x / 65536
    · have k0 : 0 ≤ x / 65536 / 256 := by omega
      have k1 : x / 65536 / 256 ≤ 255 := by omega
      go_enter Try.func56, Try.ntmps56
      have l := Lib.bitLen_le8' (x / 65536 / 256) (by omega) (by omega)
      have s := Lib.bitLen_shift24 x.toNat (by omega) (by omega)
      have e : (x / 65536 / 256).toNat = x.toNat / 16777216 := by omega
      have q := Lib.len8_of (x / 65536 / 256) (by omega) (by omega)
      rw [e] at l q
      have Q : Hid _ := q
      have S : Hid _ := s
      have hq : 0 ≤ Lib.len8 (x / 65536 / 256) ∧ Lib.len8 (x / 65536 / 256) ≤ 8 := by omega
      clear q e l s
      go_wp2
      go_ret
      refine ⟨ret_int ?_, rfl⟩
      rw [S.out]
      have := Q.out
      omega
    · have k0 : 0 ≤ x / 65536 := by omega
      have k1 : x / 65536 ≤ 255 := by omega
      go_enter Try.func56, Try.ntmps56
      have l := Lib.bitLen_le8' (x / 65536) (by omega) (by omega)
      have s := Lib.bitLen_shift16 x.toNat (by omega) (by omega)
      have e : (x / 65536).toNat = x.toNat / 65536 := by omega
      have q := Lib.len8_of (x / 65536) (by omega) (by omega)
      rw [e] at l q
      have Q : Hid _ := q
      have S : Hid _ := s
      have hq : 0 ≤ Lib.len8 (x / 65536) ∧ Lib.len8 (x / 65536) ≤ 8 := by omega
      clear q e l s
      go_wp2
      go_ret
      refine ⟨ret_int ?_, rfl⟩
      rw [S.out]
      have := Q.out
      omega
  · by_cases c2 : 256 ≤ x
    · have k0 : 0 ≤ x / 256 := by omega
      have k1 : x / 256 ≤ 255 := by omega
      go_enter Try.func56, Try.ntmps56
      have l := Lib.bitLen_le8' (x / 256) (by omega) (by omega)
      have s := Lib.bitLen_shift8 x.toNat (by omega) (by omega)
      have e : (x / 256).toNat = x.toNat / 256 := by omega
      have q := Lib.len8_of (x / 256) (by omega) (by omega)
      rw [e] at l q
      have Q : Hid _ := q
      have S : Hid _ := s
      have hq : 0 ≤ Lib.len8 (x / 256) ∧ Lib.len8 (x / 256) ≤ 8 := by omega
      clear q e l s
      go_wp2
      go_ret
      refine ⟨ret_int ?_, rfl⟩
      rw [S.out]
      have := Q.out
      omega
    · have k1 : x ≤ 255 := by omega
      have l := Lib.bitLen_le8' x (by omega) (by omega)
      have q := Lib.len8_of x (by omega) (by omega)
      have Q : Hid _ := q
      have hq : 0 ≤ Lib.len8 x ∧ Lib.len8 x ≤ 8 := by omega
      clear q l
      go_enter Try.func56, Try.ntmps56
      go_wp2
      go_ret
      refine ⟨ret_int ?_, rfl⟩
      have := Q.out
      omega

theorem size_any (v : Nat) (w : World) (h1 : v < 4294967296) :
    Calls Try.prog 54 #[.int .u32 v] w fun e w' => e = .returned (.int .i64 (varLen v)) ∧ w' = w := by
  have hor : bits .or .u32 (v : Int) 1 = ((v ||| 1 : Nat) : Int) := u32_or_nat v 1 h1 (by omega)
  have hlt : v ||| 1 < 4294967296 := by rw [or_one]; omega
  have hs := size_len v h1
  have H := len32_any ((v ||| 1 : Nat) : Int) w (by omega) (by omega)
  obtain ⟨x, hx⟩ : ∃ x, x = v ||| 1 := ⟨_, rfl⟩
  rw [← hx] at hor hs H
  have hb : Lib.bitLen x ≤ 64 := Lib.bitLenAux_le 64 x 64 (by omega)
  clear hx hlt
  rw [show ((x : Nat) : Int).toNat = x by omega] at H
  obtain ⟨l, hl⟩ : ∃ l, l = Lib.bitLen x := ⟨_, rfl⟩
  rw [← hl] at hs H hb
  have HS : Hid (_ = _) := hs
  clear hl hs
  go_enter Try.func54, Try.ntmps54
  go_wp2_with (go_at_call 56; refine H.mono ?_; rintro e w1 ⟨rfl, rfl⟩)
  go_ret
  exact ⟨ret_int (by rw [← HS.out]; omega), rfl⟩

end Go.Proofs.Ytmjkpgmmfooajaa
