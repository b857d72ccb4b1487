/- Sets of pages as functions; bits of words; how bits are counted. No program. -/
import Derived.Test.YtbnhacibkmcmkaaDoorBase
import Derived.Laws.BitsAllLaws
import Derived.Lib.TrailingZeros
namespace Go.Proofs.YtbnhacibkmcmkaaDoor
set_option maxRecDepth 20000
open Go.RowKit

/-- the number whose lowest k bits are f's -/
def wdB : Nat → (Nat → Bool) → Nat
  | 0, _ => 0
  | k + 1, f => (f 0).toNat + 2 * wdB k (fun j => f (j + 1))
theorem wdB_lt : ∀ (k : Nat) (f : Nat → Bool), wdB k f < 2 ^ k
  | 0, f => by simp [wdB]
  | k + 1, f => by
    have := wdB_lt k (fun j => f (j + 1))
    have h2 : (f 0).toNat ≤ 1 := by cases f 0 <;> simp
    rw [wdB, Nat.pow_succ]; omega
theorem wdB_bit : ∀ (k : Nat) (f : Nat → Bool) (j : Nat), (wdB k f).testBit j = (decide (j < k) && f j)
  | 0, f, j => by simp [wdB]
  | k + 1, f, 0 => by
    rw [wdB, Nat.testBit_zero]
    cases f 0 <;> simp <;> omega
  | k + 1, f, j + 1 => by
    have h2 : (f 0).toNat ≤ 1 := by cases f 0 <;> simp
    rw [wdB, Nat.testBit_succ, show ((f 0).toNat + 2 * wdB k fun j => f (j + 1)) / 2 = wdB k fun j => f (j + 1) by omega, wdB_bit k _ j]
    simp
theorem wdB_of {k x : Nat} {f : Nat → Bool} (hx : x < 2 ^ k) (h : ∀ j, j < k → x.testBit j = f j) : x = wdB k f := by
  apply Nat.eq_of_testBit_eq
  intro j
  rw [wdB_bit]
  by_cases hj : j < k
  · simp [hj, h j hj]
  · rw [Nat.testBit_lt_two_pow (Nat.lt_of_lt_of_le hx (Nat.pow_le_pow_right (by decide) (by omega)))]
    simp [hj]
/-- word i of a set -/
def word (f : Nat → Bool) (i : Nat) : Nat := wdB 64 (fun j => f (64 * i + j))
theorem word_lt (f : Nat → Bool) (i : Nat) : word f i < 18446744073709551616 := wdB_lt 64 _
theorem word_bit (f : Nat → Bool) (i j : Nat) (hj : j < 64) : (word f i).testBit j = f (64 * i + j) := by rw [word, wdB_bit]; simp [hj]
theorem word_bit' (f : Nat → Bool) (i j : Nat) : (word f i).testBit j = (decide (j < 64) && f (64 * i + j)) := by rw [word, wdB_bit]
theorem word_of {x i : Nat} {f : Nat → Bool} (hx : x < 18446744073709551616) (h : ∀ j, j < 64 → x.testBit j = f (64 * i + j)) : x = word f i := wdB_of (k := 64) hx h
theorem word_ext {f g : Nat → Bool} {i : Nat} (h : ∀ j, j < 64 → f (64 * i + j) = g (64 * i + j)) : word f i = word g i := word_of (word_lt _ _) (fun j hj => by rw [word_bit f i j hj, h j hj])
theorem word_none {f : Nat → Bool} {i : Nat} (h : ∀ j, j < 64 → f (64 * i + j) = false) : word f i = 0 := (word_of (x := 0) (by omega) (fun j hj => by rw [h j hj]; simp)).symm

/-- page p's bit -/
theorem word_has (f : Nat → Bool) (p : Nat) : (word f (p / 64) &&& 2 ^ (p % 64) = 0) ↔ f p = false := by
  rw [nat_bit]
  have hb := word_bit f (p / 64) (p % 64) (Nat.mod_lt _ (by decide))
  rw [show 64 * (p / 64) + p % 64 = p by omega, Nat.testBit_eq_decide_div_mod_eq] at hb
  have h2 := Nat.mod_lt (word f (p / 64) / 2 ^ (p % 64)) (show 0 < 2 by decide)
  have hpos : 0 < 2 ^ (p % 64) := Nat.two_pow_pos _
  rw [← hb]
  constructor
  · intro h
    rcases Nat.mul_eq_zero.1 h with h | h
    · simp [h]
    · omega
  · intro h
    have : word f (p / 64) / 2 ^ (p % 64) % 2 = 0 := by
      have h3 : ¬ word f (p / 64) / 2 ^ (p % 64) % 2 = 1 := of_decide_eq_false h
      omega
    rw [this, Nat.zero_mul]
/-- page p turned -/
def flip (f : Nat → Bool) (p : Nat) : Nat → Bool := fun q => if q = p then !f q else f q
theorem two_pow_lt64 {j : Nat} (h : j < 64) : 2 ^ j < 18446744073709551616 := Nat.pow_lt_pow_right (a := 2) (by decide) h
theorem word_flip (f : Nat → Bool) (p : Nat) : word f (p / 64) ^^^ 2 ^ (p % 64) = word (flip f p) (p / 64) := by
  refine word_of (Nat.xor_lt_two_pow (n := 64) (word_lt _ _) (two_pow_lt64 (Nat.mod_lt _ (by decide)))) (fun j hj => ?_)
  rw [Nat.testBit_xor, word_bit f _ j hj, Nat.testBit_two_pow, flip]
  by_cases h : p % 64 = j
  · have e : 64 * (p / 64) + j = p := by omega
    rw [e, if_pos rfl]
    simp [h]
  · rw [if_neg (by omega)]
    simp [h]
theorem word_flip_other (f : Nat → Bool) (p i : Nat) (h : i ≠ p / 64) : word (flip f p) i = word f i := word_ext (fun j hj => by rw [flip, if_neg (by omega)])

/-! ### how many -/
def cntF (f : Nat → Bool) : Nat → Nat
  | 0 => 0
  | n + 1 => cntF f n + (f n).toNat
theorem cntF_le (f : Nat → Bool) : ∀ n, cntF f n ≤ n
  | 0 => Nat.le_refl _
  | n + 1 => by have := cntF_le f n; have : (f n).toNat ≤ 1 := by cases f n <;> simp
                rw [cntF]; omega
theorem cntF_add (f : Nat → Bool) (a : Nat) : ∀ b, cntF f (a + b) = cntF f a + cntF (fun j => f (a + j)) b
  | 0 => by simp [cntF]
  | b + 1 => by rw [← Nat.add_assoc, cntF, cntF, cntF_add f a b]; omega
theorem cntF_ext {f g : Nat → Bool} : ∀ {n : Nat}, (∀ j, j < n → f j = g j) → cntF f n = cntF g n
  | 0, _ => rfl
  | n + 1, h => by rw [cntF, cntF, cntF_ext (n := n) (fun j hj => h j (by omega)), h n (by omega)]
theorem cntF_none {f : Nat → Bool} : ∀ {n : Nat}, (∀ j, j < n → f j = false) → cntF f n = 0
  | 0, _ => rfl
  | n + 1, h => by rw [cntF, cntF_none (n := n) (fun j hj => h j (by omega)), h n (by omega)]; rfl
theorem cntF_not (f : Nat → Bool) : ∀ n, cntF (fun p => !f p) n + cntF f n = n
  | 0 => rfl
  | n + 1 => by have := cntF_not f n; rw [cntF, cntF]; cases f n <;> simp <;> omega
theorem cntF_past {f : Nat → Bool} {n m : Nat} (h : ∀ j, n ≤ j → f j = false) (hm : n ≤ m) : cntF f m = cntF f n := by
  obtain ⟨d, rfl⟩ : ∃ d, m = n + d := ⟨m - n, by omega⟩
  rw [cntF_add, cntF_none (f := fun j => f (n + j)) (fun j _ => h _ (Nat.le_add_right _ _)), Nat.add_zero]
theorem cntF_filter (f : Nat → Bool) : ∀ n, ((List.range n).filter f).length = cntF f n
  | 0 => rfl
  | n + 1 => by rw [List.range_succ, List.filter_append, List.length_append, cntF_filter f n, cntF, List.filter_cons]; cases f n <;> simp

/-! ### bits.OnesCount64 -/
def rep (c : Nat) : Nat → Nat
  | 0 => 0
  | k + 1 => c + 256 * rep c k
def dg (g : Nat → Nat) : Nat → Nat → Nat
  | 0, _ => 0
  | k + 1, x => g (x % 256) + 256 * dg g k (x / 256)
theorem and_split (a b : Nat) : a &&& b = (a % 256 &&& b % 256) + 256 * (a / 256 &&& b / 256) := by
  have h1 := Nat.and_mod_two_pow (a := a) (b := b) (n := 8)
  have h2 := Nat.and_div_two_pow (a := a) (b := b) (n := 8)
  have h3 := Nat.mod_add_div (a &&& b) 256
  rw [show (256 : Nat) = 2 ^ 8 from rfl] at h3 ⊢
  rw [h1, h2] at h3
  exact h3.symm
def f1 (b : Nat) : Nat := (b / 2 &&& 85) + (b &&& 85)
def f2 (b : Nat) : Nat := (b / 4 &&& 51) + (b &&& 51)
theorem low1 : ∀ y : Fin 512, (y.val / 2 &&& 85) = (y.val % 256 / 2 &&& 85) := by decide +kernel
theorem low2 : ∀ y : Fin 1024, (y.val / 4 % 256 &&& 51) = (y.val % 256 / 4 &&& 51) := by decide +kernel
theorem step1 : ∀ (k x : Nat), (x / 2 &&& rep 85 k) + (x &&& rep 85 k) = dg f1 k x
  | 0, x => by simp [rep, dg]
  | k + 1, x => by
    have ih := step1 k (x / 256)
    have e1 : rep 85 (k + 1) % 256 = 85 := by rw [rep]; omega
    have e2 : rep 85 (k + 1) / 256 = rep 85 k := by rw [rep]; omega
    rw [and_split (x / 2), and_split x, e1, e2, dg, ← ih, show x / 2 / 256 = x / 256 / 2 by omega]
    have := low1 ⟨x % 512, Nat.mod_lt _ (by decide)⟩
    simp only at this
    rw [show x % 512 / 2 = x / 2 % 256 by omega, show x % 512 % 256 = x % 256 by omega] at this
    rw [this, f1]
    omega
theorem step2 : ∀ (k x : Nat), (x / 4 &&& rep 51 k) + (x &&& rep 51 k) = dg f2 k x
  | 0, x => by simp [rep, dg]
  | k + 1, x => by
    have ih := step2 k (x / 256)
    have e1 : rep 51 (k + 1) % 256 = 51 := by rw [rep]; omega
    have e2 : rep 51 (k + 1) / 256 = rep 51 k := by rw [rep]; omega
    rw [and_split (x / 4), and_split x, e1, e2, dg, ← ih, show x / 4 / 256 = x / 256 / 4 by omega]
    have := low2 ⟨x % 1024, Nat.mod_lt _ (by decide)⟩
    simp only at this
    rw [show x % 1024 / 4 % 256 = x / 4 % 256 by omega, show x % 1024 % 256 = x % 256 by omega] at this
    rw [this, f2]
    omega
theorem dg_low {g : Nat → Nat} (hg : ∀ b, b < 256 → g b % 16 ≤ 4) : ∀ (k x : Nat), dg g k x % 16 ≤ 4
  | 0, x => by simp [dg]
  | k + 1, x => by have := hg (x % 256) (Nat.mod_lt _ (by decide)); rw [dg]; omega
theorem step3 {g : Nat → Nat} (h1 : ∀ b, b < 256 → g b % 16 ≤ 4) (h2 : ∀ b, b < 256 → g b ≤ 68) : ∀ (k z : Nat), (dg g k z / 16 + dg g k z) &&& rep 15 k = dg (fun b => g b / 16 + g b % 16) k z
  | 0, x => by simp [rep, dg]
  | k + 1, z => by
    have ih := step3 h1 h2 k (z / 256)
    have e1 : rep 15 (k + 1) % 256 = 15 := by rw [rep]; omega
    have e2 : rep 15 (k + 1) / 256 = rep 15 k := by rw [rep]; omega
    have hx := dg_low h1 k (z / 256)
    have hc1 := h1 (z % 256) (Nat.mod_lt _ (by decide))
    have hc2 := h2 (z % 256) (Nat.mod_lt _ (by decide))
    rw [and_split, e1, e2, dg, dg, ← ih]
    generalize dg g k (z / 256) = x' at *
    generalize g (z % 256) = c at *
    rw [show ((c + 256 * x') / 16 + (c + 256 * x')) / 256 = x' / 16 + x' by omega, show (15 : Nat) = 2 ^ 4 - 1 from rfl, Nat.and_two_pow_sub_one_eq_mod]
    omega
theorem dg_dg {g h : Nat → Nat} (hh : ∀ b, b < 256 → h b < 256) : ∀ (k x : Nat), dg g k (dg h k x) = dg (fun b => g (h b)) k x
  | 0, x => rfl
  | k + 1, x => by
    have := hh (x % 256) (Nat.mod_lt _ (by decide))
    rw [dg, dg, dg, show (h (x % 256) + 256 * dg h k (x / 256)) % 256 = h (x % 256) by omega, show (h (x % 256) + 256 * dg h k (x / 256)) / 256 = dg h k (x / 256) by omega, dg_dg hh]
theorem f1_lt : ∀ b : Fin 256, f1 b.val < 256 := by decide +kernel
theorem f21_low : ∀ b : Fin 256, f2 (f1 b.val) % 16 ≤ 4 ∧ f2 (f1 b.val) ≤ 68 := by decide +kernel
def pop8 (b : Nat) : Nat := f2 (f1 b) / 16 + f2 (f1 b) % 16
theorem pop8_cnt : ∀ b : Fin 256, pop8 b.val = cntF b.val.testBit 8 := by decide +kernel
theorem cntF_dg (x m : Nat) : cntF x.testBit (8 + m) = pop8 (x % 256) + cntF (x / 256).testBit m := by
  rw [cntF_add]
  have := pop8_cnt ⟨x % 256, Nat.mod_lt _ (by decide)⟩
  simp only at this
  rw [this]
  congr 1
  · exact cntF_ext (fun j hj => by rw [show (256 : Nat) = 2 ^ 8 from rfl, Nat.testBit_mod_two_pow]; simp [hj])
  · exact cntF_ext (fun j hj => by rw [show (256 : Nat) = 2 ^ 8 from rfl, Nat.testBit_div_two_pow, Nat.add_comm])
theorem ones_sum (x : Nat) : cntF x.testBit 64 = pop8 (x % 256) + (pop8 (x / 256 % 256) + (pop8 (x / 256 / 256 % 256) + (pop8 (x / 256 / 256 / 256 % 256) + (pop8 (x / 256 / 256 / 256 / 256 % 256) + (pop8 (x / 256 / 256 / 256 / 256 / 256 % 256) + (pop8 (x / 256 / 256 / 256 / 256 / 256 / 256 % 256) + pop8 (x / 256 / 256 / 256 / 256 / 256 / 256 / 256 % 256))))))) := by
  rw [show 64 = 8 + (8 + (8 + (8 + (8 + (8 + (8 + (8 + 0))))))) from rfl]
  simp only [cntF_dg]
  simp [cntF]
theorem pop8_le : ∀ b : Fin 256, pop8 b.val ≤ 8 := by decide +kernel
/-- what bits.OnesCount64 reckons -/
def oc1 (x : Nat) : Nat := (x / 2 &&& 6148914691236517205) + (x &&& 6148914691236517205)
def oc2 (x : Nat) : Nat := (x / 4 &&& 3689348814741910323) + (x &&& 3689348814741910323)
def oc3 (x : Nat) : Nat := (x / 16 + x) &&& 1085102592571150095
theorem oc_dg (x : Nat) : oc3 (oc2 (oc1 x)) = dg pop8 8 x := by
  have e1 : oc1 x = dg f1 8 x := step1 8 x
  have e2 : oc2 (dg f1 8 x) = dg (fun b => f2 (f1 b)) 8 x := (step2 8 _).trans (dg_dg (fun b hb => f1_lt ⟨b, hb⟩) 8 x)
  rw [e1, e2]
  exact step3 (g := fun b => f2 (f1 b)) (fun b hb => (f21_low ⟨b, hb⟩).1) (fun b hb => (f21_low ⟨b, hb⟩).2) 8 x
theorem oc_div (s0 s1 R : Nat) (h0 : s0 < 256) (h1 : s1 < 256) : (s0 + 256 * (s1 + 256 * R)) / 65536 = R := by omega
theorem oc_div4 (s0 s1 s2 s3 R : Nat) (h0 : s0 < 256) (h1 : s1 < 256) (h2 : s2 < 256) (h3 : s3 < 256) : (s0 + 256 * (s1 + 256 * (s2 + 256 * (s3 + 256 * R)))) / 4294967296 = R := by omega
theorem oc_arith (p0 p1 p2 p3 p4 p5 p6 p7 y z1 z2 z3 : Nat) (h0 : p0 ≤ 8) (h1 : p1 ≤ 8) (h2 : p2 ≤ 8) (h3 : p3 ≤ 8) (h4 : p4 ≤ 8) (h5 : p5 ≤ 8) (h6 : p6 ≤ 8) (h7 : p7 ≤ 8)
    (hy : y = p0 + 256 * (p1 + 256 * (p2 + 256 * (p3 + 256 * (p4 + 256 * (p5 + 256 * (p6 + 256 * p7))))))) (hz1 : y + y / 256 = z1) (hz2 : z1 + z1 / 65536 = z2) (hz3 : z2 + z2 / 4294967296 = z3) :
    z1 < 9223372036854775808 ∧ z2 < 9223372036854775808 ∧ z3 < 9223372036854775808 ∧ y < 9223372036854775808 ∧ z3 % 128 = p0 + (p1 + (p2 + (p3 + (p4 + (p5 + (p6 + p7)))))) := by
  have e1 : y / 256 = p1 + 256 * (p2 + 256 * (p3 + 256 * (p4 + 256 * (p5 + 256 * (p6 + 256 * p7))))) := by
    rw [hy]; generalize p1 + 256 * (p2 + 256 * (p3 + 256 * (p4 + 256 * (p5 + 256 * (p6 + 256 * p7))))) = A; omega
  have e2 : z1 = (p0 + p1) + 256 * ((p1 + p2) + 256 * ((p2 + p3) + 256 * ((p3 + p4) + 256 * ((p4 + p5) + 256 * ((p5 + p6) + 256 * ((p6 + p7) + 256 * p7)))))) := by
    rw [← hz1, e1, hy]; clear e1 hy hz1 hz2 hz3; simp only [Nat.mul_add]; ac_rfl
  have e3 : z1 / 65536 = (p2 + p3) + 256 * ((p3 + p4) + 256 * ((p4 + p5) + 256 * ((p5 + p6) + 256 * ((p6 + p7) + 256 * p7)))) := by rw [e2]; exact oc_div _ _ _ (by omega) (by omega)
  have e4 : z2 = (p0 + p1 + p2 + p3) + 256 * ((p1 + p2 + p3 + p4) + 256 * ((p2 + p3 + p4 + p5) + 256 * ((p3 + p4 + p5 + p6) + 256 * ((p4 + p5 + p6 + p7) + 256 * ((p5 + p6 + p7) + 256 * ((p6 + p7) + 256 * p7)))))) := by
    rw [← hz2, e3, e2]; clear e1 e2 e3 hy hz1 hz2 hz3; simp only [Nat.mul_add]; ac_rfl
  have e5 : z2 / 4294967296 = (p4 + p5 + p6 + p7) + 256 * ((p5 + p6 + p7) + 256 * ((p6 + p7) + 256 * p7)) := by rw [e4]; exact oc_div4 _ _ _ _ _ (by omega) (by omega) (by omega) (by omega)
  have b1 : z1 < 9223372036854775808 := by rw [e2]; clear e1 e2 e3 e4 e5 hy hz1 hz2 hz3; omega
  have b2 : z2 < 9000000000000000000 := by rw [e4]; clear e1 e2 e3 e4 e5 hy hz1 hz2 hz3; omega
  have b3 : y < 9223372036854775808 := by rw [hy]; clear e1 e2 e3 e4 e5 hy hz1 hz2 hz3; omega
  refine ⟨b1, by omega, by omega, b3, ?_⟩
  rw [← hz3, e5, e4]
  clear e1 e2 e3 e4 e5 hy hz1 hz2 hz3 b1 b2 b3
  generalize (p1 + p2 + p3 + p4) + 256 * ((p2 + p3 + p4 + p5) + 256 * ((p3 + p4 + p5 + p6) + 256 * ((p4 + p5 + p6 + p7) + 256 * ((p5 + p6 + p7) + 256 * ((p6 + p7) + 256 * p7))))) = A
  generalize (p5 + p6 + p7) + 256 * ((p6 + p7) + 256 * p7) = B
  omega
theorem oc_end (x y z1 z2 z3 : Nat) (hy : oc3 (oc2 (oc1 x)) = y) (hz1 : y + y / 256 = z1) (hz2 : z1 + z1 / 65536 = z2) (hz3 : z2 + z2 / 4294967296 = z3) :
    z1 < 9223372036854775808 ∧ z2 < 9223372036854775808 ∧ z3 < 9223372036854775808 ∧ y < 9223372036854775808 ∧ z3 % 128 = cntF x.testBit 64 := by
  rw [oc_dg] at hy
  rw [ones_sum]
  have hp : ∀ z, pop8 (z % 256) ≤ 8 := fun z => pop8_le ⟨z % 256, Nat.mod_lt _ (by decide)⟩
  exact oc_arith _ _ _ _ _ _ _ _ y z1 z2 z3 (hp _) (hp _) (hp _) (hp _) (hp _) (hp _) (hp _) (hp _) (by rw [← hy]; simp only [dg, Nat.mul_zero, Nat.add_zero]) hz1 hz2 hz3

end Go.Proofs.YtbnhacibkmcmkaaDoor
