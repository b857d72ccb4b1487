/- CRC-32C in numbers: the register goes on by a bit, by bytes; that it is linear; the product by which it goes on by many noughts at once. No program. -/
import Derived.WalkKit
namespace Go.Proofs.YtmeiahmolmneeaaDoor
set_option maxRecDepth 20000

def poly : Nat := 2197175160

/-- the register, one bit on -/
def stp (r : Nat) : Nat := r / 2 ^^^ (if r % 2 = 1 then poly else 0)
/-- so many bits on -/
def stpN : Nat → Nat → Nat
  | 0, r => r
  | n + 1, r => stpN n (stp r)

theorem xor_swap (a b c d : Nat) : (a ^^^ b) ^^^ (c ^^^ d) = (a ^^^ c) ^^^ (b ^^^ d) := by
  rw [Nat.xor_assoc, ← Nat.xor_assoc b c d, Nat.xor_comm b c, Nat.xor_assoc c b d, ← Nat.xor_assoc]
theorem xor_cancel (a b : Nat) : a ^^^ (a ^^^ b) = b := by rw [← Nat.xor_assoc, Nat.xor_self, Nat.zero_xor]
theorem xor_lt32 {a b : Nat} (ha : a < 4294967296) (hb : b < 4294967296) : a ^^^ b < 4294967296 := Nat.xor_lt_two_pow (n := 32) ha hb
theorem xor_eq_zero {a b : Nat} (h : a ^^^ b = 0) : a = b := by
  have := congrArg (a ^^^ ·) h
  simp only [xor_cancel, Nat.xor_zero] at this
  exact this.symm

theorem xor_lin (o a x y : Nat) : o ^^^ (a ^^^ (x ^^^ y)) = ((o ^^^ (a ^^^ x)) ^^^ (o ^^^ (a ^^^ y))) ^^^ (o ^^^ a) := by
  rw [xor_swap o (a ^^^ x) o (a ^^^ y), Nat.xor_self, Nat.zero_xor, xor_swap a x a y, Nat.xor_self, Nat.zero_xor, Nat.xor_comm (x ^^^ y), Nat.xor_assoc]

theorem sel_xor (a b x : Nat) : (if (a ^^^ b) % 2 = 1 then x else 0) = (if a % 2 = 1 then x else 0) ^^^ (if b % 2 = 1 then x else 0) := by
  have h : (a ^^^ b) % 2 = (a + b) % 2 := by
    rcases Nat.mod_two_eq_zero_or_one (a ^^^ b) with h | h
    · rw [h]
      have := (not_congr (Nat.xor_mod_two_eq_one (a := a) (b := b))).1 (by omega)
      omega
    · rw [h]
      have := (Nat.xor_mod_two_eq_one (a := a) (b := b)).1 h
      omega
  rw [h]
  rcases Nat.mod_two_eq_zero_or_one a with ha | ha <;> rcases Nat.mod_two_eq_zero_or_one b with hb | hb <;> simp [Nat.add_mod, ha, hb]

theorem stp_xor (a b : Nat) : stp (a ^^^ b) = stp a ^^^ stp b := by
  unfold stp
  rw [sel_xor, Nat.xor_div_two, xor_swap]
theorem stp_zero : stp 0 = 0 := by simp [stp]
theorem stp_lt {r : Nat} (h : r < 4294967296) : stp r < 4294967296 := by
  unfold stp
  refine xor_lt32 (by omega) ?_
  split <;> simp [poly]
theorem stp_double (x : Nat) : stp (2 * x) = x := by
  unfold stp
  rw [if_neg (by omega), Nat.xor_zero]; omega
theorem stp_inj {r : Nat} (h : r < 4294967296) (h0 : stp r = 0) : r = 0 := by
  unfold stp at h0
  have := xor_eq_zero h0
  split at this
  · unfold poly at this; omega
  · omega

theorem stpN_xor : ∀ n a b, stpN n (a ^^^ b) = stpN n a ^^^ stpN n b
  | 0, _, _ => rfl
  | n + 1, a, b => by rw [stpN, stp_xor, stpN_xor n]; rfl
theorem stpN_zero : ∀ n, stpN n 0 = 0
  | 0 => rfl
  | n + 1 => by rw [stpN, stp_zero, stpN_zero n]
theorem stpN_lt : ∀ n {r}, r < 4294967296 → stpN n r < 4294967296
  | 0, _, h => h
  | n + 1, _, h => stpN_lt n (stp_lt h)
theorem stpN_add : ∀ m n r, stpN (m + n) r = stpN n (stpN m r)
  | 0, n, r => by rw [Nat.zero_add]; rfl
  | m + 1, n, r => by rw [Nat.add_right_comm, stpN, stpN_add m n]; rfl
theorem stpN_succ (n r : Nat) : stpN (n + 1) r = stp (stpN n r) := stpN_add n 1 r
theorem stpN_shift : ∀ n x, stpN n (2 ^ n * x) = x
  | 0, x => by simp [stpN]
  | n + 1, x => by rw [stpN, Nat.pow_succ, Nat.mul_comm (2 ^ n) 2, Nat.mul_assoc, stp_double, stpN_shift n]
theorem stpN_inj : ∀ n {r}, r < 4294967296 → stpN n r = 0 → r = 0
  | 0, _, _, h0 => h0
  | n + 1, _, h, h0 => stp_inj h (stpN_inj n (stp_lt h) h0)

theorem xor_low (k q l : Nat) (h : l < 2 ^ k) : 2 ^ k * q ^^^ l = 2 ^ k * q + l := by
  apply Nat.eq_of_testBit_eq
  intro i
  rw [Nat.testBit_xor, Nat.testBit_two_pow_mul_add _ h, Nat.testBit_two_pow_mul]
  by_cases hi : i < k
  · rw [if_pos hi]; simp [show ¬ i ≥ k by omega]
  · rw [if_neg hi, Nat.testBit_lt_two_pow (Nat.lt_of_lt_of_le h (Nat.pow_le_pow_right (by omega) (by omega)))]
    simp [show i ≥ k by omega]

/-! ### four bits at once -/
def tab : List Int := [0, 274646895, 549293790, 820201905, 1098587580, 1361435347, 1640403810, 1905808397, 2197175160, 2460548119, 2722870694, 2987750089, 3280807620, 3553878443, 3811616794, 4084100981]
theorem tab_is : ∀ i : Fin 16, tab.getD i.val 0 = ((stpN 4 i.val : Nat) : Int) := by decide
theorem tab_at (r : Nat) : tab.getD (r % 16) 0 = ((stpN 4 (r % 16) : Nat) : Int) := tab_is ⟨r % 16, by omega⟩
theorem four (r : Nat) : r / 16 ^^^ stpN 4 (r % 16) = stpN 4 r := by
  have e : r = 2 ^ 4 * (r / 16) ^^^ r % 16 := by rw [xor_low 4 _ _ (by omega)]; omega
  conv => rhs; rw [e, stpN_xor, stpN_shift]

/-! ### bytes -/
def reg (r : Nat) : List Int → Nat
  | [] => r
  | c :: cs => reg (stpN 8 (r ^^^ c.toNat)) cs

theorem reg_append : ∀ (xs ys : List Int) (r : Nat), reg r (xs ++ ys) = reg (reg r xs) ys
  | [], _, _ => rfl
  | c :: cs, ys, r => by rw [List.cons_append, reg, reg_append cs ys]; rfl
theorem reg_lt : ∀ (xs : List Int) (r : Nat), (∀ z ∈ xs, 0 ≤ z ∧ z ≤ 255) → r < 4294967296 → reg r xs < 4294967296
  | [], _, _, h => h
  | c :: cs, r, hb, h => by
    have := hb c (List.mem_cons_self ..)
    exact reg_lt cs _ (fun z hz => hb z (List.mem_cons_of_mem _ hz)) (stpN_lt 8 (xor_lt32 h (by omega)))
/-- one byte behind -/
theorem reg_snoc (xs : List Int) (c : Int) (r : Nat) : reg r (xs ++ [c]) = stpN 8 (reg r xs ^^^ c.toNat) := by rw [reg_append]; rfl

/-- bytes as one number, the first lowest -/
def num : List Int → Nat
  | [] => 0
  | c :: cs => c.toNat ^^^ 2 ^ 8 * num cs
theorem reg_num : ∀ (xs : List Int) (r : Nat), reg r xs = stpN (8 * xs.length) (r ^^^ num xs)
  | [], r => by simp [reg, stpN, num]
  | c :: cs, r => by
    rw [reg, reg_num cs, List.length_cons, num, ← Nat.xor_assoc, Nat.mul_add, Nat.mul_one, Nat.add_comm (8 * cs.length) 8, stpN_add 8, stpN_xor 8 (r ^^^ c.toNat), stpN_shift]
theorem reg_from (xs : List Int) (r s : Nat) : reg (r ^^^ s) xs = stpN (8 * xs.length) r ^^^ reg s xs := by
  rw [reg_num, reg_num, Nat.xor_assoc, stpN_xor]

/-- bytes turned over into others -/
def xorB (a b : Int) : Int := ((a.toNat ^^^ b.toNat : Nat) : Int)
theorem num_xor : ∀ (xs ys : List Int), xs.length = ys.length → num (List.zipWith xorB xs ys) = num xs ^^^ num ys
  | [], [], _ => rfl
  | x :: xs, y :: ys, h => by
    rw [List.zipWith_cons_cons, num, num, num, num_xor xs ys (by simpa using h)]
    have e : (xorB x y).toNat = x.toNat ^^^ y.toNat := by unfold xorB; omega
    have e2 : 2 ^ 8 * (num xs ^^^ num ys) = 2 ^ 8 * num xs ^^^ 2 ^ 8 * num ys := by
      have := Nat.shiftLeft_xor_distrib (a := num xs) (b := num ys) (i := 8)
      simp only [Nat.shiftLeft_eq] at this
      rw [Nat.mul_comm, this, Nat.mul_comm, Nat.mul_comm (num ys)]
    rw [e, e2, xor_swap]
theorem reg_xor (xs ys : List Int) (r s : Nat) (h : xs.length = ys.length) : reg (r ^^^ s) (List.zipWith xorB xs ys) = reg r xs ^^^ reg s ys := by
  rw [reg_num, reg_num, reg_num, num_xor xs ys h, List.length_zipWith, h, Nat.min_self, xor_swap, stpN_xor]

/-! ### sums -/
def ones : Nat := 4294967295
def addS (s : Nat) (xs : List Int) : Nat := ones ^^^ reg (ones ^^^ s) xs
def ofS (xs : List Int) : Nat := addS 0 xs

theorem addS_lt {s : Nat} {xs : List Int} (hb : ∀ z ∈ xs, 0 ≤ z ∧ z ≤ 255) (hs : s < 4294967296) : addS s xs < 4294967296 :=
  xor_lt32 (by simp [ones]) (reg_lt xs _ hb (xor_lt32 (by simp [ones]) hs))
theorem ofS_lt {xs : List Int} (hb : ∀ z ∈ xs, 0 ≤ z ∧ z ≤ 255) : ofS xs < 4294967296 := addS_lt hb (by omega)
theorem addS_append (s : Nat) (xs ys : List Int) : addS (addS s xs) ys = addS s (xs ++ ys) := by
  unfold addS
  rw [xor_cancel, reg_append]
theorem ofS_append (xs ys : List Int) : addS (ofS xs) ys = ofS (xs ++ ys) := addS_append 0 xs ys
theorem ofS_two (xs ys : List Int) : stpN (8 * ys.length) (ofS xs) ^^^ ofS ys = ofS (xs ++ ys) := by
  rw [← ofS_append]
  unfold ofS addS
  rw [Nat.xor_zero, Nat.xor_comm ones (ones ^^^ reg ones xs), reg_from, ← Nat.xor_assoc, Nat.xor_comm _ ones, Nat.xor_assoc]
theorem ofS_linear (xs ys zs : List Int) (h1 : xs.length = ys.length) (hz : zs = List.replicate xs.length 0) : ofS (List.zipWith xorB xs ys) = (ofS xs ^^^ ofS ys) ^^^ ofS zs := by
  have hn : ∀ n, num (List.replicate n 0) = 0 := by
    intro n
    induction n with
    | zero => rfl
    | succ n ih => rw [List.replicate_succ, num, ih]; rfl
  unfold ofS addS
  rw [Nat.xor_zero, reg_num (List.zipWith xorB xs ys), reg_num xs, reg_num ys, reg_num zs, num_xor xs ys h1, hz, hn, Nat.xor_zero, List.length_zipWith, ← h1, Nat.min_self, List.length_replicate]
  rw [stpN_xor _ ones (num xs ^^^ num ys), stpN_xor _ (num xs) (num ys), stpN_xor _ ones (num xs), stpN_xor _ ones (num ys)]
  exact xor_lin _ _ _ _

/-! ### the product -/
/-- of a by the low n bits of b: bit i stands for n - 1 - i bits on -/
def mul : Nat → Nat → Nat → Nat
  | 0, _, _ => 0
  | n + 1, a, b => (if b % 2 = 1 then stpN n a else 0) ^^^ mul n a (b / 2)

theorem mul_zero : ∀ n a, mul n a 0 = 0
  | 0, _ => rfl
  | n + 1, a => by simp [mul, mul_zero n a]
theorem mul_xor_right : ∀ n a b c, mul n a (b ^^^ c) = mul n a b ^^^ mul n a c
  | 0, _, _, _ => by simp [mul]
  | n + 1, a, b, c => by rw [mul, mul, mul, sel_xor, Nat.xor_div_two, mul_xor_right n, xor_swap]
theorem mul_xor_left : ∀ n a b c, mul n (a ^^^ b) c = mul n a c ^^^ mul n b c
  | 0, _, _, _ => by simp [mul]
  | n + 1, a, b, c => by
    rw [mul, mul, mul, mul_xor_left n, xor_swap, stpN_xor]
    split <;> simp
theorem mul_stp : ∀ n a b, stp (mul n a b) = mul n (stp a) b
  | 0, _, _ => by simp [mul, stp_zero]
  | n + 1, a, b => by
    rw [mul, mul, stp_xor, mul_stp n]
    congr 1
    split
    · rw [← stpN_succ]; rfl
    · rfl
theorem mul_up : ∀ n a b, b < 2 ^ n → mul (n + 1) a b = mul n (stp a) b
  | 0, a, b, h => by
    obtain rfl : b = 0 := by simpa using h
    simp [mul]
  | n + 1, a, b, h => by
    have ih := mul_up n a (b / 2) (by rw [Nat.pow_succ] at h; omega)
    rw [mul, ih]
    conv => rhs; rw [mul]
    rfl
theorem mul_pow : ∀ i n a, mul (n + 1 + i) a (2 ^ i) = stpN n a
  | 0, n, a => by simp [mul, mul_zero]
  | i + 1, n, a => by
    rw [show n + 1 + (i + 1) = (n + 1 + i) + 1 by omega, mul, Nat.pow_succ, if_neg (by omega), Nat.zero_xor, Nat.mul_div_cancel _ (by omega), mul_pow i]

/-- the product's round, the highest bit first -/
theorem mul_round (a b : Nat) (h : b < 4294967296) : mul 32 a b = (if 2147483648 ≤ b then a else 0) ^^^ mul 32 (stp a) (2 * b % 4294967296) := by
  have h2 : ∀ c, c < 2147483648 → mul 32 (stp a) (2 * c) = mul 32 a c := by
    intro c hc
    rw [mul_up 31 a c hc]
    rw [show (32 : Nat) = 31 + 1 from rfl, mul, if_neg (by omega), Nat.zero_xor, Nat.mul_div_cancel_left _ (by omega)]
  by_cases hb : 2147483648 ≤ b
  · have e : b = 2 ^ 31 * 1 ^^^ (b - 2147483648) := by rw [xor_low 31 _ _ (by omega)]; omega
    rw [if_pos hb, show 2 * b % 4294967296 = 2 * (b - 2147483648) by omega, h2 _ (by omega)]
    conv => lhs; rw [e, mul_xor_right, Nat.mul_one]
    congr 1
    exact mul_pow 31 0 a
  · rw [if_neg hb, Nat.zero_xor, show 2 * b % 4294967296 = 2 * b by omega, h2 _ (by omega)]

theorem lin_zero {f : Nat → Nat} (hf : ∀ a b, f (a ^^^ b) = f a ^^^ f b) : f 0 = 0 := by
  have := hf 0 0
  rw [Nat.xor_self, Nat.xor_self] at this
  exact this
theorem lin_ext {f g : Nat → Nat} (hf : ∀ a b, f (a ^^^ b) = f a ^^^ f b) (hg : ∀ a b, g (a ^^^ b) = g a ^^^ g b) :
    ∀ k, (∀ i, i < k → f (2 ^ i) = g (2 ^ i)) → ∀ a, a < 2 ^ k → f a = g a
  | 0, _, a, h => by
    obtain rfl : a = 0 := by simpa using h
    rw [lin_zero hf, lin_zero hg]
  | k + 1, hi, a, h => by
    have ih := lin_ext hf hg k (fun i h => hi i (by omega))
    by_cases ha : a < 2 ^ k
    · exact ih a ha
    · rw [Nat.pow_succ] at h
      have e : a = 2 ^ k * 1 ^^^ (a - 2 ^ k) := by rw [xor_low k _ _ (by omega)]; omega
      have h1 := ih (a - 2 ^ k) (by omega)
      have h2 := hi k (by omega)
      rw [e, hf, hg, h1, Nat.mul_one, h2]

set_option maxRecDepth 100000 in
theorem basis : ∀ i : Fin 32, mul 32 (2 ^ i.val) poly = stpN 32 (2 ^ i.val) := by decide +kernel
/-- the polynomial itself: 32 bits on -/
theorem mul_poly (a : Nat) (h : a < 4294967296) : mul 32 a poly = stpN 32 a :=
  lin_ext (f := fun a => mul 32 a poly) (g := stpN 32) (fun a b => mul_xor_left 32 a b poly) (stpN_xor 32) 32 (fun i hi => basis ⟨i, hi⟩) a h

theorem mul_stp_right (a b : Nat) (ha : a < 4294967296) (hb : b < 4294967296) : mul 32 a (stp b) = stp (mul 32 a b) := by
  have e1 : mul 32 a (b / 2) = mul 31 (stp a) (b / 2) := mul_up 31 a (b / 2) (by omega)
  have e2 : stp (mul 32 a b) = (if b % 2 = 1 then stpN 32 a else 0) ^^^ mul 31 (stp a) (b / 2) := by
    rw [show mul 32 a b = (if b % 2 = 1 then stpN 31 a else 0) ^^^ mul 31 a (b / 2) from rfl, stp_xor, mul_stp]
    congr 1
    split
    · exact (stpN_succ 31 a).symm
    · rfl
  rw [e2, ← e1]
  unfold stp
  rw [mul_xor_right, Nat.xor_comm]
  congr 1
  split
  · exact mul_poly a ha
  · exact mul_zero 32 a
theorem mul_stpN_right : ∀ n (a b : Nat), a < 4294967296 → b < 4294967296 → mul 32 a (stpN n b) = stpN n (mul 32 a b)
  | 0, _, _, _, _ => rfl
  | n + 1, a, b, ha, hb => by rw [stpN, mul_stpN_right n a (stp b) ha (stp_lt hb), mul_stp_right a b ha hb]; rfl

/-- what multiplies by it goes k bits on -/
def Pow (s k : Nat) : Prop := s < 4294967296 ∧ ∀ x, x < 4294967296 → mul 32 x s = stpN k x
theorem pow_byte : Pow 8388608 8 := ⟨by omega, fun x _ => mul_pow 23 8 x⟩
theorem pow_square {s k : Nat} (h : Pow s k) : Pow (mul 32 s s) (2 * k) := by
  obtain ⟨h1, h2⟩ := h
  refine ⟨?_, fun x hx => ?_⟩
  · rw [h2 s h1]; exact stpN_lt k h1
  · rw [h2 s h1, mul_stpN_right k x s hx h1, h2 x hx, Nat.two_mul, stpN_add]

end Go.Proofs.YtmeiahmolmneeaaDoor
