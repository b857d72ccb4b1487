/- What was put is taken again: the plain mathematics, and each call that takes, at what was put. -/
import Derived.Test.YtbopcppagfhjnaaRdText
import Derived.Test.YtbopcppagfhjnaaPutNum
import Derived.Test.YtbopcppagfhjnaaPutText
namespace Go.Proofs.Ytbopcppagfhjnaa
open Go.RowKit

theorem numAcc_snoc : ∀ (l : List Int) (acc : Nat) (c : Int), numAcc acc (l ++ [c]) = numAcc acc l * 256 + c.toNat
  | [], _, _ => rfl
  | x :: l, acc, c => by rw [List.cons_append, numAcc, numAcc, numAcc_snoc l]

theorem numOf_numBytes : ∀ (n x : Nat), x < 256 ^ n → numOf (numBytes x n) = x
  | 0, x, h => by
    have : x = 0 := by simpa using h
    subst this; rfl
  | n + 1, x, h => by
    rw [Nat.pow_succ] at h
    rw [numBytes, numOf, numAcc_snoc]
    have := numOf_numBytes n (x / 256) (by omega)
    unfold numOf at this
    rw [this]
    omega

theorem takeS_num (x n : Nat) (rest : List Int) : takeS (numBytes x n ++ rest) 0 n = (numBytes x n, rest, 0) := by
  have hl := numBytes_len n x
  rw [takeS, if_neg (by simp), if_neg (by omega), if_neg (by simp [hl]; omega)]
  rw [show ((n : Nat) : Int).toNat = n by omega, List.take_left' hl, List.drop_left' hl]

theorem shortAux_var : ∀ (x i acc : Nat) (rest : List Int), i ≤ 4 → (0 < i → x ≠ 0) → x * 128 ^ i < 4294967296 → shortAux i acc (varBytes x ++ rest) = (acc + x * 128 ^ i, i + varLen x, 0) := by
  intro x
  induction x using Nat.strongRecOn with
  | ind x ih =>
    intro i acc rest hi hx hlt
    by_cases h : x < 128
    · have h4 : ¬ (i = 4 ∧ (15 : Int) < (x : Int)) := by
        rintro ⟨rfl, h'⟩
        simp only [Nat.reducePow] at hlt
        omega
      rw [varBytes_lt h, varLen_lt h, List.cons_append, shortAux, if_neg (by rintro (h' | ⟨h1, h2⟩); exact h4 h'; have := hx h1; omega), if_pos (by omega)]
      simp
    · have hi3 : i ≤ 3 := by
        apply Nat.le_of_not_lt
        intro h3
        have : i = 4 := by omega
        subst this
        simp only [Nat.reducePow] at hlt
        omega
      have e : x * 128 ^ i = x % 128 * 128 ^ i + x / 128 * 128 ^ (i + 1) := by
        have : x = x % 128 + 128 * (x / 128) := by omega
        rw [Nat.pow_succ]
        conv => lhs; rw [this, Nat.add_mul]
        congr 1
        rw [Nat.mul_comm 128, Nat.mul_assoc, Nat.mul_comm 128]
      have := ih (x / 128) (by omega) (i + 1) (acc + x % 128 * 128 ^ i) rest (by omega) (by omega) (by omega)
      rw [varBytes_ge h, varLen_ge h, List.cons_append, shortAux, if_neg (by rintro (h' | ⟨_, h2⟩) <;> omega), if_neg (by omega)]
      rw [show (((128 + x % 128 : Nat) : Int).toNat) % 128 = x % 128 by omega]
      rw [this, e]
      simp only [Prod.mk.injEq, and_true]
      omega

theorem short_var (x : Nat) (rest : List Int) (h : x < 4294967296) : short (varBytes x ++ rest) = (x, varLen x, 0) := by
  rw [short, shortAux_var x 0 0 rest (by omega) (by omega) (by simpa using h)]
  simp

theorem textS_text (ts : List Int) (hl : ts.length ≤ 255) : textS (textBytes ts) 0 255 = (ts, [], 0) := by
  have ht : tlen (textBytes ts) 255 = ((ts.length : Int), 0) := by
    rw [tlen, if_neg (by omega), if_neg (by simp [textBytes])]
    have e : (textBytes ts).getD 0 0 = (ts.length : Int) := rfl
    have el : (textBytes ts).length = ts.length + 1 := rfl
    rw [e, el, if_neg (by omega), if_neg (by omega)]
  rw [textS, if_neg (by simp), ht]
  simp only [ne_eq, not_true, if_false]
  have e1 : 1 + ((ts.length : Int)).toNat = (textBytes ts).length := by simp [textBytes]; omega
  rw [e1, List.take_length, List.drop_length]
  rfl

/-- what was put of the i-th number -/
def put1 (i x : Nat) : List Int :=
  if i % 4 = 0 then varBytes (x % 4294967296) else if i % 4 = 1 then numBytes x 8 else if i % 4 = 2 then numBytes (x % 65536) 2 else numBytes (x % 4294967296) 4
def putAll : Nat → List Int → List Int
  | _, [] => []
  | i, x :: xs => put1 i x.toNat ++ putAll (i + 1) xs

theorem put1_len (i x : Nat) : (put1 i x).length ≤ 8 := by
  unfold put1
  split
  · have : varLen (x % 4294967296) ≤ 5 := (varLen_le5 (by omega)).2
    unfold varLen at this
    omega
  · split
    · rw [numBytes_len]; omega
    · split <;> rw [numBytes_len] <;> omega

theorem putAll_snoc : ∀ (xs : List Int) (i : Nat) (x : Int), putAll i (xs ++ [x]) = putAll i xs ++ put1 (i + xs.length) x.toNat
  | [], i, x => by simp [putAll]
  | y :: xs, i, x => by
    rw [List.cons_append, putAll, putAll, putAll_snoc xs, List.append_assoc, List.length_cons]
    congr 3
    omega

theorem putAll_len : ∀ (xs : List Int) (i : Nat), (putAll i xs).length ≤ 8 * xs.length
  | [], _ => by simp [putAll]
  | x :: xs, i => by
    have h1 := put1_len i x.toNat
    have h2 := putAll_len xs (i + 1)
    rw [putAll, List.length_append, List.length_cons]
    omega

theorem backVar (w : World) (b : Nat) (u : Value) (X : Nat) (rest : List Int) (h : Rd w b u (varBytes (X % 4294967296) ++ rest) 0) :
    Calls Try.prog 34 #[.pointer (some ⟨b, 0, none⟩)] w fun e w' => e = .returned (.int .u32 ((X : Int) % 4294967296)) ∧ w.grownBy w' (some b) ∧ ∃ u', Rd w' b u' rest 0 := by
  have HV := readerVar_ok w b u _ h
  rw [short_var _ _ (by omega)] at HV
  rw [List.drop_left' (show (varBytes (X % 4294967296)).length = varLen (X % 4294967296) from rfl)] at HV
  exact HV

theorem backU64 (w : World) (b : Nat) (u : Value) (X : Nat) (rest : List Int) (hX : X < 18446744073709551616) (h : Rd w b u (numBytes X 8 ++ rest) 0) :
    Calls Try.prog 35 #[.pointer (some ⟨b, 0, none⟩)] w fun e w' => e = .returned (.int .u64 X) ∧ w.grownBy w' (some b) ∧ ∃ u', Rd w' b u' rest 0 := by
  have HV := readerU64_any w b u _ 0 h
  have e := takeS_num X 8 rest
  simp only [Int.cast_ofNat_Int] at e
  rw [e, numOf_numBytes 8 X (by omega)] at HV
  exact HV

theorem backU16 (w : World) (b : Nat) (u : Value) (X : Nat) (rest : List Int) (h : Rd w b u (numBytes (X % 65536) 2 ++ rest) 0) :
    Calls Try.prog 36 #[.pointer (some ⟨b, 0, none⟩)] w fun e w' => e = .returned (.int .u16 ((X : Int) % 65536)) ∧ w.grownBy w' (some b) ∧ ∃ u', Rd w' b u' rest 0 := by
  have HV := readerU16_any w b u _ 0 h
  have e := takeS_num (X % 65536) 2 rest
  simp only [Int.cast_ofNat_Int] at e
  rw [e, numOf_numBytes 2 (X % 65536) (by omega)] at HV
  exact HV

theorem backU32 (w : World) (b : Nat) (u : Value) (X : Nat) (rest : List Int) (h : Rd w b u (numBytes (X % 4294967296) 4 ++ rest) 0) :
    Calls Try.prog 37 #[.pointer (some ⟨b, 0, none⟩)] w fun e w' => e = .returned (.int .u32 ((X : Int) % 4294967296)) ∧ w.grownBy w' (some b) ∧ ∃ u', Rd w' b u' rest 0 := by
  have HV := readerU32_any w b u _ 0 h
  have e := takeS_num (X % 4294967296) 4 rest
  simp only [Int.cast_ofNat_Int] at e
  rw [e, numOf_numBytes 4 (X % 4294967296) (by omega)] at HV
  exact HV

end Go.Proofs.Ytbopcppagfhjnaa
