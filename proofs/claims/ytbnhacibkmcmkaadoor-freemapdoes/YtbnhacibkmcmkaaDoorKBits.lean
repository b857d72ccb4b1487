/- A free map's pages as bytes: which bit is which page; there and back. No program. -/
import Derived.Test.YtbnhacibkmcmkaaDoorKMath
namespace Go.Proofs.YtbnhacibkmcmkaaDoor
set_option maxRecDepth 20000
open Go.RowKit
set_option linter.unusedVariables false

def zeros (n : Nat) : List Int := List.replicate n 0
def orBit (bs : List Int) (p : Nat) : List Int := bs.set (p / 8) (((bs.getD (p / 8) 0).toNat ||| 2 ^ (p % 8) : Nat) : Int)
theorem orBit_length (bs : List Int) (p : Nat) : (orBit bs p).length = bs.length := by simp [orBit]
def putF (i : Nat) : List Int → List Int → List Int
  | bs, [] => bs
  | bs, k :: r => putF i (if k.toNat / 1024 = i then orBit bs (k.toNat % 1024) else bs) r
def putS (i : Nat) (ks : List Int) : List Int := putF i (zeros 240) ks
/-- one more -/
def putN (i : Nat) (bs : List Int) (k : Int) : List Int := if k.toNat / 1024 = i then orBit bs (k.toNat % 1024) else bs
theorem putF_snoc (i : Nat) : ∀ (ks : List Int) (bs : List Int) (k : Int), putF i bs (ks ++ [k]) = putN i (putF i bs ks) k
  | [], bs, k => rfl
  | a :: ks, bs, k => putF_snoc i ks _ k
theorem putN_length (i : Nat) (bs : List Int) (k : Int) : (putN i bs k).length = bs.length := by
  unfold putN
  split
  · exact orBit_length _ _
  · rfl
theorem putF_length (i : Nat) : ∀ (ks : List Int) (bs : List Int), (putF i bs ks).length = bs.length
  | [], _ => rfl
  | k :: ks, bs => by
    rw [putF, putF_length i ks]
    exact putN_length i bs k
theorem putS_length (i : Nat) (ks : List Int) : (putS i ks).length = 240 := by rw [putS, putF_length]; simp [zeros]
theorem zeros_ok (n : Nat) : ByteOk (zeros n) := fun z hz => by
  have := List.eq_of_mem_replicate hz
  omega
theorem or_lt (x r : Nat) (hx : x < 256) (hr : r < 8) : x ||| 2 ^ r < 256 := Nat.or_lt_two_pow (n := 8) hx (Nat.pow_lt_pow_right (by decide) hr)
theorem orBit_ok {bs : List Int} (h : ByteOk bs) (p : Nat) : ByteOk (orBit bs p) := fun z hz => by
  rcases List.mem_or_eq_of_mem_set hz with h1 | h1
  · exact h z h1
  · have := h.get (p / 8)
    have := or_lt (bs.getD (p / 8) 0).toNat (p % 8) (by omega) (Nat.mod_lt _ (by decide))
    omega
theorem putN_ok {bs : List Int} (h : ByteOk bs) (i : Nat) (k : Int) : ByteOk (putN i bs k) := by
  unfold putN
  split
  · exact orBit_ok h _
  · exact h
theorem putF_ok (i : Nat) : ∀ (ks : List Int) (bs : List Int), ByteOk bs → ByteOk (putF i bs ks)
  | [], _, h => h
  | k :: ks, bs, h => putF_ok i ks _ (putN_ok h i k)
theorem putS_ok (i : Nat) (ks : List Int) : ByteOk (putS i ks) := putF_ok i ks _ (zeros_ok 240)

/-- bit p -/
def tb (bs : List Int) (p : Nat) : Bool := (bs.getD (p / 8) 0).toNat.testBit (p % 8)
theorem tb_zeros (n p : Nat) : tb (zeros n) p = false := by
  have : (zeros n).getD (p / 8) 0 = 0 := by
    by_cases h : p / 8 < n
    · simp [zeros, List.getD, h]
    · simp [zeros, List.getD, h]
  rw [tb, this]
  simp
theorem tb_or {bs : List Int} {p q : Nat} (hp : p / 8 < bs.length) : tb (orBit bs p) q = (tb bs q || decide (q = p)) := by
  unfold tb orBit
  by_cases h8 : q / 8 = p / 8
  · rw [h8]
    have : (bs.set (p / 8) (((bs.getD (p / 8) 0).toNat ||| 2 ^ (p % 8) : Nat) : Int)).getD (p / 8) 0 = (((bs.getD (p / 8) 0).toNat ||| 2 ^ (p % 8) : Nat) : Int) := by simp [List.getD, hp]
    rw [this]
    simp only [Int.toNat_natCast, Nat.testBit_or, Nat.testBit_two_pow]
    congr 1
    rw [decide_eq_decide]
    omega
  · have : (bs.set (p / 8) (((bs.getD (p / 8) 0).toNat ||| 2 ^ (p % 8) : Nat) : Int)).getD (q / 8) 0 = bs.getD (q / 8) 0 := by
      simp only [List.getD]
      rw [List.getElem?_set_ne (fun e => h8 e.symm)]
    rw [this, decide_eq_false (show ¬ q = p by intro e; exact h8 (by rw [e])), Bool.or_false]
theorem tb_putF (i q : Nat) : ∀ (ks : List Int) (bs : List Int), bs.length = 240 → tb (putF i bs ks) q = (tb bs q || decide (∃ k ∈ ks, k.toNat / 1024 = i ∧ k.toNat % 1024 = q))
  | [], bs, _ => by simp [putF]
  | k :: ks, bs, hb => by
    rw [putF, tb_putF i q ks _ (by have := putN_length i bs k; unfold putN at this; omega)]
    by_cases hk : k.toNat / 1024 = i
    · rw [if_pos hk, tb_or (by omega), Bool.or_assoc]
      congr 1
      rw [Bool.eq_iff_iff]
      simp only [Bool.or_eq_true, decide_eq_true_eq, List.mem_cons, exists_eq_or_imp]
      constructor
      · rintro (h | h)
        · exact .inl ⟨hk, h.symm⟩
        · exact .inr h
      · rintro (h | h)
        · exact .inl h.2.symm
        · exact .inr h
    · rw [if_neg hk]
      congr 1
      rw [decide_eq_decide]
      simp only [List.mem_cons, exists_eq_or_imp]
      exact ⟨.inr, fun h => h.resolve_left (fun h => hk h.1)⟩
theorem tb_putS {n : Int} {ks : List Int} (h : riseB n (-1) ks = true) (i q : Nat) (hq : q < 1024) : tb (putS i ks) q = inL ks (1024 * i + q) := by
  rw [putS, tb_putF i q ks _ (by simp [zeros]), tb_zeros, Bool.false_or, inL, decide_eq_decide]
  constructor
  · rintro ⟨k, hk, h1, h2⟩
    have := riseB_mem h k hk
    have e : ((1024 * i + q : Nat) : Int) = k := by omega
    rw [e]; exact hk
  · intro hk
    exact ⟨_, hk, by omega, by omega⟩

/-! ### read -/
def rdRow (i : Nat) (bs : List Int) (m : Nat) : List Int := ((List.range m).filter (tb bs)).map (fun p => ((1024 * i + p : Nat) : Int))
theorem rdRow_snoc (i : Nat) (bs : List Int) (m : Nat) : rdRow i bs (m + 1) = rdRow i bs m ++ (if tb bs m = true then [((1024 * i + m : Nat) : Int)] else []) := by
  rw [rdRow, List.range_succ, List.filter_append, List.map_append, rdRow]
  congr 1
  rw [List.filter_cons]
  split <;> rfl
theorem rdRow_len (i : Nat) (bs : List Int) (m : Nat) : (rdRow i bs m).length ≤ m := by
  rw [rdRow, List.length_map]
  refine Nat.le_trans (List.length_filter_le _ _) ?_
  simp
def rdAll : Nat → List (List Int) → List Int
  | _, [] => []
  | i, r :: rs => rdRow i r (8 * min r.length 128) ++ rdAll (i + 1) rs
theorem rdAll_snoc : ∀ (rs : List (List Int)) (i : Nat) (r : List Int), rdAll i (rs ++ [r]) = rdAll i rs ++ rdRow (i + rs.length) r (8 * min r.length 128)
  | [], i, r => by simp [rdAll]
  | a :: rs, i, r => by
    rw [List.cons_append, rdAll, rdAll_snoc rs (i + 1) r, rdAll, List.append_assoc, List.length_cons, show i + 1 + rs.length = i + (rs.length + 1) by omega]
theorem rdAll_len : ∀ (rs : List (List Int)) (i : Nat), (rdAll i rs).length ≤ 1024 * rs.length
  | [], i => Nat.le_refl _
  | a :: rs, i => by
    rw [rdAll, List.length_append, List.length_cons]
    have := rdRow_len i a (8 * min a.length 128)
    have := rdAll_len rs (i + 1)
    omega
theorem mem_rdRow {i : Nat} {bs : List Int} {m : Nat} {z : Int} : z ∈ rdRow i bs m ↔ ∃ p, p < m ∧ tb bs p = true ∧ ((1024 * i + p : Nat) : Int) = z := by
  simp only [rdRow, List.mem_map, List.mem_filter, List.mem_range]
  constructor
  · rintro ⟨p, ⟨h1, h2⟩, h3⟩; exact ⟨p, h1, h2, h3⟩
  · rintro ⟨p, h1, h2, h3⟩; exact ⟨p, ⟨h1, h2⟩, h3⟩
theorem rdAll_ge : ∀ (rs : List (List Int)) (i : Nat) (z : Int), z ∈ rdAll i rs → ((1024 * i : Nat) : Int) ≤ z
  | [], i, z, h => by cases h
  | a :: rs, i, z, h => by
    rw [rdAll] at h
    rcases List.mem_append.1 h with h | h
    · obtain ⟨p, _, _, rfl⟩ := mem_rdRow.1 h
      omega
    · have := rdAll_ge rs (i + 1) z h
      omega
theorem rdAll_sorted : ∀ (rs : List (List Int)) (i : Nat), (rdAll i rs).Pairwise (· < ·)
  | [], i => List.Pairwise.nil
  | a :: rs, i => by
    rw [rdAll, List.pairwise_append]
    refine ⟨?_, rdAll_sorted rs (i + 1), fun x hx y hy => ?_⟩
    · rw [rdRow, List.pairwise_map]
      exact (List.Pairwise.filter _ List.pairwise_lt_range).imp (fun h => by omega)
    · obtain ⟨p, hp, _, rfl⟩ := mem_rdRow.1 hx
      have := rdAll_ge rs (i + 1) y hy
      omega
theorem mem_rdAll : ∀ (rs : List (List Int)) (i : Nat) (z : Int), z ∈ rdAll i rs ↔ ∃ j, j < rs.length ∧ z ∈ rdRow (i + j) (rs.getD j []) (8 * min (rs.getD j []).length 128)
  | [], i, z => by simp [rdAll]
  | a :: rs, i, z => by
    rw [rdAll, List.mem_append, mem_rdAll rs (i + 1) z]
    constructor
    · rintro (h | ⟨j, hj, h⟩)
      · exact ⟨0, by simp, by simpa using h⟩
      · refine ⟨j + 1, by simpa using hj, ?_⟩
        rw [show i + (j + 1) = i + 1 + j by omega]
        simpa using h
    · rintro ⟨j, hj, h⟩
      cases j with
      | zero => exact .inl (by simpa using h)
      | succ j =>
        refine .inr ⟨j, by simpa using hj, ?_⟩
        rw [show i + 1 + j = i + (j + 1) by omega]
        simpa using h

/-! ### there and back -/
/-- all pages of a list's free map -/
def putAllS (m : Nat) (ks : List Int) : List (List Int) := (List.range m).map (fun i => putS i ks)
theorem putAllS_len (m : Nat) (ks : List Int) : (putAllS m ks).length = m := by simp [putAllS]
theorem putAllS_get (m : Nat) (ks : List Int) (i : Nat) (h : i < m) : (putAllS m ks).getD i [] = putS i ks := by simp [putAllS, List.getD, h]
theorem putAllS_snoc (m : Nat) (ks : List Int) : putAllS (m + 1) ks = putAllS m ks ++ [putS m ks] := by rw [putAllS, List.range_succ, List.map_append]; rfl
theorem rd_back {n : Nat} {ks : List Int} (h : riseB n (-1) ks = true) (m : Nat) (hm : n ≤ 1024 * m) : rdAll 0 (putAllS m ks) = ks := by
  refine eq_of_sorted (rdAll_sorted _ _) (riseB_sorted h) (fun z => ?_)
  rw [mem_rdAll]
  constructor
  · rintro ⟨j, hj, hz⟩
    rw [putAllS_len] at hj
    rw [putAllS_get m ks j hj, putS_length] at hz
    obtain ⟨p, hp, ht, rfl⟩ := mem_rdRow.1 hz
    rw [tb_putS h _ _ (by omega)] at ht
    simp only [inL, decide_eq_true_eq] at ht
    rw [Nat.zero_add]
    exact ht
  · intro hz
    have hb := riseB_mem h z hz
    refine ⟨z.toNat / 1024, by rw [putAllS_len]; omega, ?_⟩
    rw [putAllS_get m ks _ (by omega), putS_length, mem_rdRow]
    refine ⟨z.toNat % 1024, by omega, ?_, by omega⟩
    rw [tb_putS h _ _ (by omega)]
    simp only [inL, decide_eq_true_eq]
    rw [show ((1024 * (z.toNat / 1024) + z.toNat % 1024 : Nat) : Int) = z by omega]
    exact hz

/-- what Get answers -/
def okRows (n : Int) (rs : List (List Int)) : Bool := mayB n (rdAll 0 rs) && decide (∀ i, i < rs.length → rs.getD i [] = putS i (rdAll 0 rs))
def getE (n : Int) (rs : List (List Int)) : Int := if sizeB n then (if (rs.length : Int) = needN n then (if okRows n rs then 0 else 80) else 80) else 1
def getL (n : Int) (rs : List (List Int)) : List Int := if getE n rs = 0 then rdAll 0 rs else []

end Go.Proofs.YtbnhacibkmcmkaaDoor
