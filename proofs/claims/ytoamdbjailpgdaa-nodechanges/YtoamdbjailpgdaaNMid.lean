/- Where a node is cut (layer 10), in numbers; no program. -/
import Derived.Test.YtoamdbjailpgdaaNMath
namespace Go.Proofs.Ytoamdbjailpgdaa
set_option maxRecDepth 20000
open Go.RowKit
set_option linter.unusedVariables false

/-- the bytes of both halves, cut at place k -/
def fstC (l : List Nat) (k : Nat) : Nat := (l.take k).sum
def sndC (lf : Bool) (l : List Nat) (k : Nat) : Nat := if lf then (l.drop k).sum else (l.drop (k + 1)).sum
def apartC (lf : Bool) (l : List Nat) (k : Nat) : Nat := (fstC l k - sndC lf l k) + (sndC lf l k - fstC l k)
/-- the best place among the first k, and how far apart its halves are -/
def midK (lf : Bool) (l : List Nat) : Nat → Nat × Nat
  | 0 => (0, 0)
  | k + 1 => if fstC l k = 0 ∨ sndC lf l k = 0 then midK lf l k else if 0 < (midK lf l k).1 ∧ (midK lf l k).2 ≤ apartC lf l k then midK lf l k else (k, apartC lf l k)
def midN (lf : Bool) (l : List Nat) : Nat := (midK lf l l.length).1

def AdmC (lf : Bool) (l : List Nat) (k : Nat) : Prop := fstC l k ≠ 0 ∧ sndC lf l k ≠ 0

theorem midK_ok (lf : Bool) (l : List Nat) : ∀ k, ((midK lf l k).1 = 0 ∧ ∀ j, j < k → ¬ AdmC lf l j) ∨ (0 < (midK lf l k).1 ∧ (midK lf l k).1 < k ∧ AdmC lf l (midK lf l k).1 ∧ (midK lf l k).2 = apartC lf l (midK lf l k).1 ∧ ∀ j, j < k → AdmC lf l j → (midK lf l k).2 ≤ apartC lf l j)
  | 0 => .inl ⟨rfl, fun j hj => by omega⟩
  | k + 1 => by
    have ih := midK_ok lf l k
    rw [midK]
    by_cases h1 : fstC l k = 0 ∨ sndC lf l k = 0
    · rw [if_pos h1]
      have hn : ¬ AdmC lf l k := fun h => h1.elim h.1 h.2
      rcases ih with ⟨a, b⟩ | ⟨a, b, c, d, e⟩
      · exact .inl ⟨a, fun j hj => if hjk : j = k then hjk ▸ hn else b j (by omega)⟩
      · exact .inr ⟨a, by omega, c, d, fun j hj ha => if hjk : j = k then absurd (hjk ▸ ha) hn else e j (by omega) ha⟩
    · rw [if_neg h1]
      have hadm : AdmC lf l k := ⟨fun h => h1 (.inl h), fun h => h1 (.inr h)⟩
      by_cases h2 : 0 < (midK lf l k).1 ∧ (midK lf l k).2 ≤ apartC lf l k
      · rw [if_pos h2]
        rcases ih with ⟨a, b⟩ | ⟨a, b, c, d, e⟩
        · omega
        · exact .inr ⟨a, by omega, c, d, fun j hj ha => if hjk : j = k then hjk ▸ h2.2 else e j (by omega) ha⟩
      · rw [if_neg h2]
        have hk0 : 0 < k := by
          rcases Nat.eq_zero_or_pos k with h | h
          · subst h; exact absurd (show fstC l 0 = 0 by simp [fstC]) hadm.1
          · exact h
        refine .inr ⟨hk0, by simp, hadm, rfl, fun j hj ha => ?_⟩
        by_cases hjk : j = k
        · subst hjk; exact Nat.le_refl _
        · rcases ih with ⟨a, b⟩ | ⟨a, b, c, d, e⟩
          · exact absurd ha (b j (by omega))
          · have := e j (by omega) ha
            have h3 : ¬ (midK lf l k).2 ≤ apartC lf l k := fun h => h2 ⟨a, h⟩
            show apartC lf l k ≤ _
            omega
theorem midN_ok (lf : Bool) (l : List Nat) (h : 0 < midN lf l) : midN lf l < l.length ∧ AdmC lf l (midN lf l) ∧ ∀ j, j < l.length → AdmC lf l j → apartC lf l (midN lf l) ≤ apartC lf l j := by
  unfold midN at *
  rcases midK_ok lf l l.length with ⟨a, _⟩ | ⟨a, b, c, d, e⟩
  · omega
  · exact ⟨b, c, fun j hj ha => d ▸ e j hj ha⟩

theorem sum_take_succ (l : List Nat) (k : Nat) (h : k < l.length) : (l.take (k + 1)).sum = (l.take k).sum + l.getD k 0 := by
  rw [List.take_succ_eq_append_getElem h, List.sum_append]
  simp [List.getD, h]
theorem sum_drop_succ (l : List Nat) (k : Nat) (h : k < l.length) : (l.drop k).sum = l.getD k 0 + (l.drop (k + 1)).sum := by
  rw [List.drop_eq_getElem_cons h, List.sum_cons]
  simp [List.getD, h]
theorem sum_split (l : List Nat) (k : Nat) : (l.take k).sum + (l.drop k).sum = l.sum := by
  rw [← List.sum_append, List.take_append_drop]
theorem part_le (l : List Nat) (m : Nat) (hm : ∀ x ∈ l, x ≤ m) (k : Nat) : l.getD k 0 ≤ m := by
  by_cases h : k < l.length
  · have := hm l[k] (List.getElem_mem h)
    simpa [List.getD, h] using this
  · simp [List.getD, Nat.le_of_not_lt h]

/-- something that rises by small steps comes near each number on its way -/
theorem near (f : Nat → Nat) (S d : Nat) : ∀ n, f 0 ≤ S → S ≤ f n → (∀ k, k < n → f (k + 1) ≤ f k + d) → ∃ k, k ≤ n ∧ 2 * f k ≤ 2 * S + d ∧ 2 * S ≤ 2 * f k + d
  | 0, h0, h1, _ => ⟨0, Nat.le_refl _, by omega, by omega⟩
  | n + 1, h0, h1, hs => by
    by_cases h : S ≤ f n
    · obtain ⟨k, hk, a, b⟩ := near f S d n h0 h (fun k hk => hs k (by omega))
      exact ⟨k, by omega, a, b⟩
    · have := hs n (by omega)
      by_cases h2 : 2 * f (n + 1) ≤ 2 * S + d
      · exact ⟨n + 1, Nat.le_refl _, h2, by omega⟩
      · exact ⟨n, by omega, by omega, by omega⟩

/-- a leaf's parts, of 51 bytes at most, together from 240 to 290 -/
theorem cut_leaf (l : List Nat) (hm : ∀ x ∈ l, x ≤ 51) (h1 : 240 ≤ l.sum) (h2 : l.sum ≤ 290) (h : 0 < midN true l) : 59 ≤ fstC l (midN true l) ∧ fstC l (midN true l) ≤ 239 ∧ 59 ≤ sndC true l (midN true l) ∧ sndC true l (midN true l) ≤ 239 := by
  obtain ⟨hlt, hadm, hmin⟩ := midN_ok true l h
  generalize midN true l = r at *
  obtain ⟨k, hk, a, b⟩ := near (fun k => 2 * (l.take k).sum) l.sum 102 l.length (by simp) (by simp; omega) (fun k hk => by
    have := sum_take_succ l k hk
    have := part_le l 51 hm k
    try simp only
    omega)
  try simp only at a b
  have hs := sum_split l k
  have hsr := sum_split l r
  have hkl : k < l.length := by
    rcases Nat.lt_or_ge k l.length with h | h
    · exact h
    · have : l.take k = l := List.take_of_length_le h
      rw [this] at a b
      omega
  have := hmin k hkl ⟨by unfold fstC; omega, by unfold sndC; simp only [if_true]; omega⟩
  unfold apartC fstC sndC at this
  unfold fstC sndC
  simp only [if_true] at *
  omega
/-- an inner node's parts, of 28 bytes at most, together from 238 to 265 -/
theorem cut_inner (l : List Nat) (hm : ∀ x ∈ l, x ≤ 28) (h1 : 238 ≤ l.sum) (h2 : l.sum ≤ 265) (h : 0 < midN false l) : 57 ≤ fstC l (midN false l) ∧ fstC l (midN false l) ≤ 237 ∧ 57 ≤ sndC false l (midN false l) ∧ sndC false l (midN false l) ≤ 237 := by
  obtain ⟨hlt, hadm, hmin⟩ := midN_ok false l h
  generalize midN false l = r at *
  have hp : 1 ≤ l.length := by omega
  have tk : ∀ k, (l.take (k + 1)).sum = (l.take k).sum + l.getD k 0 := fun k => by
    by_cases hk : k < l.length
    · exact sum_take_succ l k hk
    · rw [List.take_of_length_le (by omega), List.take_of_length_le (by omega)]
      simp [List.getD, Nat.le_of_not_lt hk]
  obtain ⟨k, hk, a, b⟩ := near (fun k => (l.take k).sum + (l.take (k + 1)).sum) l.sum 56 l.length (by
    have := tk 0
    have := part_le l 28 hm 0
    simp at *
    omega) (by rw [List.take_of_length_le (Nat.le_refl _)]; omega) (fun k hk => by
    have := tk k
    have := tk (k + 1)
    have := part_le l 28 hm k
    have := part_le l 28 hm (k + 1)
    try simp only
    omega)
  try simp only at a b
  have hs := sum_split l k
  have hs1 := sum_split l (k + 1)
  have hsr := sum_split l r
  have hsr1 := sum_split l (r + 1)
  have t1 := tk k
  have t2 := tk r
  have p1 := part_le l 28 hm k
  have p2 := part_le l 28 hm r
  have hkl : k < l.length := by
    rcases Nat.lt_or_ge k l.length with h | h
    · exact h
    · have e1 : l.take k = l := List.take_of_length_le h
      have e2 : l.take (k + 1) = l := List.take_of_length_le (by omega)
      rw [e1, e2] at a b
      omega
  have := hmin k hkl ⟨by unfold fstC; omega, by unfold sndC; simp only [Bool.false_eq_true, if_false]; omega⟩
  unfold apartC fstC sndC at this
  unfold fstC sndC
  simp only [Bool.false_eq_true, if_false] at *
  omega

end Go.Proofs.Ytoamdbjailpgdaa
