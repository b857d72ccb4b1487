/- The runes of bytes, by their forms (pure): what decoding answers, there and back, in pieces. No program. -/
import Derived.Test.YtimmfnjkknbofaaDoorFU8
import Derived.Test.YtimmfnjkknbofaaDoorFForm
namespace Go.Proofs.YtimmfnjkknbofaaDoor
set_option maxRecDepth 20000
open Go.RowKit
set_option linter.unusedVariables false
set_option linter.unusedSimpArgs false
set_option maxRecDepth 100000

theorem byte_nat {b : List Int} (hb : ByteOk b) (k : Nat) : ∃ n : Nat, b.getD k 0 = (n : Int) ∧ n ≤ 255 ∧ ((strOfNums b).get! (0 + k)).toNat = n := by
  rw [Nat.zero_add, str_get]
  by_cases h : k < b.length
  · have hz := hb b[k] (List.getElem_mem h)
    have hg : b.getD k 0 = b[k] := by simp [List.getD, h]
    refine ⟨b[k].toNat, by omega, by omega, ?_⟩
    rw [if_pos h, hg]
    simp
    omega
  · have hg : b.getD k 0 = 0 := by simp [List.getD, h]
    refine ⟨0, by omega, by omega, ?_⟩
    rw [if_neg h]
    rfl
def decE (l n0 n1 n2 n3 : Nat) : Nat × Nat :=
  if n0 < 128 then (n0, 1)
  else if n0 / 32 = 6 ∧ 1 < l ∧ n1 / 64 = 2 then (if 128 ≤ (n0 % 32) * 64 + n1 % 64 then ((n0 % 32) * 64 + n1 % 64, 2) else (65533, 1))
  else if n0 / 16 = 14 ∧ (1 < l ∧ n1 / 64 = 2) ∧ 2 < l ∧ n2 / 64 = 2 then (if 2048 ≤ (n0 % 16) * 4096 + (n1 % 64) * 64 + n2 % 64 ∧ Utf8.valid (((n0 % 16) * 4096 + (n1 % 64) * 64 + n2 % 64 : Nat) : Int) = true then ((n0 % 16) * 4096 + (n1 % 64) * 64 + n2 % 64, 3) else (65533, 1))
  else if n0 / 8 = 30 ∧ ((1 < l ∧ n1 / 64 = 2) ∧ 2 < l ∧ n2 / 64 = 2) ∧ 3 < l ∧ n3 / 64 = 2 then (if 65536 ≤ (n0 % 8) * 262144 + (n1 % 64) * 4096 + (n2 % 64) * 64 + n3 % 64 ∧ Utf8.valid (((n0 % 8) * 262144 + (n1 % 64) * 4096 + (n2 % 64) * 64 + n3 % 64 : Nat) : Int) = true then ((n0 % 8) * 262144 + (n1 % 64) * 4096 + (n2 % 64) * 64 + n3 % 64, 4) else (65533, 1))
  else (65533, 1)
theorem decN_def {b : List Int} {n0 n1 n2 n3 : Nat} (h0 : ((strOfNums b).get! (0 + 0)).toNat = n0) (h1 : ((strOfNums b).get! (0 + 1)).toNat = n1) (h2 : ((strOfNums b).get! (0 + 2)).toNat = n2) (h3 : ((strOfNums b).get! (0 + 3)).toNat = n3) :
    decN b = decE b.length n0 n1 n2 n3 := by
  simp only [decN, Utf8.decode, h0, h1, h2, h3, strOfNums_size, Nat.zero_add, Utf8.runeError, decE]
  simp only [Bool.and_eq_true, beq_iff_eq, decide_eq_true_eq, ge_iff_le, and_assoc]
theorem valid_rune (r : Int) : Utf8.valid r = runeB r := by
  unfold Utf8.valid runeB
  rw [Bool.eq_iff_iff]
  simp only [Bool.or_eq_true, Bool.and_eq_true, decide_eq_true_iff, Bool.not_eq_true', Bool.and_eq_false_iff, decide_eq_false_iff_not]
  omega

theorem take_at {b : List Int} (n : Nat) (l : List Int) (hn : l.length = n) (hb : n ≤ b.length) (h : ∀ k, k < n → b.getD k 0 = l.getD k 0) : b.take n = l := by
  apply List.ext_getElem?
  intro i
  by_cases hi : i < n
  · have := h i hi
    have h1 : i < b.length := by omega
    have h2 : i < l.length := by omega
    simp [List.getD, h1, h2] at this
    simp [hi, h1, h2, this]
  · rw [List.getElem?_eq_none (by simp; omega), List.getElem?_eq_none (by omega)]
theorem pre_at {b l : List Int} (h : l <+: b) (k : Nat) (hk : k < l.length) : b.getD k 0 = l.getD k 0 := by
  obtain ⟨t, rfl⟩ := h
  simp [List.getD, List.getElem?_append_left hk]

/-- what has a rune's form ahead is decoded as it -/
theorem dec_form {b : List Int} (hb : ByteOk b) {r : Nat} (hr : runeB (r : Int) = true) (h : formL (r : Int) <+: b) : decN b = (r, (formL (r : Int)).length) := by
  obtain ⟨n0, e0, m0, g0⟩ := byte_nat hb 0
  obtain ⟨n1, e1, m1, g1⟩ := byte_nat hb 1
  obtain ⟨n2, e2, m2, g2⟩ := byte_nat hb 2
  obtain ⟨n3, e3, m3, g3⟩ := byte_nat hb 3
  rw [decN_def g0 g1 g2 g3]
  have hl := h.length_le
  have hat := pre_at h
  have hv : Utf8.valid (r : Int) = true := by rw [valid_rune]; exact hr
  have hrr := hr
  unfold runeB at hrr
  simp only [Bool.and_eq_true, decide_eq_true_iff, Bool.not_eq_true', Bool.and_eq_false_iff, decide_eq_false_iff_not] at hrr
  by_cases c1 : (r : Int) < 128
  · rw [formL_1 hr c1] at hat hl ⊢
    have a0 := hat 0 (by simp)
    rw [e0] at a0
    simp at a0 hl
    unfold decE
    rw [if_pos (by omega)]
    simp
    omega
  · by_cases c2 : (r : Int) < 2048
    · rw [formL_2 hr c1 c2] at hat hl ⊢
      have a0 := hat 0 (by simp)
      have a1 := hat 1 (by simp)
      rw [e0] at a0
      rw [e1] at a1
      simp at a0 a1 hl
      unfold decE
      rw [if_neg (by omega), if_pos ⟨by omega, by omega, by omega⟩, if_pos (by omega)]
      simp
      omega
    · by_cases c3 : (r : Int) < 65536
      · rw [formL_3 hr c2 c3] at hat hl ⊢
        have a0 := hat 0 (by simp)
        have a1 := hat 1 (by simp)
        have a2 := hat 2 (by simp)
        rw [e0] at a0
        rw [e1] at a1
        rw [e2] at a2
        simp at a0 a1 a2 hl
        have hc : (n0 % 16) * 4096 + (n1 % 64) * 64 + n2 % 64 = r := by omega
        unfold decE
        rw [if_neg (by omega), if_neg (by omega), if_pos ⟨by omega, ⟨by omega, by omega⟩, by omega, by omega⟩, hc, if_pos ⟨by omega, hv⟩]
        simp
      · rw [formL_4 hr c3] at hat hl ⊢
        have a0 := hat 0 (by simp)
        have a1 := hat 1 (by simp)
        have a2 := hat 2 (by simp)
        have a3 := hat 3 (by simp)
        rw [e0] at a0
        rw [e1] at a1
        rw [e2] at a2
        rw [e3] at a3
        simp at a0 a1 a2 a3 hl
        have hc : (n0 % 8) * 262144 + (n1 % 64) * 4096 + (n2 % 64) * 64 + n3 % 64 = r := by omega
        unfold decE
        rw [if_neg (by omega), if_neg (by omega), if_neg (by omega), if_pos ⟨by omega, ⟨⟨by omega, by omega⟩, by omega, by omega⟩, by omega, by omega⟩, hc, if_pos ⟨by omega, hv⟩]
        simp

/-- what is decoded has its form ahead, or is U+FFFD, of one byte, and no rune's form stands there -/
theorem dec_is {b : List Int} (hb : ByteOk b) (hne : b ≠ []) : (∃ r : Nat, runeB (r : Int) = true ∧ formL (r : Int) <+: b ∧ decN b = (r, (formL (r : Int)).length)) ∨ (decN b = (65533, 1) ∧ ∀ r : Nat, runeB (r : Int) = true → ¬ formL (r : Int) <+: b) := by
  by_cases hx : ∃ r : Nat, runeB (r : Int) = true ∧ formL (r : Int) <+: b
  · obtain ⟨r, h1, h2⟩ := hx
    exact .inl ⟨r, h1, h2, dec_form hb h1 h2⟩
  · refine .inr ⟨?_, fun r h1 h2 => hx ⟨r, h1, h2⟩⟩
    have hpos := List.length_pos_iff.2 hne
    obtain ⟨n0, e0, m0, g0⟩ := byte_nat hb 0
    obtain ⟨n1, e1, m1, g1⟩ := byte_nat hb 1
    obtain ⟨n2, e2, m2, g2⟩ := byte_nat hb 2
    obtain ⟨n3, e3, m3, g3⟩ := byte_nat hb 3
    have no : ∀ r : Nat, runeB (r : Int) = true → ∀ l, formL (r : Int) = l → l.length ≤ b.length → (∀ k, k < l.length → b.getD k 0 = l.getD k 0) → False := fun r hr l hf hl hk =>
      hx ⟨r, hr, by rw [hf, ← take_at l.length l rfl hl hk]; exact List.take_prefix _ _⟩
    rw [decN_def g0 g1 g2 g3]
    unfold decE
    split
    · rename_i c
      have hr : runeB (n0 : Int) = true := runeB_yes (by omega) (by omega) (by omega)
      exact (no n0 hr _ (formL_1 hr (by omega)) (by simp; omega) (fun k hk => by
        obtain rfl : k = 0 := by simp at hk; omega
        rw [e0]; rfl)).elim
    · rename_i c
      split
      · rename_i c2
        split
        · rename_i c3
          have hr : runeB (((n0 % 32) * 64 + n1 % 64 : Nat) : Int) = true := runeB_yes (by omega) (by omega) (by omega)
          exact (no _ hr _ (formL_2 hr (by omega) (by omega)) (by simp; omega) (fun k hk => by
            obtain rfl | rfl : k = 0 ∨ k = 1 := by simp at hk; omega
            · rw [e0]; simp; omega
            · rw [e1]; simp; omega)).elim
        · rfl
      · split
        · rename_i c3
          split
          · rename_i c4
            obtain ⟨c4, c5⟩ := c4
            rw [valid_rune] at c5
            exact (no _ c5 _ (formL_3 c5 (by omega) (by omega)) (by simp; omega) (fun k hk => by
              obtain rfl | rfl | rfl : k = 0 ∨ k = 1 ∨ k = 2 := by simp at hk; omega
              · rw [e0]; simp; omega
              · rw [e1]; simp; omega
              · rw [e2]; simp; omega)).elim
          · rfl
        · split
          · rename_i c4
            split
            · rename_i c5
              obtain ⟨c5, c6⟩ := c5
              rw [valid_rune] at c6
              exact (no _ c6 _ (formL_4 c6 (by omega)) (by simp; omega) (fun k hk => by
                obtain rfl | rfl | rfl | rfl : k = 0 ∨ k = 1 ∨ k = 2 ∨ k = 3 := by simp at hk; omega
                · rw [e0]; simp; omega
                · rw [e1]; simp; omega
                · rw [e2]; simp; omega
                · rw [e3]; simp; omega)).elim
            · rfl
          · rfl

/-- all bytes of a form but the first are from 128 to 191 -/
theorem form_on (r : Int) (k : Nat) (h0 : 0 < k) (h : k < (formL r).length) : 128 ≤ (formL r).getD k 0 ∧ (formL r).getD k 0 ≤ 191 := by
  cases hr : runeB r with
  | false => rw [formL_none hr] at h; simp at h
  | true =>
    by_cases c1 : r < 128
    · rw [formL_1 hr c1] at h; simp at h; omega
    · by_cases c2 : r < 2048
      · rw [formL_2 hr c1 c2] at h ⊢
        obtain rfl : k = 1 := by simp at h; omega
        simp; omega
      · by_cases c3 : r < 65536
        · rw [formL_3 hr c2 c3] at h ⊢
          obtain rfl | rfl : k = 1 ∨ k = 2 := by simp at h; omega
          · simp; omega
          · simp; omega
        · rw [formL_4 hr c3] at h ⊢
          obtain rfl | rfl | rfl : k = 1 ∨ k = 2 ∨ k = 3 := by simp at h; omega
          · simp; omega
          · simp; omega
          · simp; omega
theorem form_pos {r : Int} (hr : runeB r = true) : 1 ≤ (formL r).length ∧ (formL r).length ≤ 4 := by
  by_cases c1 : r < 128
  · rw [formL_1 hr c1]; simp
  · by_cases c2 : r < 2048
    · rw [formL_2 hr c1 c2]; simp
    · by_cases c3 : r < 65536
      · rw [formL_3 hr c2 c3]; simp
      · rw [formL_4 hr c3]; simp

/-- bytes behind which stand some that begin with none from 128 to 191 -/
theorem dec_app {a b : List Int} (ha : ByteOk a) (hb : ByteOk b) (hne : a ≠ []) (hc : ∀ z, b.head? = some z → ¬ (128 ≤ z ∧ z ≤ 191)) : decN (a ++ b) = decN a := by
  have hab : ByteOk (a ++ b) := ByteOk.append' ha hb
  rcases dec_is ha hne with ⟨r, h1, h2, h3⟩ | ⟨h3, h4⟩
  · rw [h3]
    exact dec_form hab h1 (h2.trans (List.prefix_append a b))
  · rw [h3]
    rcases dec_is hab (by simp [hne]) with ⟨r, h1, h2, h5⟩ | ⟨h5, _⟩
    · exfalso
      by_cases hl : (formL (r : Int)).length ≤ a.length
      · exact h4 r h1 (List.prefix_of_prefix_length_le h2 (List.prefix_append a b) hl)
      · have hp := List.length_pos_iff.2 hne
        have hon := form_on (r : Int) a.length hp (by omega)
        have hat := pre_at h2 a.length (by omega)
        have hlen := h2.length_le
        rw [← hat] at hon
        cases b with
        | nil => simp at hlen; omega
        | cons z t =>
          have hg : (a ++ z :: t).getD a.length 0 = z := by simp [List.getD]
          rw [hg] at hon
          exact hc z rfl hon
    · exact h5

end Go.Proofs.YtimmfnjkknbofaaDoor
