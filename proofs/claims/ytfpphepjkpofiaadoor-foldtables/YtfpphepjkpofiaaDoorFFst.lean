/- The first rune of bytes, by the document (pure): what each number of bytes would be. -/
import Derived.Test.YtfpphepjkpofiaaDoorFDec
namespace Go.Proofs.YtfpphepjkpofiaaDoor
set_option maxRecDepth 20000
open Go.RowKit
set_option linter.unusedVariables false
set_option linter.unusedSimpArgs false
set_option maxRecDepth 100000

def vN (b : List Int) (n : Nat) : Int :=
  if n = 2 then b.getD 0 0 % 32 * 64 + b.getD 1 0 % 64
  else if n = 3 then b.getD 0 0 % 16 * 4096 + b.getD 1 0 % 64 * 64 + b.getD 2 0 % 64
  else if n = 4 then b.getD 0 0 % 8 * 262144 + b.getD 1 0 % 64 * 4096 + b.getD 2 0 % 64 * 64 + b.getD 3 0 % 64
  else b.getD 0 0
/-- n bytes are the form of what they would be -/
def fits (b : List Int) (n : Nat) : Prop := n ≤ b.length ∧ formL (vN b n) = b.take n
theorem fits_dec {b : List Int} (hb : ByteOk b) {n : Nat} (hn : 1 ≤ n ∧ n ≤ 4) (h : fits b n) : ∃ r : Nat, vN b n = (r : Int) ∧ decN b = (r, n) := by
  obtain ⟨h1, h2⟩ := h
  have hl : (formL (vN b n)).length = n := by rw [h2]; simp; omega
  have hr : runeB (vN b n) = true := by
    cases hr : runeB (vN b n) with
    | false => rw [formL_none hr] at hl; simp at hl; omega
    | true => rfl
  obtain ⟨r, e⟩ : ∃ r : Nat, vN b n = (r : Int) := by
    have := hr
    unfold runeB at this
    simp only [Bool.and_eq_true, decide_eq_true_iff] at this
    exact ⟨(vN b n).toNat, by omega⟩
  refine ⟨r, e, ?_⟩
  rw [e] at h2 hr hl
  have := dec_form hb hr (by rw [h2]; exact List.take_prefix _ _)
  rwa [hl] at this
theorem vN_form {b : List Int} {r : Int} (hr : runeB r = true) (h : formL r <+: b) : vN b (formL r).length = r := by
  have hrr := hr
  unfold runeB at hrr
  simp only [Bool.and_eq_true, decide_eq_true_iff, Bool.not_eq_true', Bool.and_eq_false_iff, decide_eq_false_iff_not] at hrr
  have hat := pre_at h
  by_cases c1 : r < 128
  · rw [formL_1 hr c1] at hat ⊢
    have a0 := hat 0 (by simp)
    unfold vN
    rw [if_neg (by simp), if_neg (by simp), if_neg (by simp), a0]
    rfl
  · by_cases c2 : r < 2048
    · rw [formL_2 hr c1 c2] at hat ⊢
      have a0 := hat 0 (by simp)
      have a1 := hat 1 (by simp)
      unfold vN
      rw [if_pos (by simp), a0, a1]
      simp
      omega
    · by_cases c3 : r < 65536
      · rw [formL_3 hr c2 c3] at hat ⊢
        have a0 := hat 0 (by simp)
        have a1 := hat 1 (by simp)
        have a2 := hat 2 (by simp)
        unfold vN
        rw [if_neg (by simp), if_pos (by simp), a0, a1, a2]
        simp
        omega
      · rw [formL_4 hr c3] at hat ⊢
        have a0 := hat 0 (by simp)
        have a1 := hat 1 (by simp)
        have a2 := hat 2 (by simp)
        have a3 := hat 3 (by simp)
        unfold vN
        rw [if_neg (by simp), if_neg (by simp), if_pos (by simp), a0, a1, a2, a3]
        simp
        omega
theorem fits_no {b : List Int} (hb : ByteOk b) (hne : b ≠ []) (h : ∀ n, 1 ≤ n → n ≤ 4 → ¬ fits b n) : decN b = (65533, 1) := by
  rcases dec_is hb hne with ⟨r, h1, h2, h3⟩ | ⟨h3, _⟩
  · exfalso
    have hp := form_pos h1
    refine h _ hp.1 hp.2 ⟨h2.length_le, ?_⟩
    rw [vN_form h1 h2]
    exact (List.prefix_iff_eq_take.1 h2)
  · exact h3
theorem vN_range {b : List Int} (hb : ByteOk b) (n : Nat) : 0 ≤ vN b n ∧ vN b n ≤ 2097151 := by
  have h : ∀ k, 0 ≤ b.getD k 0 ∧ b.getD k 0 ≤ 255 := fun k => by
    by_cases hk : k < b.length
    · rw [getD_lt b hk]; exact hb _ (List.getElem_mem hk)
    · simp [List.getD, hk]
  have h0 := h 0
  have h1 := h 1
  have h2 := h 2
  have h3 := h 3
  unfold vN
  split
  · omega
  · split
    · omega
    · split <;> omega

end Go.Proofs.YtfpphepjkpofiaaDoor
