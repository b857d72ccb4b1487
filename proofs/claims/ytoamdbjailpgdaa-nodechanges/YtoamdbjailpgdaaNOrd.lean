/- The order of keys, and where a key stands among rising ones (layer 10); no program. -/
import Derived.Test.YtoamdbjailpgdaaNMath
namespace Go.Proofs.Ytoamdbjailpgdaa
set_option maxRecDepth 20000
open Go.RowKit
set_option linter.unusedVariables false

theorem cmp_swap : ∀ (a b : List Int), cmp b a = - cmp a b
  | [], [] => rfl
  | [], _ :: _ => rfl
  | _ :: _, [] => rfl
  | a :: xs, b :: ys => by
    simp only [cmp]
    by_cases h1 : a < b
    · rw [if_pos h1, if_neg (show ¬ b < a by omega), if_pos h1]; rfl
    · rw [if_neg h1]
      by_cases h2 : b < a
      · rw [if_pos h2, if_neg h1, if_pos h2]
      · rw [if_neg h2, if_neg h1, if_neg h2]; exact cmp_swap xs ys
theorem cmp_trans : ∀ (a b c : List Int), cmp a b < 0 → cmp b c < 0 → cmp a c < 0
  | [], [], _, h, _ => by simp [cmp] at h
  | [], _ :: _, [], _, h => by simp [cmp] at h
  | [], _ :: _, _ :: _, _, _ => by simp [cmp]
  | _ :: _, [], _, h, _ => by simp [cmp] at h
  | _ :: _, _ :: _, [], _, h => by simp [cmp] at h
  | a :: xs, b :: ys, c :: zs, h1, h2 => by
    simp only [cmp] at h1 h2 ⊢
    by_cases x1 : a < b
    · by_cases y1 : b < c
      · rw [if_pos (show a < c by omega)]; decide
      · rw [if_neg y1] at h2
        by_cases y2 : c < b
        · rw [if_pos y2] at h2; omega
        · rw [if_pos (show a < c by omega)]; decide
    · rw [if_neg x1] at h1
      by_cases x2 : b < a
      · rw [if_pos x2] at h1; omega
      · rw [if_neg x2] at h1
        have hab : a = b := by omega
        subst hab
        by_cases y1 : a < c
        · rw [if_pos y1]; decide
        · rw [if_neg y1] at h2 ⊢
          by_cases y2 : c < a
          · rw [if_pos y2] at h2; omega
          · rw [if_neg y2] at h2 ⊢
            exact cmp_trans xs ys zs h1 h2
theorem cmp_lt_irrefl (a : List Int) : ¬ cmp a a < 0 := by rw [cmp_self]; omega
theorem cmp_lt_ne {a b : List Int} (h : cmp a b < 0) : a ≠ b := fun e => by rw [e, cmp_self] at h; omega

/-- how many keys stand ahead of a key -/
def cntK (ks : List (List Int)) (key : List Int) : Nat := ks.countP (fun k => decide (cmp k key < 0))
/-- is it the next one? -/
def isK (ks : List (List Int)) (key : List Int) : Bool := decide (cntK ks key < ks.length) && decide (ks.getD (cntK ks key) [] = key)
def kidN (n : Nd) (key : List Int) : Nat := if innerB n then cntK n.ks key + (if isK n.ks key then 1 else 0) else 0
def findN (n : Nd) (key : List Int) : Nat := if leafB n then cntK (n.ps.map (·.1)) key else 0
def findB (n : Nd) (key : List Int) : Bool := if leafB n then isK (n.ps.map (·.1)) key else false

/-- rising: each stands ahead of all that follow -/
theorem rise_head : ∀ (l : List Int) (ks : List (List Int)), riseK l ks = true → ∀ k ∈ ks, cmp l k < 0
  | l, [], _, k, hk => by cases hk
  | l, x :: ks, h, k, hk => by
    rw [riseK, Bool.and_eq_true, behB, Bool.and_eq_true, decide_eq_true_iff] at h
    rcases List.mem_cons.1 hk with rfl | hk
    · exact h.1.2
    · exact cmp_trans _ _ _ h.1.2 (rise_head x ks h.2 k hk)
theorem rise_lt : ∀ (l : List Int) (ks : List (List Int)), riseK l ks = true → ∀ i j, i < j → j < ks.length → cmp (ks.getD i []) (ks.getD j []) < 0
  | l, [], _, i, j, _, hj => by simp at hj
  | l, x :: ks, h, i, j, hij, hj => by
    rw [riseK, Bool.and_eq_true] at h
    obtain ⟨j, rfl⟩ : ∃ m, j = m + 1 := ⟨j - 1, by omega⟩
    have hj' : j < ks.length := by simpa using hj
    cases i with
    | zero =>
      simp only [List.getD_cons_zero, List.getD_cons_succ]
      exact rise_head x ks h.2 _ (by simp [List.getD, hj'])
    | succ i => simpa using rise_lt x ks h.2 i j (by omega) hj'

theorem countP_at {α : Type} (p : α → Bool) (d : α) : ∀ (l : List α) (i : Nat), i ≤ l.length → (∀ t, t < i → p (l.getD t d) = true) → (∀ t, i ≤ t → t < l.length → p (l.getD t d) = false) → l.countP p = i
  | [], i, hi, _, _ => by simp at hi; simp [hi]
  | a :: r, 0, _, _, h2 => by
    rw [List.countP_eq_zero]
    intro x hx
    obtain ⟨t, ht, rfl⟩ := List.getElem_of_mem hx
    have := h2 t (Nat.zero_le _) ht
    rw [List.getD_eq_getElem?_getD, List.getElem?_eq_getElem ht, Option.getD_some] at this
    rw [this]; exact Bool.false_ne_true
  | a :: r, i + 1, hi, h1, h2 => by
    have ha : p a = true := by simpa using h1 0 (Nat.succ_pos _)
    rw [List.countP_cons_of_pos ha, countP_at p d r i (by simpa using hi) (fun t ht => by simpa using h1 (t + 1) (by omega)) (fun t h3 h4 => by simpa using h2 (t + 1) (by omega) (by simpa using h4))]
/-- those ahead of a key are the first ones -/
theorem cntK_le (ks : List (List Int)) (key : List Int) : cntK ks key ≤ ks.length := List.countP_le_length
theorem cntK_spec : ∀ (l : List Int) (ks : List (List Int)) (key : List Int), riseK l ks = true → (∀ t, t < cntK ks key → cmp (ks.getD t []) key < 0) ∧ ∀ t, cntK ks key ≤ t → t < ks.length → 0 ≤ cmp (ks.getD t []) key
  | l, [], key, _ => ⟨fun t ht => by simp [cntK] at ht, fun t _ ht => by simp at ht⟩
  | l, x :: ks, key, h => by
    have hr := h
    rw [riseK, Bool.and_eq_true] at h
    obtain ⟨h1, h2⟩ := cntK_spec x ks key h.2
    by_cases hx : cmp x key < 0
    · have e : cntK (x :: ks) key = cntK ks key + 1 := by unfold cntK; rw [List.countP_cons_of_pos (by simpa using hx)]
      rw [e]
      refine ⟨fun t ht => ?_, fun t ht htl => ?_⟩
      · cases t with
        | zero => simpa using hx
        | succ t => simpa using h1 t (by omega)
      · obtain ⟨t, rfl⟩ : ∃ m, t = m + 1 := ⟨t - 1, by omega⟩
        simpa using h2 t (by omega) (by simpa using htl)
    · have hall : ∀ k ∈ x :: ks, ¬ cmp k key < 0 := by
        intro k hk hlt
        rcases List.mem_cons.1 hk with rfl | hk
        · exact hx hlt
        · exact hx (cmp_trans _ _ _ (rise_head x ks h.2 k hk) hlt)
      have e : cntK (x :: ks) key = 0 := by
        unfold cntK
        rw [List.countP_eq_zero]
        intro k hk
        simpa using hall k hk
      rw [e]
      refine ⟨fun t ht => by omega, fun t _ ht => ?_⟩
      have := hall ((x :: ks).getD t []) (by simp only [List.getD, List.getElem?_eq_getElem ht]; exact List.getElem_mem ht)
      omega

end Go.Proofs.Ytoamdbjailpgdaa
