/- What package posting's each tells, as a list; how it lies beside what is written. No program. -/
import Derived.Test.YtmjkpgmmfooajaaPoMath
namespace Go.Proofs.Ytmjkpgmmfooajaa
set_option maxRecDepth 20000
open Go.RowKit
set_option linter.unusedVariables false

/-- where each ends, and the posting; f: at most so many -/
def allG (N : Nat) : Nat → Nat → List Int → List (Nat × Po)
  | 0, _, _ => []
  | f + 1, prev, zs => if zs = [] then [] else if nextOk prev zs = true then (N - (nP zs).2.1.length, nextPo prev zs) :: allG N f (nextPo prev zs).doc (nP zs).2.1 else []
def allP (prev : Nat) (zs : List Int) : List (Nat × Po) := allG zs.length zs.length prev zs

theorem next_yes {prev : Nat} {zs : List Int} (hp : prev < 4294967296) (hb : ByteOk zs) (h : nextOk prev zs = true) : zs = formP prev (nextPo prev zs) ++ (nP zs).2.1 ∧ mayB prev (nextPo prev zs) = true :=
  next_back hp hb (by unfold nextP; rw [if_pos h])
theorem next_has {prev : Nat} {p : Po} (hp : mayB prev p = true) (rest : List Int) : nextOk prev (formP prev p ++ rest) = true ∧ nextPo prev (formP prev p ++ rest) = p ∧ (nP (formP prev p ++ rest)).2.1 = rest := by
  have h := next_form hp rest
  unfold nextP at h
  split at h
  · rename_i hok
    simp only [Option.some.injEq, Prod.mk.injEq] at h
    exact ⟨hok, h.1, h.2⟩
  · cases h
theorem allG_nil (N f prev : Nat) : allG N f prev [] = [] := by cases f <;> simp [allG]
theorem allG_no {N f prev : Nat} {zs : List Int} (h : nextOk prev zs = false) : allG N f prev zs = [] := by
  cases f with
  | zero => rfl
  | succ f => rw [allG, h]; simp
theorem allG_yes {N f prev : Nat} {zs : List Int} (hz : zs ≠ []) (h : nextOk prev zs = true) : allG N (f + 1) prev zs = (N - (nP zs).2.1.length, nextPo prev zs) :: allG N f (nextPo prev zs).doc (nP zs).2.1 := by
  rw [allG, if_neg hz, if_pos h]

theorem allG_len (N : Nat) : ∀ (f prev : Nat) (zs : List Int), (allG N f prev zs).length ≤ f
  | 0, _, _ => Nat.le_refl _
  | f + 1, prev, zs => by
    rw [allG]
    split
    · simp
    · split
      · have := allG_len N f (nextPo prev zs).doc (nP zs).2.1
        simp only [List.length_cons]
        omega
      · simp
theorem allP_len (prev : Nat) (zs : List Int) : (allP prev zs).length ≤ zs.length := allG_len _ _ _ _

/-- what is told is what is written, as far as that goes -/
theorem allG_form (N : Nat) : ∀ (f prev : Nat) (zs : List Int), prev < 4294967296 → ByteOk zs → zs.length ≤ f → zs.length ≤ N →
    ∃ rest, zs = listB prev ((allG N f prev zs).map (·.2)) ++ rest ∧ listOk prev ((allG N f prev zs).map (·.2)) = true ∧ (rest = [] ∨ nextOk (lastDoc prev ((allG N f prev zs).map (·.2))) rest = false) ∧
      (∀ e ∈ allG N f prev zs, N - zs.length < e.1 ∧ e.1 ≤ N - rest.length) ∧ ((allG N f prev zs).getLast?.map (·.1)).getD (N - zs.length) = N - rest.length ∧ ((allG N f prev zs).map (·.1)).Pairwise (· < ·)
  | 0, prev, zs, hp, hb, hf, hN => by
    have : zs = [] := List.eq_nil_of_length_eq_zero (by omega)
    subst this
    exact ⟨[], rfl, rfl, .inl rfl, (fun e he => by cases he), by simp [allG], by simp [allG]⟩
  | f + 1, prev, zs, hp, hb, hf, hN => by
    by_cases hz : zs = []
    · subst hz
      rw [allG_nil]
      exact ⟨[], rfl, rfl, .inl rfl, (fun e he => by cases he), by simp, by simp⟩
    · cases hok : nextOk prev zs with
      | false =>
        rw [allG_no hok]
        exact ⟨zs, rfl, rfl, .inr hok, (fun e he => by cases he), by simp, by simp⟩
      | true =>
        obtain ⟨h1, h2⟩ := next_yes hp hb hok
        have hl := (form_len h2).1
        have hlen : zs.length = (formP prev (nextPo prev zs)).length + (nP zs).2.1.length := by
          have := congrArg List.length h1
          rwa [List.length_append] at this
        have hb2 : ByteOk (nP zs).2.1 := fun z hz => hb z (by rw [h1]; exact List.mem_append_right _ hz)
        obtain ⟨rest, r1, r2, r3, r4, r5, r6⟩ := allG_form N f (nextPo prev zs).doc (nP zs).2.1 (by have := (may_parts h2).2.1; omega) hb2 (by omega) (by omega)
        rw [allG_yes hz hok]
        have hrl : rest.length ≤ (nP zs).2.1.length := by have := congrArg List.length r1; rw [List.length_append] at this; omega
        refine ⟨rest, ?_, ?_, r3, ?_, ?_, ?_⟩
        · rw [List.map_cons, listB, List.append_assoc, ← r1]; exact h1
        · rw [List.map_cons, listOk, h2, r2]; rfl
        · intro e he
          rcases List.mem_cons.1 he with rfl | he
          · exact ⟨by simp only; omega, by simp only; omega⟩
          · have := r4 e he; omega
        · cases hA : allG N f (nextPo prev zs).doc (nP zs).2.1 with
          | nil =>
            rw [hA] at r5
            simpa using r5
          | cons x xs =>
            rw [hA] at r5
            rw [List.getLast?_cons_cons]
            have : ((x :: xs).getLast?.map (·.1)).getD (N - (nP zs).2.1.length) = ((x :: xs).getLast?.map (·.1)).getD (N - zs.length) := by
              rw [List.getLast?_cons]; rfl
            rw [← this]; exact r5
        · rw [List.map_cons, List.pairwise_cons]
          refine ⟨fun e he => ?_, r6⟩
          obtain ⟨x, hx, rfl⟩ := List.mem_map.1 he
          have := r4 x hx
          exact this.1

theorem allG_list (N : Nat) : ∀ (ps : List Po) (f prev : Nat), prev < 4294967296 → listOk prev ps = true → (listB prev ps).length ≤ f → (allG N f prev (listB prev ps)).map (·.2) = ps
  | [], f, prev, _, _, _ => by rw [listB, allG_nil]; rfl
  | p :: ps, f, prev, hp, h, hf => by
    simp only [listOk, Bool.and_eq_true] at h
    have hl := (form_len h.1).1
    rw [listB, List.length_append] at hf
    obtain ⟨g, rfl⟩ : ∃ g, f = g + 1 := ⟨f - 1, by omega⟩
    obtain ⟨q1, q2, q3⟩ := next_has h.1 (listB p.doc ps)
    have hz : formP prev p ++ listB p.doc ps ≠ [] := by intro e; rw [List.append_eq_nil_iff] at e; rw [e.1] at hl; simp at hl
    rw [listB, allG_yes hz q1, q2, q3, List.map_cons, allG_list N ps g p.doc (by have := (may_parts h.1).2.1; omega) h.2 (by omega)]

end Go.Proofs.Ytmjkpgmmfooajaa
