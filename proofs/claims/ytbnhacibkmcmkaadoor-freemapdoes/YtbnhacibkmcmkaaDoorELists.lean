/- Lists of the pages of a set, of its runs; what Run tells. No program. -/
import Derived.Test.YtbnhacibkmcmkaaDoorENot
namespace Go.Proofs.YtbnhacibkmcmkaaDoor
set_option maxRecDepth 20000
open Go.RowKit
set_option linter.unusedVariables false

def nx (f : Nat → Bool) : Nat → Nat → Option Nat
  | 0, _ => none
  | k + 1, p => if f p = true then some p else nx f k (p + 1)
theorem nx_none (f : Nat → Bool) : ∀ (k p : Nat), nx f k p = none → ∀ q, p ≤ q → q < p + k → f q = false
  | 0, p, _, q, h1, h2 => by omega
  | k + 1, p, h, q, h1, h2 => by
    rw [nx] at h
    by_cases hp : f p = true
    · rw [if_pos hp] at h; cases h
    · rw [if_neg hp] at h
      by_cases hq : q = p
      · subst hq; simpa using hp
      · exact nx_none f k (p + 1) h q (by omega) (by omega)
theorem nx_some (f : Nat → Bool) : ∀ (k p q : Nat), nx f k p = some q → p ≤ q ∧ q < p + k ∧ f q = true ∧ ∀ r, p ≤ r → r < q → f r = false
  | 0, p, q, h => by cases h
  | k + 1, p, q, h => by
    rw [nx] at h
    by_cases hp : f p = true
    · rw [if_pos hp] at h
      cases h
      exact ⟨Nat.le_refl _, by omega, hp, fun r h1 h2 => by omega⟩
    · rw [if_neg hp] at h
      obtain ⟨h1, h2, h3, h4⟩ := nx_some f k (p + 1) q h
      refine ⟨by omega, by omega, h3, fun r k1 k2 => ?_⟩
      by_cases hr : r = p
      · subst hr; simpa using hp
      · exact h4 r (by omega) k2
def fstN (f : Nat → Bool) (n p : Nat) : Option Nat := nx f (n - p) p
def fstI : Option Nat → Int
  | none => -1
  | some q => q
theorem fstN_none {f : Nat → Bool} {n p : Nat} (h : fstN f n p = none) : ∀ q, p ≤ q → q < n → f q = false := fun q h1 h2 => nx_none f _ p h q h1 (by omega)
theorem fstN_some {f : Nat → Bool} {n p q : Nat} (h : fstN f n p = some q) : p ≤ q ∧ q < n ∧ f q = true ∧ ∀ r, p ≤ r → r < q → f r = false := by
  obtain ⟨h1, h2, h3, h4⟩ := nx_some f _ p q h
  exact ⟨h1, by omega, h3, h4⟩
theorem fstN_past {f : Nat → Bool} {n p : Nat} (h : n ≤ p) : fstN f n p = none := by rw [fstN, show n - p = 0 by omega]; rfl
theorem fstN_is (f : Nat → Bool) (n p : Nat) : IsFst f n (p : Int) (fstI (fstN f n p)) := by
  cases h : fstN f n p with
  | none => exact .inl ⟨rfl, fun q h1 h2 => fstN_none h q (by omega) h2⟩
  | some q =>
    obtain ⟨h1, h2, h3, h4⟩ := fstN_some h
    exact .inr ⟨q, rfl, by omega, h2, h3, fun q' k1 k2 => h4 q' (by omega) k2⟩
theorem IsFst.eq {f : Nat → Bool} {n p : Nat} {r : Int} (h : IsFst f n (p : Int) r) : r = fstI (fstN f n p) := h.uniq (fstN_is f n p)

/-! ### the pages -/
def pg (f : Nat → Bool) : Nat → Nat → List Nat
  | 0, _ => []
  | k + 1, p => if f p = true then p :: pg f k (p + 1) else pg f k (p + 1)
theorem pg_none (f : Nat → Bool) : ∀ (k p : Nat), nx f k p = none → pg f k p = []
  | 0, p, _ => rfl
  | k + 1, p, h => by
    rw [nx] at h
    by_cases hp : f p = true
    · rw [if_pos hp] at h; cases h
    · rw [if_neg hp] at h
      rw [pg, if_neg hp]
      exact pg_none f k (p + 1) h
theorem pg_some (f : Nat → Bool) : ∀ (k p q : Nat), nx f k p = some q → pg f k p = q :: pg f (p + k - (q + 1)) (q + 1)
  | 0, p, q, h => by cases h
  | k + 1, p, q, h => by
    rw [nx] at h
    by_cases hp : f p = true
    · rw [if_pos hp] at h
      cases h
      rw [pg, if_pos hp, show p + (k + 1) - (p + 1) = k by omega]
    · rw [if_neg hp] at h
      rw [pg, if_neg hp, pg_some f k (p + 1) q h, show p + 1 + k = p + (k + 1) by omega]
theorem pg_filter (f : Nat → Bool) : ∀ (k p : Nat), pg f k p = (List.range' p k).filter f
  | 0, p => rfl
  | k + 1, p => by
    rw [pg, List.range'_succ, List.filter_cons, pg_filter f k (p + 1)]
def pagesF (f : Nat → Bool) (n : Nat) : List Nat := pg f n 0
theorem pagesF_eq (f : Nat → Bool) (n : Nat) : pagesF f n = (List.range n).filter f := by rw [pagesF, pg_filter, List.range_eq_range']
theorem pagesF_len (f : Nat → Bool) (n : Nat) : (pagesF f n).length = cntF f n := by rw [pagesF_eq, cntF_filter]
/-- from p on -/
def pagesFrom (f : Nat → Bool) (n p : Nat) : List Nat := pg f (n - p) p
theorem pagesFrom_none {f : Nat → Bool} {n p : Nat} (h : fstN f n p = none) : pagesFrom f n p = [] := pg_none f _ p h
theorem pagesFrom_some {f : Nat → Bool} {n p q : Nat} (h : fstN f n p = some q) : pagesFrom f n p = q :: pagesFrom f n (q + 1) := by
  have h2 := (fstN_some h).2.1
  have h1 := (fstN_some h).1
  rw [pagesFrom, pg_some f _ p q h, pagesFrom, show p + (n - p) - (q + 1) = n - (q + 1) by omega]

/-! ### the runs -/
def endN (f : Nat → Bool) (n q : Nat) : Nat := (fstN (ntF n f) n q).getD n
theorem endN_spec {f : Nat → Bool} {n q : Nat} (hq : q < n) (hf : f q = true) : q < endN f n q ∧ endN f n q ≤ n ∧ (∀ r, q ≤ r → r < endN f n q → f r = true) ∧ (endN f n q < n → f (endN f n q) = false) := by
  unfold endN
  cases h : fstN (ntF n f) n q with
  | none =>
    have h1 := fstN_none h
    refine ⟨hq, Nat.le_refl _, fun r k1 k2 => ?_, fun h => absurd h (Nat.lt_irrefl _)⟩
    have := h1 r k1 k2
    simp only [ntF] at this
    rw [decide_eq_true (show r < n from k2)] at this
    simpa using this
  | some e =>
    obtain ⟨h1, h2, h3, h4⟩ := fstN_some h
    simp only [Option.getD_some]
    have h5 : f e = false := by
      simp only [ntF] at h3
      rw [decide_eq_true h2] at h3
      simpa using h3
    refine ⟨?_, by omega, fun r k1 k2 => ?_, fun _ => h5⟩
    · rcases Nat.lt_or_ge q e with h | h
      · exact h
      · have : e = q := by omega
        subst this
        rw [hf] at h5; cases h5
    · have := h4 r k1 k2
      simp only [ntF] at this
      rw [decide_eq_true (show r < n by omega)] at this
      simpa using this
def rl (f : Nat → Bool) (n : Nat) : Nat → Nat → List (Nat × Nat)
  | 0, _ => []
  | k + 1, p => match fstN f n p with
    | none => []
    | some q => (q, endN f n q - q) :: rl f n k (endN f n q)
theorem rl_none {f : Nat → Bool} {n p : Nat} (h : fstN f n p = none) : ∀ k, rl f n k p = []
  | 0 => rfl
  | k + 1 => by rw [rl, h]
theorem rl_some {f : Nat → Bool} {n p q : Nat} (h : fstN f n p = some q) (k : Nat) : rl f n (k + 1) p = (q, endN f n q - q) :: rl f n k (endN f n q) := by rw [rl, h]
theorem rl_past {f : Nat → Bool} {n p : Nat} (h : n ≤ p) (k : Nat) : rl f n k p = [] := rl_none (fstN_past h) k
def runsF (f : Nat → Bool) (n : Nat) : List (Nat × Nat) := rl f n (n + 1) 0
theorem rl_mem {f : Nat → Bool} {n : Nat} : ∀ (k p : Nat) (x : Nat × Nat), x ∈ rl f n k p → p ≤ x.1 ∧ 1 ≤ x.2 ∧ x.1 + x.2 ≤ n ∧ ∀ i, i < x.2 → f (x.1 + i) = true
  | 0, p, x, h => by cases h
  | k + 1, p, x, h => by
    cases hq : fstN f n p with
    | none => rw [rl_none hq] at h; cases h
    | some q =>
      obtain ⟨h1, h2, h3, h4⟩ := fstN_some hq
      obtain ⟨e1, e2, e3, e4⟩ := endN_spec h2 h3
      rw [rl_some hq] at h
      rcases List.mem_cons.1 h with rfl | h
      · exact ⟨h1, by simp only; omega, by simp only; omega, fun i hi => e3 _ (by simp only; omega) (by simp only at hi ⊢; omega)⟩
      · obtain ⟨k1, k2, k3, k4⟩ := rl_mem k _ x h
        exact ⟨by omega, k2, k3, k4⟩
theorem rl_len {f : Nat → Bool} {n : Nat} : ∀ (k p : Nat), (rl f n k p).length ≤ n - p
  | 0, p => Nat.zero_le _
  | k + 1, p => by
    cases hq : fstN f n p with
    | none => rw [rl_none hq]; exact Nat.zero_le _
    | some q =>
      obtain ⟨h1, h2, h3, h4⟩ := fstN_some hq
      obtain ⟨e1, e2, e3, e4⟩ := endN_spec h2 h3
      rw [rl_some hq, List.length_cons]
      have := rl_len (f := f) (n := n) k (endN f n q)
      omega
/-- a run behind one that ended at a page that is not in it -/
theorem rl_gap {f : Nat → Bool} {n : Nat} (k p : Nat) (hp : p < n → f p = false) : ∀ x ∈ rl f n k p, p < x.1 := fun x hx => by
  obtain ⟨h1, h2, h3, h4⟩ := rl_mem k p x hx
  rcases Nat.lt_or_ge p x.1 with h | h
  · exact h
  · have e : x.1 = p := by omega
    have := h4 0 (by omega)
    rw [Nat.add_zero, e, hp (by omega)] at this
    cases this
theorem rl_order {f : Nat → Bool} {n : Nat} : ∀ (k p i : Nat) (x y : Nat × Nat), (rl f n k p)[i]? = some x → (rl f n k p)[i + 1]? = some y → x.1 + x.2 < y.1
  | 0, p, i, x, y, h, _ => by simp [rl] at h
  | k + 1, p, i, x, y, hx, hy => by
    cases hq : fstN f n p with
    | none => rw [rl_none hq] at hx; simp at hx
    | some q =>
      obtain ⟨h1, h2, h3, h4⟩ := fstN_some hq
      obtain ⟨e1, e2, e3, e4⟩ := endN_spec h2 h3
      rw [rl_some hq] at hx hy
      rw [List.getElem?_cons_succ] at hy
      cases i with
      | zero =>
        simp only [List.getElem?_cons_zero, Option.some.injEq] at hx
        subst hx
        have := rl_gap k (endN f n q) e4 y (List.mem_of_getElem? hy)
        simp only
        omega
      | succ i =>
        rw [List.getElem?_cons_succ] at hx
        exact rl_order k _ i x y hx hy
theorem cntF_all {f : Nat → Bool} : ∀ {n : Nat}, (∀ j, j < n → f j = true) → cntF f n = n
  | 0, _ => rfl
  | n + 1, h => by rw [cntF, cntF_all (n := n) (fun j hj => h j (by omega)), h n (by omega)]; rfl
theorem rl_sum {f : Nat → Bool} {n : Nat} : ∀ (k p : Nat), p ≤ n → n < k + p → cntF f p + ((rl f n k p).map (·.2)).sum = cntF f n
  | 0, p, h1, h2 => by omega
  | k + 1, p, hp, hk => by
    cases hq : fstN f n p with
    | none =>
      have h := fstN_none hq
      rw [rl_none hq]
      obtain ⟨d, rfl⟩ : ∃ d, n = p + d := ⟨n - p, by omega⟩
      rw [cntF_add, cntF_none (f := fun j => f (p + j)) (fun j hj => h _ (by omega) (by omega))]
      rfl
    | some q =>
      obtain ⟨h1, h2, h3, h4⟩ := fstN_some hq
      obtain ⟨e1, e2, e3, e4⟩ := endN_spec h2 h3
      rw [rl_some hq, List.map_cons, List.sum_cons]
      have ih := rl_sum (f := f) (n := n) k (endN f n q) e2 (by omega)
      rw [← ih]
      have a1 : cntF f q = cntF f p := by
        obtain ⟨d, hd⟩ : ∃ d, q = p + d := ⟨q - p, by omega⟩
        rw [hd, cntF_add, cntF_none (f := fun j => f (p + j)) (fun j hj => h4 _ (by omega) (by omega))]
        rfl
      have a2 : cntF f (endN f n q) = cntF f q + (endN f n q - q) := by
        have hd : endN f n q = q + (endN f n q - q) := by omega
        generalize endN f n q - q = d at hd ⊢
        rw [hd] at e3 ⊢
        rw [cntF_add, cntF_all (f := fun j => f (q + j)) (fun j hj => e3 _ (by omega) (by omega))]
      simp only
      omega
theorem runsF_sum (f : Nat → Bool) (n : Nat) : ((runsF f n).map (·.2)).sum = cntF f n := by
  have := rl_sum (f := f) (n := n) (n + 1) 0 (Nat.zero_le _) (by omega)
  simpa [cntF, runsF] using this

/-! ### Run -/
def win (f : Nat → Bool) (n k p : Nat) : Prop := p + k ≤ n ∧ ∀ i, i < k → f (p + i) = true
def IsRun (f : Nat → Bool) (n k : Nat) (r : Int) : Prop := (r = -1 ∧ ∀ p, ¬ win f n k p) ∨ ∃ p : Nat, r = p ∧ win f n k p ∧ ∀ p', p' < p → ¬ win f n k p'
theorem IsRun.uniq {f : Nat → Bool} {n k : Nat} {r r' : Int} (h : IsRun f n k r) (h' : IsRun f n k r') : r = r' := by
  rcases h with ⟨rfl, h1⟩ | ⟨p, rfl, h1, h2⟩ <;> rcases h' with ⟨rfl, k1⟩ | ⟨p', rfl, k1, k2⟩
  · rfl
  · exact absurd k1 (h1 p')
  · exact absurd h1 (k1 p)
  · rcases Nat.lt_trichotomy p p' with h | h | h
    · exact absurd h1 (k2 p h)
    · rw [h]
    · exact absurd k1 (h2 p' h)
def runI (L : List (Nat × Nat)) (k : Int) : Int := match L.find? (fun x => decide (k ≤ (x.2 : Int))) with
  | none => -1
  | some x => x.1
theorem runI_nil (k : Int) : runI [] k = -1 := rfl
theorem runI_yes (x : Nat × Nat) (L : List (Nat × Nat)) (k : Int) (h : k ≤ (x.2 : Int)) : runI (x :: L) k = x.1 := by simp [runI, h]
theorem runI_no (x : Nat × Nat) (L : List (Nat × Nat)) (k : Int) (h : ¬ k ≤ (x.2 : Int)) : runI (x :: L) k = runI L k := by simp only [runI]; rw [List.find?_cons_of_neg (by simpa using h)]
theorem rl_run {f : Nat → Bool} {n k : Nat} (hk : 1 ≤ k) : ∀ (u p : Nat), n < u + p → (∀ p', p' < p → ¬ win f n k p') → IsRun f n k (runI (rl f n u p) k)
  | 0, p, h1, h2 => .inl ⟨rfl, fun q hw => by
      have := hw.1
      exact h2 q (by omega) hw⟩
  | u + 1, p, hu, hno => by
    cases hq : fstN f n p with
    | none =>
      rw [rl_none hq]
      refine .inl ⟨rfl, fun q hw => ?_⟩
      rcases Nat.lt_or_ge q p with h | h
      · exact hno q h hw
      · have := hw.2 0 (by omega)
        rw [Nat.add_zero, fstN_none hq q h (by have := hw.1; omega)] at this
        cases this
    | some q =>
      obtain ⟨h1, h2, h3, h4⟩ := fstN_some hq
      obtain ⟨e1, e2, e3, e4⟩ := endN_spec h2 h3
      rw [rl_some hq]
      have low : ∀ p', p' < q → ¬ win f n k p' := fun p' hp' hw => by
        rcases Nat.lt_or_ge p' p with h | h
        · exact hno p' h hw
        · have := hw.2 0 (by omega)
          rw [Nat.add_zero, h4 p' h hp'] at this
          cases this
      by_cases hl : k ≤ endN f n q - q
      · rw [runI_yes _ _ _ (by simp only; omega)]
        exact .inr ⟨q, rfl, ⟨by omega, fun i hi => e3 _ (by omega) (by omega)⟩, low⟩
      · rw [runI_no _ _ _ (by simp only; omega)]
        refine rl_run hk u _ (by omega) (fun p' hp' hw => ?_)
        rcases Nat.lt_or_ge p' q with h | h
        · exact low p' h hw
        · have hlt : endN f n q < n := by have := hw.1; omega
          have := hw.2 (endN f n q - p') (by omega)
          rw [show p' + (endN f n q - p') = endN f n q by omega, e4 hlt] at this
          cases this
theorem runsF_run {f : Nat → Bool} {n k : Nat} (hk : 1 ≤ k) : IsRun f n k (runI (runsF f n) k) := rl_run hk (n + 1) 0 (by omega) (fun _ h => by omega)

end Go.Proofs.YtbnhacibkmcmkaaDoor
