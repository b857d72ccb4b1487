/- What a free map is: two sets (taken now, taken ahead); free, held; lists that may be; the first row; what a page is. No program. -/
import Derived.Test.YtbnhacibkmcmkaaDoorELists
import Derived.Test.YtbnhacibkmcmkaaDoorEInts
namespace Go.Proofs.YtbnhacibkmcmkaaDoor
set_option maxRecDepth 20000
open Go.RowKit
set_option linter.unusedVariables false

/-- free, held -/
def frF (n : Nat) (f g : Nat → Bool) : Nat → Bool := fun p => ntF n f p && !g p
def heF (f g : Nat → Bool) : Nat → Bool := fun p => g p && !f p
theorem ntF_eq (n : Nat) (f : Nat → Bool) (p : Nat) : ntF n f p = (decide (p < n) && !f p) := rfl
theorem frF_eq (n : Nat) (f g : Nat → Bool) (p : Nat) : frF n f g p = (decide (p < n) && !f p && !g p) := rfl
theorem frF_lt {n : Nat} {f g : Nat → Bool} {p : Nat} (h : frF n f g p = true) : p < n ∧ f p = false ∧ g p = false := by
  rw [frF_eq] at h
  simp only [Bool.and_eq_true, decide_eq_true_eq, Bool.not_eq_true'] at h
  exact ⟨h.1.1, h.1.2, h.2⟩
theorem pages_fr (n : Nat) (f g : Nat → Bool) : (pagesF (ntF n f) n).filter (fun p => !g p) = pagesF (frF n f g) n := by
  rw [pagesF_eq, pagesF_eq, List.filter_filter]
  congr 1
  funext p
  rw [frF, Bool.and_comm]
theorem pages_he (n : Nat) (f g : Nat → Bool) : (pagesF g n).filter (fun p => !f p) = pagesF (heF f g) n := by
  rw [pagesF_eq, pagesF_eq, List.filter_filter]
  congr 1
  funext p
  rw [heF, Bool.and_comm]
theorem pagesF_le (f : Nat → Bool) (n : Nat) : (pagesF f n).length ≤ n := by rw [pagesF_len]; exact cntF_le f n
theorem mem_pagesF {f : Nat → Bool} {n p : Nat} : p ∈ pagesF f n ↔ p < n ∧ f p = true := by rw [pagesF_eq]; simp
theorem pagesF_sorted (f : Nat → Bool) (n : Nat) : (pagesF f n).Pairwise (· < ·) := by
  rw [pagesF_eq]
  exact List.Pairwise.filter _ List.pairwise_lt_range
theorem cnt_parts (n : Nat) (f g : Nat → Bool) : cntF f n + cntF (heF f g) n + cntF (frF n f g) n = n := by
  have h : ∀ m, m ≤ n → cntF f m + cntF (heF f g) m + cntF (frF n f g) m = m := by
    intro m
    induction m with
    | zero => intro _; rfl
    | succ m ih =>
      intro hm
      have := ih (by omega)
      rw [cntF, cntF, cntF, frF_eq, heF, decide_eq_true (show m < n by omega)]
      cases f m <;> cases g m <;> simp <;> omega
  exact h n (Nat.le_refl _)

/-! ### lists that may be -/
def riseB (n : Int) : Int → List Int → Bool
  | _, [] => true
  | l, k :: r => decide (l < k) && decide (k < n) && riseB n k r
theorem riseB_cons {n l k : Int} {r : List Int} : riseB n l (k :: r) = (decide (l < k) && decide (k < n) && riseB n k r) := rfl
theorem riseB_mem {n : Int} : ∀ {l : Int} {ks : List Int}, riseB n l ks = true → ∀ k ∈ ks, l < k ∧ k < n
  | l, [], _, k, h => by cases h
  | l, a :: r, h, k, hk => by
    rw [riseB_cons, Bool.and_eq_true, Bool.and_eq_true, decide_eq_true_eq, decide_eq_true_eq] at h
    rcases List.mem_cons.1 hk with rfl | hk
    · exact h.1
    · have := riseB_mem h.2 k hk
      omega
theorem riseB_sorted {n : Int} : ∀ {l : Int} {ks : List Int}, riseB n l ks = true → ks.Pairwise (· < ·)
  | l, [], _ => List.Pairwise.nil
  | l, a :: r, h => by
    rw [riseB_cons, Bool.and_eq_true, Bool.and_eq_true, decide_eq_true_eq, decide_eq_true_eq] at h
    exact List.Pairwise.cons (fun b hb => (riseB_mem h.2 b hb).1) (riseB_sorted h.2)
theorem riseB_len {n : Nat} : ∀ {l : Int} {ks : List Int}, -1 ≤ l → riseB n l ks = true → (ks.length : Int) + l + 1 ≤ n ∨ ks = []
  | l, [], _, _ => .inr rfl
  | l, a :: r, hl, h => by
    rw [riseB_cons, Bool.and_eq_true, Bool.and_eq_true, decide_eq_true_eq, decide_eq_true_eq] at h
    left
    rcases riseB_len (l := a) (ks := r) (by omega) h.2 with h2 | h2
    · simp only [List.length_cons]; omega
    · subst h2; simp; omega
/-- so many pages may be -/
def sizeB (n : Int) : Bool := decide (8 ≤ n) && decide (n ≤ 2048)
def mayB (n : Int) (ks : List Int) : Bool := sizeB n && riseB n (-1) ks
theorem sizeB_iff {n : Int} : sizeB n = true ↔ 8 ≤ n ∧ n ≤ 2048 := by simp [sizeB]
theorem sizeB_no {n : Int} (h : ¬ (8 ≤ n ∧ n ≤ 2048)) : sizeB n = false := by
  cases hs : sizeB n with
  | false => rfl
  | true => exact absurd (sizeB_iff.1 hs) h
def needN (n : Int) : Int := if sizeB n then 1 + (n - 1) / 1024 else 0
/-- the pages of a list -/
def inL (ks : List Int) : Nat → Bool := fun p => decide ((p : Int) ∈ ks)
theorem inL_out {n : Nat} {ks : List Int} (h : riseB n (-1) ks = true) : ∀ p, n ≤ p → inL ks p = false := fun p hp => by
  rw [inL, decide_eq_false]
  intro hm
  have := (riseB_mem h _ hm).2
  omega
theorem eq_of_sorted {xs ys : List Int} (hx : xs.Pairwise (· < ·)) (hy : ys.Pairwise (· < ·)) (h : ∀ z, z ∈ xs ↔ z ∈ ys) : xs = ys := by
  induction xs generalizing ys with
  | nil =>
    cases ys with
    | nil => rfl
    | cons y ys => exact absurd ((h y).2 (List.mem_cons_self ..)) (by simp)
  | cons x xs ih =>
    cases ys with
    | nil => exact absurd ((h x).1 (List.mem_cons_self ..)) (by simp)
    | cons y ys =>
      rw [List.pairwise_cons] at hx hy
      have hxy : x = y := by
        rcases List.mem_cons.1 ((h x).1 (List.mem_cons_self ..)) with e | e
        · exact e
        · rcases List.mem_cons.1 ((h y).2 (List.mem_cons_self ..)) with e2 | e2
          · exact e2.symm
          · have := hy.1 x e
            have := hx.1 y e2
            omega
      subst hxy
      rw [ih hx.2 hy.2 (fun z => ?_)]
      constructor
      · intro hz
        rcases List.mem_cons.1 ((h z).1 (List.mem_cons_of_mem _ hz)) with e | e
        · have := hx.1 z hz; omega
        · exact e
      · intro hz
        rcases List.mem_cons.1 ((h z).2 (List.mem_cons_of_mem _ hz)) with e | e
        · have := hy.1 z hz; omega
        · exact e
def ciN (xs : List Nat) : List Int := xs.map (fun (x : Nat) => (x : Int))
theorem ciN_length (xs : List Nat) : (ciN xs).length = xs.length := by simp [ciN]
theorem ciN_sorted {xs : List Nat} (h : xs.Pairwise (· < ·)) : (ciN xs).Pairwise (· < ·) := by
  rw [ciN, List.pairwise_map]
  exact h.imp (fun h => by omega)
/-- what is taken is the list -/
theorem pages_inL {n : Nat} {ks : List Int} (h : riseB n (-1) ks = true) : ciN (pagesF (inL ks) n) = ks := by
  refine eq_of_sorted (ciN_sorted (pagesF_sorted _ _)) (riseB_sorted h) (fun z => ?_)
  simp only [ciN, List.mem_map]
  constructor
  · rintro ⟨p, hp, rfl⟩
    have := (mem_pagesF.1 hp).2
    simpa [inL] using this
  · intro hz
    have := riseB_mem h z hz
    refine ⟨z.toNat, mem_pagesF.2 ⟨by omega, ?_⟩, by omega⟩
    rw [inL, decide_eq_true_eq, show ((z.toNat : Nat) : Int) = z by omega]
    exact hz

/-! ### the first row -/
def rowI (n : Nat) (f g : Nat → Bool) (K : Int) : Int := runI (runsF (frF n f g) n) K
/-- what AllocRun answers, and leaves taken -/
def alV (n : Nat) (f g : Nat → Bool) (K : Int) : Int := if K < 1 then 0 else if rowI n f g K = -1 then 0 else rowI n f g K
def alE (n : Nat) (f g : Nat → Bool) (K : Int) : Int := if K < 1 then 1 else if rowI n f g K = -1 then 6 else 0
def alF (n : Nat) (f g : Nat → Bool) (K : Int) : Nat → Bool := if K < 1 then f else if rowI n f g K = -1 then f else fun q => f q || decide (rowI n f g K ≤ (q : Int) ∧ (q : Int) < rowI n f g K + K)
theorem rowI_is {n : Nat} {f g : Nat → Bool} {K : Nat} (h : 1 ≤ K) : IsRun (frF n f g) n K (rowI n f g K) := runsF_run h
/-- what Free answers, and leaves taken -/
def freeE (f : Nat → Bool) (p : Int) : Int := if hasI f p then 0 else 4

/-! ### what a page is -/
def codeP (f g : Nat → Bool) (p : Nat) : Int := if f p then (if g p then 1 else 2) else (if g p then 3 else 0)
def codes (f g : Nat → Bool) (n : Nat) : List Int := (List.range n).map (codeP f g)
theorem codes_len (f g : Nat → Bool) (n : Nat) : (codes f g n).length = n := by simp [codes]
theorem codes_get (f g : Nat → Bool) (n p : Nat) (h : p < n) : (codes f g n).getD p 0 = codeP f g p := by simp [codes, List.getD, h]
theorem codeP_range (f g : Nat → Bool) (p : Nat) : codeP f g p = 0 ∨ codeP f g p = 1 ∨ codeP f g p = 2 ∨ codeP f g p = 3 := by
  unfold codeP
  cases f p <;> cases g p <;> simp
theorem codeP_free {n : Nat} {f g : Nat → Bool} {p : Nat} (h : p < n) : (codeP f g p = 0) ↔ frF n f g p = true := by
  rw [frF_eq, decide_eq_true h]
  unfold codeP
  cases f p <;> cases g p <;> simp

/-! ### the walk of AllocRun: k free pages having been gone over, a row of L pages from b on -/
structure RowK (fr : Nat → Bool) (n K : Nat) (xs : List Nat) (k b L : Nat) : Prop where
  le : L ≤ K
  all : ∀ i, i < L → fr (b + i) = true
  low : ∀ p, p < b → ¬ win fr n K p
  next : ∀ p, b + L ≤ p → p < n → (fr p = true ↔ p ∈ xs.drop k)
  rise : ∀ p ∈ xs.drop k, b + L ≤ p
  few : b + L ≤ n
theorem RowK.begin (fr : Nat → Bool) (n K : Nat) : RowK fr n K (pagesF fr n) 0 0 0 :=
  ⟨Nat.zero_le _, fun i h => by omega, fun p h => by omega, fun p _ hp => by rw [List.drop_zero, mem_pagesF]; exact ⟨fun h => ⟨hp, h⟩, fun h => h.2⟩, fun p _ => by omega, Nat.zero_le _⟩
theorem RowK.found {fr : Nat → Bool} {n K : Nat} {xs : List Nat} {k b L : Nat} (h : RowK fr n K xs k b L) (hL : L = K) : IsRun fr n K (b : Int) := by
  subst hL
  exact .inr ⟨b, rfl, ⟨h.few, h.all⟩, h.low⟩
/-- where the row ends no longer row begins -/
theorem RowK.gap {fr : Nat → Bool} {n K : Nat} {xs : List Nat} {k b L : Nat} (h : RowK fr n K xs k b L) (hL : L < K) (hn : b + L < n → fr (b + L) = false) (p : Nat) (hp : p ≤ b + L) : ¬ win fr n K p := fun hw => by
  rcases Nat.lt_or_ge p b with h1 | h1
  · exact h.low p h1 hw
  · have h2 := hw.1
    have := hw.2 (b + L - p) (by omega)
    rw [show p + (b + L - p) = b + L by omega, hn (by omega)] at this
    cases this
theorem RowK.none {fr : Nat → Bool} {n K : Nat} {xs : List Nat} {k b L : Nat} (hK : 1 ≤ K) (h : RowK fr n K xs k b L) (hL : L < K) (hx : xs.drop k = []) : IsRun fr n K (-1) := by
  refine .inl ⟨rfl, fun p hw => ?_⟩
  have hf : ∀ q, b + L ≤ q → q < n → fr q = false := fun q h1 h2 => by
    cases hq : fr q with
    | false => rfl
    | true => have := (h.next q h1 h2).1 hq; rw [hx] at this; cases this
  rcases Nat.lt_or_ge (b + L) p with h1 | h1
  · have := hw.2 0 (by omega)
    rw [Nat.add_zero, hf p (by omega) (by have := hw.1; omega)] at this
    cases this
  · exact h.gap hL (fun hlt => hf _ (Nat.le_refl _) hlt) p h1 hw
theorem RowK.more {fr : Nat → Bool} {n K : Nat} {xs : List Nat} {k b L x : Nat} (hx : xs.drop k = x :: xs.drop (k + 1)) (hs : (x :: xs.drop (k + 1)).Pairwise (· < ·)) (hxn : x < n) (h : RowK fr n K xs k b L) (hL : L < K) (hb : x = b + L) : RowK fr n K xs (k + 1) b (L + 1) := by
  have hf : fr x = true := (h.next x (by omega) hxn).2 (by rw [hx]; exact List.mem_cons_self ..)
  refine ⟨by omega, fun i hi => ?_, h.low, fun p h1 h2 => ?_, fun p hp => ?_, by omega⟩
  · by_cases he : i = L
    · subst he; rw [← hb]; exact hf
    · exact h.all i (by omega)
  · rw [h.next p (by omega) h2, hx, List.mem_cons]
    exact ⟨fun h => h.resolve_left (by omega), .inr⟩
  · have := (List.pairwise_cons.1 hs).1 p hp
    omega
theorem RowK.anew {fr : Nat → Bool} {n K : Nat} {xs : List Nat} {k b L x : Nat} (hx : xs.drop k = x :: xs.drop (k + 1)) (hs : (x :: xs.drop (k + 1)).Pairwise (· < ·)) (hxn : x < n) (h : RowK fr n K xs k b L) (hL : L < K) (hb : x ≠ b + L) : RowK fr n K xs (k + 1) x 1 := by
  have hxl : b + L < x := by
    have := h.rise x (by rw [hx]; exact List.mem_cons_self ..)
    omega
  have hf : fr x = true := (h.next x (by omega) hxn).2 (by rw [hx]; exact List.mem_cons_self ..)
  have hno : ∀ q, b + L ≤ q → q < x → fr q = false := fun q h1 h2 => by
    cases hq : fr q with
    | false => rfl
    | true =>
      have := (h.next q h1 (by omega)).1 hq
      rw [hx] at this
      rcases List.mem_cons.1 this with e | e
      · omega
      · have := (List.pairwise_cons.1 hs).1 q e; omega
  refine ⟨by omega, fun i hi => by rw [show x + i = x by omega]; exact hf, fun p hp hw => ?_, fun p h1 h2 => ?_, fun p hp => ?_, by omega⟩
  · rcases Nat.lt_or_ge (b + L) p with h1 | h1
    · have := hw.2 0 (by omega)
      rw [Nat.add_zero, hno p (by omega) hp] at this
      cases this
    · exact h.gap hL (fun hlt => hno _ (Nat.le_refl _) hxl) p h1 hw
  · rw [h.next p (by omega) h2, hx, List.mem_cons]
    exact ⟨fun h => h.resolve_left (by omega), .inr⟩
  · have := (List.pairwise_cons.1 hs).1 p hp
    omega

end Go.Proofs.YtbnhacibkmcmkaaDoor
