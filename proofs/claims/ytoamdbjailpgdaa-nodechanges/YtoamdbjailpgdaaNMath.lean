/- Nodes (layer 10), as lists: which may be, how many bytes they have; no program. -/
import Derived.Test.YtoamdbjailpgdaaDBase
namespace Go.Proofs.Ytoamdbjailpgdaa
set_option maxRecDepth 20000
open Go.RowKit
set_option linter.unusedVariables false

/-- a node: a leaf?, its pairs, its keys, its children -/
structure Nd where
  lf : Bool
  ps : List (List Int × List Int)
  ks : List (List Int)
  cs : List Int

def noNd : Nd := ⟨false, [], [], []⟩

def keyB (k : List Int) : Bool := decide (0 < k.length) && decide (k.length ≤ 25)
def valB (v : List Int) : Bool := decide (v.length ≤ 24)
def kidB (c : Int) : Bool := decide (2 ≤ c) && decide (c < 2048)
/-- a key that stands behind 'l' -/
def behB (l k : List Int) : Bool := keyB k && decide (cmp l k < 0)
def riseK : List Int → List (List Int) → Bool
  | _, [] => true
  | l, k :: ks => behB l k && riseK k ks
def riseP : List Int → List (List Int × List Int) → Bool
  | _, [] => true
  | l, p :: ps => behB l p.1 && valB p.2 && riseP p.1 ps
def leafB (n : Nd) : Bool := n.lf && decide (n.ps.length ≤ 255) && decide (n.ks = []) && decide (n.cs = []) && riseP [] n.ps
def innerB (n : Nd) : Bool := !n.lf && decide (n.ps = []) && decide (1 ≤ n.ks.length) && decide (n.ks.length ≤ 255) && decide (n.cs.length = n.ks.length + 1) && riseK [] n.ks && n.cs.all kidB
def mayN (n : Nd) : Bool := leafB n || innerB n

/-- the bytes of each pair, or key and child -/
def partP (p : List Int × List Int) : Nat := 2 + p.1.length + p.2.length
def partK (k : List Int) : Nat := 3 + k.length
def partsN (n : Nd) : List Nat := n.ps.map partP ++ n.ks.map partK
def sizeN (n : Nd) : Nat := if mayN n then (if n.lf then 1 else 3) + (partsN n).sum else 0
def checkN (n : Nd) : Int := if mayN n then (if sizeN n ≤ 240 then 0 else 3) else 100

theorem leafB_lf {n : Nd} (h : leafB n = true) : n.lf = true := by simp [leafB] at h; exact h.1.1.1.1
theorem innerB_lf {n : Nd} (h : innerB n = true) : n.lf = false := by simp [innerB] at h; exact h.1.1.1.1.1.1
theorem leafB_ps {n : Nd} (h : leafB n = true) : n.ps.length ≤ 255 ∧ n.ks = [] ∧ n.cs = [] ∧ riseP [] n.ps = true := by simp [leafB] at h; exact ⟨h.1.1.1.2, h.1.1.2, h.1.2, h.2⟩
theorem innerB_ps {n : Nd} (h : innerB n = true) : n.ps = [] ∧ 1 ≤ n.ks.length ∧ n.ks.length ≤ 255 ∧ n.cs.length = n.ks.length + 1 ∧ riseK [] n.ks = true ∧ ∀ c ∈ n.cs, kidB c = true := by
  simp [innerB] at h; exact ⟨h.1.1.1.1.1.2, h.1.1.1.1.2, h.1.1.1.2, h.1.1.2, h.1.2, h.2⟩
theorem leafB_of {n : Nd} (h0 : n.lf = true) (h1 : n.ps.length ≤ 255) (h2 : n.ks = []) (h3 : n.cs = []) (h4 : riseP [] n.ps = true) : leafB n = true := by simp [leafB, h0, h1, h2, h3, h4]
theorem innerB_of {n : Nd} (h0 : n.lf = false) (h1 : n.ps = []) (h2 : 1 ≤ n.ks.length) (h3 : n.ks.length ≤ 255) (h4 : n.cs.length = n.ks.length + 1) (h5 : riseK [] n.ks = true) (h6 : ∀ c ∈ n.cs, kidB c = true) : innerB n = true := by
  simp only [innerB, h0, h1, h4, h5, Bool.not_false, decide_true, Bool.true_and, Bool.and_true, Bool.and_eq_true, decide_eq_true_eq, List.all_eq_true]
  exact ⟨⟨h2, h3⟩, h6⟩
theorem not_both {n : Nd} (h : leafB n = true) : innerB n = false := by
  cases h2 : innerB n with
  | false => rfl
  | true => have := innerB_lf h2; rw [leafB_lf h] at this; cases this
theorem mayN_lf {n : Nd} (h : n.lf = true) : mayN n = leafB n := by
  unfold mayN
  cases h2 : innerB n with
  | false => simp
  | true => have := innerB_lf h2; rw [h] at this; cases this
theorem mayN_in {n : Nd} (h : n.lf = false) : mayN n = innerB n := by
  unfold mayN
  cases h2 : leafB n with
  | false => simp
  | true => have := leafB_lf h2; rw [h] at this; cases this

theorem cmp_nil_lt {k : List Int} : cmp [] k < 0 ↔ k ≠ [] := by
  cases k <;> simp [cmp]
theorem behB_nil (k : List Int) : behB [] k = keyB k := by
  unfold behB keyB
  cases k <;> simp [cmp]

/-- rising, said place by place -/
theorem riseK_iff : ∀ (l : List Int) (ks : List (List Int)), riseK l ks = true ↔ ∀ i, i < ks.length → behB (if i = 0 then l else ks.getD (i - 1) []) (ks.getD i []) = true
  | l, [] => by simp [riseK]
  | l, k :: ks => by
    rw [riseK, Bool.and_eq_true, riseK_iff k ks]
    constructor
    · rintro ⟨h1, h2⟩ i hi
      cases i with
      | zero => simpa using h1
      | succ i =>
        have := h2 i (by simpa using hi)
        cases i with
        | zero => simpa using this
        | succ i => simpa using this
    · intro h
      refine ⟨by simpa using h 0 (by simp), fun i hi => ?_⟩
      have := h (i + 1) (by simpa using hi)
      cases i with
      | zero => simpa using this
      | succ i => simpa using this
theorem riseP_iff : ∀ (l : List Int) (ps : List (List Int × List Int)), riseP l ps = true ↔ riseK l (ps.map (·.1)) = true ∧ ∀ p ∈ ps, valB p.2 = true
  | l, [] => by simp [riseP, riseK]
  | l, p :: ps => by
    rw [riseP, List.map_cons, riseK, Bool.and_eq_true, Bool.and_eq_true, Bool.and_eq_true, riseP_iff p.1 ps]
    simp only [List.mem_cons, forall_eq_or_imp]
    constructor
    · rintro ⟨⟨a, b⟩, c, d⟩; exact ⟨⟨a, c⟩, b, d⟩
    · rintro ⟨⟨a, c⟩, b, d⟩; exact ⟨⟨a, b⟩, c, d⟩

theorem riseK_keys : ∀ (l : List Int) (ks : List (List Int)), riseK l ks = true → ∀ k ∈ ks, keyB k = true
  | l, [], _, k, hk => by cases hk
  | l, x :: ks, h, k, hk => by
    rw [riseK, Bool.and_eq_true] at h
    rcases List.mem_cons.1 hk with rfl | hk
    · have := h.1; rw [behB, Bool.and_eq_true] at this; exact this.1
    · exact riseK_keys x ks h.2 k hk
theorem keyB_len {k : List Int} (h : keyB k = true) : 1 ≤ k.length ∧ k.length ≤ 25 := by
  rw [keyB, Bool.and_eq_true, decide_eq_true_iff, decide_eq_true_iff] at h
  omega
/-- what may be is short -/
theorem may_bounds {n : Nd} (h : mayN n = true) : n.ps.length ≤ 255 ∧ n.ks.length ≤ 255 ∧ n.cs.length ≤ 256 ∧ (∀ p ∈ n.ps, p.1.length ≤ 25 ∧ p.2.length ≤ 24) ∧ ∀ k ∈ n.ks, k.length ≤ 25 := by
  rw [mayN, Bool.or_eq_true] at h
  rcases h with h | h
  · obtain ⟨h1, h2, h3, h4⟩ := leafB_ps h
    obtain ⟨h5, h6⟩ := (riseP_iff _ _).1 h4
    refine ⟨h1, by rw [h2]; simp, by rw [h3]; simp, fun p hp => ⟨(keyB_len (riseK_keys _ _ h5 _ (List.mem_map_of_mem hp))).2, ?_⟩, by rw [h2]; intro k hk; cases hk⟩
    have := h6 p hp
    rwa [valB, decide_eq_true_iff] at this
  · obtain ⟨h1, h2, h3, h4, h5, h6⟩ := innerB_ps h
    exact ⟨by rw [h1]; simp, h3, by omega, (by rw [h1]; intro p hp; cases hp), fun k hk => (keyB_len (riseK_keys _ _ h5 _ hk)).2⟩

end Go.Proofs.Ytoamdbjailpgdaa
