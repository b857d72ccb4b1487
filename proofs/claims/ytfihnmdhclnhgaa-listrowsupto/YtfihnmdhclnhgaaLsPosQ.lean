/- Words in a row, pure: a phrase of the words' postings is just the places where they stand so. No program. -/
import Derived.Test.YtfihnmdhclnhgaaLsPosP
namespace Go.Proofs.Ytfihnmdhclnhgaa
set_option maxRecDepth 20000
open Go.RowKit
set_option linter.unusedVariables false
set_option linter.unusedSimpArgs false

theorem nJ_congr {q q' : Nat → Bool} {j : Nat} (h : ∀ k, k < j → q k = q' k) : nJ q j = nJ q' j := by
  unfold nJ
  congr 1
  exact List.filter_congr (fun k hk => h k (List.mem_range.1 hk))
theorem nJ_filter (q : Nat → Bool) (p : Int → Bool) (j : Nat) : (nJ q j).filter p = nJ (fun k => q k && p (k : Int)) j := by
  unfold nJ
  rw [List.filter_map, List.filter_filter]
  congr 1
  exact List.filter_congr (fun k _ => by simp [Bool.and_comm])
/-- does word o of the phrase stand so far behind place k -/
def chkW (ws : Nat → Int) (t : List Int) (k o : Nat) : Bool := decide (k + o < t.length) && isW (ws o) t (k + o)
theorem mem_posZ (w : Int) (t : List Int) (k o : Nat) : decide ((k : Int) + (o : Int) ∈ posZ w t) = (decide (k + o < t.length) && isW w t (k + o)) := by
  rw [Bool.eq_iff_iff, decide_eq_true_iff, Bool.and_eq_true, decide_eq_true_iff]
  unfold posZ
  rw [nJ_mem]
  constructor
  · rintro ⟨m, h1, h2, h3⟩
    obtain rfl : m = k + o := by omega
    exact ⟨h2, h3⟩
  · rintro ⟨h1, h2⟩
    exact ⟨k + o, by omega, h1, h2⟩
theorem row_step (ws : Nat → Int) (q : List Int → Nat → Bool) (o i : Nat) (ts : List (List Int)) :
    rowP (o : Int) (plL (fun t => nJ (q t) t.length) i ts) (plL (posZ (ws o)) i ts) = plL (fun t => nJ (fun k => q t k && chkW ws t k o) t.length) i ts := by
  rw [rowP_pl]
  congr 1
  funext t
  rw [meet_filter _ _ _ (nJ_ris _ _) (show risL (posZ (ws o) t) from nJ_ris _ _), nJ_filter]
  congr 1
  funext k
  rw [mem_posZ]
  rfl
theorem phr_fold (ws : Nat → Int) (ts : List (List Int)) : ∀ (l : List Nat) (q : List Int → Nat → Bool),
    phrF ((l.map (fun o : Nat => (o : Int))).zip (l.map (fun o => plL (posZ (ws o)) 1 ts))) (plL (fun t => nJ (q t) t.length) 1 ts) = plL (fun t => nJ (fun k => q t k && l.all (chkW ws t k)) t.length) 1 ts
  | [], q => by
    simp only [List.map_nil, List.zip_nil_left, phrF, List.all_nil, Bool.and_true]
  | o :: l, q => by
    rw [List.map_cons, List.map_cons, List.zip_cons_cons, phrF]
    show phrF _ (rowP (o : Int) _ (plL (posZ (ws o)) 1 ts)) = _
    rw [row_step, phr_fold ws ts l]
    congr 1
    funext t
    congr 1
    funext k
    rw [List.all_cons, Bool.and_assoc]
/-- the places where the words stand so -/
def wantG (ws : Nat → Int) (l : List Nat) (t : List Int) : List Int := nJ (fun k => l.all (chkW ws t k)) t.length
theorem phrase_want (ws : Nat → Int) (ts : List (List Int)) (l : List Nat) :
    phraseP ((0 :: l).map (fun o : Nat => (o : Int))) ((0 :: l).map (fun o => plL (posZ (ws o)) 1 ts)) = plL (wantG ws (0 :: l)) 1 ts := by
  unfold phraseP
  have h := phr_fold ws ts (0 :: l) (fun t => isW (ws 0) t)
  rw [show ((0 :: l).map (fun o => plL (posZ (ws o)) 1 ts)).headD [] = plL (fun t => nJ (isW (ws 0) t) t.length) 1 ts from rfl, h]
  congr 1
  funext t
  unfold wantG
  refine nJ_congr (fun k hk => ?_)
  rw [List.all_cons, ← Bool.and_assoc]
  congr 1
  unfold chkW
  rw [Nat.add_zero, decide_eq_true hk]
  simp

/-! ### that the phrase may be -/
theorem plL_ok (g : List Int → List Int) : ∀ (ts : List (List Int)) (i D : Nat), D < i → i + ts.length ≤ 2147483647 → (∀ t ∈ ts, g t ≠ [] → posB (g t) = true) → listOk D (plL g i ts) = true
  | [], _, _, _, _, _ => rfl
  | t :: ts, i, D, hD, hi, hg => by
    rw [List.length_cons] at hi
    rw [plL]
    by_cases h : g t = []
    · rw [if_pos h, List.nil_append]
      exact plL_ok g ts (i + 1) D (by omega) (by omega) (fun t' ht' => hg t' (List.mem_cons_of_mem _ ht'))
    · rw [if_neg h, List.singleton_append, listOk]
      have h1 : mayB D ⟨i, g t⟩ = true := by
        unfold mayB
        simp only [Bool.and_eq_true, decide_eq_true_iff]
        exact ⟨⟨hD, by omega⟩, hg t (List.mem_cons_self ..) h⟩
      rw [h1, Bool.true_and]
      exact plL_ok g ts (i + 1) i (by omega) (by omega) (fun t' ht' => hg t' (List.mem_cons_of_mem _ ht'))
theorem rises_ris : ∀ (l : List Int) (z : Int), risL l → (∀ x ∈ l, z < x ∧ x ≤ 1048576) → risesB z l = true
  | [], _, _, _ => rfl
  | x :: l, z, h, hz => by
    obtain ⟨h1, h2⟩ := List.pairwise_cons.1 h
    rw [risesB]
    simp only [Bool.and_eq_true, decide_eq_true_iff]
    exact ⟨hz x (List.mem_cons_self ..), rises_ris l x h2 (fun y hy => ⟨h1 y hy, (hz y (List.mem_cons_of_mem _ hy)).2⟩)⟩
theorem nJ_posB (q : Nat → Bool) (j : Nat) (hj : j ≤ 2000) (h : nJ q j ≠ []) : posB (nJ q j) = true := by
  unfold posB
  simp only [Bool.and_eq_true, decide_eq_true_iff]
  refine ⟨⟨?_, Nat.le_trans (nJ_len q j) hj⟩, rises_ris _ _ (nJ_ris q j) (fun x hx => ?_)⟩
  · have := List.length_pos_iff.2 h
    omega
  · obtain ⟨k, rfl, h1, _⟩ := (nJ_mem q j x).1 hx
    omega
theorem off_ris : ∀ (l : List Int), risL l → (∀ x ∈ l, x ≤ 1048576) → offR l = true
  | [], _, _ => rfl
  | [_], _, _ => rfl
  | x :: y :: l, h, hz => by
    obtain ⟨h1, h2⟩ := List.pairwise_cons.1 h
    rw [offR]
    simp only [Bool.and_eq_true, decide_eq_true_iff]
    exact ⟨⟨h1 y (List.mem_cons_self ..), hz y (by simp)⟩, off_ris (y :: l) h2 (fun z hz' => hz z (List.mem_cons_of_mem _ hz'))⟩
/-- which words are taken -/
def selW (S : Nat) (i : Nat) : Bool := !(decide (0 < i) && decide (S / 2 ^ i % 2 = 1))
theorem selW_zero (S : Nat) : selW S 0 = true := rfl
theorem sel_head (q : Nat → Bool) (hq : q 0 = true) (n : Nat) (hn : 1 ≤ n) : ∃ l, (List.range n).filter q = 0 :: l := by
  obtain ⟨m, rfl⟩ : ∃ m, n = m + 1 := ⟨n - 1, by omega⟩
  rw [List.range_succ_eq_map, List.filter_cons, if_pos hq]
  exact ⟨_, rfl⟩
theorem sel_offB (q : Nat → Bool) (hq : q 0 = true) (n : Nat) (hn : 1 ≤ n) (hn2 : n ≤ 16) : offB (nJ q n) = true := by
  unfold offB
  obtain ⟨l, hl⟩ := sel_head q hq n hn
  have e : nJ q n = 0 :: l.map (fun k : Nat => (k : Int)) := by unfold nJ; rw [hl]; rfl
  simp only [Bool.and_eq_true, decide_eq_true_iff]
  refine ⟨⟨⟨by rw [e]; simp, Nat.le_trans (nJ_len q n) hn2⟩, by rw [e]; rfl⟩, off_ris _ (nJ_ris q n) (fun x hx => ?_)⟩
  obtain ⟨k, rfl, h1, _⟩ := (nJ_mem q n x).1 hx
  omega

end Go.Proofs.Ytfihnmdhclnhgaa
