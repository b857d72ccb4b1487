/- The law's postings, pure: the places of a word in texts. No program. -/
import Derived.Test.YtfihnmdhclnhgaaLsPhr
namespace Go.Proofs.Ytfihnmdhclnhgaa
set_option maxRecDepth 20000
open Go.RowKit
set_option linter.unusedVariables false
set_option linter.unusedSimpArgs false

/-- the places below j at which q holds -/
def nJ (q : Nat → Bool) (j : Nat) : List Int := ((List.range j).filter q).map (fun k : Nat => (k : Int))
theorem nJ_zero (q : Nat → Bool) : nJ q 0 = [] := rfl
theorem nJ_succ (q : Nat → Bool) (j : Nat) : nJ q (j + 1) = nJ q j ++ (if q j = true then [(j : Int)] else []) := by
  unfold nJ
  rw [List.range_succ, List.filter_append, List.map_append]
  congr 1
  cases h : q j <;> simp [List.filter_cons, h]
theorem nJ_len (q : Nat → Bool) (j : Nat) : (nJ q j).length ≤ j := by
  unfold nJ
  rw [List.length_map]
  exact Nat.le_trans (List.length_filter_le _ _) (by simp)
theorem nJ_mem (q : Nat → Bool) (j : Nat) (z : Int) : z ∈ nJ q j ↔ ∃ k : Nat, z = (k : Int) ∧ k < j ∧ q k = true := by
  unfold nJ
  simp only [List.mem_map, List.mem_filter, List.mem_range]
  constructor
  · rintro ⟨k, ⟨h1, h2⟩, rfl⟩
    exact ⟨k, rfl, h1, h2⟩
  · rintro ⟨k, rfl, h1, h2⟩
    exact ⟨k, ⟨h1, h2⟩, rfl⟩
/-- the places of a word in a text -/
def isW (w : Int) (t : List Int) (k : Nat) : Bool := decide (t.getD k (-1) = w)
def posZ (w : Int) (t : List Int) : List Int := nJ (isW w t) t.length
/-- postings of the texts in which g tells a place, from document i on -/
def plL (g : List Int → List Int) : Nat → List (List Int) → List Po
  | _, [] => []
  | i, t :: ts => (if g t = [] then [] else [⟨i, g t⟩]) ++ plL g (i + 1) ts
theorem plL_snoc (g : List Int → List Int) : ∀ (ts : List (List Int)) (i : Nat) (t : List Int), plL g i (ts ++ [t]) = plL g i ts ++ (if g t = [] then [] else [⟨i + ts.length, g t⟩])
  | [], i, t => by simp [plL]
  | x :: ts, i, t => by
    rw [List.cons_append, plL, plL_snoc g ts (i + 1) t, plL, List.append_assoc, List.length_cons, show i + 1 + ts.length = i + (ts.length + 1) by omega]
theorem plL_len (g : List Int → List Int) : ∀ (ts : List (List Int)) (i : Nat), (plL g i ts).length ≤ ts.length
  | [], _ => Nat.le_refl _
  | t :: ts, i => by
    rw [plL, List.length_append, List.length_cons]
    have := plL_len g ts (i + 1)
    split <;> simp <;> omega
theorem plL_doc (g : List Int → List Int) : ∀ (ts : List (List Int)) (i : Nat), ∀ p ∈ plL g i ts, i ≤ p.doc ∧ p.doc < i + ts.length ∧ ∃ t ∈ ts, p.pos = g t ∧ g t ≠ []
  | [], _, p, hp => by cases hp
  | t :: ts, i, p, hp => by
    rw [plL] at hp
    rcases List.mem_append.1 hp with hp | hp
    · split at hp
      · cases hp
      · rename_i hne
        obtain rfl : p = _ := List.mem_singleton.1 hp
        exact ⟨Nat.le_refl _, by simp, t, List.mem_cons_self .., rfl, hne⟩
    · obtain ⟨h1, h2, t', h3, h4⟩ := plL_doc g ts (i + 1) p hp
      exact ⟨by omega, by rw [List.length_cons]; omega, t', List.mem_cons_of_mem _ h3, h4⟩

/-! ### what is in both -/
theorem meet_above {ps : List Po} {x : Po} {qs : List Po} (h : ∀ p ∈ ps, x.doc < p.doc) : meetL docO ps (x :: qs) = meetL docO ps qs := by
  cases ps with
  | nil => rfl
  | cons p ps => exact meet_gt (by unfold docO; rw [cmpI_gt (by have := h p (List.mem_cons_self ..); omega)]; decide)
theorem meet_below {ps : List Po} {x : Po} {qs : List Po} (h : ∀ q ∈ qs, x.doc < q.doc) : meetL docO (x :: ps) qs = meetL docO ps qs := by
  cases qs with
  | nil => rw [meet_nil, meet_nil]
  | cons q qs => exact meet_lt (by unfold docO; rw [cmpI_lt (by have := h q (List.mem_cons_self ..); omega)]; decide)
theorem rowP_pl (off : Int) (g h : List Int → List Int) : ∀ (ts : List (List Int)) (i : Nat), rowP off (plL g i ts) (plL h i ts) = plL (fun t => (meetL (ordI off) (g t) (h t)).map Prod.fst) i ts
  | [], _ => rfl
  | t :: ts, i => by
    have ih := rowP_pl off g h ts (i + 1)
    have ha : ∀ p ∈ plL g (i + 1) ts, i < p.doc := fun p hp => (plL_doc g ts (i + 1) p hp).1
    have hb : ∀ p ∈ plL h (i + 1) ts, i < p.doc := fun p hp => (plL_doc h ts (i + 1) p hp).1
    unfold rowP at ih ⊢
    rw [plL, plL, plL]
    by_cases h1 : g t = []
    · rw [if_pos h1, List.nil_append, h1, meet_none, List.map_nil, if_pos rfl, List.nil_append]
      by_cases h2 : h t = []
      · rw [if_pos h2, List.nil_append, ih]
      · rw [if_neg h2, List.singleton_append, meet_above (by exact ha), ih]
    · rw [if_neg h1, List.singleton_append]
      by_cases h2 : h t = []
      · rw [if_pos h2, List.nil_append, meet_below (by exact hb), h2, meet_nil, List.map_nil, if_pos rfl, List.nil_append, ih]
      · rw [if_neg h2, List.singleton_append, meet_eq (by unfold docO; exact cmpI_eq _), meet_above (by exact ha), List.filterMap_cons, ih]
        have e : fitP off (⟨i, g t⟩, ⟨i, h t⟩) = if (meetL (ordI off) (g t) (h t)).map Prod.fst = [] then none else some ⟨i, (meetL (ordI off) (g t) (h t)).map Prod.fst⟩ := rfl
        rw [e]
        split <;> simp_all
/-- rising rows: what of the one has its like in the other, so far on -/
def risL (l : List Int) : Prop := l.Pairwise (· < ·)
theorem nJ_ris (q : Nat → Bool) (j : Nat) : risL (nJ q j) := by
  unfold risL nJ
  rw [List.pairwise_map]
  exact (List.Pairwise.filter q List.pairwise_lt_range).imp (fun h => by omega)
theorem meet_filter (off : Int) : ∀ (a b : List Int), risL a → risL b → (meetL (ordI off) a b).map Prod.fst = a.filter (fun x => decide (x + off ∈ b))
  | [], _, _, _ => rfl
  | x :: a, b, ha, hb => by
    obtain ⟨hx, ha'⟩ := List.pairwise_cons.1 ha
    obtain ⟨d, r, hdr, hd, hr⟩ : ∃ d r, b = d ++ r ∧ (∀ y ∈ d, y < x + off) ∧ b.dropWhile (fun y => decide (0 < ordI off x y)) = r := by
      refine ⟨b.takeWhile (fun y => decide (0 < ordI off x y)), _, (List.takeWhile_append_dropWhile).symm, fun y hy => ?_, rfl⟩
      have h := List.all_eq_true.1 List.all_takeWhile y hy
      have h2 : 0 < ordI off x y := by simpa using h
      unfold ordI cmpI at h2
      split at h2
      · omega
      · split at h2 <;> omega
    have hrr : risL r := by rw [hdr] at hb; exact (List.pairwise_append.1 hb).2.1
    have hsub : ∀ z ∈ a, (z + off ∈ b ↔ z + off ∈ r) := fun z hz => by
      have h1 := hx z hz
      rw [hdr, List.mem_append]
      exact ⟨fun h => h.elim (fun h => by have := hd _ h; omega) id, .inr⟩
    have hxb : x + off ∈ b ↔ x + off ∈ r := by
      rw [hdr, List.mem_append]
      exact ⟨fun h => h.elim (fun h => by have := hd _ h; omega) id, .inr⟩
    have ih := meet_filter off a r ha' hrr
    have hf : a.filter (fun z => decide (z + off ∈ b)) = a.filter (fun z => decide (z + off ∈ r)) := List.filter_congr (fun z hz => by rw [decide_eq_decide]; exact hsub z hz)
    rw [List.filter_cons, hf, meetL, hr]
    cases r with
    | nil =>
      rw [meet_nil] at ih
      simp only [List.map_nil]
      rw [← ih]
      rw [if_neg (by rw [decide_eq_true_iff, hxb]; exact List.not_mem_nil)]
      rfl
    | cons y r =>
      have hy : ¬ y < x + off := by
        intro hlt
        have h1 : b.dropWhile (fun y => decide (0 < ordI off x y)) ≠ [] := by rw [hr]; simp
        have h2 := List.head_dropWhile_not (fun y => decide (0 < ordI off x y)) h1
        have h3 : (b.dropWhile (fun y => decide (0 < ordI off x y))).head h1 = y := by simp only [hr, List.head_cons]
        rw [h3] at h2
        have h4 : ordI off x y = 1 := by unfold ordI; exact cmpI_gt hlt
        rw [h4] at h2
        simp at h2
      by_cases he : y = x + off
      · subst he
        have h0 : ordI off x (x + off) = 0 := by unfold ordI; exact cmpI_eq _
        simp only [h0, if_true, List.map_cons, ih]
        rw [if_pos (by rw [decide_eq_true_iff, hxb]; exact List.mem_cons_self ..)]
      · have h0 : ordI off x y ≠ 0 := by
          unfold ordI
          rw [cmpI_lt (by omega)]
          decide
        simp only [h0, if_false, ih]
        rw [if_neg]
        rw [decide_eq_true_iff, hxb]
        intro hm
        rcases List.mem_cons.1 hm with h | h
        · exact he h.symm
        · have := (List.pairwise_cons.1 hrr).1 _ h
          omega

end Go.Proofs.Ytfihnmdhclnhgaa
