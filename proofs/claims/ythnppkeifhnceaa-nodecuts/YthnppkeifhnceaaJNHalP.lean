/- Halves, joined, are the node; where one pair less would fit, both halves fit and are full enough: as lists. No program. -/
import Derived.Test.YthnppkeifhnceaaJNHalf
import Derived.Test.YthnppkeifhnceaaNJoin
namespace Go.Proofs.Ythnppkeifhnceaa
set_option maxRecDepth 20000
open Go.RowKit
set_option linter.unusedVariables false

theorem riseK_take {l : List (List Int)} (h : riseK [] l = true) (i : Nat) : riseK [] (l.take i) = true := by
  rw [riseK_iff] at h ⊢
  intro j hj
  simp only [List.length_take] at hj
  have := h j (by omega)
  by_cases hj0 : j = 0
  · subst hj0
    simp only [if_true] at this ⊢
    rw [getD_takeX l i 0 _ (by omega)]
    exact this
  · rw [if_neg hj0] at this ⊢
    rw [getD_takeX l i (j - 1) _ (by omega), getD_takeX l i j _ (by omega)]
    exact this
theorem behB_key {l k : List Int} (h : behB l k = true) : behB [] k = true := by
  rw [behB_nil]
  unfold behB at h
  rw [Bool.and_eq_true] at h
  exact h.1
theorem riseK_drop {l : List (List Int)} (h : riseK [] l = true) (i : Nat) : riseK [] (l.drop i) = true := by
  rw [riseK_iff] at h ⊢
  intro j hj
  simp only [List.length_drop] at hj
  have := h (i + j) (by omega)
  by_cases hj0 : j = 0
  · subst hj0
    simp only [if_true]
    rw [getD_dropX l i 0]
    exact behB_key this
  · rw [if_neg hj0]
    rw [if_neg (by omega)] at this
    rw [getD_dropX l i (j - 1), getD_dropX l i j, show i + (j - 1) = i + j - 1 by omega]
    exact this
theorem riseP_take {l : List (List Int × List Int)} (h : riseP [] l = true) (i : Nat) : riseP [] (l.take i) = true := by
  rw [riseP_iff] at h ⊢
  refine ⟨?_, fun p hp => h.2 p (List.mem_of_mem_take hp)⟩
  rw [List.map_take]
  exact riseK_take h.1 i
theorem riseP_drop {l : List (List Int × List Int)} (h : riseP [] l = true) (i : Nat) : riseP [] (l.drop i) = true := by
  rw [riseP_iff] at h ⊢
  refine ⟨?_, fun p hp => h.2 p (List.mem_of_mem_drop hp)⟩
  rw [List.map_drop]
  exact riseK_drop h.1 i

theorem checkN_zero' {n : Nd} : checkN n = 0 ↔ mayN n = true ∧ sizeN n ≤ 240 := by
  unfold checkN
  cases hm : mayN n with
  | false => simp
  | true =>
    by_cases hs : sizeN n ≤ 240
    · simp [hs]
    · simp [hs]

theorem cut_may {n : Nd} (h : cutE n = 0) : mayN n = true ∧ 0 < cutM n := by
  unfold cutE at h
  split at h
  · rename_i hm
    split at h
    · rename_i h0; exact ⟨hm, h0⟩
    · omega
  · omega
theorem cut_is {n : Nd} (h : cutE n = 0) : cutA n = halfA n (cutM n) ∧ cutB n = halfB n (cutM n) ∧ cutK n = halfK n (cutM n) := by
  unfold cutA cutB cutK
  rw [if_pos h, if_pos h, if_pos h]
  exact ⟨rfl, rfl, rfl⟩
theorem half_leaf {n : Nd} (hm : leafB n = true) (i : Nat) : leafB (halfA n i) = true ∧ leafB (halfB n i) = true := by
  have hl := leafB_lf hm
  obtain ⟨h1, h2, h3, h4⟩ := leafB_ps hm
  unfold halfA halfB
  rw [hl]
  simp only [if_true]
  exact ⟨leafB_of rfl (by simp only [List.length_take]; omega) rfl rfl (riseP_take h4 i), leafB_of rfl (by simp only [List.length_drop]; omega) rfl rfl (riseP_drop h4 i)⟩
theorem half_inner {n : Nd} (hm : innerB n = true) (i : Nat) (h0 : 0 < i) (hi : i + 1 < n.ks.length) : innerB (halfA n i) = true ∧ innerB (halfB n i) = true ∧ keyB (halfK n i) = true := by
  have hl := innerB_lf hm
  obtain ⟨h1, h2, h3, h4, h5, h6⟩ := innerB_ps hm
  unfold halfA halfB halfK
  rw [hl]
  simp only [Bool.false_eq_true, if_false]
  refine ⟨innerB_of rfl rfl ?_ ?_ ?_ (riseK_take h5 i) (fun c hc => h6 c (List.mem_of_mem_take hc)), innerB_of rfl rfl ?_ ?_ ?_ (riseK_drop h5 _) (fun c hc => h6 c (List.mem_of_mem_drop hc)), ?_⟩
  · simp only [List.length_take]; omega
  · simp only [List.length_take]; omega
  · simp only [List.length_take]; omega
  · simp only [List.length_drop]; omega
  · simp only [List.length_drop]; omega
  · simp only [List.length_drop]; omega
  · refine riseK_keys [] n.ks h5 _ ?_
    simp only [List.getD, List.getElem?_eq_getElem (show i < n.ks.length by omega)]
    exact List.getElem_mem _

theorem join_back {n : Nd} (h : cutE n = 0) : joinE (cutA n) (cutK n) (cutB n) = 0 ∧ joinN (cutA n) (cutK n) (cutB n) = n := by
  obtain ⟨hm, h0⟩ := cut_may h
  obtain ⟨e1, e2, e3⟩ := cut_is h
  have hmb := mid_bounds hm h0
  rw [e1, e2, e3]
  generalize cutM n = i at *
  cases hlf : n.lf with
  | true =>
    have hl : leafB n = true := by rw [mayN_lf hlf] at hm; exact hm
    obtain ⟨ha, hb⟩ := half_leaf hl i
    have hj : joinP (halfA n i) (halfB n i) = n := by
      obtain ⟨_, h2, h3, _⟩ := leafB_ps hl
      obtain ⟨lf, ps, ks, cs⟩ := n
      simp only at hlf h2 h3
      subst hlf h2 h3
      simp [joinP, halfA, halfB]
    unfold joinE joinN ownE ownN
    rw [ha, hb, hj, hm]
    simp
  | false =>
    have hl : innerB n = true := by rw [mayN_in hlf] at hm; exact hm
    obtain ⟨hi1, hi2, _⟩ := hmb.2 hlf
    obtain ⟨ha, hb, hk⟩ := half_inner hl i h0 hi1
    have hna : leafB (halfA n i) = false := by
      cases hq : leafB (halfA n i) with
      | false => rfl
      | true => have := not_both hq; rw [ha] at this; cases this
    have hj : joinK (halfA n i) (halfK n i) (halfB n i) = n := by
      obtain ⟨h1, _⟩ := innerB_ps hl
      obtain ⟨lf, ps, ks, cs⟩ := n
      simp only at hlf h1 hi1 hi2
      subst hlf h1
      simp only [joinK, halfA, halfB, halfK, Bool.false_eq_true, if_false, List.take_append_drop, Nd.mk.injEq, true_and, and_true]
      rw [List.singleton_append, show ks.getD i [] = ks[i] by simp [List.getD, show i < ks.length by omega], ← List.drop_eq_getElem_cons (by omega), List.take_append_drop]
    unfold joinE joinN ownE ownN
    rw [hna, ha, hb, hk, hj, hm]
    simp

theorem sum_del (l : List Nat) (k : Nat) (h : k < l.length) : (l.take k ++ l.drop (k + 1)).sum + l.getD k 0 = l.sum := by
  have := sum_split l k
  have := sum_drop_succ l k h
  rw [List.sum_append]
  omega
theorem size_leaf {n : Nd} (h : leafB n = true) : sizeN n = 1 + (n.ps.map partP).sum := by
  have hm : mayN n = true := by rw [mayN_lf (leafB_lf h)]; exact h
  unfold sizeN
  rw [hm, leafB_lf h]
  simp only [if_true, partsN, (leafB_ps h).2.1, List.map_nil, List.append_nil]
theorem size_inner {n : Nd} (h : innerB n = true) : sizeN n = 3 + (n.ks.map partK).sum := by
  have hm : mayN n = true := by rw [mayN_in (innerB_lf h)]; exact h
  unfold sizeN
  rw [hm, innerB_lf h]
  simp only [if_true, Bool.false_eq_true, if_false, partsN, (innerB_ps h).1, List.map_nil, List.nil_append]
theorem check_of {n : Nd} (hm : mayN n = true) (hs : sizeN n ≤ 240) : checkN n = 0 := checkN_zero'.2 ⟨hm, hs⟩
theorem check_long {n : Nd} (h : checkN n = 3) : mayN n = true ∧ 240 < sizeN n := by
  unfold checkN at h
  split at h
  · rename_i hm
    split at h
    · omega
    · exact ⟨hm, by omega⟩
  · omega

/-- a leaf that is too long, and fits without one pair -/
theorem fit_leaf {n : Nd} (h : cutE n = 0) (hlf : n.lf = true) (k : Nat) (hk : k < n.ps.length) (hc : checkN n = 3) (hl : checkN ⟨true, n.ps.take k ++ n.ps.drop (k + 1), [], []⟩ = 0) : checkN (cutA n) = 0 ∧ checkN (cutB n) = 0 ∧ 60 ≤ sizeN (cutA n) ∧ 60 ≤ sizeN (cutB n) := by
  obtain ⟨hm, h0⟩ := cut_may h
  obtain ⟨e1, e2, _⟩ := cut_is h
  have hlb : leafB n = true := by rw [mayN_lf hlf] at hm; exact hm
  obtain ⟨hm2, hs2⟩ := checkN_zero'.1 hl
  have hl2 : leafB ⟨true, n.ps.take k ++ n.ps.drop (k + 1), [], []⟩ = true := by rw [mayN_lf rfl] at hm2; exact hm2
  have s1 := size_leaf hlb
  have s2 := size_leaf hl2
  have hbig := (check_long hc).2
  have hd := sum_del (n.ps.map partP) k (by simpa using hk)
  have hle : ∀ x ∈ n.ps.map partP, x ≤ 51 := fun x hx => by
    obtain ⟨p, hp, rfl⟩ := List.mem_map.1 hx
    have := (may_bounds hm).2.2.2.1 p hp
    unfold partP
    omega
  have hpk := part_le (n.ps.map partP) 51 hle k
  have hpe : (n.ps.take k ++ n.ps.drop (k + 1)).map partP = (n.ps.map partP).take k ++ (n.ps.map partP).drop (k + 1) := by rw [List.map_append, List.map_take, List.map_drop]
  simp only [hpe] at s2
  have hpn : partsN n = n.ps.map partP := by unfold partsN; rw [(leafB_ps hlb).2.1]; simp
  have hcm : cutM n = midN true (n.ps.map partP) := by unfold cutM; rw [hpn, hlf]
  obtain ⟨c1, c2, c3, c4⟩ := cut_leaf (n.ps.map partP) hle (by omega) (by omega) (by rw [← hcm]; exact h0)
  rw [← hcm] at c1 c2 c3 c4
  obtain ⟨ha, hb⟩ := half_leaf hlb (cutM n)
  have sa := size_leaf ha
  have sb := size_leaf hb
  have pa : (halfA n (cutM n)).ps = n.ps.take (cutM n) := by unfold halfA; rw [hlf]; rfl
  have pb : (halfB n (cutM n)).ps = n.ps.drop (cutM n) := by unfold halfB; rw [hlf]; rfl
  rw [pa, List.map_take] at sa
  rw [pb, List.map_drop] at sb
  unfold fstC at c1 c2
  unfold sndC at c3 c4
  simp only [if_true] at c3 c4
  rw [e1, e2]
  exact ⟨check_of (by rw [mayN_lf (leafB_lf ha)]; exact ha) (by omega), check_of (by rw [mayN_lf (leafB_lf hb)]; exact hb) (by omega), by omega, by omega⟩
theorem fit_inner {n : Nd} (h : cutE n = 0) (hlf : n.lf = false) (k : Nat) (hk : k < n.ks.length) (hc : checkN n = 3) (hl : checkN ⟨false, [], n.ks.take k ++ n.ks.drop (k + 1), n.cs.take (k + 1) ++ n.cs.drop (k + 2)⟩ = 0) : checkN (cutA n) = 0 ∧ checkN (cutB n) = 0 ∧ 60 ≤ sizeN (cutA n) ∧ 60 ≤ sizeN (cutB n) := by
  obtain ⟨hm, h0⟩ := cut_may h
  obtain ⟨e1, e2, _⟩ := cut_is h
  have hlb : innerB n = true := by rw [mayN_in hlf] at hm; exact hm
  obtain ⟨hm2, hs2⟩ := checkN_zero'.1 hl
  have hl2 : innerB ⟨false, [], n.ks.take k ++ n.ks.drop (k + 1), n.cs.take (k + 1) ++ n.cs.drop (k + 2)⟩ = true := by rw [mayN_in rfl] at hm2; exact hm2
  have s1 := size_inner hlb
  have s2 := size_inner hl2
  have hbig := (check_long hc).2
  have hd := sum_del (n.ks.map partK) k (by simpa using hk)
  have hle : ∀ x ∈ n.ks.map partK, x ≤ 28 := fun x hx => by
    obtain ⟨p, hp, rfl⟩ := List.mem_map.1 hx
    have := (may_bounds hm).2.2.2.2 p hp
    unfold partK
    omega
  have hpk := part_le (n.ks.map partK) 28 hle k
  have hpe : (n.ks.take k ++ n.ks.drop (k + 1)).map partK = (n.ks.map partK).take k ++ (n.ks.map partK).drop (k + 1) := by rw [List.map_append, List.map_take, List.map_drop]
  simp only [hpe] at s2
  have hpn : partsN n = n.ks.map partK := by unfold partsN; rw [(innerB_ps hlb).1]; simp
  have hcm : cutM n = midN false (n.ks.map partK) := by unfold cutM; rw [hpn, hlf]
  obtain ⟨c1, c2, c3, c4⟩ := cut_inner (n.ks.map partK) hle (by omega) (by omega) (by rw [← hcm]; exact h0)
  rw [← hcm] at c1 c2 c3 c4
  obtain ⟨ha, hb, _⟩ := half_inner hlb (cutM n) h0 ((mid_bounds hm h0).2 hlf).1
  have sa := size_inner ha
  have sb := size_inner hb
  have pa : (halfA n (cutM n)).ks = n.ks.take (cutM n) := by unfold halfA; rw [hlf]; rfl
  have pb : (halfB n (cutM n)).ks = n.ks.drop (cutM n + 1) := by unfold halfB; rw [hlf]; rfl
  rw [pa, List.map_take] at sa
  rw [pb, List.map_drop] at sb
  unfold fstC at c1 c2
  unfold sndC at c3 c4
  simp only [Bool.false_eq_true, if_false] at c3 c4
  rw [e1, e2]
  exact ⟨check_of (by rw [mayN_in (innerB_lf ha)]; exact ha) (by omega), check_of (by rw [mayN_in (innerB_lf hb)]; exact hb) (by omega), by omega, by omega⟩

end Go.Proofs.Ythnppkeifhnceaa
/- Where the document cuts a node is where the program does: in numbers. No program. -/
namespace Go.Proofs.Ythnppkeifhnceaa
set_option maxRecDepth 20000
open Go.RowKit
set_option linter.unusedVariables false

def mostN (n : Nd) : Nat := if n.lf then n.ps.length else n.ks.length - 1
theorem parts_leafX {n : Nd} (h : leafB n = true) : partsN n = n.ps.map partP := by unfold partsN; rw [(leafB_ps h).2.1]; simp
theorem parts_innerX {n : Nd} (h : innerB n = true) : partsN n = n.ks.map partK := by unfold partsN; rw [(innerB_ps h).1]; simp
theorem sum_none (l : List Nat) (h : ∀ x ∈ l, 0 < x) (hl : 0 < l.length) : l.sum ≠ 0 := by
  cases l with
  | nil => simp at hl
  | cons a l => have := h a (by simp); simp only [List.sum_cons]; omega
theorem parts_pos {n : Nd} : ∀ x ∈ partsN n, 0 < x := by
  intro x hx
  unfold partsN at hx
  rcases List.mem_append.1 hx with h | h
  · obtain ⟨p, _, rfl⟩ := List.mem_map.1 h; unfold partP; omega
  · obtain ⟨p, _, rfl⟩ := List.mem_map.1 h; unfold partK; omega
theorem parts_sum {n : Nd} (hm : mayN n = true) : (partsN n).sum ≤ 26010 := by
  have h1 := sum_take_le (partsN n) 51 (parts_le hm) (partsN n).length
  rw [List.take_length] at h1
  have h2 := parts_len hm
  have : (partsN n).length * 51 ≤ 510 * 51 := Nat.mul_le_mul_right _ (by omega)
  omega
theorem fst_le (l : List Nat) (i : Nat) : fstC l i ≤ l.sum := by have := sum_split l i; unfold fstC; omega
theorem snd_le (lf : Bool) (l : List Nat) (i : Nat) : sndC lf l i ≤ l.sum := by
  unfold sndC
  split
  · have := sum_split l i; omega
  · have := sum_split l (i + 1); omega

theorem cut_place {n : Nd} (hm : mayN n = true) (i : Nat) (h0 : 0 < i) (hi : i < mostN n) :
    (n.lf = true → i < n.ps.length ∧ n.ps.length ≤ 1000) ∧ (n.lf = false → i + 1 < n.ks.length ∧ n.cs.length = n.ks.length + 1 ∧ n.ks.length ≤ 1000) := by
  have hb := may_bounds hm
  unfold mostN at hi
  constructor
  · intro hl
    rw [hl] at hi
    simp only [if_true] at hi
    exact ⟨hi, by omega⟩
  · intro hl
    rw [hl] at hi
    simp only [Bool.false_eq_true, if_false] at hi
    rw [mayN_in hl] at hm
    exact ⟨by omega, (innerB_ps hm).2.2.2.1, by omega⟩
theorem cut_sizes {n : Nd} (hm : mayN n = true) (i : Nat) (h0 : 0 < i) (hi : i < mostN n) :
    ∃ c, c ≤ 3 ∧ sizeN (halfA n i) = c + fstC (partsN n) i ∧ sizeN (halfB n i) = c + sndC n.lf (partsN n) i ∧ fstC (partsN n) i ≠ 0 ∧ sndC n.lf (partsN n) i ≠ 0 := by
  have hpos := @parts_pos n
  obtain ⟨p1, p2⟩ := cut_place hm i h0 hi
  have hne : fstC (partsN n) i ≠ 0 ∧ sndC n.lf (partsN n) i ≠ 0 := by
    unfold fstC sndC
    cases hl : n.lf with
    | true =>
      have hq := (p1 hl).1
      rw [mayN_lf hl] at hm
      have hlen : (partsN n).length = n.ps.length := by rw [parts_leafX hm]; simp
      exact ⟨sum_none _ (fun x hx => hpos x (List.mem_of_mem_take hx)) (by simp only [List.length_take]; omega), by simp only [if_true]; exact sum_none _ (fun x hx => hpos x (List.mem_of_mem_drop hx)) (by simp only [List.length_drop]; omega)⟩
    | false =>
      have hq := (p2 hl).1
      rw [mayN_in hl] at hm
      have hlen : (partsN n).length = n.ks.length := by rw [parts_innerX hm]; simp
      exact ⟨sum_none _ (fun x hx => hpos x (List.mem_of_mem_take hx)) (by simp only [List.length_take]; omega), by simp only [Bool.false_eq_true, if_false]; exact sum_none _ (fun x hx => hpos x (List.mem_of_mem_drop hx)) (by simp only [List.length_drop]; omega)⟩
  cases hl : n.lf with
  | true =>
    rw [hl] at hne
    have hq := (p1 hl).1
    rw [mayN_lf hl] at hm
    obtain ⟨ha, hb⟩ := half_leaf hm i
    have pa : (halfA n i).ps = n.ps.take i := by unfold halfA; rw [hl]; rfl
    have pb : (halfB n i).ps = n.ps.drop i := by unfold halfB; rw [hl]; rfl
    refine ⟨1, by omega, ?_, ?_, hne⟩
    · rw [size_leaf ha, pa, parts_leafX hm, List.map_take]; rfl
    · rw [size_leaf hb, pb, parts_leafX hm, List.map_drop]; rfl
  | false =>
    rw [hl] at hne
    have hq := (p2 hl).1
    rw [mayN_in hl] at hm
    obtain ⟨ha, hb, _⟩ := half_inner hm i h0 hq
    have pa : (halfA n i).ks = n.ks.take i := by unfold halfA; rw [hl]; rfl
    have pb : (halfB n i).ks = n.ks.drop (i + 1) := by unfold halfB; rw [hl]; rfl
    refine ⟨3, by omega, ?_, ?_, hne⟩
    · rw [size_inner ha, pa, parts_innerX hm, List.map_take]; rfl
    · rw [size_inner hb, pb, parts_innerX hm, List.map_drop]; rfl
theorem cut_step {n : Nd} (hm : mayN n = true) (i : Nat) (h0 : 0 < i) (hi : i < mostN n) :
    ∃ A, A = (sizeN (halfA n i) - sizeN (halfB n i)) + (sizeN (halfB n i) - sizeN (halfA n i)) ∧ sizeN (halfA n i) ≤ 26013 ∧ sizeN (halfB n i) ≤ 26013 ∧
      midK n.lf (partsN n) (i + 1) = if 0 < (midK n.lf (partsN n) i).1 ∧ (midK n.lf (partsN n) i).2 ≤ A then midK n.lf (partsN n) i else (i, A) := by
  obtain ⟨c, hc, h1, h2, h3, h4⟩ := cut_sizes hm i h0 hi
  have hs := parts_sum hm
  have f1 := fst_le (partsN n) i
  have f2 := snd_le n.lf (partsN n) i
  refine ⟨apartC n.lf (partsN n) i, ?_, by omega, by omega, ?_⟩
  · rw [h1, h2]; unfold apartC; omega
  · rw [midK, if_neg (by omega)]
theorem cut_end {n : Nd} (hm : mayN n = true) : (midK n.lf (partsN n) (max (mostN n) 1)).1 = cutM n := by
  have h1 : ∀ lf l, midK lf l 1 = (0, 0) := fun lf l => by
    rw [midK, if_pos (.inl (by simp [fstC]))]
    rfl
  unfold cutM midN
  cases hl : n.lf with
  | true =>
    have hm' := hm
    rw [mayN_lf hl] at hm'
    have hlen : (partsN n).length = n.ps.length := by rw [parts_leafX hm']; simp
    have hmo : mostN n = (partsN n).length := by unfold mostN; rw [hl, hlen]; rfl
    rw [hmo]
    rcases Nat.eq_zero_or_pos (partsN n).length with h | h
    · rw [h]; rw [show max 0 1 = 1 from rfl, h1]; rfl
    · rw [show max (partsN n).length 1 = (partsN n).length by omega]
  | false =>
    have hm' := hm
    rw [mayN_in hl] at hm'
    have hlen : (partsN n).length = n.ks.length := by rw [parts_innerX hm']; simp
    have hmo : mostN n = (partsN n).length - 1 := by unfold mostN; rw [hl, hlen]; rfl
    have hk := (innerB_ps hm').2.1
    rw [hmo]
    generalize hL : (partsN n).length = N at *
    rcases Nat.lt_or_ge 1 N with h | h
    · obtain ⟨m, rfl⟩ : ∃ m, N = m + 1 := ⟨N - 1, by omega⟩
      rw [show max (m + 1 - 1) 1 = m by omega]
      have hz : sndC false (partsN n) m = 0 := by
        unfold sndC
        simp only [Bool.false_eq_true, if_false]
        rw [List.drop_eq_nil_of_le (by omega)]
        rfl
      rw [midK, if_pos (.inr hz)]
    · obtain rfl : N = 1 := by omega
      rfl
theorem cut_small {n : Nd} (hm : mayN n = true) (j : Nat) (hj : 0 < j) : (midK n.lf (partsN n) j).1 < j ∧ (midK n.lf (partsN n) j).2 ≤ 26010 := by
  refine ⟨?_, midK_small n.lf (partsN n) 26010 (parts_sum hm) j⟩
  rcases midK_ok n.lf (partsN n) j with ⟨a, _⟩ | ⟨_, b, _⟩
  · omega
  · exact b

end Go.Proofs.Ythnppkeifhnceaa
