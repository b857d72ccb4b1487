/- What is told of any bytes rises, and is found, and read. No program. -/
import Derived.Test.YtmjkpgmmfooajaaPoTold
import Derived.Test.YtmjkpgmmfooajaaPoForm
import Derived.Test.YtmjkpgmmfooajaaPoList
namespace Go.Proofs.Ytmjkpgmmfooajaa
set_option maxRecDepth 20000
open Go.RowKit
set_option linter.unusedVariables false

theorem parse_facts {zs : List Int} (hb : ByteOk zs) : (parseE zs = 150 ∧ parseR zs = []) ∨ (parseE zs = 0 ∧ listOk 0 (parseR zs) = true ∧ zs = listB 0 (parseR zs)) := by
  obtain ⟨rest, r1, r2, r3, r4, r5, r6⟩ := allG_form zs.length zs.length 0 zs (by omega) hb (Nat.le_refl _) (Nat.le_refl _)
  rw [Nat.sub_self] at r5
  have he : endL (allP 0 zs) = zs.length - rest.length := r5
  unfold parseE parseR
  by_cases h : endL (allP 0 zs) < zs.length
  · rw [if_pos h, if_pos h]
    exact .inl ⟨rfl, rfl⟩
  · rw [if_neg h, if_neg h]
    have hl := congrArg List.length r1
    rw [List.length_append] at hl
    have hr : rest = [] := List.eq_nil_of_length_eq_zero (by omega)
    rw [hr, List.append_nil] at r1
    exact .inr ⟨rfl, r2, r1⟩
theorem parse_list {ps : List Po} (h : listOk 0 ps = true) : parseE (listB 0 ps) = 0 ∧ parseR (listB 0 ps) = ps := by
  have hm : (allP 0 (listB 0 ps)).map (·.2) = ps := allG_list _ ps _ 0 (by omega) h (Nat.le_refl _)
  obtain ⟨rest, r1, r2, r3, r4, r5, r6⟩ := allG_form (listB 0 ps).length (listB 0 ps).length 0 (listB 0 ps) (by omega) (listB_ok _ _) (Nat.le_refl _) (Nat.le_refl _)
  rw [Nat.sub_self] at r5
  have he : endL (allP 0 (listB 0 ps)) = (listB 0 ps).length - rest.length := r5
  have hr : rest = [] := by
    have hl := congrArg List.length r1
    rw [List.length_append] at hl
    have e2 : (allG (listB 0 ps).length (listB 0 ps).length 0 (listB 0 ps)).map (·.2) = ps := hm
    rw [e2] at hl
    exact List.eq_nil_of_length_eq_zero (by omega)
  have hn : ¬ endL (allP 0 (listB 0 ps)) < (listB 0 ps).length := by rw [he, hr]; simp
  unfold parseE parseR
  rw [if_neg hn, if_neg hn, hm]
  exact ⟨rfl, rfl⟩

theorem listOk_gt : ∀ (ps : List Po) (prev : Nat), listOk prev ps = true → ∀ x ∈ ps, prev < x.doc
  | [], _, _, x, hx => by cases hx
  | p :: ps, prev, h, x, hx => by
    rw [listOk, Bool.and_eq_true] at h
    have h1 := (may_parts h.1).1
    rcases List.mem_cons.1 hx with rfl | hx
    · exact h1
    · have := listOk_gt ps p.doc h.2 x hx
      omega
theorem findL_at : ∀ (l : List (Nat × Po)) (prev : Nat), listOk prev (l.map (·.2)) = true → ∀ i (hi : i < l.length), findL (l[i].2.doc) l = (l[i].2, true)
  | [], _, _, i, hi => by simp at hi
  | e :: l, prev, h, 0, _ => by simp [findL]
  | e :: l, prev, h, i + 1, hi => by
    rw [List.map_cons, listOk, Bool.and_eq_true] at h
    have hi' : i < l.length := by simpa using hi
    have hg := listOk_gt _ _ h.2 (l[i].2) (List.mem_map.2 ⟨l[i], List.getElem_mem hi', rfl⟩)
    rw [List.getElem_cons_succ, findL, if_neg (by omega), if_neg (by omega)]
    exact findL_at l e.2.doc h.2 i hi'

structure RiF (zs : List Int) (L : List (Nat × Po)) (i : Nat) (x : Nat × Po) : Prop where
  doc : lastDoc 0 ((L.take i).map (·.2)) < x.2.doc
  lt : x.2.doc < 4294967296
  ends : endL (L.take i) < x.1
  le : x.1 ≤ zs.length
  pos : 1 ≤ x.2.pos.length
  rise : risesB (-1) x.2.pos = true
  find : findL x.2.doc L = (x.2, true)
  last : lastDoc 0 ((L.take (i + 1)).map (·.2)) = x.2.doc
  endn : endL (L.take (i + 1)) = x.1
theorem rises_facts {zs : List Int} (hb : ByteOk zs) : (∀ i (hi : i < (allP 0 zs).length), RiF zs (allP 0 zs) i (allP 0 zs)[i]) ∧ parseE (zs.take (endL (allP 0 zs))) = 0 ∧ parseR (zs.take (endL (allP 0 zs))) = (allP 0 zs).map (·.2) ∧ endL (allP 0 zs) ≤ zs.length := by
  obtain ⟨rest, r1, r2, r3, r4, r5, r6⟩ := allG_form zs.length zs.length 0 zs (by omega) hb (Nat.le_refl _) (Nat.le_refl _)
  rw [Nat.sub_self] at r5
  have he : endL (allP 0 zs) = zs.length - rest.length := r5
  have r1' : zs = listB 0 ((allP 0 zs).map (·.2)) ++ rest := r1
  have r2' : listOk 0 ((allP 0 zs).map (·.2)) = true := r2
  have r4' : ∀ e ∈ allP 0 zs, zs.length - zs.length < e.1 ∧ e.1 ≤ zs.length - rest.length := r4
  have r6' : ((allP 0 zs).map (·.1)).Pairwise (· < ·) := r6
  clear r1 r2 r3 r4 r5 r6
  generalize allP 0 zs = L at *
  have hl := congrArg List.length r1'
  rw [List.length_append] at hl
  have htk : zs.take (endL L) = listB 0 (L.map (·.2)) := by
    have : endL L = (listB 0 (L.map (·.2))).length := by omega
    rw [this]
    conv => lhs; rw [r1']
    exact List.take_left' rfl
  obtain ⟨q1, q2⟩ := parse_list r2'
  refine ⟨fun i hi => ?_, by rw [htk]; exact q1, by rw [htk]; exact q2, by omega⟩
  have hi2 : i < (L.map (·.2)).length := by simpa using hi
  have htm : ∀ j, (L.take j).map (·.2) = (L.map (·.2)).take j := fun j => by rw [List.map_take]
  have hsn : (L.map (·.2)).take (i + 1) = (L.map (·.2)).take i ++ [L[i].2] := by rw [List.take_succ_eq_append_getElem hi2, List.getElem_map]
  have hok := listOk_take r2' (i + 1)
  rw [hsn, listOk_snoc, Bool.and_eq_true] at hok
  obtain ⟨m1, m2, m3, m4, m5⟩ := may_parts hok.2
  have hmem := r4' L[i] (List.getElem_mem hi)
  refine ⟨by rw [htm]; exact m1, by omega, ?_, by omega, m3, m5, findL_at L 0 r2' i hi, by rw [htm, hsn, lastDoc_snoc], by rw [take_snocX L i hi, endL_snoc]⟩
  cases i with
  | zero => simp [endL]; omega
  | succ j =>
    rw [take_snocX L j (by omega), endL_snoc]
    have := List.pairwise_iff_getElem.1 r6' j (j + 1) (by simp; omega) (by simp; omega) (by omega)
    simpa using this

end Go.Proofs.Ytmjkpgmmfooajaa
