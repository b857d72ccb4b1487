/- Contracts: the document's bytes, Size and Check of a node (incipitref10.lay, Size, Check). -/
import Derived.Test.YtoamdbjailpgdaaNRefI
namespace Go.Proofs.Ytoamdbjailpgdaa
set_option maxRecDepth 20000
open Go.RowKit Go.Shelf
set_option linter.unusedVariables false
set_option linter.unusedSimpArgs false
set_option maxRecDepth 100000
attribute [local go_sem] Oper.semAt_some

theorem refLay_any (w : World) (v : Value) (n : Nd) (h : NdV w v n) (hm : mayN n = true) :
    Calls Try.prog 51 #[v] w fun e w' => ∃ u, e = .returned u ∧ ownsB w' w.heap.size u (bytesN n) ∧ Below w.heap.size w w' := by
  unfold bytesN
  by_cases hl : n.lf = true
  · rw [if_pos hl]
    obtain ⟨a1, _, _, a4, _⟩ := may_bounds hm
    exact refLay_leaf w v n h hl a1 a4
  · have hf : n.lf = false := by simpa using hl
    rw [if_neg hl]
    exact refLay_inner w v n h hf (by rw [← mayN_in hf]; exact hm)

theorem refSize_any (w : World) (v : Value) (n : Nd) (h : NdV w v n) (hq : n.ks.length + n.cs.length ≤ 9223372036854775807) :
    Calls Try.prog 15 #[v] w fun e w' => e = .returned (.int .i64 (sizeN n)) ∧ Below w.heap.size w w' := by
  have HM : Hid (∀ w1, Below w.heap.size w w1 → Calls Try.prog 25 #[v] w1 fun e w' => e = .returned (.bool (mayN n)) ∧ Below w1.heap.size w1 w') := fun w1 hb => refMay_any w1 v n (h.below hb) hq
  have HP : Hid (mayN n = true → ∀ w1, Below w.heap.size w w1 → Calls Try.prog 51 #[v] w1 fun e w' => ∃ a c, e = .returned (.slice a (sizeN n) c) ∧ Below w1.heap.size w1 w') := fun hm w1 hb => by
    refine (refLay_any w1 v n (h.below hb) hm).mono ?_
    rintro e w' ⟨u, rfl, ho, hb'⟩
    obtain ⟨a, c, rfl⟩ := own_sliceN ho
    rw [bytesN_len hm]
    exact ⟨a, c, rfl, hb'⟩
  have HS : Hid (mayN n = false → sizeN n = 0) := fun hh => by unfold sizeN; rw [hh]; rfl
  obtain ⟨lf, pa, np, pc, ka, nk, kc, ca, nc, cc, rfl, -⟩ := nd_open h
  generalize sizeN n = S at *
  generalize mayN n = M at *
  obtain ⟨w1, hw1, HB1, HBB, z0, z1, z2, z3⟩ := nd_box w lf (.slice pa np pc) (.slice ka nk kc) (.slice ca nc cc)
  clear h hq
  cases M with
  | false =>
    have HS0 := hide (HS.out rfl)
    clear HS HP
    go_enter Try.func15, Try.ntmps15
    go_wp2_with (go_at_call 25; refine (HM.out w1 HB1.out).mono ?_; rintro e w2 ⟨rfl, hb2⟩; have HB2 := hide hb2; clear HM hb2)
    go_ret
    exact ⟨ret_int (by rw [HS0.out]; rfl), HB1.out.trans (HB2.out.mono HB1.out.size)⟩
  | true =>
    have HPP := hide (HP.out rfl)
    clear HS HP
    go_enter Try.func15, Try.ntmps15
    go_wp2_with (first
      | (go_at_call 25; refine (HM.out w1 HB1.out).mono ?_; rintro e w2 ⟨rfl, hb2⟩; have HB2 := hide (HB1.out.trans (hb2.mono HB1.out.size)); obtain ⟨y0, y1, y2, y3⟩ := box_ndc (HBB.out.below hb2 HBB.out.lt); clear HM hb2)
      | (go_at_call 51; refine (HPP.out w2 HB2.out).mono ?_; rintro e w3 ⟨a, c, rfl, hb3⟩; have HB3 := hide (HB2.out.trans (hb3.mono HB2.out.size)); clear HPP hb3))
    go_ret
    exact ⟨ret_int rfl, HB3.out⟩

theorem refCheck_any (w : World) (v : Value) (n : Nd) (h : NdV w v n) (hq : n.ks.length + n.cs.length ≤ 9223372036854775807) :
    Calls Try.prog 13 #[v] w fun e w' => e = .returned (.int .i64 (checkN n)) ∧ Below w.heap.size w w' := by
  have HM : Hid (∀ w1, Below w.heap.size w w1 → Calls Try.prog 25 #[v] w1 fun e w' => e = .returned (.bool (mayN n)) ∧ Below w1.heap.size w1 w') := fun w1 hb => refMay_any w1 v n (h.below hb) hq
  have HS : Hid (∀ w1, Below w.heap.size w w1 → Calls Try.prog 15 #[v] w1 fun e w' => e = .returned (.int .i64 (sizeN n)) ∧ Below w1.heap.size w1 w') := fun w1 hb => refSize_any w1 v n (h.below hb) hq
  have HC : Hid (checkN n = if mayN n then (if sizeN n ≤ 240 then 0 else 3) else 100) := rfl
  obtain ⟨lf, pa, np, pc, ka, nk, kc, ca, nc, cc, rfl, -⟩ := nd_open h
  generalize checkN n = C at *
  generalize mayN n = M at *
  generalize sizeN n = S at *
  obtain ⟨w1, hw1, HB1, HBB, z0, z1, z2, z3⟩ := nd_box w lf (.slice pa np pc) (.slice ka nk kc) (.slice ca nc cc)
  clear h hq
  cases M with
  | false =>
    go_enter Try.func13, Try.ntmps13
    go_wp2_with (go_at_call 25; refine (HM.out w1 HB1.out).mono ?_; rintro e w2 ⟨rfl, hb2⟩; have HB2 := hide hb2; clear HM hb2)
    go_ret
    exact ⟨ret_int (by rw [HC.out]; rfl), HB1.out.trans (HB2.out.mono HB1.out.size)⟩
  | true =>
    by_cases hs : S ≤ 240
    · have hsi : ¬ (240 : Int) < (S : Int) := by omega
      go_enter Try.func13, Try.ntmps13
      go_wp2_with (first
        | (go_at_call 25; refine (HM.out w1 HB1.out).mono ?_; rintro e w2 ⟨rfl, hb2⟩; have HB2 := hide (HB1.out.trans (hb2.mono HB1.out.size)); obtain ⟨y0, y1, y2, y3⟩ := box_ndc (HBB.out.below hb2 HBB.out.lt); clear HM hb2)
        | (go_at_call 15; refine (HS.out w2 HB2.out).mono ?_; rintro e w3 ⟨rfl, hb3⟩; have HB3 := hide (HB2.out.trans (hb3.mono HB2.out.size)); clear HS hb3))
      go_ret
      exact ⟨ret_int (by rw [HC.out]; simp [hs]), HB3.out⟩
    · have hsi : (240 : Int) < (S : Int) := by omega
      go_enter Try.func13, Try.ntmps13
      go_wp2_with (first
        | (go_at_call 25; refine (HM.out w1 HB1.out).mono ?_; rintro e w2 ⟨rfl, hb2⟩; have HB2 := hide (HB1.out.trans (hb2.mono HB1.out.size)); obtain ⟨y0, y1, y2, y3⟩ := box_ndc (HBB.out.below hb2 HBB.out.lt); clear HM hb2)
        | (go_at_call 15; refine (HS.out w2 HB2.out).mono ?_; rintro e w3 ⟨rfl, hb3⟩; have HB3 := hide (HB2.out.trans (hb3.mono HB2.out.size)); clear HS hb3))
      go_ret
      exact ⟨ret_int (by rw [HC.out]; simp [hs]), HB3.out⟩

end Go.Proofs.Ytoamdbjailpgdaa
