/- Contract: package words' Tokens. -/
import Derived.Test.YtgeclnnhblffkaaDoorWdAll
namespace Go.Proofs.YtgeclnnhblffkaaDoor
set_option maxRecDepth 20000
open Go.RowKit
set_option linter.unusedVariables false
set_option linter.unusedSimpArgs false
set_option maxRecDepth 100000

theorem tokC_ok (C : Cn) (l : List Nat) : ∀ x ∈ tokC C l, ByteOk x.1 := by
  unfold tokC
  split
  · exact tokL_ok _ _ _ _
  · intro x hx; cases hx
theorem tokC_len (C : Cn) (l : List Nat) : (tokC C l).length ≤ l.length := by
  unfold tokC
  split
  · exact tokL_len _ _ _ _
  · simp
theorem mayC_cap {C : Cn} (h : mayC C = true) : ∃ m : Nat, C.cap = (m : Int) ∧ m ≤ 100 ∧ C.cap.toNat = m ∧ 1 ≤ m ∧ m ≤ 12 := by
  unfold mayC at h
  simp only [Bool.and_eq_true, decide_eq_true_iff] at h
  exact ⟨C.cap.toNat, by omega, by omega, rfl, by omega, by omega⟩
/-- the iterator that All answers, as one -/
theorem allR_iter {C : Cn} (hok : CnOk C) (zs : List Int) (hb : ByteOk zs) (hl : zs.length ≤ 1000000) {u : Value} {W : World} (h : AllR C (strOfNums zs) u W) (hL : Let W) :
    ∃ gf lb V, u = .func (.func gf) #[] lb ∧ (∀ args w, (callFunc gf args).run Tryd.prog w = .ok (.enter gf args) w) ∧ Iter2 Tryd.prog gf lb encT (tokC C (rs zs)) V ∧ ∀ W', Below W.heap.size W W' → ∀ k W'', Only (fun _ => False) W' W'' → V k W'' := by
  rcases h with ⟨hm, rfl⟩ | ⟨hm, g6, g5, rfl, hA⟩
  · refine ⟨_, _, _, rfl, enters_all1, ?_, fun _ _ _ _ _ => trivial⟩
    rw [show tokC C (rs zs) = [] from if_neg (by rw [hm]; simp)]
    exact all1_iter
  · obtain ⟨m, h1, h2, h3, _⟩ := mayC_cap hm
    refine ⟨_, _, _, rfl, enters_all2, ?_, fun W' hb' k W'' ho => ((hA hL).below hb').below (ho.below (Nat.le_refl _) (fun _ _ h => h))⟩
    rw [show tokC C (rs zs) = tokL (useL C.fs) C.cap.toNat C.ss (rs zs) from if_pos hm, h3]
    exact all2_iter g6 g5 C hok m h1 h2 zs hb hl

set_option maxHeartbeats 1000000 in
theorem tokens_any (w : World) (v : Value) (C : Cn) (h : CnfV w v C) (hok : CnOk C) (vt : Value) (zs : List Int) (hz : Sl w vt zs) (hl : zs.length ≤ 1000000) (hL : Let w) :
    Calls Tryd.prog 22 #[v, vt] w fun e w' => ∃ u, e = .returned u ∧ TkO w' w.heap.size u (tokC C (rs zs)) ∧ Below w.heap.size w w' := by
  obtain ⟨fo, fc, so, sc, w1, rfl, hw1, hb1, hB, hT, hS⟩ := box_cnf w v C h
  have HAL := hide (all_any w1 _ C (h.below hb1) hok vt zs (hz.below hb1) (hL.below hb1))
  have HCT : Hid (∀ u w2, Below w1.heap.size w1 w2 → AllR C (strOfNums zs) u w2 → ∃ gf lb, u = .func (.func gf) #[] lb ∧ Calls Tryd.prog 54 #[.func (.func gf) #[] lb] w2 fun e w' => ∃ v, e = .returned v ∧ TkO w' w2.heap.size v (tokC C (rs zs)) ∧ Below w2.heap.size w2 w') := fun u w2 hb hu => by
    obtain ⟨gf, lb, V, e, eg, hit, hV⟩ := allR_iter hok zs hz.1 hl hu (hL.below (hb1.trans (hb.mono hb1.size)))
    exact ⟨gf, lb, e, collectT_any w2 gf lb _ V eg hit (hV w2 (Below.refl _ w2)) (by have := tokC_len C (rs zs); have := rs_len zs; omega)⟩
  obtain ⟨to, tn, tc, rfl⟩ := sl_form hz
  have HB1 := hide hb1
  have c0 : w1.cell? ⟨w.heap.size, 0, none⟩ = some (.slice fo C.fs.length fc) := hB.cell 0
  have c1 : w1.cell? ⟨w.heap.size, 1, none⟩ = some (.slice so C.ss.length sc) := hB.cell 1
  have c2 : w1.cell? ⟨w.heap.size, 2, none⟩ = some (.int .i64 C.cap) := hB.cell 2
  have HBASE : Hid (∀ w' b u xs, w.heap.size ≤ b → TkO w' b u xs → TkO w' w.heap.size u xs) := fun w' b u xs hb ⟨h1, h2⟩ => ⟨h1, h2.imp id (fun ⟨g, cap, cur, q1, q2, q3⟩ => ⟨g, cap, cur, q1, Nat.le_trans hb q2, q3⟩)⟩
  generalize tokC C (rs zs) = T at *
  generalize strOfNums zs = s at *
  obtain ⟨fn, hfn⟩ : ∃ n, C.fs.length = n := ⟨_, rfl⟩
  obtain ⟨sn, hsn⟩ : ∃ n, C.ss.length = n := ⟨_, rfl⟩
  obtain ⟨K, hK⟩ : ∃ n, C.cap = n := ⟨_, rfl⟩
  rw [hfn] at hw1 c0 HAL ⊢
  rw [hsn] at hw1 c1 HAL ⊢
  rw [hK] at hw1 c2 HAL ⊢
  clear h hT hS hB hb1 hok hL hz hfn hsn hK hl
  go_enter Tryd.func22, Tryd.ntmps22
  go_wp2_with (first
    | (go_at_call 24; refine HAL.out.mono ?_; rintro e w2 ⟨u, rfl, hu, hb⟩; obtain ⟨gf, lb, rfl, hc⟩ := HCT.out u w2 hb hu; have HC := hide hc; have HB2 := hide (HB1.out.trans (hb.mono HB1.out.size)); clear HAL HCT hb hu hc)
    | (go_at_call 54; refine HC.out.mono ?_; rintro e w3 ⟨u3, rfl, ht, hb⟩; have HT3 := hide ht; have HB3 := hide (HB2.out.trans (hb.mono HB2.out.size)); clear HC hb ht))
  go_ret
  exact ⟨_, rfl, HBASE.out _ _ _ _ HB2.out.size HT3.out, HB3.out⟩

end Go.Proofs.YtgeclnnhblffkaaDoor
