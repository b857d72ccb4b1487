/- Contract: package node's Same. -/
import Derived.Test.YtoamdbjailpgdaaNCheck
namespace Go.Proofs.Ytoamdbjailpgdaa
set_option maxRecDepth 20000
open Go.RowKit
set_option linter.unusedVariables false
set_option linter.unusedSimpArgs false
set_option maxRecDepth 100000

def sameN (a b : Nd) : Bool := (a.lf == b.lf) && decide (a.ps = b.ps) && decide (a.ks = b.ks) && decide (a.cs = b.cs)
theorem sameN_iff {a b : Nd} : sameN a b = true ↔ a = b := by
  obtain ⟨a1, a2, a3, a4⟩ := a
  obtain ⟨b1, b2, b3, b4⟩ := b
  simp [sameN, and_assoc]
theorem sameN_self (a : Nd) : sameN a a = true := sameN_iff.2 rfl

theorem drop_step {α : Type} [DecidableEq α] (xs ys : List α) (d : α) (k : Nat) (hx : k < xs.length) (hy : k < ys.length) : decide (xs.drop k = ys.drop k) = (decide (xs.getD k d = ys.getD k d) && decide (xs.drop (k + 1) = ys.drop (k + 1))) := by
  have e1 : xs.drop k = xs.getD k d :: xs.drop (k + 1) := by rw [List.drop_eq_getElem_cons hx]; congr 1; simp [List.getD, hx]
  have e2 : ys.drop k = ys.getD k d :: ys.drop (k + 1) := by rw [List.drop_eq_getElem_cons hy]; congr 1; simp [List.getD, hy]
  rw [e1, e2]
  simp only [List.cons.injEq, Bool.decide_and]
theorem drop_end {α : Type} [DecidableEq α] (xs ys : List α) (k : Nat) (hx : xs.length ≤ k) (hy : ys.length ≤ k) : decide (xs.drop k = ys.drop k) = true := by
  rw [List.drop_of_length_le hx, List.drop_of_length_le hy]; simp

/-- a pair's two cells, boxed -/
theorem pr_box (w : World) (p q : Value) : ∃ w1, w.alloc (.cells #[p, q] 36) = w1 ∧ Hid (Below w.heap.size w w1) ∧ Hid (Blk w1 w.heap.size 36 [p, q]) ∧ w1.heap.size = w.heap.size + 1 ∧ w1.cell? ⟨w.heap.size, 0, none⟩ = some p ∧ w1.cell? ⟨w.heap.size, 1, none⟩ = some q := by
  have hB := Blk.new w 36 [p, q]
  exact ⟨_, rfl, (Below.refl _ w).alloc (Nat.le_refl _) _, hB, by simp, hB.cell 0, hB.cell 1⟩

set_option maxHeartbeats 1000000 in
theorem samePair_any (w : World) (u1 u2 t1 t2 : Value) (p q : List Int × List Int) (h1 : Sl w u1 p.1) (h2 : Sl w u2 p.2) (g1 : Sl w t1 q.1) (g2 : Sl w t2 q.2) :
    Calls Try.prog 53 #[.agg #[u1, u2], .agg #[t1, t2]] w fun e w' => e = .returned (.bool (decide (p = q))) ∧ Below w.heap.size w w' := by
  have HE1 : Hid (∀ w1, Below w.heap.size w w1 → Calls Try.prog 22 #[u1, t1] w1 fun e w' => e = .returned (.bool (decide (p.1 = q.1))) ∧ w' = w1) := fun w1 hb => equal_any w1 _ _ _ _ (h1.below hb) (g1.below hb)
  have HE2 : Hid (∀ w1, Below w.heap.size w w1 → Calls Try.prog 22 #[u2, t2] w1 fun e w' => e = .returned (.bool (decide (p.2 = q.2))) ∧ w' = w1) := fun w1 hb => equal_any w1 _ _ _ _ (h2.below hb) (g2.below hb)
  have HPQ : Hid (decide (p = q) = (decide (p.1 = q.1) && decide (p.2 = q.2))) := by
    obtain ⟨p1, p2⟩ := p
    obtain ⟨q1, q2⟩ := q
    show decide _ = _
    simp
  obtain ⟨a1, n1, c1, rfl⟩ := sl_form h1
  obtain ⟨a2, n2, c2, rfl⟩ := sl_form h2
  obtain ⟨a3, n3, c3, rfl⟩ := sl_form g1
  obtain ⟨a4, n4, c4, rfl⟩ := sl_form g2
  generalize decide (p = q) = R at *
  generalize decide (p.1 = q.1) = R1 at *
  generalize decide (p.2 = q.2) = R2 at *
  obtain ⟨w1, hw1, HB1, HBB, hs1, z0, z1⟩ := pr_box w (.slice a1 n1 c1) (.slice a2 n2 c2)
  obtain ⟨w2, hw2, HB2, HBC, hs2, y0, y1⟩ := pr_box w1 (.slice a3 n3 c3) (.slice a4 n4 c4)
  have x0 : w2.cell? ⟨w.heap.size, 0, none⟩ = some (.slice a1 n1 c1) := (HBB.out.below HB2.out HBB.out.lt).cell 0
  have x1 : w2.cell? ⟨w.heap.size, 1, none⟩ = some (.slice a2 n2 c2) := (HBB.out.below HB2.out HBB.out.lt).cell 1
  have HB := hide (HB1.out.trans (HB2.out.mono HB1.out.size))
  clear h1 h2 g1 g2 z0 z1 hs2
  clear hs1
  cases R1 with
  | false =>
    go_enter Try.func53, Try.ntmps53
    go_wp2_with (go_at_call 22; refine (HE1.out w2 HB.out).mono ?_; rintro e w3 ⟨rfl, hw⟩; subst w3; clear HE1)
    go_ret
    exact ⟨ret_bool (by rw [HPQ.out]; rfl), HB.out⟩
  | true =>
    go_enter Try.func53, Try.ntmps53
    go_wp2_with (first
      | (go_at_call 22; refine (HE1.out w2 HB.out).mono ?_; rintro e w3 ⟨rfl, hw⟩; subst w3; clear HE1)
      | (go_at_call 22; refine (HE2.out w2 HB.out).mono ?_; rintro e w3 ⟨rfl, hw⟩; subst w3; clear HE2))
    go_ret
    exact ⟨ret_bool (by rw [HPQ.out]; simp), HB.out⟩

set_option maxHeartbeats 2000000 in
theorem eqPairs_any (w : World) (v1 v2 : Value) (xs ys : List (Value × Value)) (ps qs : List (List Int × List Int)) (h1 : Prs w v1 xs ps) (h2 : Prs w v2 ys qs) :
    Calls Try.prog 52 #[v1, v2, .func (.func 53) #[] #[]] w fun e w' => e = .returned (.bool (decide (ps = qs))) ∧ Below w.heap.size w w' := by
  obtain ⟨a1, c1, rfl, b1, d1⟩ := h1.shape
  obtain ⟨a2, c2, rfl, b2, d2⟩ := h2.shape
  have H1 := hide h1
  have H2 := hide h2
  obtain ⟨n, hn⟩ : ∃ n, ps.length = n := ⟨_, rfl⟩
  obtain ⟨m, hm⟩ : ∃ m, qs.length = m := ⟨_, rfl⟩
  have HN := hide hn
  have HM := hide hm
  rw [hn] at H1 b1 ⊢
  rw [hm] at H2 b2 ⊢
  clear h1 h2 hn hm
  by_cases hnm : n = m
  · subst hnm
    go_enter Try.func52, Try.ntmps52
    go_wp2
    go_loopg [17] n (fun g i wr => ∃ k : Nat, g + k = n ∧ i = .int .i64 k ∧ decide (ps = qs) = decide (ps.drop k = qs.drop k) ∧ Below w.heap.size w wr)
    case atStart => exact ⟨0, by omega, rfl, by simp, Below.refl _ _⟩
    case round =>
      obtain ⟨k, hgk, rfl, hall, hbr⟩ := hrel
      have HA := hide hall
      have HBR := hide hbr
      clear hall hbr
      by_cases hk : k < n
      · have hki : (k : Int) < (n : Int) := by omega
        obtain ⟨ba, oa, rfl, r1, s1, s2⟩ := (H1.out.below HBR.out).at k (by rw [HN.out]; exact hk)
        obtain ⟨bb, ob, rfl, r2, s3, s4⟩ := (H2.out.below HBR.out).at k (by rw [HM.out]; exact hk)
        have HST := hide (drop_step ps qs ([], []) k (by rw [HN.out]; exact hk) (by rw [HM.out]; exact hk))
        generalize xs.getD k nil2 = x at *
        generalize ys.getD k nil2 = y at *
        generalize ps.getD k ([], []) = p at *
        generalize qs.getD k ([], []) = q at *
        obtain ⟨u1, u2⟩ := x
        obtain ⟨t1, t2⟩ := y
        simp only at r1 r2 s1 s2 s3 s4
        have e1 : wr.cell? ⟨ba, oa + k * 2, none⟩ = some u1 := r1 0 _ rfl
        have e2 : wr.cell? ⟨ba, oa + k * 2 + 1, none⟩ = some u2 := r1 1 _ rfl
        obtain ⟨w1, hw1, HB1, HBB, hs1, z0, z1⟩ := pr_box wr u1 u2
        have e3 : w1.cell? ⟨bb, ob + k * 2, none⟩ = some t1 := range_keep r2 (fun hlt => HB1.out.block _ hlt) 0 _ rfl
        have e4 : w1.cell? ⟨bb, ob + k * 2 + 1, none⟩ = some t2 := range_keep r2 (fun hlt => HB1.out.block _ hlt) 1 _ rfl
        obtain ⟨w2, hw2, HB2, HBC, hs2, y0, y1⟩ := pr_box w1 t1 t2
        have HBa := hide (HB1.out.trans (HB2.out.mono HB1.out.size))
        have x0 : w2.cell? ⟨wr.heap.size, 0, none⟩ = some u1 := (HBB.out.below HB2.out HBB.out.lt).cell 0
        have x1 : w2.cell? ⟨wr.heap.size, 1, none⟩ = some u2 := (HBB.out.below HB2.out HBB.out.lt).cell 1
        have HSP := hide (samePair_any w2 u1 u2 t1 t2 p q (s1.below HBa.out) (s2.below HBa.out) (s3.below HBa.out) (s4.below HBa.out))
        obtain ⟨f1, g1, l1, rfl⟩ := sl_form s1
        obtain ⟨f2, g2, l2, rfl⟩ := sl_form s2
        obtain ⟨f3, g3, l3, rfl⟩ := sl_form s3
        obtain ⟨f4, g4, l4, rfl⟩ := sl_form s4
        generalize decide (p = q) = R at *
        clear r1 r2 s1 s2 s3 s4 z0 z1 hs1 hs2
        cases R with
        | true =>
          go_wp2_with (go_at_call 53; refine HSP.out.mono ?_; rintro e w3 ⟨rfl, hb3⟩; have HB3 := hide (HBR.out.trans ((HBa.out.trans (hb3.mono HBa.out.size)).mono HBR.out.size)); clear HSP hb3)
          go_roundg (gk - 1)
          case measure => omega
          case rel => exact ⟨k + 1, by omega, by go_num, by rw [HA.out, HST.out]; simp, HB3.out⟩
        | false =>
          go_wp2_with (go_at_call 53; refine HSP.out.mono ?_; rintro e w3 ⟨rfl, hb3⟩; have HB3 := hide (HBR.out.trans ((HBa.out.trans (hb3.mono HBa.out.size)).mono HBR.out.size)); clear HSP hb3)
          go_ret
          exact ⟨ret_bool (by rw [HA.out, HST.out]; simp), HB3.out⟩
      · go_wp2
        go_ret
        exact ⟨ret_bool (by rw [HA.out]; exact (drop_end _ _ _ (by have := HN.out; omega) (by have := HM.out; omega)).symm), HBR.out⟩
  · have hnmi : ((n : Int) != (m : Int)) = true := by simp; omega
    go_enter Try.func52, Try.ntmps52
    go_wp2
    go_ret
    exact ⟨ret_bool (by rw [eq_comm, decide_eq_false_iff_not]; intro e; apply hnm; rw [← HN.out, ← HM.out, e]), Below.refl _ _⟩

set_option maxHeartbeats 2000000 in
theorem eqKeys_any (w : World) (v1 v2 : Value) (xs ys : List Value) (ps qs : List (List Int)) (h1 : Bss w v1 xs ps) (h2 : Bss w v2 ys qs) :
    Calls Try.prog 54 #[v1, v2, .func (.func 22) #[] #[]] w fun e w' => e = .returned (.bool (decide (ps = qs))) ∧ w' = w := by
  obtain ⟨a1, c1, rfl, b1, d1⟩ := h1.shape
  obtain ⟨a2, c2, rfl, b2, d2⟩ := h2.shape
  have H1 := hide h1
  have H2 := hide h2
  obtain ⟨n, hn⟩ : ∃ n, ps.length = n := ⟨_, rfl⟩
  obtain ⟨m, hm⟩ : ∃ m, qs.length = m := ⟨_, rfl⟩
  have HN := hide hn
  have HM := hide hm
  rw [hn] at H1 b1 ⊢
  rw [hm] at H2 b2 ⊢
  clear h1 h2 hn hm
  by_cases hnm : n = m
  · subst hnm
    go_enter Try.func54, Try.ntmps54
    go_wp2
    go_loopg [17] n (fun g i wr => ∃ k : Nat, g + k = n ∧ i = .int .i64 k ∧ decide (ps = qs) = decide (ps.drop k = qs.drop k) ∧ w = wr)
    case atStart => exact ⟨0, by omega, rfl, by simp, rfl⟩
    case round =>
      obtain ⟨k, hgk, rfl, hall, hwr⟩ := hrel
      subst wr
      have HA := hide hall
      clear hall
      by_cases hk : k < n
      · have hki : (k : Int) < (n : Int) := by omega
        obtain ⟨ba, oa, rfl, r1, s1⟩ := H1.out.at k (by rw [HN.out]; exact hk)
        obtain ⟨bb, ob, rfl, r2, s2⟩ := H2.out.at k (by rw [HM.out]; exact hk)
        have HST := hide (drop_step ps qs [] k (by rw [HN.out]; exact hk) (by rw [HM.out]; exact hk))
        generalize xs.getD k nilS = x at *
        generalize ys.getD k nilS = y at *
        generalize ps.getD k [] = p at *
        generalize qs.getD k [] = q at *
        have HEQ := hide (equal_any w x y p q s1 s2)
        obtain ⟨f1, g1, l1, rfl⟩ := sl_form s1
        obtain ⟨f2, g2, l2, rfl⟩ := sl_form s2
        generalize decide (p = q) = R at *
        clear s1 s2
        cases R with
        | true =>
          go_wp2_with (go_at_call 22; refine HEQ.out.mono ?_; rintro e w3 ⟨rfl, hw⟩; subst w3; clear HEQ)
          go_roundg (gk - 1)
          case measure => omega
          case rel => exact ⟨k + 1, by omega, by go_num, by rw [HA.out, HST.out]; simp, rfl⟩
        | false =>
          go_wp2_with (go_at_call 22; refine HEQ.out.mono ?_; rintro e w3 ⟨rfl, hw⟩; subst w3; clear HEQ)
          go_ret
          exact ⟨ret_bool (by rw [HA.out, HST.out]; simp), rfl⟩
      · go_wp2
        go_ret
        exact ⟨ret_bool (by rw [HA.out]; exact (drop_end _ _ _ (by have := HN.out; omega) (by have := HM.out; omega)).symm), rfl⟩
  · have hnmi : ((n : Int) != (m : Int)) = true := by simp; omega
    go_enter Try.func54, Try.ntmps54
    go_wp2
    go_ret
    exact ⟨ret_bool (by rw [eq_comm, decide_eq_false_iff_not]; intro e; apply hnm; rw [← HN.out, ← HM.out, e]), rfl⟩

set_option maxHeartbeats 2000000 in
theorem ndSame_any (w : World) (v1 v2 : Value) (a b : Nd) (h1 : NdV w v1 a) (h2 : NdV w v2 b) :
    Calls Try.prog 16 #[v1, v2] w fun e w' => e = .returned (.bool (sameN a b)) ∧ Below w.heap.size w w' := by
  obtain ⟨pa, pc, ka, kc, ca, cc, xs, ys, rfl, _, _, _, _, _, _, hP, hK, hC⟩ := h1.open
  obtain ⟨pa', pc', ka', kc', ca', cc', xs', ys', rfl, _, _, _, _, _, _, hP', hK', hC'⟩ := h2.open
  have HP : Hid (∀ w1, Below w.heap.size w w1 → Calls Try.prog 52 #[.slice pa a.ps.length pc, .slice pa' b.ps.length pc', .func (.func 53) #[] #[]] w1 fun e w' => e = .returned (.bool (decide (a.ps = b.ps))) ∧ Below w1.heap.size w1 w') := fun w1 hb => eqPairs_any w1 _ _ xs xs' _ _ (hP.below hb) (hP'.below hb)
  have HK : Hid (∀ w1, Below w.heap.size w w1 → Calls Try.prog 54 #[.slice ka a.ks.length kc, .slice ka' b.ks.length kc', .func (.func 22) #[] #[]] w1 fun e w' => e = .returned (.bool (decide (a.ks = b.ks))) ∧ w' = w1) := fun w1 hb => eqKeys_any w1 _ _ ys ys' _ _ (hK.below hb) (hK'.below hb)
  have HC : Hid (∀ w1, Below w.heap.size w w1 → Calls Try.prog 55 #[.slice ca a.cs.length cc, .slice ca' b.cs.length cc'] w1 fun e w' => e = .returned (.bool (decide (a.cs = b.cs))) ∧ Below w1.heap.size w1 w') := fun w1 hb => (sEqual_any w1 _ _ _ _ (hC.below hb) (hC'.below hb)).mono fun e w' ⟨h1, q, h2⟩ => ⟨h1, h2 ▸ ⟨rfl, rfl, rfl, Nat.le_refl _, fun _ _ => rfl⟩⟩
  have HS : Hid (sameN a b = ((a.lf == b.lf) && decide (a.ps = b.ps) && decide (a.ks = b.ks) && decide (a.cs = b.cs))) := rfl
  unfold ndv
  generalize sameN a b = R at *
  generalize decide (a.ps = b.ps) = R1 at *
  generalize decide (a.ks = b.ks) = R2 at *
  generalize decide (a.cs = b.cs) = R3 at *
  generalize a.lf = lf at *
  generalize b.lf = lf' at *
  generalize a.ps.length = np at *
  generalize b.ps.length = np' at *
  generalize a.ks.length = nk at *
  generalize b.ks.length = nk' at *
  generalize a.cs.length = nc at *
  generalize b.cs.length = nc' at *
  obtain ⟨w1, hw1, HB1, HBB, z0, z1, z2, z3⟩ := nd_box w lf (.slice pa np pc) (.slice ka nk kc) (.slice ca nc cc)
  obtain ⟨w2, hw2, HB2, HBC, y0, y1, y2, y3⟩ := nd_box w1 lf' (.slice pa' np' pc') (.slice ka' nk' kc') (.slice ca' nc' cc')
  obtain ⟨x0, x1, x2, x3⟩ := box_ndc (HBB.out.below HB2.out HBB.out.lt)
  have hs1 : w1.heap.size = w.heap.size + 1 := by rw [← hw1]; simp
  have HB := hide (HB1.out.trans (HB2.out.mono HB1.out.size))
  have HBX := hide (HBB.out.below HB2.out HBB.out.lt)
  clear h1 h2 hP hK hC hP' hK' hC' z0 z1 z2 z3 hs1
  cases hlf : (lf == lf') with
  | false =>
    rw [hlf] at HS
    go_enter Try.func16, Try.ntmps16
    go_wp2
    go_ret
    exact ⟨ret_bool (by rw [HS.out]; rfl), HB.out⟩
  | true =>
    rw [hlf] at HS
    have AP : True := trivial
    cases R1 with
    | false =>
      go_enter Try.func16, Try.ntmps16
      go_wp2_with (go_at_call 52; refine (HP.out w2 HB.out).mono ?_; rintro e w3 ⟨rfl, hb3⟩; have HB3 := hide (HB.out.trans (hb3.mono HB.out.size)); clear HP hb3)
      go_ret
      exact ⟨ret_bool (by rw [HS.out]; rfl), HB3.out⟩
    | true =>
      cases R2 with
      | false =>
        go_enter Try.func16, Try.ntmps16
        go_wp2_with (first
          | (go_at_call 52; refine (HP.out w2 HB.out).mono ?_; rintro e w3 ⟨rfl, hb3⟩; have HB3 := hide (HB.out.trans (hb3.mono HB.out.size)); obtain ⟨s0, s1, s2, s3⟩ := box_ndc (HBX.out.below hb3 HBX.out.lt); obtain ⟨t0, t1, t2, t3⟩ := box_ndc (HBC.out.below hb3 HBC.out.lt); clear HP hb3)
          | (go_at_call 54; refine (HK.out w3 HB3.out).mono ?_; rintro e w4 ⟨rfl, hw⟩; subst w4; clear HK))
        go_ret
        exact ⟨ret_bool (by rw [HS.out]; rfl), HB3.out⟩
      | true =>
        go_enter Try.func16, Try.ntmps16
        go_wp2_with (first
          | (go_at_call 52; refine (HP.out w2 HB.out).mono ?_; rintro e w3 ⟨rfl, hb3⟩; have HB3 := hide (HB.out.trans (hb3.mono HB.out.size)); obtain ⟨s0, s1, s2, s3⟩ := box_ndc (HBX.out.below hb3 HBX.out.lt); obtain ⟨t0, t1, t2, t3⟩ := box_ndc (HBC.out.below hb3 HBC.out.lt); clear HP hb3)
          | (go_at_call 54; refine (HK.out w3 HB3.out).mono ?_; rintro e w4 ⟨rfl, hw⟩; subst w4; clear HK)
          | (go_at_call 55; refine (HC.out w3 HB3.out).mono ?_; rintro e w4 ⟨rfl, hb4⟩; have HB4 := hide (HB3.out.trans (hb4.mono HB3.out.size)); clear HC hb4))
        go_ret
        exact ⟨ret_bool (by rw [HS.out]; simp), HB4.out⟩

end Go.Proofs.Ytoamdbjailpgdaa
