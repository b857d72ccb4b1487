/- Contract: the document's Same (incipitref10.Same). -/
import Derived.Test.YtoamdbjailpgdaaNSame
namespace Go.Proofs.Ytoamdbjailpgdaa
set_option maxRecDepth 20000
open Go.RowKit
set_option linter.unusedVariables false
set_option linter.unusedSimpArgs false
set_option maxRecDepth 100000

/-- two texts as strings -/
theorem two_str {w : World} {u t : Value} {p q : List Int} (h1 : Sl w u p) (h2 : Sl w t q) : ∃ sx sy : ByteArray, (∀ m, (convert 34 9 u).run Try.prog (w.drewN m) = .ok (.string sx) (w.drewN m)) ∧ (∀ m, (convert 34 9 t).run Try.prog (w.drewN m) = .ok (.string sy) (w.drewN m)) ∧ (sx.toList = sy.toList ↔ p = q) := by
  have hk : ∀ {v : Value} {zs : List Int} (m : Nat), Sl w v zs → Sl (w.drewN m) v zs := fun m h => h.below ⟨rfl, rfl, rfl, Nat.le_refl _, fun _ _ => rfl⟩
  refine ⟨strOfNums p, strOfNums q, fun m => run_convert_sl (P := Try.prog) (w.drewN m) 34 5 9 Try.underlying34 Try.underlying5 Try.underlying9 u p (hk m h1), fun m => run_convert_sl (P := Try.prog) (w.drewN m) 34 5 9 Try.underlying34 Try.underlying5 Try.underlying9 t q (hk m h2), ?_⟩
  rw [toList_same]
  exact strOfNums_inj h1.bytes h2.bytes

theorem below_q (w : World) (q : Nat) : Below w.heap.size w (w.drewN q) := ⟨rfl, rfl, rfl, Nat.le_refl _, fun _ _ => rfl⟩

set_option maxHeartbeats 8000000 in
theorem refSame_any (w : World) (v1 v2 : Value) (a b : Nd) (h1 : NdV w v1 a) (h2 : NdV w v2 b) :
    Calls Try.prog 17 #[v1, v2] w fun e w' => e = .returned (.bool (sameN a b)) ∧ Below w.heap.size w w' := by
  obtain ⟨pa, pc, ka, kc, ca, cc, xs, ys, rfl, hp1, hk1, hc1, hp2, hk2, hc2, hP, hK, hC⟩ := h1.open
  obtain ⟨pa', pc', ka', kc', ca', cc', xs', ys', rfl, _, _, _, _, _, _, hP', hK', hC'⟩ := h2.open
  have HS : Hid (sameN a b = ((a.lf == b.lf) && decide (a.ps = b.ps) && decide (a.ks = b.ks) && decide (a.cs = b.cs))) := rfl
  unfold ndv
  generalize sameN a b = R at *
  generalize a.lf = lf at *
  generalize b.lf = lf' at *
  obtain ⟨np, hnp⟩ : ∃ m, a.ps.length = m := ⟨_, rfl⟩
  obtain ⟨nk, hnk⟩ : ∃ m, a.ks.length = m := ⟨_, rfl⟩
  obtain ⟨nc, hnc⟩ : ∃ m, a.cs.length = m := ⟨_, rfl⟩
  obtain ⟨np', hnp'⟩ : ∃ m, b.ps.length = m := ⟨_, rfl⟩
  obtain ⟨nk', hnk'⟩ : ∃ m, b.ks.length = m := ⟨_, rfl⟩
  obtain ⟨nc', hnc'⟩ : ∃ m, b.cs.length = m := ⟨_, rfl⟩
  have HNP := hide hnp
  have HNK := hide hnk
  have HNC := hide hnc
  have HNP' := hide hnp'
  have HNK' := hide hnk'
  have HNC' := hide hnc'
  have HP := hide hP
  have HK := hide hK
  have HC := hide hC
  have HP' := hide hP'
  have HK' := hide hK'
  have HC' := hide hC'
  rw [hnp] at HP hp1 ⊢
  rw [hnk] at HK hk1 ⊢
  rw [hnc] at HC hc1 ⊢
  rw [hnp'] at HP' ⊢
  rw [hnk'] at HK' ⊢
  rw [hnc'] at HC' ⊢
  obtain ⟨w1, hw1, HB1, HBB, z0, z1, z2, z3⟩ := nd_box w lf (.slice pa np pc) (.slice ka nk kc) (.slice ca nc cc)
  obtain ⟨w2, hw2, HB2, HBC, y0, y1, y2, y3⟩ := nd_box w1 lf' (.slice pa' np' pc') (.slice ka' nk' kc') (.slice ca' nc' cc')
  obtain ⟨x0, x1, x2, x3⟩ := box_ndc (HBB.out.below HB2.out HBB.out.lt)
  have HB := hide (HB1.out.trans (HB2.out.mono HB1.out.size))
  have HBX := hide (HBB.out.below HB2.out HBB.out.lt)
  clear h1 h2 hP hK hC hP' hK' hC' z0 z1 z2 z3 hnp hnk hnc hnp' hnk' hnc'
  by_cases hlf : lf = lf'
  · subst hlf
    by_cases e1 : np = np'
    · subst e1
      by_cases e2 : nk = nk'
      · subst e2
        by_cases e3 : nc = nc'
        · subst e3
          have HS2 : Hid (R = (decide (a.ps = b.ps) && decide (a.ks = b.ks) && decide (a.cs = b.cs))) := by show R = _; rw [HS.out]; simp
          clear HS
          go_enter Try.func17, Try.ntmps17
          go_wp2
          go_loopg [5] np (fun g i wr => ∃ k : Nat, g + k = np ∧ i = .int .i64 k ∧ decide (a.ps = b.ps) = decide (a.ps.drop k = b.ps.drop k) ∧ Below w2.heap.size w2 wr)
          case atStart => exact ⟨0, by omega, rfl, by simp, Below.refl _ _⟩
          case round =>
            obtain ⟨k, hgk, rfl, hall, hbr⟩ := hrel
            obtain ⟨W1, rfl⟩ : ∃ x, x = wr := ⟨_, rfl⟩
            have HA := hide hall
            have HBR := hide hbr
            obtain ⟨s0, s1, s2, s3⟩ := box_ndc (HBX.out.below hbr HBX.out.lt)
            obtain ⟨t0, t1, t2, t3⟩ := box_ndc (HBC.out.below hbr HBC.out.lt)
            have HBW := hide (HB.out.trans (hbr.mono HB.out.size))
            clear hall hbr x0 x1 x2 x3 y0 y1 y2 y3
            by_cases hk : k < np
            · have hki : (k : Int) < (np : Int) := by omega
              obtain ⟨ba, oa, rfl, r1, g1, g2⟩ := (HP.out.below HBW.out).at k (by rw [HNP.out]; exact hk)
              obtain ⟨bb, ob, rfl, r2, g3, g4⟩ := (HP'.out.below HBW.out).at k (by rw [HNP'.out]; exact hk)
              have HST := hide (drop_step a.ps b.ps ([], []) k (by rw [HNP.out]; exact hk) (by rw [HNP'.out]; exact hk))
              generalize xs.getD k nil2 = x at *
              generalize xs'.getD k nil2 = y at *
              generalize a.ps.getD k ([], []) = p at *
              generalize b.ps.getD k ([], []) = q at *
              obtain ⟨u1, u2⟩ := x
              obtain ⟨v1, v2⟩ := y
              obtain ⟨p1, p2⟩ := p
              obtain ⟨q1, q2⟩ := q
              simp only at r1 r2 g1 g2 g3 g4
              have c1 : W1.cell? ⟨ba, oa + k * 2, none⟩ = some u1 := r1 0 _ rfl
              have c2 : W1.cell? ⟨ba, oa + k * 2 + 1, none⟩ = some u2 := r1 1 _ rfl
              have c3 : W1.cell? ⟨bb, ob + k * 2, none⟩ = some v1 := r2 0 _ rfl
              have c4 : W1.cell? ⟨bb, ob + k * 2 + 1, none⟩ = some v2 := r2 1 _ rfl
              obtain ⟨sx1, sy1, cv1, cv2, hs1⟩ := two_str g1 g3
              obtain ⟨sx2, sy2, cv3, cv4, hs2⟩ := two_str g2 g4
              obtain ⟨f1, g1, l1, rfl⟩ := sl_form g1
              obtain ⟨f2, g2, l2, rfl⟩ := sl_form g2
              obtain ⟨f3, g3, l3, rfl⟩ := sl_form g3
              obtain ⟨f4, g4, l4, rfl⟩ := sl_form g4
              clear r1 r2
              by_cases i1 : p1 = q1
              · have j1 : sx1.toList = sy1.toList := hs1.2 i1
                by_cases i2 : p2 = q2
                · have j2 : sx2.toList = sy2.toList := hs2.2 i2
                  clear hs1 hs2
                  go_wp2
                  go_quiet (fail)
                  go_wp2
                  go_roundg (gk - 1)
                  case measure => omega
                  case rel => exact ⟨k + 1, by omega, by go_num, by rw [HA.out, HST.out]; simp [i1, i2], HBR.out.trans ((below_q W1 nq).mono HBR.out.size)⟩
                · have j2 : (sx2.toList == sy2.toList) = false := by rw [Bool.eq_false_iff]; intro hh; exact (fun h => i2 (hs2.1 h)) (by simpa using hh)
                  clear hs1 hs2
                  go_wp2
                  go_quiet (fail)
                  go_wp2
                  go_ret
                  exact ⟨ret_bool (by rw [HS2.out, HA.out, HST.out]; simp [i2]), HBW.out.trans ((below_q W1 nq).mono HBW.out.size)⟩
              · have j1 : (sx1.toList == sy1.toList) = false := by rw [Bool.eq_false_iff]; intro hh; exact (fun h => i1 (hs1.1 h)) (by simpa using hh)
                clear hs1 hs2
                go_wp2
                go_quiet (fail)
                go_wp2
                go_ret
                exact ⟨ret_bool (by rw [HS2.out, HA.out, HST.out]; simp [i1]), HBW.out.trans ((below_q W1 nq).mono HBW.out.size)⟩
            · have HPT : Hid (decide (a.ps = b.ps) = true) := by show _ = _; rw [HA.out]; exact drop_end _ _ _ (by have := HNP.out; omega) (by have := HNP'.out; omega)
              go_wp2
              go_loopg [6] nk (fun g i wr => ∃ k : Nat, g + k = nk ∧ i = .int .i64 k ∧ decide (a.ks = b.ks) = decide (a.ks.drop k = b.ks.drop k) ∧ Below w2.heap.size w2 wr)
              case atStart => exact ⟨0, by omega, rfl, by simp, HBR.out⟩
              case round =>
                obtain ⟨m, hgm, rfl, hall, hbr⟩ := hrel
                obtain ⟨W2, rfl⟩ : ∃ x, x = wr := ⟨_, rfl⟩
                have HA2 := hide hall
                have HBR2 := hide hbr
                clear s0 s1 s2 s3 t0 t1 t2 t3
                obtain ⟨s0, s1, s2, s3⟩ := box_ndc (HBX.out.below hbr HBX.out.lt)
                obtain ⟨t0, t1, t2, t3⟩ := box_ndc (HBC.out.below hbr HBC.out.lt)
                have HBW2 := hide (HB.out.trans (hbr.mono HB.out.size))
                clear hall hbr
                by_cases hm : m < nk
                · have hmi : (m : Int) < (nk : Int) := by omega
                  obtain ⟨ba, oa, rfl, c1, g1⟩ := (HK.out.below HBW2.out).at m (by rw [HNK.out]; exact hm)
                  obtain ⟨bb, ob, rfl, c2, g2⟩ := (HK'.out.below HBW2.out).at m (by rw [HNK'.out]; exact hm)
                  have HST := hide (drop_step a.ks b.ks [] m (by rw [HNK.out]; exact hm) (by rw [HNK'.out]; exact hm))
                  generalize ys.getD m nilS = x at *
                  generalize ys'.getD m nilS = y at *
                  generalize a.ks.getD m [] = p at *
                  generalize b.ks.getD m [] = q at *
                  obtain ⟨sx1, sy1, cv1, cv2, hs1⟩ := two_str g1 g2
                  obtain ⟨f1, g1, l1, rfl⟩ := sl_form g1
                  obtain ⟨f2, g2, l2, rfl⟩ := sl_form g2
                  by_cases i1 : p = q
                  · have j1 : sx1.toList = sy1.toList := hs1.2 i1
                    clear hs1
                    go_wp2
                    go_quiet (fail)
                    go_wp2
                    go_roundg (gk - 1)
                    case measure => omega
                    case rel => exact ⟨m + 1, by omega, by go_num, by rw [HA2.out, HST.out]; simp [i1], HBR2.out.trans ((below_q W2 nq).mono HBR2.out.size)⟩
                  · have j1 : (sx1.toList == sy1.toList) = false := by rw [Bool.eq_false_iff]; intro hh; exact (fun h => i1 (hs1.1 h)) (by simpa using hh)
                    clear hs1
                    go_wp2
                    go_quiet (fail)
                    go_wp2
                    go_ret
                    exact ⟨ret_bool (by rw [HS2.out, HPT.out, HA2.out, HST.out]; simp [i1]), HBW2.out.trans ((below_q W2 nq).mono HBW2.out.size)⟩
                · have HKT : Hid (decide (a.ks = b.ks) = true) := by show _ = _; rw [HA2.out]; exact drop_end _ _ _ (by have := HNK.out; omega) (by have := HNK'.out; omega)
                  go_wp2
                  go_loopg [7] nc (fun g i wr => ∃ k : Nat, g + k = nc ∧ i = .int .i64 k ∧ decide (a.cs = b.cs) = decide (a.cs.drop k = b.cs.drop k) ∧ Below w2.heap.size w2 wr)
                  case atStart => exact ⟨0, by omega, rfl, by simp, HBR2.out⟩
                  case round =>
                    obtain ⟨l, hgl, rfl, hall, hbr⟩ := hrel
                    obtain ⟨W3, rfl⟩ : ∃ x, x = wr := ⟨_, rfl⟩
                    have HA3 := hide hall
                    have HBR3 := hide hbr
                    clear s0 s1 s2 s3 t0 t1 t2 t3
                    obtain ⟨s0, s1, s2, s3⟩ := box_ndc (HBX.out.below hbr HBX.out.lt)
                    obtain ⟨t0, t1, t2, t3⟩ := box_ndc (HBC.out.below hbr HBC.out.lt)
                    have HBW3 := hide (HB.out.trans (hbr.mono HB.out.size))
                    clear hall hbr
                    by_cases hl : l < nc
                    · have hli : (l : Int) < (nc : Int) := by omega
                      obtain ⟨ba, oa, rfl, c1⟩ := (HC.out.below HBW3.out).at l (by rw [HNC.out]; exact hl)
                      obtain ⟨bb, ob, rfl, c2⟩ := (HC'.out.below HBW3.out).at l (by rw [HNC'.out]; exact hl)
                      have HST := hide (drop_step a.cs b.cs 0 l (by rw [HNC.out]; exact hl) (by rw [HNC'.out]; exact hl))
                      generalize a.cs.getD l 0 = p at *
                      generalize b.cs.getD l 0 = q at *
                      by_cases i1 : p = q
                      · have j1 : (p != q) = false := by simp [i1]
                        go_wp2
                        go_quiet (fail)
                        go_wp2
                        go_roundg (gk - 1)
                        case measure => omega
                        case rel => exact ⟨l + 1, by omega, by go_num, by rw [HA3.out, HST.out]; simp [i1], HBR3.out.trans ((below_q W3 nq).mono HBR3.out.size)⟩
                      · have j1 : (p != q) = true := by simp [i1]
                        go_wp2
                        go_quiet (fail)
                        go_wp2
                        go_ret
                        exact ⟨ret_bool (by rw [HS2.out, HPT.out, HKT.out, HA3.out, HST.out]; simp [i1]), HBW3.out.trans ((below_q W3 nq).mono HBW3.out.size)⟩
                    · have HCT : Hid (decide (a.cs = b.cs) = true) := by show _ = _; rw [HA3.out]; exact drop_end _ _ _ (by have := HNC.out; omega) (by have := HNC'.out; omega)
                      go_wp2
                      go_ret
                      exact ⟨ret_bool (by rw [HS2.out, HPT.out, HKT.out, HCT.out]; rfl), HBW3.out⟩
        · have hne : ((nc : Int) != (nc' : Int)) = true := by simp; omega
          go_enter Try.func17, Try.ntmps17
          go_wp2
          go_ret
          exact ⟨ret_bool (by rw [HS.out]; rw [show decide (a.cs = b.cs) = false from decide_eq_false (fun e => e3 (by rw [← HNC.out, ← HNC'.out, e]))]; simp), HB.out⟩
      · have hne : ((nk : Int) != (nk' : Int)) = true := by simp; omega
        go_enter Try.func17, Try.ntmps17
        go_wp2
        go_ret
        exact ⟨ret_bool (by rw [HS.out]; rw [show decide (a.ks = b.ks) = false from decide_eq_false (fun e => e2 (by rw [← HNK.out, ← HNK'.out, e]))]; simp), HB.out⟩
    · have hne : ((np : Int) != (np' : Int)) = true := by simp; omega
      go_enter Try.func17, Try.ntmps17
      go_wp2
      go_ret
      exact ⟨ret_bool (by rw [HS.out]; rw [show decide (a.ps = b.ps) = false from decide_eq_false (fun e => e1 (by rw [← HNP.out, ← HNP'.out, e]))]; simp), HB.out⟩
  · have hne : (lf == lf') = false := by simp [hlf]
    go_enter Try.func17, Try.ntmps17
    go_wp2
    go_ret
    exact ⟨ret_bool (by rw [HS.out]; rw [hne]; rfl), HB.out⟩

end Go.Proofs.Ytoamdbjailpgdaa
