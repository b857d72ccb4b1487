/- Contract: the document's bytes of a node (incipitref10.lay), a leaf's. -/
import Derived.Test.YtoamdbjailpgdaaNRefM
import Derived.Test.YtoamdbjailpgdaaJNKeep
namespace Go.Proofs.Ytoamdbjailpgdaa
set_option maxRecDepth 20000
open Go.RowKit Go.Shelf
set_option linter.unusedVariables false
set_option linter.unusedSimpArgs false
set_option maxRecDepth 100000
attribute [local go_sem] Oper.semAt_some

set_option maxHeartbeats 8000000 in
theorem refLay_leaf (w : World) (v : Value) (n : Nd) (h : NdV w v n) (hlf : n.lf = true) (hn : n.ps.length ≤ 255) (hl : ∀ p ∈ n.ps, p.1.length ≤ 25 ∧ p.2.length ≤ 24) :
    Calls Try.prog 51 #[v] w fun e w' => ∃ u, e = .returned u ∧ ownsB w' w.heap.size u (lefT n.ps n.ps.length) ∧ Below w.heap.size w w' := by
  obtain ⟨pa, pc, ka, kc, ca, cc, xs, ys, rfl, hp1, hk1, hc1, hp2, hk2, hc2, hP, hK, hC⟩ := h.open
  obtain ⟨lf, ps, ks, cs⟩ := n
  simp only at hlf hp1 hk1 hc1 hp2 hk2 hc2 hP hK hC hn hl ⊢
  subst hlf
  have HP := hide hP
  have HL := hide hl
  have hlen : ∀ k, k ≤ ps.length → (lefT ps k).length ≤ 20000 := fun k hk => by
    rw [lefT_len ps k hk]
    have := sum_take_le (ps.map partP) 51 (fun x hx => by obtain ⟨p, hp, rfl⟩ := List.mem_map.1 hx; have := hl p hp; unfold partP; omega) k
    omega
  have HLN := hide hlen
  clear h hP hK hC hl hlen
  unfold ndv
  obtain ⟨np, hnp⟩ : ∃ m, ps.length = m := ⟨_, rfl⟩
  have HNP := hide hnp
  rw [hnp] at hp1 HP hn HLN ⊢
  generalize ks.length = nk at *
  generalize cs.length = nc at *
  have HL0 : Hid (lefT ps 0 = [(np : Int)]) := by show lefT ps 0 = _; rw [lefT, hnp]
  have hW8 : IntKind.u8.wrap (np : Int) = (np : Int) := by show (np : Int) % 256 = (np : Int); omega
  obtain ⟨w1, hw1, HB1, HBB, z0, z1, z2, z3⟩ := nd_box w true (.slice pa np pc) (.slice ka nk kc) (.slice ca nc cc)
  have hsz1 : w.heap.size < w1.heap.size := HBB.out.lt
  have HO0 := hide (lit_rowN w1 w1.heap.size [(np : Int)] (Nat.le_refl _) (by simp))
  have HBL : Hid (Below w1.heap.size w1 (w1.alloc (.cells #[.int .u8 (np : Int)] 5))) := (Below.refl _ w1).alloc (Nat.le_refl _) _
  clear hnp
  go_enter Try.func51, Try.ntmps51
  go_wp2
  go_loopg [3, 4] np (fun g b i wr => ∃ (k : Nat) (a' : Option Addr) (c' : Nat), g + k = np ∧ i = .int .i64 k ∧ b = .slice a' (lefT ps k).length c' ∧ ownsB wr w1.heap.size (.slice a' (lefT ps k).length c') (lefT ps k) ∧ Below w1.heap.size w1 wr)
  case atStart => exact ⟨0, _, _, by omega, rfl, by rw [HL0.out]; rfl, by rw [HL0.out]; exact HO0.out, HBL.out⟩
  case round =>
    obtain ⟨k, b', c', hgk, rfl, rfl, hown, hbr⟩ := hrel
    obtain ⟨W, rfl⟩ : ∃ x, x = wr := ⟨_, rfl⟩
    have hkn : k ≤ np := by omega
    have hlr := HLN.out k hkn
    have HBR := hide hbr
    have HOR := hide hown
    have HBX := hide (HBB.out.below hbr hsz1)
    have HBW := hide (HB1.out.trans (hbr.mono HB1.out.size))
    obtain ⟨x0, x1, x2, x3⟩ := box_ndc HBX.out
    generalize hLJ : lefT ps k = LJ at *
    have HLJ := hide hLJ
    clear z0 z1 z2 z3 hown hbr hLJ HO0 HBL
    by_cases hk : k < np
    · have hki : (k : Int) < (np : Int) := by omega
      have hkl : k < ps.length := by rw [HNP.out]; exact hk
      obtain ⟨ba0, oa0, he0, r0, g1, g2⟩ := HP.out.at k hkl
      clear he0 r0
      obtain ⟨ba, oa, rfl, r1, g1', g2'⟩ := (HP.out.below HBW.out).at k hkl
      clear g1' g2'
      have hq := HL.out (ps.getD k ([], [])) (by simp only [List.getD, List.getElem?_eq_getElem hkl]; exact List.getElem_mem hkl)
      have HLS : Hid (lefT ps (k + 1) = LJ ++ txt (ps.getD k ([], [])).1 ++ txt (ps.getD k ([], [])).2) := by show lefT ps (k + 1) = _; rw [lefT, HLJ.out]
      generalize xs.getD k nil2 = x at *
      generalize ps.getD k ([], []) = p at *
      obtain ⟨u1, u2⟩ := x
      obtain ⟨q1, q2⟩ := p
      simp only at r1 g1 g2 hq HLS
      have c1 : W.cell? ⟨ba, oa + k * 2, none⟩ = some u1 := r1 0 _ rfl
      have c2 : W.cell? ⟨ba, oa + k * 2 + 1, none⟩ = some u2 := r1 1 _ rfl
      have G1 := hide g1
      have G2 := hide g2
      obtain ⟨a1, d1, rfl⟩ := sl_form' g1
      obtain ⟨a2, d2, rfl⟩ := sl_form' g2
      have HWq1 : Hid (IntKind.u8.wrap (q1.length : Int) = (q1.length : Int)) := by show (q1.length : Int) % 256 = _; omega
      have HWq2 : Hid (IntKind.u8.wrap (q2.length : Int) = (q2.length : Int)) := by show (q2.length : Int) % 256 = _; omega
      obtain ⟨hq1, hq2⟩ := hq
      have hL1 : 1 ≤ LJ.length := by rw [← HLJ.out, lefT_len ps k (by omega)]; omega
      obtain ⟨W1, hW1, HBP, HPB, hsP, y0, y1⟩ := pr_box W (.slice a1 q1.length d1) (.slice a2 q2.length d2)
      have HPB7 := HPB
      have HO7 : Hid (ownsB W1 w1.heap.size (.slice b' LJ.length c') LJ) := HOR.out.only (Only.of_below (fun _ => False) HBP.out) (fun _ _ h => h)
      have HSZ : Hid (w1.heap.size ≤ W1.heap.size) := by show _ ≤ _; have := HBR.out.size; omega
      have HB7 : Hid (Below w1.heap.size w1 W1) := HBR.out.trans (HBP.out.mono HBR.out.size)
      have HS1 : Hid (∀ wx, Below w1.heap.size W1 wx → Sl wx (.slice a1 q1.length d1) q1) := fun wx hb => G1.out.below (HB1.out.trans ((HB7.out.trans hb).mono HB1.out.size))
      have HS2 : Hid (∀ wx, Below w1.heap.size W1 wx → Sl wx (.slice a2 q2.length d2) q2) := fun wx hb => G2.out.below (HB1.out.trans ((HB7.out.trans hb).mono HB1.out.size))
      clear g1 g2 r1
      go_wp2
      refine wp_region_kn w1.heap.size 1 (LJ ++ [(q1.length : Int)] ++ q1) [isV (.slice b' LJ.length c'), isV (.pointer (some ⟨W.heap.size, 0, none⟩)), isV (.slice a1 q1.length d1), isV (.int .i64 (q1.length : Int)), isV (.int .u8 (q1.length : Int)), isRn w1.heap.size [(q1.length : Int)], isRn w1.heap.size (LJ ++ [(q1.length : Int)]), isV (.pointer (some ⟨W.heap.size, 0, none⟩)), isV (.slice a1 q1.length d1), isRn w1.heap.size (LJ ++ [(q1.length : Int)] ++ q1)] 108 10 (by kernel_rfl) (by kernel_rfl) (by kernel_rfl) (by kernel_rfl) rfl ?_ ?_ ?_
      · exact allKn_isV (allKn_isV (allKn_isV (allKn_isV (allKn_isV (allKn_isRn (.inl (by simp)) (allKn_isRn (.inr (List.prefix_append _ _)) (allKn_isV (allKn_isV (allKn_isRn (.inr (List.prefix_refl _)) (trivial))))))))))
      · refine ⟨?_, ?_, ?_, ?_, ?_, ?_, ?_, ?_, ?_, ?_, trivial⟩
        · intro act wx h
          have e3 : act.eval (.tmp 3) = .slice b' LJ.length c' := h.old 3 (by kernel_rfl)
          have hrel := h.rel
          clear h
          refine gives_by rfl act.eval rfl ?_
          generalize act.eval = ρ at *
          intro hf hc
          go_simp
          exact ⟨Kn.refl _ _ _ _, rfl⟩
        · intro act wx h
          have e5 : act.eval (.tmp 5) = .pointer (some ⟨W.heap.size, 0, none⟩) := h.old 5 (by kernel_rfl)
          have hrel := h.rel
          clear h
          refine gives_by rfl act.eval rfl ?_
          generalize act.eval = ρ at *
          intro hf hc
          go_simp
          exact ⟨Kn.refl _ _ _ _, rfl⟩
        · intro act wx h
          obtain ⟨v28, e28, f28⟩ := h.val 1 28 (by kernel_rfl)
          obtain rfl : v28 = .pointer (some ⟨W.heap.size, 0, none⟩) := f28
          have hrel := h.rel
          clear h
          have hpb := hrel.kept _ _ _ (by decide) HPB7.out
          have y0 : wx.cell? ⟨W.heap.size, 0, none⟩ = some (.slice a1 q1.length d1) := hpb.cell 0
          have y1 : wx.cell? ⟨W.heap.size, 1, none⟩ = some (.slice a2 q2.length d2) := hpb.cell 1
          refine gives_by rfl act.eval rfl ?_
          generalize act.eval = ρ at *
          intro hf hc
          go_simp
          exact ⟨Kn.refl _ _ _ _, rfl⟩
        · intro act wx h
          obtain ⟨v29, e29, f29⟩ := h.val 2 29 (by kernel_rfl)
          obtain rfl : v29 = .slice a1 q1.length d1 := f29
          have hrel := h.rel
          clear h
          refine gives_by rfl act.eval rfl ?_
          generalize act.eval = ρ at *
          intro hf hc
          go_simp
          exact ⟨Kn.refl _ _ _ _, rfl⟩
        · intro act wx h
          obtain ⟨v30, e30, f30⟩ := h.val 3 30 (by kernel_rfl)
          obtain rfl : v30 = .int .i64 (q1.length : Int) := f30
          have hrel := h.rel
          clear h
          refine gives_by rfl act.eval rfl ?_
          generalize act.eval = ρ at *
          intro hf hc
          go_simp
          rw [HWq1.out]
          exact ⟨Kn.refl _ _ _ _, rfl⟩
        · intro act wx h
          obtain ⟨v31, e31, f31⟩ := h.val 4 31 (by kernel_rfl)
          obtain rfl : v31 = .int .u8 (q1.length : Int) := f31
          have hrel := h.rel
          clear h
          refine gives_by rfl act.eval rfl ?_
          generalize act.eval = ρ at *
          intro hf hc
          go_simp
          exact ⟨Kn.of_below ((Below.refl _ wx).alloc (Nat.le_refl _) _), _, _, _, rfl, lit_rowN wx w1.heap.size [(q1.length : Int)] (by have := hrel.only.size; have := HSZ.out; omega) (by simp)⟩
        · intro act wx h
          obtain ⟨v27, e27, f27⟩ := h.val 0 27 (by kernel_rfl)
          obtain rfl : v27 = .slice b' LJ.length c' := f27
          obtain ⟨v32, e32, f32⟩ := h.val 5 32 (by kernel_rfl)
          obtain ⟨a32, n32, c32, rfl, O32⟩ := f32
          have hrel := h.rel
          clear h
          obtain ⟨a2', n2', c2', wy, r9, o9, k9⟩ := append_kn wx w1.heap.size 1 (LJ ++ [(q1.length : Int)] ++ q1) b' LJ.length c' LJ [(q1.length : Int)] (hrel.keep _ _ (.inr ⟨[(q1.length : Int)] ++ q1, by rw [List.append_assoc]⟩) HO7.out) (by omega) (List.prefix_append _ _) a32 n32 c32 (sl_of_own_len O32 (by intro z hz; simp at hz; omega)) (by simp only [List.length_append, List.length_cons, List.length_nil]; omega) (by have := hrel.only.size; have := HSZ.out; omega)
          exact gives_of_run rfl (exec_append (.tmp 27) (.tmp 32) 34 rfl _ _ e27 e32 _ r9) ⟨k9, a2', n2', c2', rfl, o9⟩
        · intro act wx h
          have e5 : act.eval (.tmp 5) = .pointer (some ⟨W.heap.size, 0, none⟩) := h.old 5 (by kernel_rfl)
          have hrel := h.rel
          clear h
          refine gives_by rfl act.eval rfl ?_
          generalize act.eval = ρ at *
          intro hf hc
          go_simp
          exact ⟨Kn.refl _ _ _ _, rfl⟩
        · intro act wx h
          obtain ⟨v34, e34, f34⟩ := h.val 7 34 (by kernel_rfl)
          obtain rfl : v34 = .pointer (some ⟨W.heap.size, 0, none⟩) := f34
          have hrel := h.rel
          clear h
          have hpb := hrel.kept _ _ _ (by decide) HPB7.out
          have y0 : wx.cell? ⟨W.heap.size, 0, none⟩ = some (.slice a1 q1.length d1) := hpb.cell 0
          have y1 : wx.cell? ⟨W.heap.size, 1, none⟩ = some (.slice a2 q2.length d2) := hpb.cell 1
          refine gives_by rfl act.eval rfl ?_
          generalize act.eval = ρ at *
          intro hf hc
          go_simp
          exact ⟨Kn.refl _ _ _ _, rfl⟩
        · intro act wx h
          obtain ⟨v33, e33, f33⟩ := h.val 6 33 (by kernel_rfl)
          obtain ⟨a33, n33, c33, rfl, O33⟩ := f33
          obtain ⟨v35, e35, f35⟩ := h.val 8 35 (by kernel_rfl)
          obtain rfl : v35 = .slice a1 q1.length d1 := f35
          have hrel := h.rel
          clear h
          obtain ⟨a2', n2', c2', wy, r9, o9, k9⟩ := append_kn wx w1.heap.size 1 (LJ ++ [(q1.length : Int)] ++ q1) a33 n33 c33 (LJ ++ [(q1.length : Int)]) q1 O33 (by rw [List.length_append]; simp only [List.length_cons, List.length_nil]; omega) (List.prefix_refl _) a1 q1.length d1 (HS1.out wx (hrel.only.below (by have := HSZ.out; omega) (fun k hk h => by omega))) (by simp only [List.length_append, List.length_cons, List.length_nil]; omega) (by have := hrel.only.size; have := HSZ.out; omega)
          exact gives_of_run rfl (exec_append (.tmp 33) (.tmp 35) 34 rfl _ _ e33 e35 _ r9) ⟨k9, a2', n2', c2', rfl, o9⟩
      · intro oL hoL vals w2 hkn2 hv
        simp only [List.getElem?_toArray, List.getElem?_cons_succ, List.getElem?_cons_zero, Option.some.injEq] at hoL
        subst hoL
        generalize hact : putAll _ vals 0 _ = act
        obtain ⟨b2', n2, e2', hv8, O2⟩ : isRn w1.heap.size (LJ ++ [(q1.length : Int)] ++ q1) (vals 9) w2 := hv 9 36 (by decide) (by kernel_rfl)
        clear hv
        obtain ⟨MJ, hMJ⟩ : ∃ MJ, MJ = LJ ++ [(q1.length : Int)] ++ q1 := ⟨_, rfl⟩
        rw [← hMJ] at O2
        have hlm : 1 ≤ MJ.length ∧ MJ.length ≤ 20100 := by rw [hMJ]; simp only [List.length_append, List.length_cons, List.length_nil]; omega
        obtain ⟨hlm1, hlm2⟩ := hlm
        have HMJ := hide hMJ
        obtain rfl : n2 = MJ.length := by obtain ⟨_, _, hh⟩ := own_sliceN O2; simp only [Value.slice.injEq] at hh; exact hh.2.1
        have hb2 : Below w1.heap.size W1 w2 := hkn2.only.below HSZ.out (fun k hk h => by omega)
        have HPB8 := hide (hkn2.kept _ _ _ (by decide) HPB.out)
        have HO8 := hide O2
        have HB8 : Hid (Below w1.heap.size w1 w2) := HB7.out.trans hb2
        have HS28 : Hid (∀ wx, Below w1.heap.size w2 wx → Sl wx (.slice a2 q2.length d2) q2) := fun wx hb => HS2.out wx (hb2.trans hb)
        clear HSZ HS2 HS1 hMJ
        have HSZ : Hid (w1.heap.size ≤ w2.heap.size) := HB8.out.size
        have HS2 := HS28
        have y0 : w2.cell? ⟨W.heap.size, 0, none⟩ = some (.slice a1 q1.length d1) := HPB8.out.cell 0
        have y1 : w2.cell? ⟨W.heap.size, 1, none⟩ = some (.slice a2 q2.length d2) := HPB8.out.cell 1
        clear O2 hb2 hkn2 HS28
        subst hact
        simp only [List.dropLast, putAll, Act.put, List.setIfInBounds_toArray, List.set_cons_zero, List.set_cons_succ, hv8, Nat.zero_add, Nat.reduceAdd]
        clear hv8
        refine gives_by rfl _ rfl ?_
        intro hf hc
        go_simp
        simp only [gUpon]
        go_wp2
        refine wp_region_kn w1.heap.size 1 (MJ ++ [(q2.length : Int)] ++ q2) [isV (.slice b2' MJ.length e2'), isV (.pointer (some ⟨W.heap.size, 1, none⟩)), isV (.slice a2 q2.length d2), isV (.int .i64 (q2.length : Int)), isV (.int .u8 (q2.length : Int)), isRn w1.heap.size [(q2.length : Int)], isRn w1.heap.size (MJ ++ [(q2.length : Int)]), isV (.pointer (some ⟨W.heap.size, 1, none⟩)), isV (.slice a2 q2.length d2), isRn w1.heap.size (MJ ++ [(q2.length : Int)] ++ q2)] 108 10 (by kernel_rfl) (by kernel_rfl) (by kernel_rfl) (by kernel_rfl) rfl ?_ ?_ ?_
        · exact allKn_isV (allKn_isV (allKn_isV (allKn_isV (allKn_isV (allKn_isRn (.inl (by simp)) (allKn_isRn (.inr (List.prefix_append _ _)) (allKn_isV (allKn_isV (allKn_isRn (.inr (List.prefix_refl _)) (trivial))))))))))
        · refine ⟨?_, ?_, ?_, ?_, ?_, ?_, ?_, ?_, ?_, ?_, trivial⟩
          · intro act wx h
            have e3 : act.eval (.tmp 3) = .slice b2' MJ.length e2' := h.old 3 (by kernel_rfl)
            have hrel := h.rel
            clear h
            refine gives_by rfl act.eval rfl ?_
            generalize act.eval = ρ at *
            intro hf hc
            go_simp
            exact ⟨Kn.refl _ _ _ _, rfl⟩
          · intro act wx h
            have e5 : act.eval (.tmp 5) = .pointer (some ⟨W.heap.size, 0, none⟩) := h.old 5 (by kernel_rfl)
            have hrel := h.rel
            clear h
            refine gives_by rfl act.eval rfl ?_
            generalize act.eval = ρ at *
            intro hf hc
            go_simp
            exact ⟨Kn.refl _ _ _ _, rfl⟩
          · intro act wx h
            obtain ⟨v38, e38, f38⟩ := h.val 1 38 (by kernel_rfl)
            obtain rfl : v38 = .pointer (some ⟨W.heap.size, 1, none⟩) := f38
            have hrel := h.rel
            clear h
            have hpb := hrel.kept _ _ _ (by decide) HPB8.out
            have y0 : wx.cell? ⟨W.heap.size, 0, none⟩ = some (.slice a1 q1.length d1) := hpb.cell 0
            have y1 : wx.cell? ⟨W.heap.size, 1, none⟩ = some (.slice a2 q2.length d2) := hpb.cell 1
            refine gives_by rfl act.eval rfl ?_
            generalize act.eval = ρ at *
            intro hf hc
            go_simp
            exact ⟨Kn.refl _ _ _ _, rfl⟩
          · intro act wx h
            obtain ⟨v39, e39, f39⟩ := h.val 2 39 (by kernel_rfl)
            obtain rfl : v39 = .slice a2 q2.length d2 := f39
            have hrel := h.rel
            clear h
            refine gives_by rfl act.eval rfl ?_
            generalize act.eval = ρ at *
            intro hf hc
            go_simp
            exact ⟨Kn.refl _ _ _ _, rfl⟩
          · intro act wx h
            obtain ⟨v40, e40, f40⟩ := h.val 3 40 (by kernel_rfl)
            obtain rfl : v40 = .int .i64 (q2.length : Int) := f40
            have hrel := h.rel
            clear h
            refine gives_by rfl act.eval rfl ?_
            generalize act.eval = ρ at *
            intro hf hc
            go_simp
            rw [HWq2.out]
            exact ⟨Kn.refl _ _ _ _, rfl⟩
          · intro act wx h
            obtain ⟨v41, e41, f41⟩ := h.val 4 41 (by kernel_rfl)
            obtain rfl : v41 = .int .u8 (q2.length : Int) := f41
            have hrel := h.rel
            clear h
            refine gives_by rfl act.eval rfl ?_
            generalize act.eval = ρ at *
            intro hf hc
            go_simp
            exact ⟨Kn.of_below ((Below.refl _ wx).alloc (Nat.le_refl _) _), _, _, _, rfl, lit_rowN wx w1.heap.size [(q2.length : Int)] (by have := hrel.only.size; have := HSZ.out; omega) (by simp)⟩
          · intro act wx h
            obtain ⟨v37, e37, f37⟩ := h.val 0 37 (by kernel_rfl)
            obtain rfl : v37 = .slice b2' MJ.length e2' := f37
            obtain ⟨v42, e42, f42⟩ := h.val 5 42 (by kernel_rfl)
            obtain ⟨a42, n42, c42, rfl, O42⟩ := f42
            have hrel := h.rel
            clear h
            obtain ⟨a2', n2', c2', wy, r9, o9, k9⟩ := append_kn wx w1.heap.size 1 (MJ ++ [(q2.length : Int)] ++ q2) b2' MJ.length e2' MJ [(q2.length : Int)] (hrel.keep _ _ (.inr ⟨[(q2.length : Int)] ++ q2, by rw [List.append_assoc]⟩) HO8.out) (by omega) (List.prefix_append _ _) a42 n42 c42 (sl_of_own_len O42 (by intro z hz; simp at hz; omega)) (by simp only [List.length_append, List.length_cons, List.length_nil]; omega) (by have := hrel.only.size; have := HSZ.out; omega)
            exact gives_of_run rfl (exec_append (.tmp 37) (.tmp 42) 34 rfl _ _ e37 e42 _ r9) ⟨k9, a2', n2', c2', rfl, o9⟩
          · intro act wx h
            have e5 : act.eval (.tmp 5) = .pointer (some ⟨W.heap.size, 0, none⟩) := h.old 5 (by kernel_rfl)
            have hrel := h.rel
            clear h
            refine gives_by rfl act.eval rfl ?_
            generalize act.eval = ρ at *
            intro hf hc
            go_simp
            exact ⟨Kn.refl _ _ _ _, rfl⟩
          · intro act wx h
            obtain ⟨v44, e44, f44⟩ := h.val 7 44 (by kernel_rfl)
            obtain rfl : v44 = .pointer (some ⟨W.heap.size, 1, none⟩) := f44
            have hrel := h.rel
            clear h
            have hpb := hrel.kept _ _ _ (by decide) HPB8.out
            have y0 : wx.cell? ⟨W.heap.size, 0, none⟩ = some (.slice a1 q1.length d1) := hpb.cell 0
            have y1 : wx.cell? ⟨W.heap.size, 1, none⟩ = some (.slice a2 q2.length d2) := hpb.cell 1
            refine gives_by rfl act.eval rfl ?_
            generalize act.eval = ρ at *
            intro hf hc
            go_simp
            exact ⟨Kn.refl _ _ _ _, rfl⟩
          · intro act wx h
            obtain ⟨v43, e43, f43⟩ := h.val 6 43 (by kernel_rfl)
            obtain ⟨a43, n43, c43, rfl, O43⟩ := f43
            obtain ⟨v45, e45, f45⟩ := h.val 8 45 (by kernel_rfl)
            obtain rfl : v45 = .slice a2 q2.length d2 := f45
            have hrel := h.rel
            clear h
            obtain ⟨a2', n2', c2', wy, r9, o9, k9⟩ := append_kn wx w1.heap.size 1 (MJ ++ [(q2.length : Int)] ++ q2) a43 n43 c43 (MJ ++ [(q2.length : Int)]) q2 O43 (by rw [List.length_append]; simp only [List.length_cons, List.length_nil]; omega) (List.prefix_refl _) a2 q2.length d2 (HS2.out wx (hrel.only.below (by have := HSZ.out; omega) (fun k hk h => by omega))) (by simp only [List.length_append, List.length_cons, List.length_nil]; omega) (by have := hrel.only.size; have := HSZ.out; omega)
            exact gives_of_run rfl (exec_append (.tmp 43) (.tmp 45) 34 rfl _ _ e43 e45 _ r9) ⟨k9, a2', n2', c2', rfl, o9⟩
        · intro oL hoL vals8 w3 hkn3 hv
          simp only [List.getElem?_toArray, List.getElem?_cons_succ, List.getElem?_cons_zero, Option.some.injEq] at hoL
          subst hoL
          generalize hact : putAll _ vals8 0 _ = act
          obtain ⟨b3, n3, e3, hv9, O3⟩ : isRn w1.heap.size (MJ ++ [(q2.length : Int)] ++ q2) (vals8 9) w3 := hv 9 46 (by decide) (by kernel_rfl)
          clear hv
          obtain ⟨NJ, hNJ⟩ : ∃ NJ, NJ = MJ ++ [(q2.length : Int)] ++ q2 := ⟨_, rfl⟩
          rw [← hNJ] at O3
          have HNJ : Hid (lefT ps (k + 1) = NJ) := by show _ = _; rw [HLS.out, hNJ, HMJ.out]; simp [txt]
          obtain rfl : n3 = NJ.length := by obtain ⟨_, _, hh⟩ := own_sliceN O3; simp only [Value.slice.injEq] at hh; exact hh.2.1
          have HO9 := hide O3
          have HB9 : Hid (Below w1.heap.size w1 w3) := HB8.out.trans (hkn3.only.below HSZ.out (fun k hk h => by omega))
          clear O3 hkn3 hNJ
          subst hact
          simp only [List.dropLast, putAll, Act.put, List.setIfInBounds_toArray, List.set_cons_zero, List.set_cons_succ, hv9, Nat.zero_add, Nat.reduceAdd]
          clear hv9
          refine gives_by rfl _ rfl ?_
          intro hf hc
          go_simp
          simp only [gUpon]
          go_wp2
          go_roundg (gk - 1)
          case measure => omega
          case rel => exact ⟨k + 1, b3, e3, by omega, by go_num, by rw [HNJ.out], by rw [HNJ.out]; exact HO9.out, HB9.out⟩
    · have hkk : k = np := by omega
      go_wp2
      go_ret
      refine ⟨_, rfl, ?_, HBW.out⟩
      rw [← hkk, HLJ.out]
      exact own_le' HOR.out (by omega)

end Go.Proofs.Ytoamdbjailpgdaa
/- Contract: the document's bytes of a node (incipitref10.lay), an inner node's; its Size and Check. -/
namespace Go.Proofs.Ytoamdbjailpgdaa
set_option maxRecDepth 20000
open Go.RowKit Go.Shelf
set_option linter.unusedVariables false
set_option linter.unusedSimpArgs false
set_option maxRecDepth 100000
attribute [local go_sem] Oper.semAt_some

theorem two_bytes (x : Nat) (hx : x < 65536) : numBytes x 2 = [((x / 256 : Nat) : Int), ((x % 256 : Nat) : Int)] := by
  simp only [numBytes, List.nil_append, List.cons_append, List.cons.injEq, and_true]
  omega
/-- a child's number, as bytes -/
theorem kid_bytes (c : Int) (h : kidB c = true) : ∃ X p0 p1 : Nat, c = (X : Int) ∧ numBytes c.toNat 2 = [(p0 : Int), (p1 : Int)] ∧ p0 < 256 ∧ p1 < 256 ∧ (X : Int) / 256 = (p0 : Int) ∧ (X : Int) % 256 = (p1 : Int) ∧ X < 65536 := by
  simp only [kidB, Bool.and_eq_true, decide_eq_true_iff] at h
  refine ⟨c.toNat, c.toNat / 256, c.toNat % 256, by omega, two_bytes _ (by omega), by omega, by omega, by omega, by omega, by omega⟩

set_option maxHeartbeats 8000000 in
theorem refLay_inner (w : World) (v : Value) (n : Nd) (h : NdV w v n) (hlf : n.lf = false) (hm : innerB n = true) :
    Calls Try.prog 51 #[v] w fun e w' => ∃ u, e = .returned u ∧ ownsB w' w.heap.size u (innT n.ks n.cs n.ks.length) ∧ Below w.heap.size w w' := by
  obtain ⟨_, m2, m3, m4, m5, m6⟩ := innerB_ps hm
  obtain ⟨pa, pc, ka, kc, ca, cc, xs, ys, rfl, hp1, hk1, hc1, hp2, hk2, hc2, hP, hK, hC⟩ := h.open
  obtain ⟨lf, ps, ks, cs⟩ := n
  simp only at hlf hp1 hk1 hc1 hp2 hk2 hc2 hP hK hC m2 m3 m4 m5 m6 ⊢
  subst hlf
  have hle : ∀ k ∈ ks, k.length ≤ 25 := fun k hk => (keyB_len (riseK_keys _ _ m5 _ hk)).2
  have hlen : ∀ k, k ≤ ks.length → (innT ks cs k).length ≤ 20000 := fun k hk => by
    rw [innT_len ks cs k hk]
    have := sum_take_le (ks.map partK) 28 (fun x hx => by obtain ⟨p, hp, rfl⟩ := List.mem_map.1 hx; have := hle p hp; unfold partK; omega) k
    omega
  have hkid : ∀ i, i < cs.length → kidB (cs.getD i 0) = true := fun i hi => m6 _ (by simp only [List.getD, List.getElem?_eq_getElem hi]; exact List.getElem_mem hi)
  have HK := hide hK
  have HC := hide hC
  have HLN := hide hlen
  have HLE := hide hle
  have HKI := hide hkid
  obtain ⟨cb, coff, rfl, -⟩ := hC.at 0 (by omega)
  obtain ⟨kb, koff, rfl, -, -⟩ := hK.at 0 (by omega)
  clear hP hK hC h hlen hle hkid hm m5 m6
  unfold ndv
  obtain ⟨nk, hnk⟩ : ∃ m, ks.length = m := ⟨_, rfl⟩
  have HNK := hide hnk
  obtain ⟨nc, hnc⟩ : ∃ m, cs.length = m := ⟨_, rfl⟩
  have HNC := hide hnc
  rw [hnk] at hk1 HK m2 m3 m4 HLN ⊢
  rw [hnc] at hc1 HC m4 HKI ⊢
  have HCC : Hid (∀ (w' : World) (i : Nat), Below w.heap.size w w' → i < nc → w'.cell? ⟨cb, coff + i, none⟩ = some (.int .i64 (cs.getD i 0))) := fun w' i hb hi => by
    obtain ⟨b', off', he, hc⟩ := (HC.out.below hb).at i (by rw [HNC.out]; exact hi)
    obtain ⟨rfl, rfl⟩ : cb = b' ∧ coff = off' := by simpa using he
    exact hc
  have HKC : Hid (∀ (w' : World) (i : Nat), Below w.heap.size w w' → i < nk → w'.cell? ⟨kb, koff + i, none⟩ = some (ys.getD i nilS) ∧ Sl w' (ys.getD i nilS) (ks.getD i [])) := fun w' i hb hi => by
    obtain ⟨b', off', he, hc, hs⟩ := (HK.out.below hb).at i (by rw [HNK.out]; exact hi)
    obtain ⟨rfl, rfl⟩ : kb = b' ∧ koff = off' := by simpa using he
    exact ⟨hc, hs⟩
  generalize ps.length = np at *
  have HW8 : Hid (IntKind.u8.wrap (nk : Int) = (nk : Int)) := by show (nk : Int) % 256 = (nk : Int); omega
  obtain ⟨w1, hw1, HB1, HBB, z0, z1, z2, z3⟩ := nd_box w false (.slice pa np pc) (.slice (some ⟨kb, koff, none⟩) nk kc) (.slice (some ⟨cb, coff, none⟩) nc cc)
  have hsz1 : w.heap.size < w1.heap.size := HBB.out.lt
  have HSZ : Hid (w1.heap.size ≤ w1.heap.size) := Nat.le_refl _
  have hcn : nk < nc := by omega
  have hnc0 : 0 < nc := by omega
  obtain ⟨X, p0, p1, hX, hnb, b0, b1, d0, d1, hX6⟩ := kid_bytes _ (HKI.out 0 (by omega))
  have HL0 : Hid (innT ks cs 0 = [(nk : Int), (p0 : Int), (p1 : Int)]) := by show innT ks cs 0 = _; rw [innT, hnk, hnb]; rfl
  have HC0 : Hid (∀ w', Below w1.heap.size w1 w' → w'.cell? ⟨cb, coff, none⟩ = some (.int .i64 (X : Int))) := fun w' hb => by have := HCC.out w' 0 (HB1.out.trans (hb.mono HB1.out.size)) (by omega); rwa [Nat.add_zero, hX] at this
  have HP0 : Hid (IntKind.u8.wrap (p0 : Int) = (p0 : Int)) := by show (p0 : Int) % 256 = (p0 : Int); omega
  have HP1 : Hid (IntKind.u8.wrap (p1 : Int) = (p1 : Int)) := by show (p1 : Int) % 256 = (p1 : Int); omega
  clear hnk hnc HC m4 hX hnb
  go_enter Try.func51, Try.ntmps51
  go_wp2
  refine wp_region_kn w1.heap.size 0 ([(nk : Int), (p0 : Int), (p1 : Int)]) [isV (.pointer (some ⟨w.heap.size, 2, none⟩)), isV (.slice (some ⟨kb, koff, none⟩) nk kc), isV (.int .i64 (nk : Int)), isV (.int .u8 (nk : Int)), isV (.pointer (some ⟨w.heap.size, 3, none⟩)), isV (.slice (some ⟨cb, coff, none⟩) nc cc), isV (.pointer (some ⟨cb, coff, none⟩)), isV (.int .i64 (X : Int)), isV (.int .i64 (p0 : Int)), isV (.int .u8 (p0 : Int)), isV (.pointer (some ⟨w.heap.size, 3, none⟩)), isV (.slice (some ⟨cb, coff, none⟩) nc cc), isV (.pointer (some ⟨cb, coff, none⟩)), isV (.int .i64 (X : Int)), isV (.int .i64 (p1 : Int)), isV (.int .u8 (p1 : Int)), isRn w1.heap.size [(nk : Int), (p0 : Int), (p1 : Int)]] 108 17 (by kernel_rfl) (by kernel_rfl) (by kernel_rfl) (by kernel_rfl) rfl ?_ ?_ ?_
  · exact allKn_isV (allKn_isV (allKn_isV (allKn_isV (allKn_isV (allKn_isV (allKn_isV (allKn_isV (allKn_isV (allKn_isV (allKn_isV (allKn_isV (allKn_isV (allKn_isV (allKn_isV (allKn_isV (allKn_isRn (.inr (List.prefix_refl _)) (trivial)))))))))))))))))
  · refine ⟨?_, ?_, ?_, ?_, ?_, ?_, ?_, ?_, ?_, ?_, ?_, ?_, ?_, ?_, ?_, ?_, ?_, trivial⟩
    · intro act wx h
      have e1 : act.eval (.tmp 1) = .pointer (some ⟨w.heap.size, 0, none⟩) := h.old 1 (by kernel_rfl)
      have hrel := h.rel
      clear h
      refine gives_by rfl act.eval rfl ?_
      generalize act.eval = ρ at *
      intro hf hc
      go_simp
      exact ⟨Kn.refl _ _ _ _, rfl⟩
    · intro act wx h
      obtain ⟨v48, e48, f48⟩ := h.val 0 48 (by kernel_rfl)
      obtain rfl : v48 = .pointer (some ⟨w.heap.size, 2, none⟩) := f48
      have hrel := h.rel
      clear h
      have hbw : Below w1.heap.size w1 wx := hrel.only.below HSZ.out (fun k hk h => by omega)
      obtain ⟨xx0, xx1, xx2, xx3⟩ := box_ndc (HBB.out.below hbw HBB.out.lt)
      refine gives_by rfl act.eval rfl ?_
      generalize act.eval = ρ at *
      intro hf hc
      go_simp
      exact ⟨Kn.refl _ _ _ _, rfl⟩
    · intro act wx h
      obtain ⟨v49, e49, f49⟩ := h.val 1 49 (by kernel_rfl)
      obtain rfl : v49 = .slice (some ⟨kb, koff, none⟩) nk kc := f49
      have hrel := h.rel
      clear h
      refine gives_by rfl act.eval rfl ?_
      generalize act.eval = ρ at *
      intro hf hc
      go_simp
      exact ⟨Kn.refl _ _ _ _, rfl⟩
    · intro act wx h
      obtain ⟨v50, e50, f50⟩ := h.val 2 50 (by kernel_rfl)
      obtain rfl : v50 = .int .i64 (nk : Int) := f50
      have hrel := h.rel
      clear h
      refine gives_by rfl act.eval rfl ?_
      generalize act.eval = ρ at *
      intro hf hc
      go_simp
      rw [HW8.out]
      exact ⟨Kn.refl _ _ _ _, rfl⟩
    · intro act wx h
      have e1 : act.eval (.tmp 1) = .pointer (some ⟨w.heap.size, 0, none⟩) := h.old 1 (by kernel_rfl)
      have hrel := h.rel
      clear h
      refine gives_by rfl act.eval rfl ?_
      generalize act.eval = ρ at *
      intro hf hc
      go_simp
      exact ⟨Kn.refl _ _ _ _, rfl⟩
    · intro act wx h
      obtain ⟨v52, e52, f52⟩ := h.val 4 52 (by kernel_rfl)
      obtain rfl : v52 = .pointer (some ⟨w.heap.size, 3, none⟩) := f52
      have hrel := h.rel
      clear h
      have hbw : Below w1.heap.size w1 wx := hrel.only.below HSZ.out (fun k hk h => by omega)
      obtain ⟨xx0, xx1, xx2, xx3⟩ := box_ndc (HBB.out.below hbw HBB.out.lt)
      refine gives_by rfl act.eval rfl ?_
      generalize act.eval = ρ at *
      intro hf hc
      go_simp
      exact ⟨Kn.refl _ _ _ _, rfl⟩
    · intro act wx h
      obtain ⟨v53, e53, f53⟩ := h.val 5 53 (by kernel_rfl)
      obtain rfl : v53 = .slice (some ⟨cb, coff, none⟩) nc cc := f53
      have hrel := h.rel
      clear h
      refine gives_by rfl act.eval rfl ?_
      generalize act.eval = ρ at *
      intro hf hc
      go_simp
      exact ⟨Kn.refl _ _ _ _, rfl⟩
    · intro act wx h
      obtain ⟨v54, e54, f54⟩ := h.val 6 54 (by kernel_rfl)
      obtain rfl : v54 = .pointer (some ⟨cb, coff, none⟩) := f54
      have hrel := h.rel
      clear h
      have cx := HC0.out wx (hrel.only.below HSZ.out (fun k hk h => by omega))
      refine gives_by rfl act.eval rfl ?_
      generalize act.eval = ρ at *
      intro hf hc
      go_simp
      exact ⟨Kn.refl _ _ _ _, rfl⟩
    · intro act wx h
      obtain ⟨v55, e55, f55⟩ := h.val 7 55 (by kernel_rfl)
      obtain rfl : v55 = .int .i64 (X : Int) := f55
      have hrel := h.rel
      clear h
      refine gives_by rfl act.eval rfl ?_
      generalize act.eval = ρ at *
      intro hf hc
      go_simp
      rw [show IntKind.i64.wrap (p0 : Int) = (p0 : Int) from IntWalk.i64_in _ (by omega)]
      exact ⟨Kn.refl _ _ _ _, rfl⟩
    · intro act wx h
      obtain ⟨v56, e56, f56⟩ := h.val 8 56 (by kernel_rfl)
      obtain rfl : v56 = .int .i64 (p0 : Int) := f56
      have hrel := h.rel
      clear h
      refine gives_by rfl act.eval rfl ?_
      generalize act.eval = ρ at *
      intro hf hc
      go_simp
      rw [HP0.out]
      exact ⟨Kn.refl _ _ _ _, rfl⟩
    · intro act wx h
      have e1 : act.eval (.tmp 1) = .pointer (some ⟨w.heap.size, 0, none⟩) := h.old 1 (by kernel_rfl)
      have hrel := h.rel
      clear h
      refine gives_by rfl act.eval rfl ?_
      generalize act.eval = ρ at *
      intro hf hc
      go_simp
      exact ⟨Kn.refl _ _ _ _, rfl⟩
    · intro act wx h
      obtain ⟨v58, e58, f58⟩ := h.val 10 58 (by kernel_rfl)
      obtain rfl : v58 = .pointer (some ⟨w.heap.size, 3, none⟩) := f58
      have hrel := h.rel
      clear h
      have hbw : Below w1.heap.size w1 wx := hrel.only.below HSZ.out (fun k hk h => by omega)
      obtain ⟨xx0, xx1, xx2, xx3⟩ := box_ndc (HBB.out.below hbw HBB.out.lt)
      refine gives_by rfl act.eval rfl ?_
      generalize act.eval = ρ at *
      intro hf hc
      go_simp
      exact ⟨Kn.refl _ _ _ _, rfl⟩
    · intro act wx h
      obtain ⟨v59, e59, f59⟩ := h.val 11 59 (by kernel_rfl)
      obtain rfl : v59 = .slice (some ⟨cb, coff, none⟩) nc cc := f59
      have hrel := h.rel
      clear h
      refine gives_by rfl act.eval rfl ?_
      generalize act.eval = ρ at *
      intro hf hc
      go_simp
      exact ⟨Kn.refl _ _ _ _, rfl⟩
    · intro act wx h
      obtain ⟨v60, e60, f60⟩ := h.val 12 60 (by kernel_rfl)
      obtain rfl : v60 = .pointer (some ⟨cb, coff, none⟩) := f60
      have hrel := h.rel
      clear h
      have cx := HC0.out wx (hrel.only.below HSZ.out (fun k hk h => by omega))
      refine gives_by rfl act.eval rfl ?_
      generalize act.eval = ρ at *
      intro hf hc
      go_simp
      exact ⟨Kn.refl _ _ _ _, rfl⟩
    · intro act wx h
      obtain ⟨v61, e61, f61⟩ := h.val 13 61 (by kernel_rfl)
      obtain rfl : v61 = .int .i64 (X : Int) := f61
      have hrel := h.rel
      clear h
      refine gives_by rfl act.eval rfl ?_
      generalize act.eval = ρ at *
      intro hf hc
      go_simp
      rw [show (X : Int).tmod 256 = (p1 : Int) by rw [Int.tmod_eq_emod_of_nonneg (by omega)]; exact d1]
      exact ⟨Kn.refl _ _ _ _, rfl⟩
    · intro act wx h
      obtain ⟨v62, e62, f62⟩ := h.val 14 62 (by kernel_rfl)
      obtain rfl : v62 = .int .i64 (p1 : Int) := f62
      have hrel := h.rel
      clear h
      refine gives_by rfl act.eval rfl ?_
      generalize act.eval = ρ at *
      intro hf hc
      go_simp
      rw [HP1.out]
      exact ⟨Kn.refl _ _ _ _, rfl⟩
    · intro act wx h
      obtain ⟨v51, e51, f51⟩ := h.val 3 51 (by kernel_rfl)
      obtain rfl : v51 = .int .u8 (nk : Int) := f51
      obtain ⟨v57, e57, f57⟩ := h.val 9 57 (by kernel_rfl)
      obtain rfl : v57 = .int .u8 (p0 : Int) := f57
      obtain ⟨v63, e63, f63⟩ := h.val 15 63 (by kernel_rfl)
      obtain rfl : v63 = .int .u8 (p1 : Int) := f63
      have hrel := h.rel
      clear h
      refine gives_by rfl act.eval rfl ?_
      generalize act.eval = ρ at *
      intro hf hc
      go_simp
      exact ⟨Kn.of_below ((Below.refl _ wx).alloc (Nat.le_refl _) _), _, _, _, rfl, lit_rowN wx w1.heap.size [(nk : Int), (p0 : Int), (p1 : Int)] (by have := hrel.only.size; have := HSZ.out; omega) (by simp)⟩
  · intro oL hoL vals w2 hkn2 hv
    simp only [List.getElem?_toArray, List.getElem?_cons_succ, List.getElem?_cons_zero, Option.some.injEq] at hoL
    subst hoL
    generalize hact : putAll _ vals 0 _ = act
    obtain ⟨a2, n2, c2, hv8, O2⟩ : isRn w1.heap.size [(nk : Int), (p0 : Int), (p1 : Int)] (vals 16) w2 := hv 16 64 (by decide) (by kernel_rfl)
    clear hv
    rw [← HL0.out] at O2
    obtain rfl : n2 = (innT ks cs 0).length := by obtain ⟨_, _, hh⟩ := own_sliceN O2; simp only [Value.slice.injEq] at hh; exact hh.2.1
    have HB2 : Hid (Below w1.heap.size w1 w2) := hkn2.only.below HSZ.out (fun k hk h => by omega)
    have HO2 := hide O2
    obtain ⟨y0, y1, y2, y3⟩ := box_ndc (HBB.out.below HB2.out HBB.out.lt)
    clear O2 hkn2 HSZ HP0 HP1 HC0 d0 d1 b0 b1 hX6 z0 z1 z2 z3
    subst hact
    simp only [List.dropLast, putAll, Act.put, List.setIfInBounds_toArray, List.set_cons_zero, List.set_cons_succ, hv8, Nat.zero_add, Nat.reduceAdd]
    clear hv8
    refine gives_by rfl _ rfl ?_
    intro hf hc
    go_simp
    simp only [gUpon]
    generalize hL0 : (innT ks cs 0).length = l0 at *
    go_wp2
    go_loopg [6, 7] nk (fun g b i wr => ∃ (j : Nat) (a' : Option Addr) (c' : Nat), g + j = nk ∧ i = .int .i64 j ∧ b = .slice a' (innT ks cs j).length c' ∧ ownsB wr w1.heap.size (.slice a' (innT ks cs j).length c') (innT ks cs j) ∧ Below w1.heap.size w1 wr)
    case atStart => exact ⟨0, a2, c2, by omega, rfl, by rw [hL0], by rw [hL0]; exact HO2.out, HB2.out⟩
    case round =>
      obtain ⟨j, b', c', hgj, rfl, rfl, hown, hbr⟩ := hrel
      obtain ⟨W, rfl⟩ : ∃ x, x = wr := ⟨_, rfl⟩
      have hjn : j ≤ nk := by omega
      have hlr := HLN.out j hjn
      have HBR := hide hbr
      have HO7 := hide hown
      have HBX := hide (HBB.out.below hbr hsz1)
      have HBW := hide (HB1.out.trans (hbr.mono HB1.out.size))
      have HSZ : Hid (w1.heap.size ≤ W.heap.size) := hbr.size
      obtain ⟨x0, x1, x2, x3⟩ := box_ndc HBX.out
      generalize hLJ : innT ks cs j = LJ at *
      have HLJ := hide hLJ
      have hL3 : 3 ≤ LJ.length := by rw [← hLJ, innT_len ks cs j (by rw [HNK.out]; exact hjn)]; omega
      clear y0 y1 y2 y3 hown hbr hLJ HO2 HB2 hL0
      by_cases hj : j < nk
      · have hji : (j : Int) < (nk : Int) := by omega
        have hjc : (j : Int) + 1 < (nc : Int) := by omega
        have hjl : j < ks.length := by rw [HNK.out]; exact hj
        have hq := HLE.out (ks.getD j []) (by simp only [List.getD, List.getElem?_eq_getElem hjl]; exact List.getElem_mem hjl)
        have HLS : Hid (innT ks cs (j + 1) = LJ ++ txt (ks.getD j []) ++ numBytes (cs.getD (j + 1) 0).toNat 2) := by show innT ks cs (j + 1) = _; rw [innT, HLJ.out]
        obtain ⟨X, p0, p1, hX, hnb, b0, b1, d0, d1, hX6⟩ := kid_bytes _ (HKI.out (j + 1) (by omega))
        have HCJ : Hid (∀ w', Below w.heap.size w w' → w'.cell? ⟨cb, coff + (j + 1), none⟩ = some (.int .i64 (X : Int))) := fun w' hb => by have := HCC.out w' (j + 1) hb (by omega); rwa [hX] at this
        have HKJ : Hid (∀ w', Below w.heap.size w w' → w'.cell? ⟨kb, koff + j, none⟩ = some (ys.getD j nilS) ∧ Sl w' (ys.getD j nilS) (ks.getD j [])) := fun w' hb => HKC.out w' j hb hj
        rw [hnb] at HLS
        generalize ys.getD j nilS = u1 at *
        generalize ks.getD j [] = q1 at *
        obtain ⟨g0, g1⟩ := HKJ.out W HBW.out
        obtain ⟨a1, d1', rfl⟩ := sl_form' g1
        have HP0 : Hid (IntKind.u8.wrap (p0 : Int) = (p0 : Int)) := by show (p0 : Int) % 256 = (p0 : Int); omega
        have HP1 : Hid (IntKind.u8.wrap (p1 : Int) = (p1 : Int)) := by show (p1 : Int) % 256 = (p1 : Int); omega
        have HWq1 : Hid (IntKind.u8.wrap (q1.length : Int) = (q1.length : Int)) := by show (q1.length : Int) % 256 = _; omega
        clear hX hnb g0 g1
        go_wp2
        refine wp_region_kn w1.heap.size 1 (LJ ++ [(q1.length : Int)] ++ q1) [isV (.slice b' LJ.length c'), isV (.pointer (some ⟨w.heap.size, 2, none⟩)), isV (.slice (some ⟨kb, koff, none⟩) nk kc), isV (.int .i64 (j : Int)), isV (.pointer (some ⟨kb, koff + j, none⟩)), isV (.slice a1 q1.length d1'), isV (.int .i64 (q1.length : Int)), isV (.int .u8 (q1.length : Int)), isRn w1.heap.size [(q1.length : Int)], isRn w1.heap.size (LJ ++ [(q1.length : Int)]), isV (.pointer (some ⟨w.heap.size, 2, none⟩)), isV (.slice (some ⟨kb, koff, none⟩) nk kc), isV (.int .i64 (j : Int)), isV (.pointer (some ⟨kb, koff + j, none⟩)), isV (.slice a1 q1.length d1'), isRn w1.heap.size (LJ ++ [(q1.length : Int)] ++ q1)] 108 16 (by kernel_rfl) (by kernel_rfl) (by kernel_rfl) (by kernel_rfl) rfl ?_ ?_ ?_
        · exact allKn_isV (allKn_isV (allKn_isV (allKn_isV (allKn_isV (allKn_isV (allKn_isV (allKn_isV (allKn_isRn (.inl (by simp)) (allKn_isRn (.inr (List.prefix_append _ _)) (allKn_isV (allKn_isV (allKn_isV (allKn_isV (allKn_isV (allKn_isRn (.inr (List.prefix_refl _)) (trivial))))))))))))))))
        · refine ⟨?_, ?_, ?_, ?_, ?_, ?_, ?_, ?_, ?_, ?_, ?_, ?_, ?_, ?_, ?_, ?_, trivial⟩
          · intro act wx h
            have e6 : act.eval (.tmp 6) = .slice b' LJ.length c' := h.old 6 (by kernel_rfl)
            have hrel := h.rel
            clear h
            refine gives_by rfl act.eval rfl ?_
            generalize act.eval = ρ at *
            intro hf hc
            go_simp
            exact ⟨Kn.refl _ _ _ _, rfl⟩
          · intro act wx h
            have e1 : act.eval (.tmp 1) = .pointer (some ⟨w.heap.size, 0, none⟩) := h.old 1 (by kernel_rfl)
            have hrel := h.rel
            clear h
            refine gives_by rfl act.eval rfl ?_
            generalize act.eval = ρ at *
            intro hf hc
            go_simp
            exact ⟨Kn.refl _ _ _ _, rfl⟩
          · intro act wx h
            obtain ⟨v73, e73, f73⟩ := h.val 1 73 (by kernel_rfl)
            obtain rfl : v73 = .pointer (some ⟨w.heap.size, 2, none⟩) := f73
            have hrel := h.rel
            clear h
            have hbw : Below w1.heap.size w1 wx := HBR.out.trans (hrel.only.below HSZ.out (fun k hk h => by omega))
            obtain ⟨xx0, xx1, xx2, xx3⟩ := box_ndc (HBB.out.below hbw HBB.out.lt)
            refine gives_by rfl act.eval rfl ?_
            generalize act.eval = ρ at *
            intro hf hc
            go_simp
            exact ⟨Kn.refl _ _ _ _, rfl⟩
          · intro act wx h
            have e7 : act.eval (.tmp 7) = .int .i64 (j : Int) := h.old 7 (by kernel_rfl)
            have hrel := h.rel
            clear h
            refine gives_by rfl act.eval rfl ?_
            generalize act.eval = ρ at *
            intro hf hc
            go_simp
            exact ⟨Kn.refl _ _ _ _, rfl⟩
          · intro act wx h
            obtain ⟨v74, e74, f74⟩ := h.val 2 74 (by kernel_rfl)
            obtain rfl : v74 = .slice (some ⟨kb, koff, none⟩) nk kc := f74
            obtain ⟨v75, e75, f75⟩ := h.val 3 75 (by kernel_rfl)
            obtain rfl : v75 = .int .i64 (j : Int) := f75
            have hrel := h.rel
            clear h
            refine gives_by rfl act.eval rfl ?_
            generalize act.eval = ρ at *
            intro hf hc
            go_simp
            exact ⟨Kn.refl _ _ _ _, rfl⟩
          · intro act wx h
            obtain ⟨v76, e76, f76⟩ := h.val 4 76 (by kernel_rfl)
            obtain rfl : v76 = .pointer (some ⟨kb, koff + j, none⟩) := f76
            have hrel := h.rel
            clear h
            have cx := (HKJ.out wx (HB1.out.trans ((HBR.out.trans (hrel.only.below HSZ.out (fun k hk h => by omega))).mono HB1.out.size))).1
            refine gives_by rfl act.eval rfl ?_
            generalize act.eval = ρ at *
            intro hf hc
            go_simp
            exact ⟨Kn.refl _ _ _ _, rfl⟩
          · intro act wx h
            obtain ⟨v77, e77, f77⟩ := h.val 5 77 (by kernel_rfl)
            obtain rfl : v77 = .slice a1 q1.length d1' := f77
            have hrel := h.rel
            clear h
            refine gives_by rfl act.eval rfl ?_
            generalize act.eval = ρ at *
            intro hf hc
            go_simp
            exact ⟨Kn.refl _ _ _ _, rfl⟩
          · intro act wx h
            obtain ⟨v78, e78, f78⟩ := h.val 6 78 (by kernel_rfl)
            obtain rfl : v78 = .int .i64 (q1.length : Int) := f78
            have hrel := h.rel
            clear h
            refine gives_by rfl act.eval rfl ?_
            generalize act.eval = ρ at *
            intro hf hc
            go_simp
            rw [HWq1.out]
            exact ⟨Kn.refl _ _ _ _, rfl⟩
          · intro act wx h
            obtain ⟨v79, e79, f79⟩ := h.val 7 79 (by kernel_rfl)
            obtain rfl : v79 = .int .u8 (q1.length : Int) := f79
            have hrel := h.rel
            clear h
            refine gives_by rfl act.eval rfl ?_
            generalize act.eval = ρ at *
            intro hf hc
            go_simp
            exact ⟨Kn.of_below ((Below.refl _ wx).alloc (Nat.le_refl _) _), _, _, _, rfl, lit_rowN wx w1.heap.size [(q1.length : Int)] (by have := hrel.only.size; have := HSZ.out; omega) (by simp)⟩
          · intro act wx h
            obtain ⟨v72, e72, f72⟩ := h.val 0 72 (by kernel_rfl)
            obtain rfl : v72 = .slice b' LJ.length c' := f72
            obtain ⟨v80, e80, f80⟩ := h.val 8 80 (by kernel_rfl)
            obtain ⟨a80, n80, c80, rfl, O80⟩ := f80
            have hrel := h.rel
            clear h
            obtain ⟨a2', n2', c2', wy, r9, o9, k9⟩ := append_kn wx w1.heap.size 1 (LJ ++ [(q1.length : Int)] ++ q1) b' LJ.length c' LJ [(q1.length : Int)] (hrel.keep _ _ (.inr ⟨[(q1.length : Int)] ++ q1, by rw [List.append_assoc]⟩) HO7.out) (by omega) (List.prefix_append _ _) a80 n80 c80 (sl_of_own_len O80 (by intro z hz; simp at hz; omega)) (by simp only [List.length_append, List.length_cons, List.length_nil]; omega) (by have := hrel.only.size; have := HSZ.out; omega)
            exact gives_of_run rfl (exec_append (.tmp 72) (.tmp 80) 34 rfl _ _ e72 e80 _ r9) ⟨k9, a2', n2', c2', rfl, o9⟩
          · intro act wx h
            have e1 : act.eval (.tmp 1) = .pointer (some ⟨w.heap.size, 0, none⟩) := h.old 1 (by kernel_rfl)
            have hrel := h.rel
            clear h
            refine gives_by rfl act.eval rfl ?_
            generalize act.eval = ρ at *
            intro hf hc
            go_simp
            exact ⟨Kn.refl _ _ _ _, rfl⟩
          · intro act wx h
            obtain ⟨v82, e82, f82⟩ := h.val 10 82 (by kernel_rfl)
            obtain rfl : v82 = .pointer (some ⟨w.heap.size, 2, none⟩) := f82
            have hrel := h.rel
            clear h
            have hbw : Below w1.heap.size w1 wx := HBR.out.trans (hrel.only.below HSZ.out (fun k hk h => by omega))
            obtain ⟨xx0, xx1, xx2, xx3⟩ := box_ndc (HBB.out.below hbw HBB.out.lt)
            refine gives_by rfl act.eval rfl ?_
            generalize act.eval = ρ at *
            intro hf hc
            go_simp
            exact ⟨Kn.refl _ _ _ _, rfl⟩
          · intro act wx h
            have e7 : act.eval (.tmp 7) = .int .i64 (j : Int) := h.old 7 (by kernel_rfl)
            have hrel := h.rel
            clear h
            refine gives_by rfl act.eval rfl ?_
            generalize act.eval = ρ at *
            intro hf hc
            go_simp
            exact ⟨Kn.refl _ _ _ _, rfl⟩
          · intro act wx h
            obtain ⟨v83, e83, f83⟩ := h.val 11 83 (by kernel_rfl)
            obtain rfl : v83 = .slice (some ⟨kb, koff, none⟩) nk kc := f83
            obtain ⟨v84, e84, f84⟩ := h.val 12 84 (by kernel_rfl)
            obtain rfl : v84 = .int .i64 (j : Int) := f84
            have hrel := h.rel
            clear h
            refine gives_by rfl act.eval rfl ?_
            generalize act.eval = ρ at *
            intro hf hc
            go_simp
            exact ⟨Kn.refl _ _ _ _, rfl⟩
          · intro act wx h
            obtain ⟨v85, e85, f85⟩ := h.val 13 85 (by kernel_rfl)
            obtain rfl : v85 = .pointer (some ⟨kb, koff + j, none⟩) := f85
            have hrel := h.rel
            clear h
            have cx := (HKJ.out wx (HB1.out.trans ((HBR.out.trans (hrel.only.below HSZ.out (fun k hk h => by omega))).mono HB1.out.size))).1
            refine gives_by rfl act.eval rfl ?_
            generalize act.eval = ρ at *
            intro hf hc
            go_simp
            exact ⟨Kn.refl _ _ _ _, rfl⟩
          · intro act wx h
            obtain ⟨v81, e81, f81⟩ := h.val 9 81 (by kernel_rfl)
            obtain ⟨a81, n81, c81, rfl, O81⟩ := f81
            obtain ⟨v86, e86, f86⟩ := h.val 14 86 (by kernel_rfl)
            obtain rfl : v86 = .slice a1 q1.length d1' := f86
            have hrel := h.rel
            clear h
            obtain ⟨a2', n2', c2', wy, r9, o9, k9⟩ := append_kn wx w1.heap.size 1 (LJ ++ [(q1.length : Int)] ++ q1) a81 n81 c81 (LJ ++ [(q1.length : Int)]) q1 O81 (by rw [List.length_append]; simp only [List.length_cons, List.length_nil]; omega) (List.prefix_refl _) a1 q1.length d1' (HKJ.out wx (HB1.out.trans ((HBR.out.trans (hrel.only.below HSZ.out (fun k hk h => by omega))).mono HB1.out.size))).2 (by simp only [List.length_append, List.length_cons, List.length_nil]; omega) (by have := hrel.only.size; have := HSZ.out; omega)
            exact gives_of_run rfl (exec_append (.tmp 81) (.tmp 86) 34 rfl _ _ e81 e86 _ r9) ⟨k9, a2', n2', c2', rfl, o9⟩
        · intro oL hoL vals w3 hkn3 hv
          simp only [List.getElem?_toArray, List.getElem?_cons_succ, List.getElem?_cons_zero, Option.some.injEq] at hoL
          subst hoL
          generalize hact : putAll _ vals 0 _ = act
          obtain ⟨b2', n2, e2', hv8, O2⟩ : isRn w1.heap.size (LJ ++ [(q1.length : Int)] ++ q1) (vals 15) w3 := hv 15 87 (by decide) (by kernel_rfl)
          clear hv
          obtain ⟨MJ, hMJ⟩ : ∃ MJ, MJ = LJ ++ [(q1.length : Int)] ++ q1 := ⟨_, rfl⟩
          rw [← hMJ] at O2
          have hlm : 2 ≤ MJ.length ∧ MJ.length ≤ 20100 := by rw [hMJ]; simp only [List.length_append, List.length_cons, List.length_nil]; omega
          obtain ⟨hlm1, hlm2⟩ := hlm
          have HMJ := hide hMJ
          obtain rfl : n2 = MJ.length := by obtain ⟨_, _, hh⟩ := own_sliceN O2; simp only [Value.slice.injEq] at hh; exact hh.2.1
          have HB8 : Hid (Below w1.heap.size w1 w3) := HBR.out.trans (hkn3.only.below HSZ.out (fun k hk h => by omega))
          have HO8 := hide O2
          have HX8 := hide (HBB.out.below HB8.out hsz1)
          clear HSZ hMJ x0 x1 x2 x3
          obtain ⟨x0, x1, x2, x3⟩ := box_ndc HX8.out
          have HSZ : Hid (w1.heap.size ≤ w3.heap.size) := HB8.out.size
          clear O2 hkn3
          subst hact
          simp only [List.dropLast, putAll, Act.put, List.setIfInBounds_toArray, List.set_cons_zero, List.set_cons_succ, hv8, Nat.zero_add, Nat.reduceAdd]
          clear hv8
          refine gives_by rfl _ rfl ?_
          intro hf hc
          go_simp
          simp only [gUpon]
          go_wp2
          refine wp_region_kn w1.heap.size 2 (MJ ++ [(p0 : Int), (p1 : Int)]) [isV (.slice b2' MJ.length e2'), isV (.pointer (some ⟨w.heap.size, 3, none⟩)), isV (.slice (some ⟨cb, coff, none⟩) nc cc), isV (.int .i64 (j : Int)), isV (.int .i64 ((j : Int) + 1)), isV (.pointer (some ⟨cb, coff + (j + 1), none⟩)), isV (.int .i64 (X : Int)), isV (.int .i64 (p0 : Int)), isV (.int .u8 (p0 : Int)), isV (.pointer (some ⟨w.heap.size, 3, none⟩)), isV (.slice (some ⟨cb, coff, none⟩) nc cc), isV (.int .i64 (j : Int)), isV (.int .i64 ((j : Int) + 1)), isV (.pointer (some ⟨cb, coff + (j + 1), none⟩)), isV (.int .i64 (X : Int)), isV (.int .i64 (p1 : Int)), isV (.int .u8 (p1 : Int)), isRn w1.heap.size [(p0 : Int), (p1 : Int)], isRn w1.heap.size (MJ ++ [(p0 : Int), (p1 : Int)])] 108 19 (by kernel_rfl) (by kernel_rfl) (by kernel_rfl) (by kernel_rfl) rfl ?_ ?_ ?_
          · exact allKn_isV (allKn_isV (allKn_isV (allKn_isV (allKn_isV (allKn_isV (allKn_isV (allKn_isV (allKn_isV (allKn_isV (allKn_isV (allKn_isV (allKn_isV (allKn_isV (allKn_isV (allKn_isV (allKn_isV (allKn_isRn (.inl (by simp)) (allKn_isRn (.inr (List.prefix_refl _)) (trivial)))))))))))))))))))
          · refine ⟨?_, ?_, ?_, ?_, ?_, ?_, ?_, ?_, ?_, ?_, ?_, ?_, ?_, ?_, ?_, ?_, ?_, ?_, ?_, trivial⟩
            · intro act wx h
              have e6 : act.eval (.tmp 6) = .slice b2' MJ.length e2' := h.old 6 (by kernel_rfl)
              have hrel := h.rel
              clear h
              refine gives_by rfl act.eval rfl ?_
              generalize act.eval = ρ at *
              intro hf hc
              go_simp
              exact ⟨Kn.refl _ _ _ _, rfl⟩
            · intro act wx h
              have e1 : act.eval (.tmp 1) = .pointer (some ⟨w.heap.size, 0, none⟩) := h.old 1 (by kernel_rfl)
              have hrel := h.rel
              clear h
              refine gives_by rfl act.eval rfl ?_
              generalize act.eval = ρ at *
              intro hf hc
              go_simp
              exact ⟨Kn.refl _ _ _ _, rfl⟩
            · intro act wx h
              obtain ⟨v89, e89, f89⟩ := h.val 1 89 (by kernel_rfl)
              obtain rfl : v89 = .pointer (some ⟨w.heap.size, 3, none⟩) := f89
              have hrel := h.rel
              clear h
              have hbw : Below w1.heap.size w1 wx := HB8.out.trans (hrel.only.below HSZ.out (fun k hk h => by omega))
              obtain ⟨xx0, xx1, xx2, xx3⟩ := box_ndc (HBB.out.below hbw HBB.out.lt)
              refine gives_by rfl act.eval rfl ?_
              generalize act.eval = ρ at *
              intro hf hc
              go_simp
              exact ⟨Kn.refl _ _ _ _, rfl⟩
            · intro act wx h
              have e7 : act.eval (.tmp 7) = .int .i64 (j : Int) := h.old 7 (by kernel_rfl)
              have hrel := h.rel
              clear h
              refine gives_by rfl act.eval rfl ?_
              generalize act.eval = ρ at *
              intro hf hc
              go_simp
              exact ⟨Kn.refl _ _ _ _, rfl⟩
            · intro act wx h
              obtain ⟨v91, e91, f91⟩ := h.val 3 91 (by kernel_rfl)
              obtain rfl : v91 = .int .i64 (j : Int) := f91
              have hrel := h.rel
              clear h
              refine gives_by rfl act.eval rfl ?_
              generalize act.eval = ρ at *
              intro hf hc
              go_simp
              rw [show IntKind.i64.wrap ((j : Int) + 1) = (j : Int) + 1 from IntWalk.i64_in _ (by omega)]
              exact ⟨Kn.refl _ _ _ _, rfl⟩
            · intro act wx h
              obtain ⟨v90, e90, f90⟩ := h.val 2 90 (by kernel_rfl)
              obtain rfl : v90 = .slice (some ⟨cb, coff, none⟩) nc cc := f90
              obtain ⟨v92, e92, f92⟩ := h.val 4 92 (by kernel_rfl)
              obtain rfl : v92 = .int .i64 ((j : Int) + 1) := f92
              have hrel := h.rel
              clear h
              have ha : ((j : Int) + 1).toNat = j + 1 := by omega
              have hn0 : ¬ (j : Int) + 1 < 0 := by omega
              refine gives_by rfl act.eval rfl ?_
              generalize act.eval = ρ at *
              intro hf hc
              go_simp
              exact ⟨Kn.refl _ _ _ _, rfl⟩
            · intro act wx h
              obtain ⟨v93, e93, f93⟩ := h.val 5 93 (by kernel_rfl)
              obtain rfl : v93 = .pointer (some ⟨cb, coff + (j + 1), none⟩) := f93
              have hrel := h.rel
              clear h
              have cx := HCJ.out wx (HB1.out.trans ((HB8.out.trans (hrel.only.below HSZ.out (fun k hk h => by omega))).mono HB1.out.size))
              refine gives_by rfl act.eval rfl ?_
              generalize act.eval = ρ at *
              intro hf hc
              go_simp
              exact ⟨Kn.refl _ _ _ _, rfl⟩
            · intro act wx h
              obtain ⟨v94, e94, f94⟩ := h.val 6 94 (by kernel_rfl)
              obtain rfl : v94 = .int .i64 (X : Int) := f94
              have hrel := h.rel
              clear h
              refine gives_by rfl act.eval rfl ?_
              generalize act.eval = ρ at *
              intro hf hc
              go_simp
              rw [show IntKind.i64.wrap (p0 : Int) = (p0 : Int) from IntWalk.i64_in _ (by omega)]
              exact ⟨Kn.refl _ _ _ _, rfl⟩
            · intro act wx h
              obtain ⟨v95, e95, f95⟩ := h.val 7 95 (by kernel_rfl)
              obtain rfl : v95 = .int .i64 (p0 : Int) := f95
              have hrel := h.rel
              clear h
              refine gives_by rfl act.eval rfl ?_
              generalize act.eval = ρ at *
              intro hf hc
              go_simp
              rw [HP0.out]
              exact ⟨Kn.refl _ _ _ _, rfl⟩
            · intro act wx h
              have e1 : act.eval (.tmp 1) = .pointer (some ⟨w.heap.size, 0, none⟩) := h.old 1 (by kernel_rfl)
              have hrel := h.rel
              clear h
              refine gives_by rfl act.eval rfl ?_
              generalize act.eval = ρ at *
              intro hf hc
              go_simp
              exact ⟨Kn.refl _ _ _ _, rfl⟩
            · intro act wx h
              obtain ⟨v97, e97, f97⟩ := h.val 9 97 (by kernel_rfl)
              obtain rfl : v97 = .pointer (some ⟨w.heap.size, 3, none⟩) := f97
              have hrel := h.rel
              clear h
              have hbw : Below w1.heap.size w1 wx := HB8.out.trans (hrel.only.below HSZ.out (fun k hk h => by omega))
              obtain ⟨xx0, xx1, xx2, xx3⟩ := box_ndc (HBB.out.below hbw HBB.out.lt)
              refine gives_by rfl act.eval rfl ?_
              generalize act.eval = ρ at *
              intro hf hc
              go_simp
              exact ⟨Kn.refl _ _ _ _, rfl⟩
            · intro act wx h
              have e7 : act.eval (.tmp 7) = .int .i64 (j : Int) := h.old 7 (by kernel_rfl)
              have hrel := h.rel
              clear h
              refine gives_by rfl act.eval rfl ?_
              generalize act.eval = ρ at *
              intro hf hc
              go_simp
              exact ⟨Kn.refl _ _ _ _, rfl⟩
            · intro act wx h
              obtain ⟨v99, e99, f99⟩ := h.val 11 99 (by kernel_rfl)
              obtain rfl : v99 = .int .i64 (j : Int) := f99
              have hrel := h.rel
              clear h
              refine gives_by rfl act.eval rfl ?_
              generalize act.eval = ρ at *
              intro hf hc
              go_simp
              rw [show IntKind.i64.wrap ((j : Int) + 1) = (j : Int) + 1 from IntWalk.i64_in _ (by omega)]
              exact ⟨Kn.refl _ _ _ _, rfl⟩
            · intro act wx h
              obtain ⟨v98, e98, f98⟩ := h.val 10 98 (by kernel_rfl)
              obtain rfl : v98 = .slice (some ⟨cb, coff, none⟩) nc cc := f98
              obtain ⟨v100, e100, f100⟩ := h.val 12 100 (by kernel_rfl)
              obtain rfl : v100 = .int .i64 ((j : Int) + 1) := f100
              have hrel := h.rel
              clear h
              have ha : ((j : Int) + 1).toNat = j + 1 := by omega
              have hn0 : ¬ (j : Int) + 1 < 0 := by omega
              refine gives_by rfl act.eval rfl ?_
              generalize act.eval = ρ at *
              intro hf hc
              go_simp
              exact ⟨Kn.refl _ _ _ _, rfl⟩
            · intro act wx h
              obtain ⟨v101, e101, f101⟩ := h.val 13 101 (by kernel_rfl)
              obtain rfl : v101 = .pointer (some ⟨cb, coff + (j + 1), none⟩) := f101
              have hrel := h.rel
              clear h
              have cx := HCJ.out wx (HB1.out.trans ((HB8.out.trans (hrel.only.below HSZ.out (fun k hk h => by omega))).mono HB1.out.size))
              refine gives_by rfl act.eval rfl ?_
              generalize act.eval = ρ at *
              intro hf hc
              go_simp
              exact ⟨Kn.refl _ _ _ _, rfl⟩
            · intro act wx h
              obtain ⟨v102, e102, f102⟩ := h.val 14 102 (by kernel_rfl)
              obtain rfl : v102 = .int .i64 (X : Int) := f102
              have hrel := h.rel
              clear h
              refine gives_by rfl act.eval rfl ?_
              generalize act.eval = ρ at *
              intro hf hc
              go_simp
              rw [show (X : Int).tmod 256 = (p1 : Int) by rw [Int.tmod_eq_emod_of_nonneg (by omega)]; exact d1]
              exact ⟨Kn.refl _ _ _ _, rfl⟩
            · intro act wx h
              obtain ⟨v103, e103, f103⟩ := h.val 15 103 (by kernel_rfl)
              obtain rfl : v103 = .int .i64 (p1 : Int) := f103
              have hrel := h.rel
              clear h
              refine gives_by rfl act.eval rfl ?_
              generalize act.eval = ρ at *
              intro hf hc
              go_simp
              rw [HP1.out]
              exact ⟨Kn.refl _ _ _ _, rfl⟩
            · intro act wx h
              obtain ⟨v96, e96, f96⟩ := h.val 8 96 (by kernel_rfl)
              obtain rfl : v96 = .int .u8 (p0 : Int) := f96
              obtain ⟨v104, e104, f104⟩ := h.val 16 104 (by kernel_rfl)
              obtain rfl : v104 = .int .u8 (p1 : Int) := f104
              have hrel := h.rel
              clear h
              refine gives_by rfl act.eval rfl ?_
              generalize act.eval = ρ at *
              intro hf hc
              go_simp
              exact ⟨Kn.of_below ((Below.refl _ wx).alloc (Nat.le_refl _) _), _, _, _, rfl, lit_rowN wx w1.heap.size [(p0 : Int), (p1 : Int)] (by have := hrel.only.size; have := HSZ.out; omega) (by simp)⟩
            · intro act wx h
              obtain ⟨v88, e88, f88⟩ := h.val 0 88 (by kernel_rfl)
              obtain rfl : v88 = .slice b2' MJ.length e2' := f88
              obtain ⟨v105, e105, f105⟩ := h.val 17 105 (by kernel_rfl)
              obtain ⟨a105, n105, c105, rfl, O105⟩ := f105
              have hrel := h.rel
              clear h
              obtain ⟨a2', n2', c2', wy, r9, o9, k9⟩ := append_kn wx w1.heap.size 2 (MJ ++ [(p0 : Int), (p1 : Int)]) b2' MJ.length e2' MJ [(p0 : Int), (p1 : Int)] (hrel.keep _ _ (.inr (List.prefix_append _ _)) HO8.out) (by omega) (List.prefix_refl _) a105 n105 c105 (sl_of_own_len O105 (by intro z hz; simp at hz; omega)) (by simp only [List.length_append, List.length_cons, List.length_nil]; omega) (by have := hrel.only.size; have := HSZ.out; omega)
              exact gives_of_run rfl (exec_append (.tmp 88) (.tmp 105) 34 rfl _ _ e88 e105 _ r9) ⟨k9, a2', n2', c2', rfl, o9⟩
          · intro oL hoL vals8 w4 hkn4 hv
            simp only [List.getElem?_toArray, List.getElem?_cons_succ, List.getElem?_cons_zero, Option.some.injEq] at hoL
            subst hoL
            generalize hact : putAll _ vals8 0 _ = act
            obtain ⟨b3, n3, e3, hv9, O3⟩ : isRn w1.heap.size (MJ ++ [(p0 : Int), (p1 : Int)]) (vals8 18) w4 := hv 18 106 (by decide) (by kernel_rfl)
            clear hv
            obtain ⟨NJ, hNJ⟩ : ∃ NJ, NJ = MJ ++ [(p0 : Int), (p1 : Int)] := ⟨_, rfl⟩
            rw [← hNJ] at O3
            have HNJ : Hid (innT ks cs (j + 1) = NJ) := by show _ = _; rw [HLS.out, hNJ, HMJ.out]; simp [txt]
            obtain rfl : n3 = NJ.length := by obtain ⟨_, _, hh⟩ := own_sliceN O3; simp only [Value.slice.injEq] at hh; exact hh.2.1
            have HO9 := hide O3
            have HB9 : Hid (Below w1.heap.size w1 w4) := HB8.out.trans (hkn4.only.below HSZ.out (fun k hk h => by omega))
            clear O3 hkn4 hNJ
            subst hact
            simp only [List.dropLast, putAll, Act.put, List.setIfInBounds_toArray, List.set_cons_zero, List.set_cons_succ, hv9, Nat.zero_add, Nat.reduceAdd]
            clear hv9
            refine gives_by rfl _ rfl ?_
            intro hf hc
            go_simp
            simp only [gUpon]
            go_wp2
            go_roundg (gk - 1)
            case measure => omega
            case rel => exact ⟨j + 1, b3, e3, by omega, by go_num, by rw [HNJ.out], by rw [HNJ.out]; exact HO9.out, HB9.out⟩
      · have hjj : j = nk := by omega
        go_wp2
        go_ret
        refine ⟨_, rfl, ?_, HBW.out⟩
        rw [← hjj, HLJ.out]
        exact own_le' HO7.out (by omega)

end Go.Proofs.Ytoamdbjailpgdaa
/- Contracts: the document's bytes, Size and Check of a node (incipitref10.lay, Size, Check). -/
namespace Go.Proofs.Ytoamdbjailpgdaa
set_option maxRecDepth 20000
open Go.RowKit Go.Shelf
set_option linter.unusedVariables false
set_option linter.unusedSimpArgs false
set_option maxRecDepth 100000
attribute [local go_sem] Oper.semAt_some

theorem refLay_any (w : World) (v : Value) (n : Nd) (h : NdV w v n) (hm : mayN n = true) :
    Calls Try.prog 51 #[v] w fun e w' => ∃ u, e = .returned u ∧ ownsB w' w.heap.size u (bytesN n) ∧ Below w.heap.size w w' := by
  unfold bytesN
  by_cases hl : n.lf = true
  · rw [if_pos hl]
    obtain ⟨a1, _, _, a4, _⟩ := may_bounds hm
    exact refLay_leaf w v n h hl a1 a4
  · have hf : n.lf = false := by simpa using hl
    rw [if_neg hl]
    exact refLay_inner w v n h hf (by rw [← mayN_in hf]; exact hm)

theorem refSize_any (w : World) (v : Value) (n : Nd) (h : NdV w v n) (hq : n.ks.length + n.cs.length ≤ 9223372036854775807) :
    Calls Try.prog 15 #[v] w fun e w' => e = .returned (.int .i64 (sizeN n)) ∧ Below w.heap.size w w' := by
  have HM : Hid (∀ w1, Below w.heap.size w w1 → Calls Try.prog 25 #[v] w1 fun e w' => e = .returned (.bool (mayN n)) ∧ Below w1.heap.size w1 w') := fun w1 hb => refMay_any w1 v n (h.below hb) hq
  have HP : Hid (mayN n = true → ∀ w1, Below w.heap.size w w1 → Calls Try.prog 51 #[v] w1 fun e w' => ∃ a c, e = .returned (.slice a (sizeN n) c) ∧ Below w1.heap.size w1 w') := fun hm w1 hb => by
    refine (refLay_any w1 v n (h.below hb) hm).mono ?_
    rintro e w' ⟨u, rfl, ho, hb'⟩
    obtain ⟨a, c, rfl⟩ := own_sliceN ho
    rw [bytesN_len hm]
    exact ⟨a, c, rfl, hb'⟩
  have HS : Hid (mayN n = false → sizeN n = 0) := fun hh => by unfold sizeN; rw [hh]; rfl
  obtain ⟨lf, pa, np, pc, ka, nk, kc, ca, nc, cc, rfl, -⟩ := nd_open h
  generalize sizeN n = S at *
  generalize mayN n = M at *
  obtain ⟨w1, hw1, HB1, HBB, z0, z1, z2, z3⟩ := nd_box w lf (.slice pa np pc) (.slice ka nk kc) (.slice ca nc cc)
  clear h hq
  cases M with
  | false =>
    have HS0 := hide (HS.out rfl)
    clear HS HP
    go_enter Try.func15, Try.ntmps15
    go_wp2_with (go_at_call 25; refine (HM.out w1 HB1.out).mono ?_; rintro e w2 ⟨rfl, hb2⟩; have HB2 := hide hb2; clear HM hb2)
    go_ret
    exact ⟨ret_int (by rw [HS0.out]; rfl), HB1.out.trans (HB2.out.mono HB1.out.size)⟩
  | true =>
    have HPP := hide (HP.out rfl)
    clear HS HP
    go_enter Try.func15, Try.ntmps15
    go_wp2_with (first
      | (go_at_call 25; refine (HM.out w1 HB1.out).mono ?_; rintro e w2 ⟨rfl, hb2⟩; have HB2 := hide (HB1.out.trans (hb2.mono HB1.out.size)); obtain ⟨y0, y1, y2, y3⟩ := box_ndc (HBB.out.below hb2 HBB.out.lt); clear HM hb2)
      | (go_at_call 51; refine (HPP.out w2 HB2.out).mono ?_; rintro e w3 ⟨a, c, rfl, hb3⟩; have HB3 := hide (HB2.out.trans (hb3.mono HB2.out.size)); clear HPP hb3))
    go_ret
    exact ⟨ret_int rfl, HB3.out⟩

theorem refCheck_any (w : World) (v : Value) (n : Nd) (h : NdV w v n) (hq : n.ks.length + n.cs.length ≤ 9223372036854775807) :
    Calls Try.prog 13 #[v] w fun e w' => e = .returned (.int .i64 (checkN n)) ∧ Below w.heap.size w w' := by
  have HM : Hid (∀ w1, Below w.heap.size w w1 → Calls Try.prog 25 #[v] w1 fun e w' => e = .returned (.bool (mayN n)) ∧ Below w1.heap.size w1 w') := fun w1 hb => refMay_any w1 v n (h.below hb) hq
  have HS : Hid (∀ w1, Below w.heap.size w w1 → Calls Try.prog 15 #[v] w1 fun e w' => e = .returned (.int .i64 (sizeN n)) ∧ Below w1.heap.size w1 w') := fun w1 hb => refSize_any w1 v n (h.below hb) hq
  have HC : Hid (checkN n = if mayN n then (if sizeN n ≤ 240 then 0 else 3) else 100) := rfl
  obtain ⟨lf, pa, np, pc, ka, nk, kc, ca, nc, cc, rfl, -⟩ := nd_open h
  generalize checkN n = C at *
  generalize mayN n = M at *
  generalize sizeN n = S at *
  obtain ⟨w1, hw1, HB1, HBB, z0, z1, z2, z3⟩ := nd_box w lf (.slice pa np pc) (.slice ka nk kc) (.slice ca nc cc)
  clear h hq
  cases M with
  | false =>
    go_enter Try.func13, Try.ntmps13
    go_wp2_with (go_at_call 25; refine (HM.out w1 HB1.out).mono ?_; rintro e w2 ⟨rfl, hb2⟩; have HB2 := hide hb2; clear HM hb2)
    go_ret
    exact ⟨ret_int (by rw [HC.out]; rfl), HB1.out.trans (HB2.out.mono HB1.out.size)⟩
  | true =>
    by_cases hs : S ≤ 240
    · have hsi : ¬ (240 : Int) < (S : Int) := by omega
      go_enter Try.func13, Try.ntmps13
      go_wp2_with (first
        | (go_at_call 25; refine (HM.out w1 HB1.out).mono ?_; rintro e w2 ⟨rfl, hb2⟩; have HB2 := hide (HB1.out.trans (hb2.mono HB1.out.size)); obtain ⟨y0, y1, y2, y3⟩ := box_ndc (HBB.out.below hb2 HBB.out.lt); clear HM hb2)
        | (go_at_call 15; refine (HS.out w2 HB2.out).mono ?_; rintro e w3 ⟨rfl, hb3⟩; have HB3 := hide (HB2.out.trans (hb3.mono HB2.out.size)); clear HS hb3))
      go_ret
      exact ⟨ret_int (by rw [HC.out]; simp [hs]), HB3.out⟩
    · have hsi : (240 : Int) < (S : Int) := by omega
      go_enter Try.func13, Try.ntmps13
      go_wp2_with (first
        | (go_at_call 25; refine (HM.out w1 HB1.out).mono ?_; rintro e w2 ⟨rfl, hb2⟩; have HB2 := hide (HB1.out.trans (hb2.mono HB1.out.size)); obtain ⟨y0, y1, y2, y3⟩ := box_ndc (HBB.out.below hb2 HBB.out.lt); clear HM hb2)
        | (go_at_call 15; refine (HS.out w2 HB2.out).mono ?_; rintro e w3 ⟨rfl, hb3⟩; have HB3 := hide (HB2.out.trans (hb3.mono HB2.out.size)); clear HS hb3))
      go_ret
      exact ⟨ret_int (by rw [HC.out]; simp [hs]), HB3.out⟩

end Go.Proofs.Ytoamdbjailpgdaa
