/- Contract: the document's bytes of a node (incipitref10.lay), a leaf's. -/
import Derived.Test.YtoamdbjailpgdaaNRefM
import Derived.Test.YtoamdbjailpgdaaNKeep
namespace Go.Proofs.Ytoamdbjailpgdaa
set_option maxRecDepth 20000
open Go.RowKit Go.Shelf
set_option linter.unusedVariables false
set_option linter.unusedSimpArgs false
set_option maxRecDepth 100000
attribute [local go_sem] Oper.semAt_some

set_option maxHeartbeats 8000000 in
theorem refLay_leaf (w : World) (v : Value) (n : Nd) (h : NdV w v n) (hlf : n.lf = true) (hn : n.ps.length ≤ 255) (hl : ∀ p ∈ n.ps, p.1.length ≤ 25 ∧ p.2.length ≤ 24) :
    Calls Try.prog 51 #[v] w fun e w' => ∃ u, e = .returned u ∧ ownsB w' w.heap.size u (lefT n.ps n.ps.length) ∧ Below w.heap.size w w' := by
  obtain ⟨pa, pc, ka, kc, ca, cc, xs, ys, rfl, hp1, hk1, hc1, hp2, hk2, hc2, hP, hK, hC⟩ := h.open
  obtain ⟨lf, ps, ks, cs⟩ := n
  simp only at hlf hp1 hk1 hc1 hp2 hk2 hc2 hP hK hC hn hl ⊢
  subst hlf
  have HP := hide hP
  have HL := hide hl
  have hlen : ∀ k, k ≤ ps.length → (lefT ps k).length ≤ 20000 := fun k hk => by
    rw [lefT_len ps k hk]
    have := sum_take_le (ps.map partP) 51 (fun x hx => by obtain ⟨p, hp, rfl⟩ := List.mem_map.1 hx; have := hl p hp; unfold partP; omega) k
    omega
  have HLN := hide hlen
  clear h hP hK hC hl hlen
  unfold ndv
  obtain ⟨np, hnp⟩ : ∃ m, ps.length = m := ⟨_, rfl⟩
  have HNP := hide hnp
  rw [hnp] at hp1 HP hn HLN ⊢
  generalize ks.length = nk at *
  generalize cs.length = nc at *
  have HL0 : Hid (lefT ps 0 = [(np : Int)]) := by show lefT ps 0 = _; rw [lefT, hnp]
  have hW8 : IntKind.u8.wrap (np : Int) = (np : Int) := by show (np : Int) % 256 = (np : Int); omega
  obtain ⟨w1, hw1, HB1, HBB, z0, z1, z2, z3⟩ := nd_box w true (.slice pa np pc) (.slice ka nk kc) (.slice ca nc cc)
  have hsz1 : w.heap.size < w1.heap.size := HBB.out.lt
  have HO0 := hide (lit_rowN w1 w1.heap.size [(np : Int)] (Nat.le_refl _) (by simp))
  have HBL : Hid (Below w1.heap.size w1 (w1.alloc (.cells #[.int .u8 (np : Int)] 5))) := (Below.refl _ w1).alloc (Nat.le_refl _) _
  clear hnp
  go_enter Try.func51, Try.ntmps51
  go_wp2
  go_loopg [3, 4] np (fun g b i wr => ∃ (k : Nat) (a' : Option Addr) (c' : Nat), g + k = np ∧ i = .int .i64 k ∧ b = .slice a' (lefT ps k).length c' ∧ ownsB wr w1.heap.size (.slice a' (lefT ps k).length c') (lefT ps k) ∧ Below w1.heap.size w1 wr)
  case atStart => exact ⟨0, _, _, by omega, rfl, by rw [HL0.out]; rfl, by rw [HL0.out]; exact HO0.out, HBL.out⟩
  case round =>
    obtain ⟨k, b', c', hgk, rfl, rfl, hown, hbr⟩ := hrel
    obtain ⟨W, rfl⟩ : ∃ x, x = wr := ⟨_, rfl⟩
    have hkn : k ≤ np := by omega
    have hlr := HLN.out k hkn
    have HBR := hide hbr
    have HOR := hide hown
    have HBX := hide (HBB.out.below hbr hsz1)
    have HBW := hide (HB1.out.trans (hbr.mono HB1.out.size))
    obtain ⟨x0, x1, x2, x3⟩ := box_ndc HBX.out
    generalize hLJ : lefT ps k = LJ at *
    have HLJ := hide hLJ
    clear z0 z1 z2 z3 hown hbr hLJ HO0 HBL
    by_cases hk : k < np
    · have hki : (k : Int) < (np : Int) := by omega
      have hkl : k < ps.length := by rw [HNP.out]; exact hk
      obtain ⟨ba0, oa0, he0, r0, g1, g2⟩ := HP.out.at k hkl
      clear he0 r0
      obtain ⟨ba, oa, rfl, r1, g1', g2'⟩ := (HP.out.below HBW.out).at k hkl
      clear g1' g2'
      have hq := HL.out (ps.getD k ([], [])) (by simp only [List.getD, List.getElem?_eq_getElem hkl]; exact List.getElem_mem hkl)
      have HLS : Hid (lefT ps (k + 1) = LJ ++ txt (ps.getD k ([], [])).1 ++ txt (ps.getD k ([], [])).2) := by show lefT ps (k + 1) = _; rw [lefT, HLJ.out]
      generalize xs.getD k nil2 = x at *
      generalize ps.getD k ([], []) = p at *
      obtain ⟨u1, u2⟩ := x
      obtain ⟨q1, q2⟩ := p
      simp only at r1 g1 g2 hq HLS
      have c1 : W.cell? ⟨ba, oa + k * 2, none⟩ = some u1 := r1 0 _ rfl
      have c2 : W.cell? ⟨ba, oa + k * 2 + 1, none⟩ = some u2 := r1 1 _ rfl
      have G1 := hide g1
      have G2 := hide g2
      obtain ⟨a1, d1, rfl⟩ := sl_form' g1
      obtain ⟨a2, d2, rfl⟩ := sl_form' g2
      have HWq1 : Hid (IntKind.u8.wrap (q1.length : Int) = (q1.length : Int)) := by show (q1.length : Int) % 256 = _; omega
      have HWq2 : Hid (IntKind.u8.wrap (q2.length : Int) = (q2.length : Int)) := by show (q2.length : Int) % 256 = _; omega
      obtain ⟨hq1, hq2⟩ := hq
      have hL1 : 1 ≤ LJ.length := by rw [← HLJ.out, lefT_len ps k (by omega)]; omega
      obtain ⟨W1, hW1, HBP, HPB, hsP, y0, y1⟩ := pr_box W (.slice a1 q1.length d1) (.slice a2 q2.length d2)
      have HPB7 := HPB
      have HO7 : Hid (ownsB W1 w1.heap.size (.slice b' LJ.length c') LJ) := HOR.out.only (Only.of_below (fun _ => False) HBP.out) (fun _ _ h => h)
      have HSZ : Hid (w1.heap.size ≤ W1.heap.size) := by show _ ≤ _; have := HBR.out.size; omega
      have HB7 : Hid (Below w1.heap.size w1 W1) := HBR.out.trans (HBP.out.mono HBR.out.size)
      have HS1 : Hid (∀ wx, Below w1.heap.size W1 wx → Sl wx (.slice a1 q1.length d1) q1) := fun wx hb => G1.out.below (HB1.out.trans ((HB7.out.trans hb).mono HB1.out.size))
      have HS2 : Hid (∀ wx, Below w1.heap.size W1 wx → Sl wx (.slice a2 q2.length d2) q2) := fun wx hb => G2.out.below (HB1.out.trans ((HB7.out.trans hb).mono HB1.out.size))
      clear g1 g2 r1
      go_wp2
      refine wp_region_kn w1.heap.size 1 (LJ ++ [(q1.length : Int)] ++ q1) [isV (.slice b' LJ.length c'), isV (.pointer (some ⟨W.heap.size, 0, none⟩)), isV (.slice a1 q1.length d1), isV (.int .i64 (q1.length : Int)), isV (.int .u8 (q1.length : Int)), isRn w1.heap.size [(q1.length : Int)], isRn w1.heap.size (LJ ++ [(q1.length : Int)]), isV (.pointer (some ⟨W.heap.size, 0, none⟩)), isV (.slice a1 q1.length d1), isRn w1.heap.size (LJ ++ [(q1.length : Int)] ++ q1)] 108 10 (by kernel_rfl) (by kernel_rfl) (by kernel_rfl) (by kernel_rfl) rfl ?_ ?_ ?_
      · exact allKn_isV (allKn_isV (allKn_isV (allKn_isV (allKn_isV (allKn_isRn (.inl (by simp)) (allKn_isRn (.inr (List.prefix_append _ _)) (allKn_isV (allKn_isV (allKn_isRn (.inr (List.prefix_refl _)) (trivial))))))))))
      · refine ⟨?_, ?_, ?_, ?_, ?_, ?_, ?_, ?_, ?_, ?_, trivial⟩
        · intro act wx h
          have e3 : act.eval (.tmp 3) = .slice b' LJ.length c' := h.old 3 (by kernel_rfl)
          have hrel := h.rel
          clear h
          refine gives_by rfl act.eval rfl ?_
          generalize act.eval = ρ at *
          intro hf hc
          go_simp
          exact ⟨Kn.refl _ _ _ _, rfl⟩
        · intro act wx h
          have e5 : act.eval (.tmp 5) = .pointer (some ⟨W.heap.size, 0, none⟩) := h.old 5 (by kernel_rfl)
          have hrel := h.rel
          clear h
          refine gives_by rfl act.eval rfl ?_
          generalize act.eval = ρ at *
          intro hf hc
          go_simp
          exact ⟨Kn.refl _ _ _ _, rfl⟩
        · intro act wx h
          obtain ⟨v28, e28, f28⟩ := h.val 1 28 (by kernel_rfl)
          obtain rfl : v28 = .pointer (some ⟨W.heap.size, 0, none⟩) := f28
          have hrel := h.rel
          clear h
          have hpb := hrel.kept _ _ _ (by decide) HPB7.out
          have y0 : wx.cell? ⟨W.heap.size, 0, none⟩ = some (.slice a1 q1.length d1) := hpb.cell 0
          have y1 : wx.cell? ⟨W.heap.size, 1, none⟩ = some (.slice a2 q2.length d2) := hpb.cell 1
          refine gives_by rfl act.eval rfl ?_
          generalize act.eval = ρ at *
          intro hf hc
          go_simp
          exact ⟨Kn.refl _ _ _ _, rfl⟩
        · intro act wx h
          obtain ⟨v29, e29, f29⟩ := h.val 2 29 (by kernel_rfl)
          obtain rfl : v29 = .slice a1 q1.length d1 := f29
          have hrel := h.rel
          clear h
          refine gives_by rfl act.eval rfl ?_
          generalize act.eval = ρ at *
          intro hf hc
          go_simp
          exact ⟨Kn.refl _ _ _ _, rfl⟩
        · intro act wx h
          obtain ⟨v30, e30, f30⟩ := h.val 3 30 (by kernel_rfl)
          obtain rfl : v30 = .int .i64 (q1.length : Int) := f30
          have hrel := h.rel
          clear h
          refine gives_by rfl act.eval rfl ?_
          generalize act.eval = ρ at *
          intro hf hc
          go_simp
          rw [HWq1.out]
          exact ⟨Kn.refl _ _ _ _, rfl⟩
        · intro act wx h
          obtain ⟨v31, e31, f31⟩ := h.val 4 31 (by kernel_rfl)
          obtain rfl : v31 = .int .u8 (q1.length : Int) := f31
          have hrel := h.rel
          clear h
          refine gives_by rfl act.eval rfl ?_
          generalize act.eval = ρ at *
          intro hf hc
          go_simp
          exact ⟨Kn.of_below ((Below.refl _ wx).alloc (Nat.le_refl _) _), _, _, _, rfl, lit_rowN wx w1.heap.size [(q1.length : Int)] (by have := hrel.only.size; have := HSZ.out; omega) (by simp)⟩
        · intro act wx h
          obtain ⟨v27, e27, f27⟩ := h.val 0 27 (by kernel_rfl)
          obtain rfl : v27 = .slice b' LJ.length c' := f27
          obtain ⟨v32, e32, f32⟩ := h.val 5 32 (by kernel_rfl)
          obtain ⟨a32, n32, c32, rfl, O32⟩ := f32
          have hrel := h.rel
          clear h
          obtain ⟨a2', n2', c2', wy, r9, o9, k9⟩ := append_kn wx w1.heap.size 1 (LJ ++ [(q1.length : Int)] ++ q1) b' LJ.length c' LJ [(q1.length : Int)] (hrel.keep _ _ (.inr ⟨[(q1.length : Int)] ++ q1, by rw [List.append_assoc]⟩) HO7.out) (by omega) (List.prefix_append _ _) a32 n32 c32 (sl_of_own_len O32 (by intro z hz; simp at hz; omega)) (by simp only [List.length_append, List.length_cons, List.length_nil]; omega) (by have := hrel.only.size; have := HSZ.out; omega)
          exact gives_of_run rfl (exec_append (.tmp 27) (.tmp 32) 34 rfl _ _ e27 e32 _ r9) ⟨k9, a2', n2', c2', rfl, o9⟩
        · intro act wx h
          have e5 : act.eval (.tmp 5) = .pointer (some ⟨W.heap.size, 0, none⟩) := h.old 5 (by kernel_rfl)
          have hrel := h.rel
          clear h
          refine gives_by rfl act.eval rfl ?_
          generalize act.eval = ρ at *
          intro hf hc
          go_simp
          exact ⟨Kn.refl _ _ _ _, rfl⟩
        · intro act wx h
          obtain ⟨v34, e34, f34⟩ := h.val 7 34 (by kernel_rfl)
          obtain rfl : v34 = .pointer (some ⟨W.heap.size, 0, none⟩) := f34
          have hrel := h.rel
          clear h
          have hpb := hrel.kept _ _ _ (by decide) HPB7.out
          have y0 : wx.cell? ⟨W.heap.size, 0, none⟩ = some (.slice a1 q1.length d1) := hpb.cell 0
          have y1 : wx.cell? ⟨W.heap.size, 1, none⟩ = some (.slice a2 q2.length d2) := hpb.cell 1
          refine gives_by rfl act.eval rfl ?_
          generalize act.eval = ρ at *
          intro hf hc
          go_simp
          exact ⟨Kn.refl _ _ _ _, rfl⟩
        · intro act wx h
          obtain ⟨v33, e33, f33⟩ := h.val 6 33 (by kernel_rfl)
          obtain ⟨a33, n33, c33, rfl, O33⟩ := f33
          obtain ⟨v35, e35, f35⟩ := h.val 8 35 (by kernel_rfl)
          obtain rfl : v35 = .slice a1 q1.length d1 := f35
          have hrel := h.rel
          clear h
          obtain ⟨a2', n2', c2', wy, r9, o9, k9⟩ := append_kn wx w1.heap.size 1 (LJ ++ [(q1.length : Int)] ++ q1) a33 n33 c33 (LJ ++ [(q1.length : Int)]) q1 O33 (by rw [List.length_append]; simp only [List.length_cons, List.length_nil]; omega) (List.prefix_refl _) a1 q1.length d1 (HS1.out wx (hrel.only.below (by have := HSZ.out; omega) (fun k hk h => by omega))) (by simp only [List.length_append, List.length_cons, List.length_nil]; omega) (by have := hrel.only.size; have := HSZ.out; omega)
          exact gives_of_run rfl (exec_append (.tmp 33) (.tmp 35) 34 rfl _ _ e33 e35 _ r9) ⟨k9, a2', n2', c2', rfl, o9⟩
      · intro oL hoL vals w2 hkn2 hv
        simp only [List.getElem?_toArray, List.getElem?_cons_succ, List.getElem?_cons_zero, Option.some.injEq] at hoL
        subst hoL
        generalize hact : putAll _ vals 0 _ = act
        obtain ⟨b2', n2, e2', hv8, O2⟩ : isRn w1.heap.size (LJ ++ [(q1.length : Int)] ++ q1) (vals 9) w2 := hv 9 36 (by decide) (by kernel_rfl)
        clear hv
        obtain ⟨MJ, hMJ⟩ : ∃ MJ, MJ = LJ ++ [(q1.length : Int)] ++ q1 := ⟨_, rfl⟩
        rw [← hMJ] at O2
        have hlm : 1 ≤ MJ.length ∧ MJ.length ≤ 20100 := by rw [hMJ]; simp only [List.length_append, List.length_cons, List.length_nil]; omega
        obtain ⟨hlm1, hlm2⟩ := hlm
        have HMJ := hide hMJ
        obtain rfl : n2 = MJ.length := by obtain ⟨_, _, hh⟩ := own_sliceN O2; simp only [Value.slice.injEq] at hh; exact hh.2.1
        have hb2 : Below w1.heap.size W1 w2 := hkn2.only.below HSZ.out (fun k hk h => by omega)
        have HPB8 := hide (hkn2.kept _ _ _ (by decide) HPB.out)
        have HO8 := hide O2
        have HB8 : Hid (Below w1.heap.size w1 w2) := HB7.out.trans hb2
        have HS28 : Hid (∀ wx, Below w1.heap.size w2 wx → Sl wx (.slice a2 q2.length d2) q2) := fun wx hb => HS2.out wx (hb2.trans hb)
        clear HSZ HS2 HS1 hMJ
        have HSZ : Hid (w1.heap.size ≤ w2.heap.size) := HB8.out.size
        have HS2 := HS28
        have y0 : w2.cell? ⟨W.heap.size, 0, none⟩ = some (.slice a1 q1.length d1) := HPB8.out.cell 0
        have y1 : w2.cell? ⟨W.heap.size, 1, none⟩ = some (.slice a2 q2.length d2) := HPB8.out.cell 1
        clear O2 hb2 hkn2 HS28
        subst hact
        simp only [List.dropLast, putAll, Act.put, List.setIfInBounds_toArray, List.set_cons_zero, List.set_cons_succ, hv8, Nat.zero_add, Nat.reduceAdd]
        clear hv8
        refine gives_by rfl _ rfl ?_
        intro hf hc
        go_simp
        simp only [gUpon]
        go_wp2
        refine wp_region_kn w1.heap.size 1 (MJ ++ [(q2.length : Int)] ++ q2) [isV (.slice b2' MJ.length e2'), isV (.pointer (some ⟨W.heap.size, 1, none⟩)), isV (.slice a2 q2.length d2), isV (.int .i64 (q2.length : Int)), isV (.int .u8 (q2.length : Int)), isRn w1.heap.size [(q2.length : Int)], isRn w1.heap.size (MJ ++ [(q2.length : Int)]), isV (.pointer (some ⟨W.heap.size, 1, none⟩)), isV (.slice a2 q2.length d2), isRn w1.heap.size (MJ ++ [(q2.length : Int)] ++ q2)] 108 10 (by kernel_rfl) (by kernel_rfl) (by kernel_rfl) (by kernel_rfl) rfl ?_ ?_ ?_
        · exact allKn_isV (allKn_isV (allKn_isV (allKn_isV (allKn_isV (allKn_isRn (.inl (by simp)) (allKn_isRn (.inr (List.prefix_append _ _)) (allKn_isV (allKn_isV (allKn_isRn (.inr (List.prefix_refl _)) (trivial))))))))))
        · refine ⟨?_, ?_, ?_, ?_, ?_, ?_, ?_, ?_, ?_, ?_, trivial⟩
          · intro act wx h
            have e3 : act.eval (.tmp 3) = .slice b2' MJ.length e2' := h.old 3 (by kernel_rfl)
            have hrel := h.rel
            clear h
            refine gives_by rfl act.eval rfl ?_
            generalize act.eval = ρ at *
            intro hf hc
            go_simp
            exact ⟨Kn.refl _ _ _ _, rfl⟩
          · intro act wx h
            have e5 : act.eval (.tmp 5) = .pointer (some ⟨W.heap.size, 0, none⟩) := h.old 5 (by kernel_rfl)
            have hrel := h.rel
            clear h
            refine gives_by rfl act.eval rfl ?_
            generalize act.eval = ρ at *
            intro hf hc
            go_simp
            exact ⟨Kn.refl _ _ _ _, rfl⟩
          · intro act wx h
            obtain ⟨v38, e38, f38⟩ := h.val 1 38 (by kernel_rfl)
            obtain rfl : v38 = .pointer (some ⟨W.heap.size, 1, none⟩) := f38
            have hrel := h.rel
            clear h
            have hpb := hrel.kept _ _ _ (by decide) HPB8.out
            have y0 : wx.cell? ⟨W.heap.size, 0, none⟩ = some (.slice a1 q1.length d1) := hpb.cell 0
            have y1 : wx.cell? ⟨W.heap.size, 1, none⟩ = some (.slice a2 q2.length d2) := hpb.cell 1
            refine gives_by rfl act.eval rfl ?_
            generalize act.eval = ρ at *
            intro hf hc
            go_simp
            exact ⟨Kn.refl _ _ _ _, rfl⟩
          · intro act wx h
            obtain ⟨v39, e39, f39⟩ := h.val 2 39 (by kernel_rfl)
            obtain rfl : v39 = .slice a2 q2.length d2 := f39
            have hrel := h.rel
            clear h
            refine gives_by rfl act.eval rfl ?_
            generalize act.eval = ρ at *
            intro hf hc
            go_simp
            exact ⟨Kn.refl _ _ _ _, rfl⟩
          · intro act wx h
            obtain ⟨v40, e40, f40⟩ := h.val 3 40 (by kernel_rfl)
            obtain rfl : v40 = .int .i64 (q2.length : Int) := f40
            have hrel := h.rel
            clear h
            refine gives_by rfl act.eval rfl ?_
            generalize act.eval = ρ at *
            intro hf hc
            go_simp
            rw [HWq2.out]
            exact ⟨Kn.refl _ _ _ _, rfl⟩
          · intro act wx h
            obtain ⟨v41, e41, f41⟩ := h.val 4 41 (by kernel_rfl)
            obtain rfl : v41 = .int .u8 (q2.length : Int) := f41
            have hrel := h.rel
            clear h
            refine gives_by rfl act.eval rfl ?_
            generalize act.eval = ρ at *
            intro hf hc
            go_simp
            exact ⟨Kn.of_below ((Below.refl _ wx).alloc (Nat.le_refl _) _), _, _, _, rfl, lit_rowN wx w1.heap.size [(q2.length : Int)] (by have := hrel.only.size; have := HSZ.out; omega) (by simp)⟩
          · intro act wx h
            obtain ⟨v37, e37, f37⟩ := h.val 0 37 (by kernel_rfl)
            obtain rfl : v37 = .slice b2' MJ.length e2' := f37
            obtain ⟨v42, e42, f42⟩ := h.val 5 42 (by kernel_rfl)
            obtain ⟨a42, n42, c42, rfl, O42⟩ := f42
            have hrel := h.rel
            clear h
            obtain ⟨a2', n2', c2', wy, r9, o9, k9⟩ := append_kn wx w1.heap.size 1 (MJ ++ [(q2.length : Int)] ++ q2) b2' MJ.length e2' MJ [(q2.length : Int)] (hrel.keep _ _ (.inr ⟨[(q2.length : Int)] ++ q2, by rw [List.append_assoc]⟩) HO8.out) (by omega) (List.prefix_append _ _) a42 n42 c42 (sl_of_own_len O42 (by intro z hz; simp at hz; omega)) (by simp only [List.length_append, List.length_cons, List.length_nil]; omega) (by have := hrel.only.size; have := HSZ.out; omega)
            exact gives_of_run rfl (exec_append (.tmp 37) (.tmp 42) 34 rfl _ _ e37 e42 _ r9) ⟨k9, a2', n2', c2', rfl, o9⟩
          · intro act wx h
            have e5 : act.eval (.tmp 5) = .pointer (some ⟨W.heap.size, 0, none⟩) := h.old 5 (by kernel_rfl)
            have hrel := h.rel
            clear h
            refine gives_by rfl act.eval rfl ?_
            generalize act.eval = ρ at *
            intro hf hc
            go_simp
            exact ⟨Kn.refl _ _ _ _, rfl⟩
          · intro act wx h
            obtain ⟨v44, e44, f44⟩ := h.val 7 44 (by kernel_rfl)
            obtain rfl : v44 = .pointer (some ⟨W.heap.size, 1, none⟩) := f44
            have hrel := h.rel
            clear h
            have hpb := hrel.kept _ _ _ (by decide) HPB8.out
            have y0 : wx.cell? ⟨W.heap.size, 0, none⟩ = some (.slice a1 q1.length d1) := hpb.cell 0
            have y1 : wx.cell? ⟨W.heap.size, 1, none⟩ = some (.slice a2 q2.length d2) := hpb.cell 1
            refine gives_by rfl act.eval rfl ?_
            generalize act.eval = ρ at *
            intro hf hc
            go_simp
            exact ⟨Kn.refl _ _ _ _, rfl⟩
          · intro act wx h
            obtain ⟨v43, e43, f43⟩ := h.val 6 43 (by kernel_rfl)
            obtain ⟨a43, n43, c43, rfl, O43⟩ := f43
            obtain ⟨v45, e45, f45⟩ := h.val 8 45 (by kernel_rfl)
            obtain rfl : v45 = .slice a2 q2.length d2 := f45
            have hrel := h.rel
            clear h
            obtain ⟨a2', n2', c2', wy, r9, o9, k9⟩ := append_kn wx w1.heap.size 1 (MJ ++ [(q2.length : Int)] ++ q2) a43 n43 c43 (MJ ++ [(q2.length : Int)]) q2 O43 (by rw [List.length_append]; simp only [List.length_cons, List.length_nil]; omega) (List.prefix_refl _) a2 q2.length d2 (HS2.out wx (hrel.only.below (by have := HSZ.out; omega) (fun k hk h => by omega))) (by simp only [List.length_append, List.length_cons, List.length_nil]; omega) (by have := hrel.only.size; have := HSZ.out; omega)
            exact gives_of_run rfl (exec_append (.tmp 43) (.tmp 45) 34 rfl _ _ e43 e45 _ r9) ⟨k9, a2', n2', c2', rfl, o9⟩
        · intro oL hoL vals8 w3 hkn3 hv
          simp only [List.getElem?_toArray, List.getElem?_cons_succ, List.getElem?_cons_zero, Option.some.injEq] at hoL
          subst hoL
          generalize hact : putAll _ vals8 0 _ = act
          obtain ⟨b3, n3, e3, hv9, O3⟩ : isRn w1.heap.size (MJ ++ [(q2.length : Int)] ++ q2) (vals8 9) w3 := hv 9 46 (by decide) (by kernel_rfl)
          clear hv
          obtain ⟨NJ, hNJ⟩ : ∃ NJ, NJ = MJ ++ [(q2.length : Int)] ++ q2 := ⟨_, rfl⟩
          rw [← hNJ] at O3
          have HNJ : Hid (lefT ps (k + 1) = NJ) := by show _ = _; rw [HLS.out, hNJ, HMJ.out]; simp [txt]
          obtain rfl : n3 = NJ.length := by obtain ⟨_, _, hh⟩ := own_sliceN O3; simp only [Value.slice.injEq] at hh; exact hh.2.1
          have HO9 := hide O3
          have HB9 : Hid (Below w1.heap.size w1 w3) := HB8.out.trans (hkn3.only.below HSZ.out (fun k hk h => by omega))
          clear O3 hkn3 hNJ
          subst hact
          simp only [List.dropLast, putAll, Act.put, List.setIfInBounds_toArray, List.set_cons_zero, List.set_cons_succ, hv9, Nat.zero_add, Nat.reduceAdd]
          clear hv9
          refine gives_by rfl _ rfl ?_
          intro hf hc
          go_simp
          simp only [gUpon]
          go_wp2
          go_roundg (gk - 1)
          case measure => omega
          case rel => exact ⟨k + 1, b3, e3, by omega, by go_num, by rw [HNJ.out], by rw [HNJ.out]; exact HO9.out, HB9.out⟩
    · have hkk : k = np := by omega
      go_wp2
      go_ret
      refine ⟨_, rfl, ?_, HBW.out⟩
      rw [← hkk, HLJ.out]
      exact own_le' HOR.out (by omega)

end Go.Proofs.Ytoamdbjailpgdaa
