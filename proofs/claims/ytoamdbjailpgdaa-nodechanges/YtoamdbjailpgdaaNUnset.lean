/- Contract: package node's Unset. -/
import Derived.Test.YtoamdbjailpgdaaNSet
namespace Go.Proofs.Ytoamdbjailpgdaa
set_option maxRecDepth 20000
open Go.RowKit Go.Shelf
set_option linter.unusedVariables false
set_option linter.unusedSimpArgs false
set_option maxRecDepth 100000
attribute [local go_sem] Oper.semAt_some

def isNdP (B : Nat) (cs : List Value) : Fct := fun v w => ∃ a n c, v = .agg #[.bool true, .slice a n c, .slice none 0 0, .slice none 0 0] ∧ w.ownsRow B 36 2 (.slice a n c) n cs
theorem st_isNdP {S : Nat → Prop} {B : Nat} (cs : List Value) (hS : ∀ j, S j → j < B) : ∀ v w w', Only S w w' → isNdP B cs v w → isNdP B cs v w' := fun v w w' ho ⟨a, n, c, h1, h2⟩ => ⟨a, n, c, h1, ownsRow_only h2 ho (fun j hj hs => by have := (row_blk h2 hj).1; have := hS j hs; omega)⟩

set_option maxHeartbeats 3000000 in
theorem unset_any (w : World) (v : Value) (n : Nd) (h : NdV w v n) (kv : Value) (key : List Int) (hk : Sl w kv key) :
    Calls Try.prog 33 #[v, kv] w (GivesN w (unsetN n key) (unsetE n key)) := by
  have HM : Hid (∀ w1, Below w.heap.size w w1 → Calls Try.prog 62 #[v] w1 fun e w' => e = .returned (.bool (leafB n)) ∧ Below w1.heap.size w1 w') := fun w1 hb => isLeaf_any w1 v n (h.below hb)
  have HFD : Hid (∀ w1, Below w.heap.size w w1 → Calls Try.prog 23 #[v, kv] w1 fun e w' => e = .returned (.tuple #[.int .i64 (findN n key), .bool (findB n key)]) ∧ Below w1.heap.size w1 w') := fun w1 hb => find_any w1 v n (h.below hb) kv key (hk.below hb)
  have HNN : Hid (unsetN n key = if leafB n then (if findB n key then ownN (delN n key) else noNd) else noNd) := rfl
  have HEE : Hid (unsetE n key = if leafB n then (if findB n key then ownE (delN n key) else 4) else 100) := rfl
  have HDN : Hid (delN n key = ⟨true, n.ps.take (findN n key) ++ n.ps.drop (findN n key + 1), [], []⟩) := rfl
  have HFL := hide (@find_le n key)
  have HPL : Hid (leafB n = true → n.ps.length ≤ 255) := fun h => (leafB_ps h).1
  have hza : ∀ wx : World, (zeroValue 26).run Try.prog wx = .ok (.agg #[.bool false, .slice none 0 0, .slice none 0 0, .slice none 0 0]) wx := fun wx => by kernel_rfl
  obtain ⟨pa, pc, ka, kc, ca, cc, xs, ys, rfl, hp1, hk1, hc1, hp2, hk2, hc2, hP, hK, hC⟩ := h.open
  have HP := hide hP
  obtain ⟨a1, n1, c1, rfl⟩ := sl_form hk
  unfold ndv at HM HFD ⊢
  generalize n.lf = lf at *
  obtain ⟨np, hnp⟩ : ∃ m, n.ps.length = m := ⟨_, rfl⟩
  rw [hnp] at HP HM HFD hp1 HFL HPL ⊢
  have HNP := hide hnp
  generalize n.ks.length = nk at *
  generalize n.cs.length = nc at *
  obtain ⟨w1, hw1, hcg⟩ := cg_new w (.bool lf) (.slice pa np pc) (.slice ka nk kc) (.slice ca nc cc)
  have HG1 := hide hcg
  obtain ⟨⟨z0, z1, z2, z3⟩, _⟩ := node_cells hcg.2.1
  clear h hk hP hK hC hcg hnp hk1 hc1 hk2 hc2
  generalize unsetN n key = SN at *
  generalize unsetE n key = SE at *
  generalize delN n key = DN at *
  generalize findN n key = FI at *
  generalize findB n key = FB at *
  generalize leafB n = LB at *
  cases LB with
  | false =>
    simp only [Bool.false_eq_true, if_false] at HNN HEE
    rw [HNN.out, HEE.out]
    go_enter Try.func33, Try.ntmps33
    go_wp2_with (first
      | (go_at_call 62; refine (HM.out w1 HG1.out.1).mono ?_; rintro e w2 ⟨rfl, hb2⟩; have HG2 := hide (HG1.out.grow hb2); clear z0 z1 z2 z3; obtain ⟨⟨z0, z1, z2, z3⟩, _⟩ := node_cells HG2.out.2.1; obtain ⟨⟨d0, d1, d2, d3⟩, k0, k1, k2, k3⟩ := node_cells HG2.out.2.2; clear HM hb2))
    (try simp only [Exit.inBlock, Exit.then])
    refine bodyPost_ret (ret_node1 rfl _ _ (w.heap.size + 1) _ _ _ _ _ rfl rfl (laidN_blk HG2.out.2.2 _ _ _ _)) rfl ?_
    exact cg_no HG2.out _ _ _ _ _ rfl
  | true =>
    simp only [if_true] at HNN HEE
    cases FB with
    | false =>
      simp only [Bool.false_eq_true, if_false] at HNN HEE
      rw [HNN.out, HEE.out]
      go_enter Try.func33, Try.ntmps33
      go_wp2_with (first
        | (go_at_call 62; refine (HM.out w1 HG1.out.1).mono ?_; rintro e w2 ⟨rfl, hb2⟩; have HG2 := hide (HG1.out.grow hb2); clear z0 z1 z2 z3; obtain ⟨⟨z0, z1, z2, z3⟩, _⟩ := node_cells HG2.out.2.1; obtain ⟨⟨d0, d1, d2, d3⟩, k0, k1, k2, k3⟩ := node_cells HG2.out.2.2; clear HM hb2)
        | (go_at_call 23; refine (HFD.out w2 HG2.out.1).mono ?_; rintro e w4 ⟨rfl, hb4⟩; have HG4 := hide (HG2.out.grow hb4); clear z0 z1 z2 z3 d0 d1 d2 d3 k0 k1 k2 k3; obtain ⟨⟨z0, z1, z2, z3⟩, _⟩ := node_cells HG4.out.2.1; obtain ⟨⟨d0, d1, d2, d3⟩, k0, k1, k2, k3⟩ := node_cells HG4.out.2.2; clear HFD hb4))
      (try simp only [Exit.inBlock, Exit.then])
      refine bodyPost_ret (ret_node1 rfl _ _ (w.heap.size + 1) _ _ _ _ _ rfl rfl (laidN_blk HG4.out.2.2 _ _ _ _)) rfl ?_
      exact cg_no HG4.out _ _ _ _ _ rfl
    | true =>
      simp only [if_true] at HNN HEE
      rw [HNN.out, HEE.out]
      have hnp5 := HPL.out rfl
      obtain ⟨hF1, hF2⟩ := HFL.out rfl
      have hF3 := hF2 rfl
      clear HNN HEE HFL HPL
      have HCT := hide (fun wx => cut_head (P := Try.prog) 22 36 2 Try.underlying22 sizePair pa np pc FI (by omega) (by unfold maxLen; omega) wx)
      obtain ⟨ba, bc, hlo, hB, hbc1, hbc2⟩ := HP.out.low HNP.out (FI + 1) (by omega)
      have HLO : Hid (∀ wx, (Instr.slice 22 (.slice pa np pc) (some (.int .i64 (FI + 1 : Int))) none none).run Try.prog wx = .ok (.slice ba (np - (FI + 1)) bc) wx) := fun wx => by
        have := hlo wx
        rwa [show ((FI + 1 : Nat) : Int) = (FI + 1 : Int) by omega] at this
      obtain ⟨bn, hbn⟩ : ∃ m, np - (FI + 1) = m := ⟨_, rfl⟩
      rw [hbn] at HLO hB
      have HTK : Hid (∀ W, Below w.heap.size w W → Prs W (.slice pa FI pc) (xs.take FI) (n.ps.take FI)) := fun W hb => by
        have := HP.out.below hb
        rw [← HNP.out] at this
        exact this.take FI pc (by rw [HNP.out]; omega) (by omega) (by unfold maxLen; omega)
      have HDR : Hid (∀ W, Below w.heap.size w W → Prs W (.slice ba bn bc) (xs.drop (FI + 1)) (n.ps.drop (FI + 1))) := fun W hb => hB W (HP.out.below hb)
      obtain ⟨XS, hXS⟩ : ∃ x, x = xs.take FI ++ xs.drop (FI + 1) := ⟨_, rfl⟩
      have HLF : Hid (∀ wx g, Below w.heap.size w wx → Blk wx g 22 [.slice pa FI pc, .slice ba bn bc] → Calls Try.prog 74 #[.slice (some ⟨g, 0, none⟩) 2 2] wx fun e w' => ∃ r N c, e = .returned (.agg #[.bool true, .slice r N c, .slice none 0 0, .slice none 0 0]) ∧ w'.ownsRow wx.heap.size 36 2 (.slice r N c) N (flatP XS) ∧ Below wx.heap.size wx w') := fun wx g hbw hBl => by
        refine (leaf_any wx g [.slice pa FI pc, .slice ba bn bc] [flatP (xs.take FI), flatP (xs.drop (FI + 1))] rfl (by simp) hBl (lit_rows rfl (by
          intro x hx
          simp only [List.zip_cons_cons, List.zip_nil_right, List.mem_cons, List.not_mem_nil, or_false] at hx
          rcases hx with rfl | rfl
          · exact RowR.of_prs (HTK.out wx hbw) (by rw [List.length_take]; have := HNP.out; omega)
          · exact RowR.of_prs (HDR.out wx hbw) (by rw [List.length_drop]; have := HNP.out; omega)))).mono ?_
        rintro e w' ⟨r, N, c, rfl, ho, hb'⟩
        exact ⟨r, N, c, rfl, by rw [hXS, flatP_append]; simpa using ho, hb'⟩
      have HND : Hid (∀ wx a m c, Below w.heap.size w wx → wx.ownsRow (w.heap.size + 2) 36 2 (.slice a m c) m (flatP XS) → NdV wx (.agg #[.bool true, .slice a m c, .slice none 0 0, .slice none 0 0]) DN) := fun wx a m c hbw ho => by
        have hm : m = XS.length := by have := ho.1; rw [flatP_len] at this; omega
        subst hm
        rw [HDN.out]
        refine ⟨_, _, _, XS, [], rfl, prs_own ho ?_ ?_, Bss.nil _, Is.nil' _⟩
        · rw [hXS]
          show _ = (n.ps.take FI ++ n.ps.drop (FI + 1)).length
          rw [List.length_append, List.length_append, (HTK.out wx hbw).1, (HDR.out wx hbw).1]
        · rw [hXS]
          exact texts_append (HTK.out wx hbw).1 (HTK.out wx hbw).texts (HDR.out wx hbw).texts
      clear HTK HDR hXS hB hlo HP HDN hbn
      go_enter Try.func33, Try.ntmps33
      go_wp2_with (first
        | (go_at_call 62; refine (HM.out w1 HG1.out.1).mono ?_; rintro e w2 ⟨rfl, hb2⟩; have HG2 := hide (HG1.out.grow hb2); clear z0 z1 z2 z3; obtain ⟨⟨z0, z1, z2, z3⟩, _⟩ := node_cells HG2.out.2.1; obtain ⟨⟨d0, d1, d2, d3⟩, k0, k1, k2, k3⟩ := node_cells HG2.out.2.2; clear HM hb2)
        | (go_at_call 23; refine (HFD.out w2 HG2.out.1).mono ?_; rintro e w4 ⟨rfl, hb4⟩; have HG4 := hide (HG2.out.grow hb4); clear z0 z1 z2 z3 d0 d1 d2 d3 k0 k1 k2 k3; obtain ⟨⟨z0, z1, z2, z3⟩, _⟩ := node_cells HG4.out.2.1; obtain ⟨⟨d0, d1, d2, d3⟩, k0, k1, k2, k3⟩ := node_cells HG4.out.2.2; clear HFD hb4))
      refine wp_region_mix (fun j => j = w.heap.size + 1) [some (isV (.pointer (some ⟨w.heap.size, 1, none⟩))), some (isV (.slice pa np pc)), some (isV (.int .i64 (FI : Int))), some (isV (.slice pa FI pc)), some (isV (.pointer (some ⟨w.heap.size, 1, none⟩))), some (isV (.slice pa np pc)), some (isV (.int .i64 (FI : Int))), some (isV (.int .i64 (FI + 1 : Int))), some (isV (.slice ba bn bc)), some (isLit (w.heap.size + 2) 22 [.slice pa FI pc, .slice ba bn bc]), some (isNdP (w.heap.size + 2) (flatP XS)), some (isTup (w.heap.size + 2) (ownN DN) (ownE DN)), some (isNdO (w.heap.size + 2) (ownN DN)), some (isV (.int .i64 (ownE DN))), none, none] [14, 15] (CgS w [.bool lf, .slice pa np pc, .slice ka nk kc, .slice ca nc cc] (ownN DN) (ownE DN) 15) 35 (by kernel_rfl) (by kernel_rfl) (by kernel_rfl) (by kernel_rfl) rfl ?_ ?_ ?_ ?_ ?_
      · intro vals0
        exact (HG4.out.keep ((Only.refl _ w4).drew) : CgB w [.bool lf, .slice pa np pc, .slice ka nk kc, .slice ca nc cc] zeroC w4.drew)
      · refine allF_at _ ?_
        repeat (first | exact trivial | refine allF_none ?_ | refine allF_isV ?_ | refine allF_cons (st_isLit _ _ (fun j hj => by omega)) ?_ | refine allF_cons (st_isNdP _ (fun j hj => by omega)) ?_ | refine allF_cons (st_isTup _ _ (fun j hj => by omega)) ?_ | refine allF_cons (st_isNdO _ (fun j hj => by omega)) ?_)
      · exact CgS.ind (by decide)
      · refine ⟨?_, ?_, ?_, ?_, ?_, ?_, ?_, ?_, ?_, ?_, ?_, ?_, ?_, ?_, ?_, ?_, trivial⟩
        · intro k vals act wx hk h hs
          have e2 : act.eval (.tmp 2) = .pointer (some ⟨w.heap.size, 0, none⟩) := h.old 2 (by kernel_rfl)
          clear h
          refine gives_by rfl act.eval rfl ?_
          generalize act.eval = ρ at *
          intro hf hc
          go_simp
          exact ⟨rfl, Only.refl _ _, hs⟩
        · intro k vals act wx hk h hs
          obtain ⟨v21, e21, f21⟩ := h.f 0 21 (by kernel_rfl) rfl
          obtain rfl : v21 = .pointer (some ⟨w.heap.size, 1, none⟩) := f21
          clear h
          obtain ⟨hbw, hAx, hsz⟩ := CgS.any hk hs
          obtain ⟨⟨x0, x1, x2, x3⟩, _⟩ := node_cells hAx
          refine gives_by rfl act.eval rfl ?_
          generalize act.eval = ρ at *
          intro hf hc
          go_simp
          exact ⟨rfl, Only.refl _ _, hs⟩
        · intro k vals act wx hk h hs
          have e6 : act.eval (.tmp 6) = .int .i64 (FI : Int) := h.old 6 (by kernel_rfl)
          clear h
          refine gives_by rfl act.eval rfl ?_
          generalize act.eval = ρ at *
          intro hf hc
          go_simp
          exact ⟨rfl, Only.refl _ _, hs⟩
        · intro k vals act wx hk h hs
          obtain ⟨v22, e22, f22⟩ := h.f 1 22 (by kernel_rfl) rfl
          obtain rfl : v22 = .slice pa np pc := f22
          obtain ⟨v23, e23, f23⟩ := h.f 2 23 (by kernel_rfl) rfl
          obtain rfl : v23 = .int .i64 (FI : Int) := f23
          clear h
          have hct := HCT.out wx
          refine gives_by rfl act.eval rfl ?_
          generalize act.eval = ρ at *
          intro hf hc
          go_simp
          exact ⟨rfl, Only.refl _ _, hs⟩
        · intro k vals act wx hk h hs
          have e2 : act.eval (.tmp 2) = .pointer (some ⟨w.heap.size, 0, none⟩) := h.old 2 (by kernel_rfl)
          clear h
          refine gives_by rfl act.eval rfl ?_
          generalize act.eval = ρ at *
          intro hf hc
          go_simp
          exact ⟨rfl, Only.refl _ _, hs⟩
        · intro k vals act wx hk h hs
          obtain ⟨v25, e25, f25⟩ := h.f 4 25 (by kernel_rfl) rfl
          obtain rfl : v25 = .pointer (some ⟨w.heap.size, 1, none⟩) := f25
          clear h
          obtain ⟨hbw, hAx, hsz⟩ := CgS.any hk hs
          obtain ⟨⟨x0, x1, x2, x3⟩, _⟩ := node_cells hAx
          refine gives_by rfl act.eval rfl ?_
          generalize act.eval = ρ at *
          intro hf hc
          go_simp
          exact ⟨rfl, Only.refl _ _, hs⟩
        · intro k vals act wx hk h hs
          have e6 : act.eval (.tmp 6) = .int .i64 (FI : Int) := h.old 6 (by kernel_rfl)
          clear h
          refine gives_by rfl act.eval rfl ?_
          generalize act.eval = ρ at *
          intro hf hc
          go_simp
          exact ⟨rfl, Only.refl _ _, hs⟩
        · intro k vals act wx hk h hs
          obtain ⟨v27, e27, f27⟩ := h.f 6 27 (by kernel_rfl) rfl
          obtain rfl : v27 = .int .i64 (FI : Int) := f27
          clear h
          refine gives_by rfl act.eval rfl ?_
          generalize act.eval = ρ at *
          intro hf hc
          go_simp
          rw [IntWalk.i64_in _ (by omega)]
          exact ⟨rfl, Only.refl _ _, hs⟩
        · intro k vals act wx hk h hs
          obtain ⟨v26, e26, f26⟩ := h.f 5 26 (by kernel_rfl) rfl
          obtain rfl : v26 = .slice pa np pc := f26
          obtain ⟨v28, e28, f28⟩ := h.f 7 28 (by kernel_rfl) rfl
          obtain rfl : v28 = .int .i64 (FI + 1 : Int) := f28
          clear h
          have hlo := HLO.out wx
          refine gives_by rfl act.eval rfl ?_
          generalize act.eval = ρ at *
          intro hf hc
          go_simp
          exact ⟨rfl, Only.refl _ _, hs⟩
        · intro k vals act wx hk h hs
          obtain ⟨v24, e24, f24⟩ := h.f 3 24 (by kernel_rfl) rfl
          obtain rfl : v24 = .slice pa FI pc := f24
          obtain ⟨v29, e29, f29⟩ := h.f 8 29 (by kernel_rfl) rfl
          obtain rfl : v29 = .slice ba bn bc := f29
          clear h
          obtain ⟨hbw, hAx, hsz⟩ := CgS.any hk hs
          refine gives_of_run rfl (exec_build2 104 2 (.tmp 24) (.tmp 29) rfl _ _ _ e24 e29 (buildP2 wx pa ba FI bn pc bc)) ?_
          have hon : Only (fun _ => False) wx (wx.alloc (.cells #[.slice pa FI pc, .slice ba bn bc] 22)) := (Only.refl _ wx).alloc _
          exact ⟨⟨wx.heap.size, rfl, hsz, Blk.new wx _ [.slice pa FI pc, .slice ba bn bc]⟩, hon, hs.keep hk hon⟩
        · intro k vals act wx hk h hs
          obtain ⟨v30, e30, f30⟩ := h.f 9 30 (by kernel_rfl) rfl
          obtain ⟨g30, rfl, hg30, B30⟩ := f30
          clear h
          refine gives_by rfl act.eval rfl ?_
          generalize act.eval = ρ at *
          intro hf hc
          go_simp
          obtain ⟨hbw, hAx, hsz⟩ := CgS.any hk hs
          refine (HLF.out wx g30 hbw B30).mono ?_
          rintro e w' ⟨r, N, c, he, hn, hb'⟩
          exact ⟨_, he, ⟨r, N, c, rfl, own_le' hn hsz⟩, Only.of_below _ hb', hs.keep hk (Only.of_below _ hb')⟩
        · intro k vals act wx hk h hs
          obtain ⟨v31, e31, f31⟩ := h.f 10 31 (by kernel_rfl) rfl
          obtain ⟨r31, N31, c31, rfl, O31⟩ := f31
          clear h
          refine gives_by rfl act.eval rfl ?_
          generalize act.eval = ρ at *
          intro hf hc
          go_simp
          obtain ⟨hbw, hAx, hsz⟩ := CgS.any hk hs
          refine (owned_tup (HND.out wx _ _ _ hbw O31) hsz).mono ?_
          rintro e w' ⟨u, he, ht, hb'⟩
          exact ⟨u, he, ht, Only.of_below _ hb', hs.keep hk (Only.of_below _ hb')⟩
        · intro k vals act wx hk h hs
          obtain ⟨v32, e32, f32⟩ := h.f 11 32 (by kernel_rfl) rfl
          obtain ⟨l32, p32, np32, pc32, k32, nk32, kc32, q32, nq32, qc32, rfl, N32⟩ := f32
          clear h
          refine gives_by rfl act.eval rfl ?_
          generalize act.eval = ρ at *
          intro hf hc
          go_simp
          exact ⟨⟨l32, p32, np32, pc32, k32, nk32, kc32, q32, nq32, qc32, rfl, N32⟩, Only.refl _ _, hs⟩
        · intro k vals act wx hk h hs
          obtain ⟨v32, e32, f32⟩ := h.f 11 32 (by kernel_rfl) rfl
          obtain ⟨l32, p32, np32, pc32, k32, nk32, kc32, q32, nq32, qc32, rfl, N32⟩ := f32
          clear h
          refine gives_by rfl act.eval rfl ?_
          generalize act.eval = ρ at *
          intro hf hc
          go_simp
          exact ⟨rfl, Only.refl _ _, hs⟩
        · intro vals act wx h hs
          have e4 : act.eval (.tmp 4) = .pointer (some ⟨w.heap.size + 1, 0, none⟩) := h.old 4 (by kernel_rfl)
          obtain ⟨v33, e33, f33⟩ := h.f 12 33 (by kernel_rfl) rfl
          obtain ⟨l33, p33, np33, pc33, k33, nk33, kc33, q33, nq33, qc33, rfl, N33⟩ := f33
          clear h
          have hj : CgB w [.bool lf, .slice pa np pc, .slice ka nk kc, .slice ca nc cc] zeroC wx := hs
          obtain ⟨⟨d0, d1', d2, d3⟩, k0, k1, k2, k3⟩ := node_cells hj.2.2
          have ho := laidN_only wx (w.heap.size + 1) (.bool l33) (.slice p33 np33 pc33) (.slice k33 nk33 kc33) (.slice q33 nq33 qc33)
          have hfin : CgS w [.bool lf, .slice pa np pc, .slice ka nk kc, .slice ca nc cc] (ownN DN) (ownE DN) 15 1 (updV vals 14 undef) (laidN wx (w.heap.size + 1) (.bool l33) (.slice p33 np33 pc33) (.slice k33 nk33 kc33) (.slice q33 nq33 qc33)) := ⟨l33, p33, np33, pc33, k33, nk33, kc33, q33, nq33, qc33, ⟨hj.1.trans (ho.below hj.1.size (fun j hh e => by omega)), hj.2.1.only ho (by omega), laidN_blk hj.2.2 _ _ _ _⟩, N33.only ho (fun j hh => by omega)⟩
          clear hs hj N33
          refine gives_by rfl act.eval rfl ?_
          generalize act.eval = ρ at *
          intro hf hc
          go_simp
          exact ⟨ho, hfin⟩
        · intro vals act wx h hs
          obtain ⟨v34, e34, f34⟩ := h.f 13 34 (by kernel_rfl) rfl
          obtain rfl : v34 = .int .i64 (ownE DN) := f34
          clear h
          have hj : CgS w [.bool lf, .slice pa np pc, .slice ka nk kc, .slice ca nc cc] (ownN DN) (ownE DN) 15 1 vals wx := hs
          refine gives_by rfl act.eval rfl ?_
          generalize act.eval = ρ at *
          intro hf hc
          go_simp
          exact ⟨Only.refl _ _, ⟨hj, rfl⟩⟩
      · intro vals w8 hv hs
        obtain ⟨⟨l8, p8, n8, c8, k8, nk8, kc8, q8, nq8, qc8, hj, hn⟩, h19⟩ : (∃ l9 p9 n9 c9 k9 m9 d9 q9 r9 s9, CgB w [.bool lf, .slice pa np pc, .slice ka nk kc, .slice ca nc cc] [.bool l9, .slice p9 n9 c9, .slice k9 m9 d9, .slice q9 r9 s9] w8 ∧ NdN w8 (w.heap.size + 2) (.agg #[.bool l9, .slice p9 n9 c9, .slice k9 m9 d9, .slice q9 r9 s9]) (ownN DN)) ∧ vals 15 = .int .i64 (ownE DN) := hs
        have HJ8 := hide hj
        have HN8 := hide hn
        clear hv hj hn
        simp only [putAll, Act.put, List.setIfInBounds_toArray, List.set_cons_zero, List.set_cons_succ, Nat.zero_add, Nat.reduceAdd, h19]
        (try go_wp2)
        (try simp only [Exit.inBlock, Exit.then])
        refine bodyPost_ret (ret_node1 rfl _ _ (w.heap.size + 1) _ _ _ _ _ rfl rfl HJ8.out.2.2) rfl ?_
        exact ⟨_, rfl, HN8.out.le (by omega), HJ8.out.1⟩

end Go.Proofs.Ytoamdbjailpgdaa
