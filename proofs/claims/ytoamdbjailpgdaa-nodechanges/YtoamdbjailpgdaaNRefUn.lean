/- Contracts: the document's Unset and Shrink. -/
import Derived.Test.YtoamdbjailpgdaaNSt
import Derived.Test.YtoamdbjailpgdaaNGood
import Derived.Test.YtoamdbjailpgdaaNRefF
import Derived.Test.YtoamdbjailpgdaaNUnset
namespace Go.Proofs.Ytoamdbjailpgdaa
set_option maxRecDepth 20000
open Go.RowKit Go.Shelf
set_option linter.unusedVariables false
set_option linter.unusedSimpArgs false
set_option maxRecDepth 100000
attribute [local go_sem] Oper.semAt_some

theorem good_tup {w : World} {B : Nat} {v : Value} {n : Nd} (h : NdV w v n) (hq : n.ks.length + n.cs.length ≤ 9223372036854775807) (hB : B ≤ w.heap.size) : Calls Try.prog 75 #[v] w fun e w' => ∃ l p m c kx mk kc q mq qc, e = .returned (.tuple #[.agg #[.bool l, .slice p m c, .slice kx mk kc, .slice q mq qc], .int .i64 (ownE n)]) ∧ NdN w' B (.agg #[.bool l, .slice p m c, .slice kx mk kc, .slice q mq qc]) (ownN n) ∧ Below w.heap.size w w' := by
  refine (good_any w v n h hq).mono ?_
  rintro e w' ⟨u, rfl, hn, hb⟩
  obtain ⟨pa, np, pc, ka, nk, kc, ca, nc, cc, rfl⟩ := hn.form
  exact ⟨_, _, _, _, _, _, _, _, _, _, rfl, hn.le hB, hb⟩

set_option maxHeartbeats 1500000 in
theorem refUnset_any (w : World) (v : Value) (n : Nd) (h : NdV w v n) (kv : Value) (key : List Int) (hkv : Sl w kv key) (hq : n.ks.length + n.cs.length ≤ 9223372036854775807) :
    Calls Try.prog 34 #[v, kv] w (GivesN w (unsetN n key) (unsetE n key)) := by
  have HM : Hid (∀ w1, Below w.heap.size w w1 → Calls Try.prog 25 #[v] w1 fun e w' => e = .returned (.bool (mayN n)) ∧ Below w1.heap.size w1 w') := fun w1 hb => refMay_any w1 v n (h.below hb) hq
  have HNN : Hid (unsetN n key = if leafB n then (if findB n key then ownN (delN n key) else noNd) else noNd) := rfl
  have HEE : Hid (unsetE n key = if leafB n then (if findB n key then ownE (delN n key) else 4) else 100) := rfl
  have HFD : Hid (∀ w1, Below w.heap.size w w1 → Calls Try.prog 24 #[v, kv] w1 fun e w' => e = .returned (.tuple #[.int .i64 (findN n key), .bool (findB n key)]) ∧ Below w1.heap.size w1 w') := fun w1 hb => refFind_any w1 v n (h.below hb) kv key (hkv.below hb) hq
  have HDN : Hid (delN n key = ⟨true, n.ps.take (findN n key) ++ n.ps.drop (findN n key + 1), [], []⟩) := rfl
  have HFL := hide (@find_le n key)
  have hza : ∀ wx : World, (zeroValue 26).run Try.prog wx = .ok (.agg #[.bool false, .slice none 0 0, .slice none 0 0, .slice none 0 0]) wx := fun wx => by kernel_rfl
  have HIN : Hid (innerB n = true → 1 ≤ n.ks.length ∧ n.ks.length ≤ 255 ∧ n.cs.length = n.ks.length + 1) := fun h => by have := innerB_ps h; omega
  have HLN : Hid (leafB n = true → n.ps.length ≤ 255) := fun h => (leafB_ps h).1
  have HLF : Hid (innerB n = true → n.lf = false) := innerB_lf
  have HLL : Hid (leafB n = true → n.lf = true) := leafB_lf
  have HMI : Hid (n.lf = false → mayN n = innerB n) := mayN_in
  have HML : Hid (n.lf = true → mayN n = leafB n) := mayN_lf
  have HMO : Hid (mayN n = (leafB n || innerB n)) := rfl
  obtain ⟨pa, pc, ka, kc, ca, cc, xs, ys, rfl, hp1, hk1, hc1, hp2, hk2, hc2, hP, hK, hC⟩ := h.open
  have HP := hide hP
  have HK := hide hK
  have HC := hide hC
  obtain ⟨a1, n1, c1, rfl⟩ := sl_form hkv
  unfold ndv at HM HFD ⊢
  obtain ⟨lf, hlf⟩ : ∃ b, n.lf = b := ⟨_, rfl⟩
  obtain ⟨np, hnp⟩ : ∃ m, n.ps.length = m := ⟨_, rfl⟩
  obtain ⟨nk, hnk⟩ : ∃ m, n.ks.length = m := ⟨_, rfl⟩
  obtain ⟨nc, hnc⟩ : ∃ m, n.cs.length = m := ⟨_, rfl⟩
  have HNP := hide hnp
  have HNK := hide hnk
  have HNC := hide hnc
  have HF0 := hide hlf
  rw [hnp, hnk, hnc, hlf] at HM HFD
  rw [hnp] at HLN HP hp1
  rw [hnk, hnc] at HIN
  rw [hnk] at HK hk1
  rw [hnc] at HC hc1
  rw [hlf] at HLF HLL HMI HML
  rw [hnp, hnk, hnc, hlf]
  obtain ⟨w1, hw1, hcg⟩ := cg_new w (.bool lf) (.slice pa np pc) (.slice ka nk kc) (.slice ca nc cc)
  have HG1 := hide hcg
  obtain ⟨⟨z0, z1, z2, z3⟩, _⟩ := node_cells hcg.2.1
  clear h hP hK hC hcg hnp hnk hnc hlf
  cases hm : mayN n with
  | false =>
    have hib : leafB n = false := by
      have := HMO.out
      rw [hm] at this
      revert this
      cases leafB n <;> cases innerB n <;> simp
    rw [hib] at HNN HEE
    rw [hm] at HM
    simp only [Bool.false_eq_true, if_false] at HNN HEE
    rw [HNN.out, HEE.out]
    clear HNN HEE
    go_enter Try.func34, Try.ntmps34
    go_wp2_with (first
      | (go_at_call 25; refine (HM.out w1 HG1.out.1).mono ?_; rintro e w2 ⟨rfl, hb2⟩; have HG2 := hide (HG1.out.grow hb2); (try clear z0 z1 z2 z3); (try clear d0 d1 d2 d3 k0 k1 k2 k3); obtain ⟨⟨z0, z1, z2, z3⟩, _⟩ := node_cells HG2.out.2.1; obtain ⟨⟨d0, d1, d2, d3⟩, k0, k1, k2, k3⟩ := node_cells HG2.out.2.2; clear HM hb2))
    (try simp only [Exit.inBlock, Exit.then])
    refine bodyPost_ret (ret_node1 rfl _ _ (w.heap.size + 1) _ _ _ _ _ rfl rfl (laidN_blk HG2.out.2.2 _ _ _ _)) rfl ?_
    exact cg_no HG2.out _ _ _ _ _ rfl
  | true =>
    cases lf with
    | false =>
      have hib : leafB n = false := by
        cases hq9 : leafB n with
        | false => rfl
        | true => have := HLL.out hq9; cases this
      rw [hib] at HNN HEE
      rw [hm] at HM
      simp only [Bool.false_eq_true, if_false] at HNN HEE
      rw [HNN.out, HEE.out]
      clear HNN HEE
      go_enter Try.func34, Try.ntmps34
      go_wp2_with (first
        | (go_at_call 25; refine (HM.out w1 HG1.out.1).mono ?_; rintro e w2 ⟨rfl, hb2⟩; have HG2 := hide (HG1.out.grow hb2); (try clear z0 z1 z2 z3); (try clear d0 d1 d2 d3 k0 k1 k2 k3); obtain ⟨⟨z0, z1, z2, z3⟩, _⟩ := node_cells HG2.out.2.1; obtain ⟨⟨d0, d1, d2, d3⟩, k0, k1, k2, k3⟩ := node_cells HG2.out.2.2; clear HM hb2))
      (try simp only [Exit.inBlock, Exit.then])
      refine bodyPost_ret (ret_node1 rfl _ _ (w.heap.size + 1) _ _ _ _ _ rfl rfl (laidN_blk HG2.out.2.2 _ _ _ _)) rfl ?_
      exact cg_no HG2.out _ _ _ _ _ rfl
    | true =>
      have hib : leafB n = true := by rw [← HML.out rfl]; exact hm
      rw [hib] at HNN HEE
      rw [hm] at HM
      simp only [if_true] at HNN HEE
      obtain ⟨hF1, hF2⟩ := HFL.out hib
      have hnp5 := HLN.out hib
      rw [HNP.out] at hF1 hF2
      cases hFB : findB n key with
      | false =>
        rw [hFB] at HNN HEE HFD
        simp only [Bool.false_eq_true, if_false] at HNN HEE
        rw [HNN.out, HEE.out]
        clear HNN HEE
        go_enter Try.func34, Try.ntmps34
        go_wp2_with (first
          | (go_at_call 25; refine (HM.out w1 HG1.out.1).mono ?_; rintro e w2 ⟨rfl, hb2⟩; have HG2 := hide (HG1.out.grow hb2); (try clear z0 z1 z2 z3); (try clear d0 d1 d2 d3 k0 k1 k2 k3); obtain ⟨⟨z0, z1, z2, z3⟩, _⟩ := node_cells HG2.out.2.1; obtain ⟨⟨d0, d1, d2, d3⟩, k0, k1, k2, k3⟩ := node_cells HG2.out.2.2; clear HM hb2)
          | (go_at_call 24; refine (HFD.out w2 HG2.out.1).mono ?_; rintro e w4 ⟨rfl, hb4⟩; have HG4 := hide (HG2.out.grow hb4); (try clear z0 z1 z2 z3); (try clear d0 d1 d2 d3 k0 k1 k2 k3); obtain ⟨⟨z0, z1, z2, z3⟩, _⟩ := node_cells HG4.out.2.1; obtain ⟨⟨d0, d1, d2, d3⟩, k0, k1, k2, k3⟩ := node_cells HG4.out.2.2; clear HFD hb4))
        (try simp only [Exit.inBlock, Exit.then])
        refine bodyPost_ret (ret_node1 rfl _ _ (w.heap.size + 1) _ _ _ _ _ rfl rfl (laidN_blk HG4.out.2.2 _ _ _ _)) rfl ?_
        exact cg_no HG4.out _ _ _ _ _ rfl
      | true =>
        have hF3 := hF2 hFB
        rw [hFB] at HNN HEE HFD
        simp only [if_true] at HNN HEE
        rw [HNN.out, HEE.out]
        clear HNN HEE
        generalize findN n key = FI at *
        have HCT := hide (fun wx => cut_head (P := Try.prog) 22 36 2 Try.underlying22 sizePair pa np pc FI (by omega) (by unfold maxLen; omega) wx)
        obtain ⟨ba, bc, hlo, hB, hbc1, hbc2⟩ := HP.out.low HNP.out (FI + 1) (by omega)
        have HLO : Hid (∀ wx, (Instr.slice 22 (.slice pa np pc) (some (.int .i64 (FI + 1 : Int))) none none).run Try.prog wx = .ok (.slice ba (np - (FI + 1)) bc) wx) := fun wx => by
          have := hlo wx
          rwa [show ((FI + 1 : Nat) : Int) = (FI + 1 : Int) by omega] at this
        obtain ⟨bn, hbn⟩ : ∃ m, np - (FI + 1) = m := ⟨_, rfl⟩
        rw [hbn] at HLO hB
        have HTK : Hid (∀ W, Below w.heap.size w W → Prs W (.slice pa FI pc) (xs.take FI) (n.ps.take FI)) := fun W hb => by
          have := HP.out.below hb
          rw [← HNP.out] at this
          exact this.take FI pc (by rw [HNP.out]; omega) (by omega) (by unfold maxLen; omega)
        have HDR : Hid (∀ W, Below w.heap.size w W → Prs W (.slice ba bn bc) (xs.drop (FI + 1)) (n.ps.drop (FI + 1))) := fun W hb => hB W (HP.out.below hb)
        obtain ⟨DN, hDN⟩ : ∃ x, x = delN n key := ⟨_, rfl⟩
        rw [← hDN] at HDN ⊢
        have HLT : Hid ((n.ps.take FI).length ≤ 1000 ∧ (n.ps.drop (FI + 1)).length ≤ 1000 ∧ (flatP (xs.take FI)).length ≤ 1000) := by
          have := HNP.out
          have := HP.out.1
          show _ ∧ _ ∧ _
          rw [flatP_len, List.length_take, List.length_take, List.length_drop]
          omega
        have HQD : Hid (DN.ks.length + DN.cs.length ≤ 9223372036854775807) := by show _ ≤ _; rw [HDN.out]; exact Nat.zero_le _
        have HND : Hid (∀ wx a m c, Below w.heap.size w wx → wx.ownsRow (w.heap.size + 2) 36 2 (.slice a m c) m (flatP (xs.take FI) ++ flatP (xs.drop (FI + 1))) → NdV wx (.agg #[.bool true, .slice a m c, .slice none 0 0, .slice none 0 0]) DN) := fun wx a m c hbw ho => by
          rw [← flatP_append] at ho
          have hm : m = (xs.take FI ++ xs.drop (FI + 1)).length := by have := ho.1; rw [flatP_len] at this; omega
          subst hm
          rw [HDN.out]
          refine ⟨_, _, _, xs.take FI ++ xs.drop (FI + 1), [], rfl, prs_own ho ?_ ?_, Bss.nil _, Is.nil' _⟩
          · show _ = (n.ps.take FI ++ n.ps.drop (FI + 1)).length
            rw [List.length_append, List.length_append, (HTK.out wx hbw).1, (HDR.out wx hbw).1]
          · exact texts_append (HTK.out wx hbw).1 (HTK.out wx hbw).texts (HDR.out wx hbw).texts
        clear hB hlo hbn hDN HDN HFL
        go_enter Try.func34, Try.ntmps34
        go_wp2_with (first
          | (go_at_call 25; refine (HM.out w1 HG1.out.1).mono ?_; rintro e w2 ⟨rfl, hb2⟩; have HG2 := hide (HG1.out.grow hb2); (try clear z0 z1 z2 z3); (try clear d0 d1 d2 d3 k0 k1 k2 k3); obtain ⟨⟨z0, z1, z2, z3⟩, _⟩ := node_cells HG2.out.2.1; obtain ⟨⟨d0, d1, d2, d3⟩, k0, k1, k2, k3⟩ := node_cells HG2.out.2.2; clear HM hb2)
          | (go_at_call 24; refine (HFD.out w2 HG2.out.1).mono ?_; rintro e w4 ⟨rfl, hb4⟩; have HG4 := hide (HG2.out.grow hb4); (try clear z0 z1 z2 z3); (try clear d0 d1 d2 d3 k0 k1 k2 k3); obtain ⟨⟨z0, z1, z2, z3⟩, _⟩ := node_cells HG4.out.2.1; obtain ⟨⟨d0, d1, d2, d3⟩, k0, k1, k2, k3⟩ := node_cells HG4.out.2.2; clear HFD hb4))
        refine wp_region_set [some (.pointer (some ⟨w.heap.size, 1, none⟩)), some (.slice pa np pc), some (.int .i64 (FI : Int)), some (.slice pa FI pc), none, some (.pointer (some ⟨w.heap.size, 1, none⟩)), some (.slice pa np pc), some (.int .i64 (FI : Int)), some (.int .i64 (FI + 1 : Int)), some (.slice ba bn bc), none, none, none, none] [4, 10, 11, 12, 13] (fun D vals W => Hid (CgB w [.bool true, .slice pa np pc, .slice ka nk kc, .slice ca nc cc] zeroC W ∧ row2 (w.heap.size + 2) 36 2 4 (flatP (xs.take FI)) 10 (flatP (xs.take FI) ++ flatP (xs.drop (FI + 1))) D vals W ∧ bldF 11 (fun vals => [.bool true, vals 10, .slice none 0 0, .slice none 0 0]) D vals ∧ box2 (w.heap.size + 2) 12 13 (fun vals => [.bool true, vals 10, .slice none 0 0, .slice none 0 0]) D vals W)) 43 (by kernel_rfl) (by kernel_rfl) (by kernel_rfl) (by kernel_rfl) rfl ?_ ?_ ?_ ?_
        · exact fun vals0 => hide ⟨HG4.out.keep ((Only.refl _ w4).drew), row2.none, bldF.none, box2.none⟩
        · exact fun D D' vals vals' W hv hs => by obtain ⟨hg, hP, hb, hx⟩ := hs; exact hide ⟨hg, (hP.ind (hv 4 (by decide)) (hv 10 (by decide))), hb.ind (hv 11 (by decide)) (by simp only [(hv 10 (by decide)).2]), hx.ind (hv 12 (by decide)) (hv 13 (by decide)).1 (by simp only [(hv 10 (by decide)).2])⟩
        · refine ⟨?_, ?_, ?_, ?_, ?_, ?_, ?_, ?_, ?_, ?_, ?_, ?_, ?_, ?_, trivial⟩
          · intro D vals act wx hu h hs
            have e2 : act.eval (.tmp 2) = .pointer (some ⟨w.heap.size, 0, none⟩) := h.old 2 (by kernel_rfl)
            clear h
            refine gives_by rfl act.eval rfl ?_
            generalize act.eval = ρ at *
            intro hf hc
            go_simp
            exact ⟨rfl, hs⟩
          · intro D vals act wx hu h hs
            have e27 : act.eval (.tmp 27) = .pointer (some ⟨w.heap.size, 1, none⟩) := h.q 0 27 (by kernel_rfl) rfl
            clear h
            obtain ⟨⟨x0, x1, x2, x3⟩, _⟩ := node_cells hs.out.1.2.1
            refine gives_by rfl act.eval rfl ?_
            generalize act.eval = ρ at *
            intro hf hc
            go_simp
            exact ⟨rfl, hs⟩
          · intro D vals act wx hu h hs
            have e6 : act.eval (.tmp 6) = .int .i64 (FI : Int) := h.old 6 (by kernel_rfl)
            clear h
            refine gives_by rfl act.eval rfl ?_
            generalize act.eval = ρ at *
            intro hf hc
            go_simp
            exact ⟨rfl, hs⟩
          · intro D vals act wx hu h hs
            have e28 : act.eval (.tmp 28) = .slice pa np pc := h.q 1 28 (by kernel_rfl) rfl
            have e29 : act.eval (.tmp 29) = .int .i64 (FI : Int) := h.q 2 29 (by kernel_rfl) rfl
            clear h
            have hct := HCT.out wx
            refine gives_by rfl act.eval rfl ?_
            generalize act.eval = ρ at *
            intro hf hc
            go_simp
            exact ⟨rfl, hs⟩
          · intro D vals act wx hu h hs
            have e30 : act.eval (.tmp 30) = .slice pa FI pc := h.q 3 30 (by kernel_rfl) rfl
            clear h
            obtain ⟨hg, hP, hb, hx⟩ := hs
            have hsz := hg.2.2.lt
            obtain ⟨v', wy, hr, hrow, hon⟩ := appP (B := (w.heap.size + 2)) (.slice none 0 0) 0 [] (World.ownsRow_nil _ _ _ _) (by omega) (.slice pa FI pc) (flatP (xs.take FI)) (RowR.of_prs (HTK.out wx hg.1) HLT.out.1) (by omega)
            rw [List.nil_append] at hrow
            have hof : Only (fun _ => False) wx wy := hon.mono (fun _ _ h => (by cases h))
            refine gives_of_run rfl (exec_append (.const (.slice none 0 0)) (.tmp 30) 22 rfl _ _ rfl e30 _ hr) ?_
            exact hide ⟨hg.keep hof, row2.first (by decide) (hu.not 10 (by decide) (by kernel_rfl)) hrow, bldF.not (by decide) (hu.not 11 (by decide) (by kernel_rfl)), (box2.map (hx.ne (by decide) (by decide) (hu.not 13 (by decide) (by kernel_rfl))) (fun b X h => h.only hof (fun h => h)))⟩
          · intro D vals act wx hu h hs
            have e2 : act.eval (.tmp 2) = .pointer (some ⟨w.heap.size, 0, none⟩) := h.old 2 (by kernel_rfl)
            clear h
            refine gives_by rfl act.eval rfl ?_
            generalize act.eval = ρ at *
            intro hf hc
            go_simp
            exact ⟨rfl, hs⟩
          · intro D vals act wx hu h hs
            have e32 : act.eval (.tmp 32) = .pointer (some ⟨w.heap.size, 1, none⟩) := h.q 5 32 (by kernel_rfl) rfl
            clear h
            obtain ⟨⟨x0, x1, x2, x3⟩, _⟩ := node_cells hs.out.1.2.1
            refine gives_by rfl act.eval rfl ?_
            generalize act.eval = ρ at *
            intro hf hc
            go_simp
            exact ⟨rfl, hs⟩
          · intro D vals act wx hu h hs
            have e6 : act.eval (.tmp 6) = .int .i64 (FI : Int) := h.old 6 (by kernel_rfl)
            clear h
            refine gives_by rfl act.eval rfl ?_
            generalize act.eval = ρ at *
            intro hf hc
            go_simp
            exact ⟨rfl, hs⟩
          · intro D vals act wx hu h hs
            have e34 : act.eval (.tmp 34) = .int .i64 (FI : Int) := h.q 7 34 (by kernel_rfl) rfl
            clear h
            refine gives_by rfl act.eval rfl ?_
            generalize act.eval = ρ at *
            intro hf hc
            go_simp
            rw [IntWalk.i64_in _ (by omega)]
            exact ⟨rfl, hs⟩
          · intro D vals act wx hu h hs
            have e33 : act.eval (.tmp 33) = .slice pa np pc := h.q 6 33 (by kernel_rfl) rfl
            have e35 : act.eval (.tmp 35) = .int .i64 (FI + 1 : Int) := h.q 8 35 (by kernel_rfl) rfl
            clear h
            have hlo := HLO.out wx
            refine gives_by rfl act.eval rfl ?_
            generalize act.eval = ρ at *
            intro hf hc
            go_simp
            exact ⟨rfl, hs⟩
          · intro D vals act wx hu h hs
            have e31 : act.eval (.tmp 31) = vals 4 := h.val 4 31 (by kernel_rfl)
            have e36 : act.eval (.tmp 36) = .slice ba bn bc := h.q 9 36 (by kernel_rfl) rfl
            clear h
            obtain ⟨hg, hP, hb, hx⟩ := hs
            have hsz := hg.2.2.lt
            obtain ⟨a4, n4, c4, h4, hn4, ho4⟩ := hP.2 hu.self (hu.done 4 (by kernel_rfl))
            rw [h4] at e31
            have hn5 : n4 ≤ 2000 := by have := ho4.1; have := HLT.out.2.2; omega
            obtain ⟨v', wy, hr, hrow, hon⟩ := appP (B := (w.heap.size + 2)) _ n4 _ ho4 hn5 (.slice ba bn bc) (flatP (xs.drop (FI + 1))) (RowR.of_prs (HDR.out wx hg.1) HLT.out.2.1) (by omega)
            refine gives_of_run rfl (exec_append (.tmp 31) (.tmp 36) 22 rfl _ _ e31 e36 _ hr) ?_
            exact hide ⟨hg.only hon (fun j hj => (row_blk ho4 hj).1), row2.second hrow, bldF.not (by decide) (hu.not 11 (by decide) (by kernel_rfl)), (box2.map (hx.ne (by decide) (by decide) (hu.not 13 (by decide) (by kernel_rfl))) (fun b X h => h.only hon (fun e => row_not_blk ho4 h (by decide) e)))⟩
          · intro D vals act wx hu h hs
            have e37 : act.eval (.tmp 37) = vals 10 := h.val 10 37 (by kernel_rfl)
            clear h
            obtain ⟨hg, hP, hb, hx⟩ := hs
            obtain ⟨a6, n6, c6, h6, hn6, ho6⟩ := hP.1 (hu.done 10 (by kernel_rfl))
            have h6' := h6
            rw [h6] at e37
            have hres := (hide ⟨hg, (hP.ne (by decide) (by decide)), bldF.made (v := .agg #[.bool true, .slice a6 n6 c6, .slice none 0 0, .slice none 0 0]) (by simp only [h6]) (by simp [updV]), hx.ne (by decide) (by decide) (hu.not 13 (by decide) (by kernel_rfl))⟩ : (fun D vals W => Hid (CgB w [.bool true, .slice pa np pc, .slice ka nk kc, .slice ca nc cc] zeroC W ∧ row2 (w.heap.size + 2) 36 2 4 (flatP (xs.take FI)) 10 (flatP (xs.take FI) ++ flatP (xs.drop (FI + 1))) D vals W ∧ bldF 11 (fun vals => [.bool true, vals 10, .slice none 0 0, .slice none 0 0]) D vals ∧ box2 (w.heap.size + 2) 12 13 (fun vals => [.bool true, vals 10, .slice none 0 0, .slice none 0 0]) D vals W)) (upD D 11) (updV vals 11 (.agg #[.bool true, .slice a6 n6 c6, .slice none 0 0, .slice none 0 0])) wx)
            clear hg hb hx hP 
            refine gives_by rfl act.eval rfl ?_
            generalize act.eval = ρ at *
            intro hf hc
            go_simp
            exact hres
          · intro D vals act wx hu h hs
            clear h
            obtain ⟨hg, hP, hb, hx⟩ := hs
            have hsz := hg.2.2.lt
            have hof : Only (fun _ => False) wx (wx.alloc (.cells #[.bool false, .slice none 0 0, .slice none 0 0, .slice none 0 0] 26)) := (Only.refl _ wx).alloc _
            have hres := (hide ⟨hg.keep hof, (row2.map (hP.ne (by decide) (by decide)) (fun cs v h => h.keep hof)), hb.ne (by decide) (by simp [updV]), box2.made (by decide) (hu.not 13 (by decide) (by kernel_rfl)) (by omega) (Blk.new wx _ _)⟩ : (fun D vals W => Hid (CgB w [.bool true, .slice pa np pc, .slice ka nk kc, .slice ca nc cc] zeroC W ∧ row2 (w.heap.size + 2) 36 2 4 (flatP (xs.take FI)) 10 (flatP (xs.take FI) ++ flatP (xs.drop (FI + 1))) D vals W ∧ bldF 11 (fun vals => [.bool true, vals 10, .slice none 0 0, .slice none 0 0]) D vals ∧ box2 (w.heap.size + 2) 12 13 (fun vals => [.bool true, vals 10, .slice none 0 0, .slice none 0 0]) D vals W)) (upD D 12) (updV vals 12 (.pointer (some ⟨wx.heap.size, 0, none⟩))) (wx.alloc (.cells #[.bool false, .slice none 0 0, .slice none 0 0, .slice none 0 0] 26)))
            clear hg hb hx hP 
            refine gives_by rfl act.eval rfl ?_
            generalize act.eval = ρ at *
            intro hf hc
            go_simp
            exact hres
          · intro D vals act wx hu h hs
            have e8 : act.eval (.tmp 8) = vals 12 := h.val 12 8 (by kernel_rfl)
            have e38 : act.eval (.tmp 38) = vals 11 := h.val 11 38 (by kernel_rfl)
            clear h
            obtain ⟨hg, hP, hb, hx⟩ := hs
            obtain ⟨b8, hb1, hb2, hb3⟩ := hx (hu.done 12 (by kernel_rfl))
            rw [if_neg (by rw [hu.self]; exact Bool.false_ne_true)] at hb3
            have hbv := hb (hu.done 11 (by kernel_rfl))
            obtain ⟨a6, n6, c6, h6, hn6, ho6⟩ := hP.1 (hu.done 10 (by kernel_rfl))
            simp only [h6] at hbv
            rw [hbv] at e38
            rw [hb1] at e8
            obtain ⟨⟨d0, d1', d2, d3⟩, k0, k1, k2, k3⟩ := node_cells hb3
            have ho := laidN_only wx b8 (.bool true) (.slice a6 n6 c6) (.slice none 0 0) (.slice none 0 0)
            have hlay := laidN_blk hb3 (.bool true) (.slice a6 n6 c6) (.slice none 0 0) (.slice none 0 0)
            have hres := (hide ⟨hg.only ho (fun j hj => by subst hj; exact hb2), (row2.map (hP.ne (by decide) (by decide)) (fun cs v h => h.box hb3 (by decide) ho)), hb.ne (by decide) (by simp [updV]), box2.filled (by decide) hb1 hb2 (by simp [updV]) (by simp only [h6]; exact hlay)⟩ : (fun D vals W => Hid (CgB w [.bool true, .slice pa np pc, .slice ka nk kc, .slice ca nc cc] zeroC W ∧ row2 (w.heap.size + 2) 36 2 4 (flatP (xs.take FI)) 10 (flatP (xs.take FI) ++ flatP (xs.drop (FI + 1))) D vals W ∧ bldF 11 (fun vals => [.bool true, vals 10, .slice none 0 0, .slice none 0 0]) D vals ∧ box2 (w.heap.size + 2) 12 13 (fun vals => [.bool true, vals 10, .slice none 0 0, .slice none 0 0]) D vals W)) (upD D 13) (updV vals 13 undef) (laidN wx b8 (.bool true) (.slice a6 n6 c6) (.slice none 0 0) (.slice none 0 0)))
            clear hg hb hx hlay hbv ho hP 
            refine gives_by rfl act.eval rfl ?_
            generalize act.eval = ρ at *
            intro hf hc
            go_simp
            exact hres
        · intro D vals w5 hq5 hD hs
          obtain ⟨hg, hP, hb, hx⟩ := hs
          obtain ⟨a6, n6, c6, h6, hn6, ho6⟩ := hP.1 (hD 10 (by decide))
          obtain ⟨b8, hb1, hb2, hb3⟩ := hx (hD 12 (by decide))
          rw [if_pos (hD 13 (by decide))] at hb3
          simp only [h6] at hb3
          have HG5 := hide hg
          have HX5 := hide hb3
          have HO6 := hide ho6
          obtain ⟨⟨z0, z1, z2, z3⟩, _⟩ := node_cells hb3
          clear hq5 hD hg hb hx hb3 hP  ho6
          simp only [putAll, Act.put, List.setIfInBounds_toArray, List.set_cons_zero, List.set_cons_succ, Nat.zero_add, Nat.reduceAdd, hb1]
          have HGD := hide (good_tup (B := w.heap.size + 2) (HND.out w5 a6 n6 c6 HG5.out.1 HO6.out) HQD.out (by have := HG5.out.2.2.lt; omega))
          generalize ownE DN = OE at *
          generalize ownN DN = ON at *
          go_wp2_with (first
            | (go_at_call 75; refine HGD.out.mono ?_; rintro e w6 ⟨l6, p6, m6, c6', kx6, mk6, kc6, q6, mq6, qc6, rfl, hn6, hb6⟩; have HG6 := hide (HG5.out.grow hb6); have HN6 := hide hn6; obtain ⟨⟨d0, d1, d2, d3⟩, k0, k1, k2, k3⟩ := node_cells HG6.out.2.2; clear HGD hb6 hn6))
          (try simp only [Exit.inBlock, Exit.then])
          refine bodyPost_ret (ret_node1 rfl _ _ (w.heap.size + 1) _ _ _ _ _ rfl rfl (laidN_blk HG6.out.2.2 _ _ _ _)) rfl ?_
          exact cg_yes HG6.out _ HN6.out

end Go.Proofs.Ytoamdbjailpgdaa
