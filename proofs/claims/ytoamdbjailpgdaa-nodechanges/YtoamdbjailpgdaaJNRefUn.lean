/- Contracts: the document's Unset and Shrink. -/
import Derived.Test.YtoamdbjailpgdaaJRegionE
import Derived.Test.YtoamdbjailpgdaaJNGood
import Derived.Test.YtoamdbjailpgdaaJNRefF
import Derived.Test.YtoamdbjailpgdaaJNCg
namespace Go.Proofs.Ytoamdbjailpgdaa
set_option maxRecDepth 20000
open Go.RowKit Go.Shelf
set_option linter.unusedVariables false
set_option linter.unusedSimpArgs false
set_option maxRecDepth 100000
attribute [local go_sem] Oper.semAt_some

theorem good_tup {w : World} {B : Nat} {v : Value} {n : Nd} (h : NdV w v n) (hq : n.ks.length + n.cs.length ≤ 9223372036854775807) (hB : B ≤ w.heap.size) : Calls Try.prog 75 #[v] w fun e w' => ∃ l p m c kx mk kc q mq qc, e = .returned (.tuple #[.agg #[.bool l, .slice p m c, .slice kx mk kc, .slice q mq qc], .int .i64 (ownE n)]) ∧ NdN w' B (.agg #[.bool l, .slice p m c, .slice kx mk kc, .slice q mq qc]) (ownN n) ∧ Below w.heap.size w w' := by
  refine (good_any w v n h hq).mono ?_
  rintro e w' ⟨u, rfl, hn, hb⟩
  obtain ⟨pa, np, pc, ka, nk, kc, ca, nc, cc, rfl⟩ := hn.form
  exact ⟨_, _, _, _, _, _, _, _, _, _, rfl, hn.le hB, hb⟩

set_option maxHeartbeats 1500000 in
theorem refUnset_any (w : World) (v : Value) (n : Nd) (h : NdV w v n) (kv : Value) (key : List Int) (hkv : Sl w kv key) (hq : n.ks.length + n.cs.length ≤ 9223372036854775807) :
    Calls Try.prog 34 #[v, kv] w (GivesN w (unsetN n key) (unsetE n key)) := by
  have HM : Hid (∀ w1, Below w.heap.size w w1 → Calls Try.prog 25 #[v] w1 fun e w' => e = .returned (.bool (mayN n)) ∧ Below w1.heap.size w1 w') := fun w1 hb => refMay_any w1 v n (h.below hb) hq
  have HNN : Hid (unsetN n key = if leafB n then (if findB n key then ownN (delN n key) else noNd) else noNd) := rfl
  have HEE : Hid (unsetE n key = if leafB n then (if findB n key then ownE (delN n key) else 4) else 100) := rfl
  have HFD : Hid (∀ w1, Below w.heap.size w w1 → Calls Try.prog 24 #[v, kv] w1 fun e w' => e = .returned (.tuple #[.int .i64 (findN n key), .bool (findB n key)]) ∧ Below w1.heap.size w1 w') := fun w1 hb => refFind_any w1 v n (h.below hb) kv key (hkv.below hb) hq
  have HDN : Hid (delN n key = ⟨true, n.ps.take (findN n key) ++ n.ps.drop (findN n key + 1), [], []⟩) := rfl
  have HFL := hide (@find_le n key)
  have hza : ∀ wx : World, (zeroValue 26).run Try.prog wx = .ok (.agg #[.bool false, .slice none 0 0, .slice none 0 0, .slice none 0 0]) wx := fun wx => by kernel_rfl
  have HIN : Hid (innerB n = true → 1 ≤ n.ks.length ∧ n.ks.length ≤ 255 ∧ n.cs.length = n.ks.length + 1) := fun h => by have := innerB_ps h; omega
  have HLN : Hid (leafB n = true → n.ps.length ≤ 255) := fun h => (leafB_ps h).1
  have HLF : Hid (innerB n = true → n.lf = false) := innerB_lf
  have HLL : Hid (leafB n = true → n.lf = true) := leafB_lf
  have HMI : Hid (n.lf = false → mayN n = innerB n) := mayN_in
  have HML : Hid (n.lf = true → mayN n = leafB n) := mayN_lf
  have HMO : Hid (mayN n = (leafB n || innerB n)) := rfl
  obtain ⟨pa, pc, ka, kc, ca, cc, xs, ys, rfl, hp1, hk1, hc1, hp2, hk2, hc2, hP, hK, hC⟩ := h.open
  have HP := hide hP
  have HK := hide hK
  have HC := hide hC
  obtain ⟨a1, n1, c1, rfl⟩ := sl_form hkv
  unfold ndv at HM HFD ⊢
  obtain ⟨lf, hlf⟩ : ∃ b, n.lf = b := ⟨_, rfl⟩
  obtain ⟨np, hnp⟩ : ∃ m, n.ps.length = m := ⟨_, rfl⟩
  obtain ⟨nk, hnk⟩ : ∃ m, n.ks.length = m := ⟨_, rfl⟩
  obtain ⟨nc, hnc⟩ : ∃ m, n.cs.length = m := ⟨_, rfl⟩
  have HNP := hide hnp
  have HNK := hide hnk
  have HNC := hide hnc
  have HF0 := hide hlf
  rw [hnp, hnk, hnc, hlf] at HM HFD
  rw [hnp] at HLN HP hp1
  rw [hnk, hnc] at HIN
  rw [hnk] at HK hk1
  rw [hnc] at HC hc1
  rw [hlf] at HLF HLL HMI HML
  rw [hnp, hnk, hnc, hlf]
  obtain ⟨w1, hw1, hcg⟩ := cg_new w (.bool lf) (.slice pa np pc) (.slice ka nk kc) (.slice ca nc cc)
  have HG1 := hide hcg
  obtain ⟨⟨z0, z1, z2, z3⟩, _⟩ := node_cells hcg.2.1
  clear h hP hK hC hcg hnp hnk hnc hlf
  cases hm : mayN n with
  | false =>
    have hib : leafB n = false := by
      have := HMO.out
      rw [hm] at this
      revert this
      cases leafB n <;> cases innerB n <;> simp
    rw [hib] at HNN HEE
    rw [hm] at HM
    simp only [Bool.false_eq_true, if_false] at HNN HEE
    rw [HNN.out, HEE.out]
    clear HNN HEE
    go_enter Try.func34, Try.ntmps34
    go_wp2_with (first
      | (go_at_call 25; refine (HM.out w1 HG1.out.1).mono ?_; rintro e w2 ⟨rfl, hb2⟩; have HG2 := hide (HG1.out.grow hb2); (try clear z0 z1 z2 z3); (try clear d0 d1 d2 d3 k0 k1 k2 k3); obtain ⟨⟨z0, z1, z2, z3⟩, _⟩ := node_cells HG2.out.2.1; obtain ⟨⟨d0, d1, d2, d3⟩, k0, k1, k2, k3⟩ := node_cells HG2.out.2.2; clear HM hb2))
    (try simp only [Exit.inBlock, Exit.then])
    refine bodyPost_ret (ret_node1 rfl _ _ (w.heap.size + 1) _ _ _ _ _ rfl rfl (laidN_blk HG2.out.2.2 _ _ _ _)) rfl ?_
    exact cg_no HG2.out _ _ _ _ _ rfl
  | true =>
    cases lf with
    | false =>
      have hib : leafB n = false := by
        cases hq9 : leafB n with
        | false => rfl
        | true => have := HLL.out hq9; cases this
      rw [hib] at HNN HEE
      rw [hm] at HM
      simp only [Bool.false_eq_true, if_false] at HNN HEE
      rw [HNN.out, HEE.out]
      clear HNN HEE
      go_enter Try.func34, Try.ntmps34
      go_wp2_with (first
        | (go_at_call 25; refine (HM.out w1 HG1.out.1).mono ?_; rintro e w2 ⟨rfl, hb2⟩; have HG2 := hide (HG1.out.grow hb2); (try clear z0 z1 z2 z3); (try clear d0 d1 d2 d3 k0 k1 k2 k3); obtain ⟨⟨z0, z1, z2, z3⟩, _⟩ := node_cells HG2.out.2.1; obtain ⟨⟨d0, d1, d2, d3⟩, k0, k1, k2, k3⟩ := node_cells HG2.out.2.2; clear HM hb2))
      (try simp only [Exit.inBlock, Exit.then])
      refine bodyPost_ret (ret_node1 rfl _ _ (w.heap.size + 1) _ _ _ _ _ rfl rfl (laidN_blk HG2.out.2.2 _ _ _ _)) rfl ?_
      exact cg_no HG2.out _ _ _ _ _ rfl
    | true =>
      have hib : leafB n = true := by rw [← HML.out rfl]; exact hm
      rw [hib] at HNN HEE
      rw [hm] at HM
      simp only [if_true] at HNN HEE
      obtain ⟨hF1, hF2⟩ := HFL.out hib
      have hnp5 := HLN.out hib
      rw [HNP.out] at hF1 hF2
      cases hFB : findB n key with
      | false =>
        rw [hFB] at HNN HEE HFD
        simp only [Bool.false_eq_true, if_false] at HNN HEE
        rw [HNN.out, HEE.out]
        clear HNN HEE
        go_enter Try.func34, Try.ntmps34
        go_wp2_with (first
          | (go_at_call 25; refine (HM.out w1 HG1.out.1).mono ?_; rintro e w2 ⟨rfl, hb2⟩; have HG2 := hide (HG1.out.grow hb2); (try clear z0 z1 z2 z3); (try clear d0 d1 d2 d3 k0 k1 k2 k3); obtain ⟨⟨z0, z1, z2, z3⟩, _⟩ := node_cells HG2.out.2.1; obtain ⟨⟨d0, d1, d2, d3⟩, k0, k1, k2, k3⟩ := node_cells HG2.out.2.2; clear HM hb2)
          | (go_at_call 24; refine (HFD.out w2 HG2.out.1).mono ?_; rintro e w4 ⟨rfl, hb4⟩; have HG4 := hide (HG2.out.grow hb4); (try clear z0 z1 z2 z3); (try clear d0 d1 d2 d3 k0 k1 k2 k3); obtain ⟨⟨z0, z1, z2, z3⟩, _⟩ := node_cells HG4.out.2.1; obtain ⟨⟨d0, d1, d2, d3⟩, k0, k1, k2, k3⟩ := node_cells HG4.out.2.2; clear HFD hb4))
        (try simp only [Exit.inBlock, Exit.then])
        refine bodyPost_ret (ret_node1 rfl _ _ (w.heap.size + 1) _ _ _ _ _ rfl rfl (laidN_blk HG4.out.2.2 _ _ _ _)) rfl ?_
        exact cg_no HG4.out _ _ _ _ _ rfl
      | true =>
        have hF3 := hF2 hFB
        rw [hFB] at HNN HEE HFD
        simp only [if_true] at HNN HEE
        rw [HNN.out, HEE.out]
        clear HNN HEE
        generalize findN n key = FI at *
        have HCT := hide (fun wx => cut_head (P := Try.prog) 22 36 2 Try.underlying22 sizePair pa np pc FI (by omega) (by unfold maxLen; omega) wx)
        obtain ⟨ba, bc, hlo, hB, hbc1, hbc2⟩ := HP.out.low HNP.out (FI + 1) (by omega)
        have HLO : Hid (∀ wx, (Instr.slice 22 (.slice pa np pc) (some (.int .i64 (FI + 1 : Int))) none none).run Try.prog wx = .ok (.slice ba (np - (FI + 1)) bc) wx) := fun wx => by
          have := hlo wx
          rwa [show ((FI + 1 : Nat) : Int) = (FI + 1 : Int) by omega] at this
        obtain ⟨bn, hbn⟩ : ∃ m, np - (FI + 1) = m := ⟨_, rfl⟩
        rw [hbn] at HLO hB
        have HTK : Hid (∀ W, Below w.heap.size w W → Prs W (.slice pa FI pc) (xs.take FI) (n.ps.take FI)) := fun W hb => by
          have := HP.out.below hb
          rw [← HNP.out] at this
          exact this.take FI pc (by rw [HNP.out]; omega) (by omega) (by unfold maxLen; omega)
        have HDR : Hid (∀ W, Below w.heap.size w W → Prs W (.slice ba bn bc) (xs.drop (FI + 1)) (n.ps.drop (FI + 1))) := fun W hb => hB W (HP.out.below hb)
        obtain ⟨DN, hDN⟩ : ∃ x, x = delN n key := ⟨_, rfl⟩
        rw [← hDN] at HDN ⊢
        have HLT : Hid ((n.ps.take FI).length ≤ 1000 ∧ (n.ps.drop (FI + 1)).length ≤ 1000 ∧ (flatP (xs.take FI)).length ≤ 1000) := by
          have := HNP.out
          have := HP.out.1
          show _ ∧ _ ∧ _
          rw [flatP_len, List.length_take, List.length_take, List.length_drop]
          omega
        have HQD : Hid (DN.ks.length + DN.cs.length ≤ 9223372036854775807) := by show _ ≤ _; rw [HDN.out]; exact Nat.zero_le _
        have HND : Hid (∀ wx a m c, Below w.heap.size w wx → wx.ownsRow (w.heap.size + 2) 36 2 (.slice a m c) m (flatP (xs.take FI) ++ flatP (xs.drop (FI + 1))) → NdV wx (.agg #[.bool true, .slice a m c, .slice none 0 0, .slice none 0 0]) DN) := fun wx a m c hbw ho => by
          rw [← flatP_append] at ho
          have hm : m = (xs.take FI ++ xs.drop (FI + 1)).length := by have := ho.1; rw [flatP_len] at this; omega
          subst hm
          rw [HDN.out]
          refine ⟨_, _, _, xs.take FI ++ xs.drop (FI + 1), [], rfl, prs_own ho ?_ ?_, Bss.nil _, Is.nil' _⟩
          · show _ = (n.ps.take FI ++ n.ps.drop (FI + 1)).length
            rw [List.length_append, List.length_append, (HTK.out wx hbw).1, (HDR.out wx hbw).1]
          · exact texts_append (HTK.out wx hbw).1 (HTK.out wx hbw).texts (HDR.out wx hbw).texts
        clear hB hlo hbn hDN HDN HFL
        go_enter Try.func34, Try.ntmps34
        go_wp2_with (first
          | (go_at_call 25; refine (HM.out w1 HG1.out.1).mono ?_; rintro e w2 ⟨rfl, hb2⟩; have HG2 := hide (HG1.out.grow hb2); (try clear z0 z1 z2 z3); (try clear d0 d1 d2 d3 k0 k1 k2 k3); obtain ⟨⟨z0, z1, z2, z3⟩, _⟩ := node_cells HG2.out.2.1; obtain ⟨⟨d0, d1, d2, d3⟩, k0, k1, k2, k3⟩ := node_cells HG2.out.2.2; clear HM hb2)
          | (go_at_call 24; refine (HFD.out w2 HG2.out.1).mono ?_; rintro e w4 ⟨rfl, hb4⟩; have HG4 := hide (HG2.out.grow hb4); (try clear z0 z1 z2 z3); (try clear d0 d1 d2 d3 k0 k1 k2 k3); obtain ⟨⟨z0, z1, z2, z3⟩, _⟩ := node_cells HG4.out.2.1; obtain ⟨⟨d0, d1, d2, d3⟩, k0, k1, k2, k3⟩ := node_cells HG4.out.2.2; clear HFD hb4))
        refine wp_region_set [some (.pointer (some ⟨w.heap.size, 1, none⟩)), some (.slice pa np pc), some (.int .i64 (FI : Int)), some (.slice pa FI pc), none, some (.pointer (some ⟨w.heap.size, 1, none⟩)), some (.slice pa np pc), some (.int .i64 (FI : Int)), some (.int .i64 (FI + 1 : Int)), some (.slice ba bn bc), none, none, none, none] [4, 10, 11, 12, 13] (fun D vals W => Hid (CgB w [.bool true, .slice pa np pc, .slice ka nk kc, .slice ca nc cc] zeroC W ∧ row2 (w.heap.size + 2) 36 2 4 (flatP (xs.take FI)) 10 (flatP (xs.take FI) ++ flatP (xs.drop (FI + 1))) D vals W ∧ bldF 11 (fun vals => [.bool true, vals 10, .slice none 0 0, .slice none 0 0]) D vals ∧ box2 (w.heap.size + 2) 12 13 (fun vals => [.bool true, vals 10, .slice none 0 0, .slice none 0 0]) D vals W)) 43 (by kernel_rfl) (by kernel_rfl) (by kernel_rfl) (by kernel_rfl) rfl ?_ ?_ ?_ ?_
        · exact fun vals0 => hide ⟨HG4.out.keep ((Only.refl _ w4).drew), row2.none, bldF.none, box2.none⟩
        · exact fun D D' vals vals' W hv hs => by obtain ⟨hg, hP, hb, hx⟩ := hs; exact hide ⟨hg, (hP.ind (hv 4 (by decide)) (hv 10 (by decide))), hb.ind (hv 11 (by decide)) (by simp only [(hv 10 (by decide)).2]), hx.ind (hv 12 (by decide)) (hv 13 (by decide)).1 (by simp only [(hv 10 (by decide)).2])⟩
        · refine ⟨?_, ?_, ?_, ?_, ?_, ?_, ?_, ?_, ?_, ?_, ?_, ?_, ?_, ?_, trivial⟩
          · intro D vals act wx hu h hs
            have e2 : act.eval (.tmp 2) = .pointer (some ⟨w.heap.size, 0, none⟩) := h.old 2 (by kernel_rfl)
            clear h
            refine gives_by rfl act.eval rfl ?_
            generalize act.eval = ρ at *
            intro hf hc
            go_simp
            exact ⟨rfl, hs⟩
          · intro D vals act wx hu h hs
            have e27 : act.eval (.tmp 27) = .pointer (some ⟨w.heap.size, 1, none⟩) := h.q 0 27 (by kernel_rfl) rfl
            clear h
            obtain ⟨⟨x0, x1, x2, x3⟩, _⟩ := node_cells hs.out.1.2.1
            refine gives_by rfl act.eval rfl ?_
            generalize act.eval = ρ at *
            intro hf hc
            go_simp
            exact ⟨rfl, hs⟩
          · intro D vals act wx hu h hs
            have e6 : act.eval (.tmp 6) = .int .i64 (FI : Int) := h.old 6 (by kernel_rfl)
            clear h
            refine gives_by rfl act.eval rfl ?_
            generalize act.eval = ρ at *
            intro hf hc
            go_simp
            exact ⟨rfl, hs⟩
          · intro D vals act wx hu h hs
            have e28 : act.eval (.tmp 28) = .slice pa np pc := h.q 1 28 (by kernel_rfl) rfl
            have e29 : act.eval (.tmp 29) = .int .i64 (FI : Int) := h.q 2 29 (by kernel_rfl) rfl
            clear h
            have hct := HCT.out wx
            refine gives_by rfl act.eval rfl ?_
            generalize act.eval = ρ at *
            intro hf hc
            go_simp
            exact ⟨rfl, hs⟩
          · intro D vals act wx hu h hs
            have e30 : act.eval (.tmp 30) = .slice pa FI pc := h.q 3 30 (by kernel_rfl) rfl
            clear h
            obtain ⟨hg, hP, hb, hx⟩ := hs
            have hsz := hg.2.2.lt
            obtain ⟨v', wy, hr, hrow, hon⟩ := appP (B := (w.heap.size + 2)) (.slice none 0 0) 0 [] (World.ownsRow_nil _ _ _ _) (by omega) (.slice pa FI pc) (flatP (xs.take FI)) (RowR.of_prs (HTK.out wx hg.1) HLT.out.1) (by omega)
            rw [List.nil_append] at hrow
            have hof : Only (fun _ => False) wx wy := hon.mono (fun _ _ h => (by cases h))
            refine gives_of_run rfl (exec_append (.const (.slice none 0 0)) (.tmp 30) 22 rfl _ _ rfl e30 _ hr) ?_
            exact hide ⟨hg.keep hof, row2.first (by decide) (hu.not 10 (by decide) (by kernel_rfl)) hrow, bldF.not (by decide) (hu.not 11 (by decide) (by kernel_rfl)), (box2.map (hx.ne (by decide) (by decide) (hu.not 13 (by decide) (by kernel_rfl))) (fun b X h => h.only hof (fun h => h)))⟩
          · intro D vals act wx hu h hs
            have e2 : act.eval (.tmp 2) = .pointer (some ⟨w.heap.size, 0, none⟩) := h.old 2 (by kernel_rfl)
            clear h
            refine gives_by rfl act.eval rfl ?_
            generalize act.eval = ρ at *
            intro hf hc
            go_simp
            exact ⟨rfl, hs⟩
          · intro D vals act wx hu h hs
            have e32 : act.eval (.tmp 32) = .pointer (some ⟨w.heap.size, 1, none⟩) := h.q 5 32 (by kernel_rfl) rfl
            clear h
            obtain ⟨⟨x0, x1, x2, x3⟩, _⟩ := node_cells hs.out.1.2.1
            refine gives_by rfl act.eval rfl ?_
            generalize act.eval = ρ at *
            intro hf hc
            go_simp
            exact ⟨rfl, hs⟩
          · intro D vals act wx hu h hs
            have e6 : act.eval (.tmp 6) = .int .i64 (FI : Int) := h.old 6 (by kernel_rfl)
            clear h
            refine gives_by rfl act.eval rfl ?_
            generalize act.eval = ρ at *
            intro hf hc
            go_simp
            exact ⟨rfl, hs⟩
          · intro D vals act wx hu h hs
            have e34 : act.eval (.tmp 34) = .int .i64 (FI : Int) := h.q 7 34 (by kernel_rfl) rfl
            clear h
            refine gives_by rfl act.eval rfl ?_
            generalize act.eval = ρ at *
            intro hf hc
            go_simp
            rw [IntWalk.i64_in _ (by omega)]
            exact ⟨rfl, hs⟩
          · intro D vals act wx hu h hs
            have e33 : act.eval (.tmp 33) = .slice pa np pc := h.q 6 33 (by kernel_rfl) rfl
            have e35 : act.eval (.tmp 35) = .int .i64 (FI + 1 : Int) := h.q 8 35 (by kernel_rfl) rfl
            clear h
            have hlo := HLO.out wx
            refine gives_by rfl act.eval rfl ?_
            generalize act.eval = ρ at *
            intro hf hc
            go_simp
            exact ⟨rfl, hs⟩
          · intro D vals act wx hu h hs
            have e31 : act.eval (.tmp 31) = vals 4 := h.val 4 31 (by kernel_rfl)
            have e36 : act.eval (.tmp 36) = .slice ba bn bc := h.q 9 36 (by kernel_rfl) rfl
            clear h
            obtain ⟨hg, hP, hb, hx⟩ := hs
            have hsz := hg.2.2.lt
            obtain ⟨a4, n4, c4, h4, hn4, ho4⟩ := hP.2 hu.self (hu.done 4 (by kernel_rfl))
            rw [h4] at e31
            have hn5 : n4 ≤ 2000 := by have := ho4.1; have := HLT.out.2.2; omega
            obtain ⟨v', wy, hr, hrow, hon⟩ := appP (B := (w.heap.size + 2)) _ n4 _ ho4 hn5 (.slice ba bn bc) (flatP (xs.drop (FI + 1))) (RowR.of_prs (HDR.out wx hg.1) HLT.out.2.1) (by omega)
            refine gives_of_run rfl (exec_append (.tmp 31) (.tmp 36) 22 rfl _ _ e31 e36 _ hr) ?_
            exact hide ⟨hg.only hon (fun j hj => (row_blk ho4 hj).1), row2.second hrow, bldF.not (by decide) (hu.not 11 (by decide) (by kernel_rfl)), (box2.map (hx.ne (by decide) (by decide) (hu.not 13 (by decide) (by kernel_rfl))) (fun b X h => h.only hon (fun e => row_not_blk ho4 h (by decide) e)))⟩
          · intro D vals act wx hu h hs
            have e37 : act.eval (.tmp 37) = vals 10 := h.val 10 37 (by kernel_rfl)
            clear h
            obtain ⟨hg, hP, hb, hx⟩ := hs
            obtain ⟨a6, n6, c6, h6, hn6, ho6⟩ := hP.1 (hu.done 10 (by kernel_rfl))
            have h6' := h6
            rw [h6] at e37
            have hres := (hide ⟨hg, (hP.ne (by decide) (by decide)), bldF.made (v := .agg #[.bool true, .slice a6 n6 c6, .slice none 0 0, .slice none 0 0]) (by simp only [h6]) (by simp [updV]), hx.ne (by decide) (by decide) (hu.not 13 (by decide) (by kernel_rfl))⟩ : (fun D vals W => Hid (CgB w [.bool true, .slice pa np pc, .slice ka nk kc, .slice ca nc cc] zeroC W ∧ row2 (w.heap.size + 2) 36 2 4 (flatP (xs.take FI)) 10 (flatP (xs.take FI) ++ flatP (xs.drop (FI + 1))) D vals W ∧ bldF 11 (fun vals => [.bool true, vals 10, .slice none 0 0, .slice none 0 0]) D vals ∧ box2 (w.heap.size + 2) 12 13 (fun vals => [.bool true, vals 10, .slice none 0 0, .slice none 0 0]) D vals W)) (upD D 11) (updV vals 11 (.agg #[.bool true, .slice a6 n6 c6, .slice none 0 0, .slice none 0 0])) wx)
            clear hg hb hx hP 
            refine gives_by rfl act.eval rfl ?_
            generalize act.eval = ρ at *
            intro hf hc
            go_simp
            exact hres
          · intro D vals act wx hu h hs
            clear h
            obtain ⟨hg, hP, hb, hx⟩ := hs
            have hsz := hg.2.2.lt
            have hof : Only (fun _ => False) wx (wx.alloc (.cells #[.bool false, .slice none 0 0, .slice none 0 0, .slice none 0 0] 26)) := (Only.refl _ wx).alloc _
            have hres := (hide ⟨hg.keep hof, (row2.map (hP.ne (by decide) (by decide)) (fun cs v h => h.keep hof)), hb.ne (by decide) (by simp [updV]), box2.made (by decide) (hu.not 13 (by decide) (by kernel_rfl)) (by omega) (Blk.new wx _ _)⟩ : (fun D vals W => Hid (CgB w [.bool true, .slice pa np pc, .slice ka nk kc, .slice ca nc cc] zeroC W ∧ row2 (w.heap.size + 2) 36 2 4 (flatP (xs.take FI)) 10 (flatP (xs.take FI) ++ flatP (xs.drop (FI + 1))) D vals W ∧ bldF 11 (fun vals => [.bool true, vals 10, .slice none 0 0, .slice none 0 0]) D vals ∧ box2 (w.heap.size + 2) 12 13 (fun vals => [.bool true, vals 10, .slice none 0 0, .slice none 0 0]) D vals W)) (upD D 12) (updV vals 12 (.pointer (some ⟨wx.heap.size, 0, none⟩))) (wx.alloc (.cells #[.bool false, .slice none 0 0, .slice none 0 0, .slice none 0 0] 26)))
            clear hg hb hx hP 
            refine gives_by rfl act.eval rfl ?_
            generalize act.eval = ρ at *
            intro hf hc
            go_simp
            exact hres
          · intro D vals act wx hu h hs
            have e8 : act.eval (.tmp 8) = vals 12 := h.val 12 8 (by kernel_rfl)
            have e38 : act.eval (.tmp 38) = vals 11 := h.val 11 38 (by kernel_rfl)
            clear h
            obtain ⟨hg, hP, hb, hx⟩ := hs
            obtain ⟨b8, hb1, hb2, hb3⟩ := hx (hu.done 12 (by kernel_rfl))
            rw [if_neg (by rw [hu.self]; exact Bool.false_ne_true)] at hb3
            have hbv := hb (hu.done 11 (by kernel_rfl))
            obtain ⟨a6, n6, c6, h6, hn6, ho6⟩ := hP.1 (hu.done 10 (by kernel_rfl))
            simp only [h6] at hbv
            rw [hbv] at e38
            rw [hb1] at e8
            obtain ⟨⟨d0, d1', d2, d3⟩, k0, k1, k2, k3⟩ := node_cells hb3
            have ho := laidN_only wx b8 (.bool true) (.slice a6 n6 c6) (.slice none 0 0) (.slice none 0 0)
            have hlay := laidN_blk hb3 (.bool true) (.slice a6 n6 c6) (.slice none 0 0) (.slice none 0 0)
            have hres := (hide ⟨hg.only ho (fun j hj => by subst hj; exact hb2), (row2.map (hP.ne (by decide) (by decide)) (fun cs v h => h.box hb3 (by decide) ho)), hb.ne (by decide) (by simp [updV]), box2.filled (by decide) hb1 hb2 (by simp [updV]) (by simp only [h6]; exact hlay)⟩ : (fun D vals W => Hid (CgB w [.bool true, .slice pa np pc, .slice ka nk kc, .slice ca nc cc] zeroC W ∧ row2 (w.heap.size + 2) 36 2 4 (flatP (xs.take FI)) 10 (flatP (xs.take FI) ++ flatP (xs.drop (FI + 1))) D vals W ∧ bldF 11 (fun vals => [.bool true, vals 10, .slice none 0 0, .slice none 0 0]) D vals ∧ box2 (w.heap.size + 2) 12 13 (fun vals => [.bool true, vals 10, .slice none 0 0, .slice none 0 0]) D vals W)) (upD D 13) (updV vals 13 undef) (laidN wx b8 (.bool true) (.slice a6 n6 c6) (.slice none 0 0) (.slice none 0 0)))
            clear hg hb hx hlay hbv ho hP 
            refine gives_by rfl act.eval rfl ?_
            generalize act.eval = ρ at *
            intro hf hc
            go_simp
            exact hres
        · intro D vals w5 hq5 hD hs
          obtain ⟨hg, hP, hb, hx⟩ := hs
          obtain ⟨a6, n6, c6, h6, hn6, ho6⟩ := hP.1 (hD 10 (by decide))
          obtain ⟨b8, hb1, hb2, hb3⟩ := hx (hD 12 (by decide))
          rw [if_pos (hD 13 (by decide))] at hb3
          simp only [h6] at hb3
          have HG5 := hide hg
          have HX5 := hide hb3
          have HO6 := hide ho6
          obtain ⟨⟨z0, z1, z2, z3⟩, _⟩ := node_cells hb3
          clear hq5 hD hg hb hx hb3 hP  ho6
          simp only [putAll, Act.put, List.setIfInBounds_toArray, List.set_cons_zero, List.set_cons_succ, Nat.zero_add, Nat.reduceAdd, hb1]
          have HGD := hide (good_tup (B := w.heap.size + 2) (HND.out w5 a6 n6 c6 HG5.out.1 HO6.out) HQD.out (by have := HG5.out.2.2.lt; omega))
          generalize ownE DN = OE at *
          generalize ownN DN = ON at *
          go_wp2_with (first
            | (go_at_call 75; refine HGD.out.mono ?_; rintro e w6 ⟨l6, p6, m6, c6', kx6, mk6, kc6, q6, mq6, qc6, rfl, hn6, hb6⟩; have HG6 := hide (HG5.out.grow hb6); have HN6 := hide hn6; obtain ⟨⟨d0, d1, d2, d3⟩, k0, k1, k2, k3⟩ := node_cells HG6.out.2.2; clear HGD hb6 hn6))
          (try simp only [Exit.inBlock, Exit.then])
          refine bodyPost_ret (ret_node1 rfl _ _ (w.heap.size + 1) _ _ _ _ _ rfl rfl (laidN_blk HG6.out.2.2 _ _ _ _)) rfl ?_
          exact cg_yes HG6.out _ HN6.out

end Go.Proofs.Ytoamdbjailpgdaa
/- Contract: the document's Shrink. -/
namespace Go.Proofs.Ytoamdbjailpgdaa
set_option maxRecDepth 20000
open Go.RowKit Go.Shelf
set_option linter.unusedVariables false
set_option linter.unusedSimpArgs false
set_option maxRecDepth 100000
attribute [local go_sem] Oper.semAt_some

set_option maxHeartbeats 1500000 in
theorem refShrink_any (w : World) (v : Value) (n : Nd) (h : NdV w v n) (i : Int) (hq : n.ks.length + n.cs.length ≤ 9223372036854775807) :
    Calls Try.prog 40 #[v, .int .i64 i] w (GivesN w (shrinkN n i) (shrinkE n i)) := by
  have HM : Hid (∀ w1, Below w.heap.size w w1 → Calls Try.prog 25 #[v] w1 fun e w' => e = .returned (.bool (mayN n)) ∧ Below w1.heap.size w1 w') := fun w1 hb => refMay_any w1 v n (h.below hb) hq
  have HNN : Hid (shrinkN n i = if innerB n then (if placeB i n.ks.length then ownN (lessN n i.toNat) else noNd) else noNd) := rfl
  have HEE : Hid (shrinkE n i = if innerB n then (if placeB i n.ks.length then ownE (lessN n i.toNat) else 1) else 100) := rfl
  have hza : ∀ wx : World, (zeroValue 26).run Try.prog wx = .ok (.agg #[.bool false, .slice none 0 0, .slice none 0 0, .slice none 0 0]) wx := fun wx => by kernel_rfl
  have HIN : Hid (innerB n = true → 1 ≤ n.ks.length ∧ n.ks.length ≤ 255 ∧ n.cs.length = n.ks.length + 1) := fun h => by have := innerB_ps h; omega
  have HLN : Hid (leafB n = true → n.ps.length ≤ 255) := fun h => (leafB_ps h).1
  have HLF : Hid (innerB n = true → n.lf = false) := innerB_lf
  have HLL : Hid (leafB n = true → n.lf = true) := leafB_lf
  have HMI : Hid (n.lf = false → mayN n = innerB n) := mayN_in
  have HML : Hid (n.lf = true → mayN n = leafB n) := mayN_lf
  have HMO : Hid (mayN n = (leafB n || innerB n)) := rfl
  obtain ⟨pa, pc, ka, kc, ca, cc, xs, ys, rfl, hp1, hk1, hc1, hp2, hk2, hc2, hP, hK, hC⟩ := h.open
  have HP := hide hP
  have HK := hide hK
  have HC := hide hC
  unfold ndv at HM ⊢
  obtain ⟨lf, hlf⟩ : ∃ b, n.lf = b := ⟨_, rfl⟩
  obtain ⟨np, hnp⟩ : ∃ m, n.ps.length = m := ⟨_, rfl⟩
  obtain ⟨nk, hnk⟩ : ∃ m, n.ks.length = m := ⟨_, rfl⟩
  obtain ⟨nc, hnc⟩ : ∃ m, n.cs.length = m := ⟨_, rfl⟩
  have HNP := hide hnp
  have HNK := hide hnk
  have HNC := hide hnc
  have HF0 := hide hlf
  rw [hnp, hnk, hnc, hlf] at HM
  rw [hnp] at HLN HP hp1
  rw [hnk, hnc] at HIN
  rw [hnk] at HK hk1
  rw [hnc] at HC hc1
  rw [hlf] at HLF HLL HMI HML
  rw [hnp, hnk, hnc, hlf]
  obtain ⟨w1, hw1, hcg⟩ := cg_new w (.bool lf) (.slice pa np pc) (.slice ka nk kc) (.slice ca nc cc)
  have HG1 := hide hcg
  obtain ⟨⟨z0, z1, z2, z3⟩, _⟩ := node_cells hcg.2.1
  clear h hP hK hC hcg hnp hnk hnc hlf
  cases hm : mayN n with
  | false =>
    have hib : innerB n = false := by
      have := HMO.out
      rw [hm] at this
      revert this
      cases leafB n <;> cases innerB n <;> simp
    rw [hib] at HNN HEE
    rw [hm] at HM
    simp only [Bool.false_eq_true, if_false] at HNN HEE
    rw [HNN.out, HEE.out]
    clear HNN HEE
    go_enter Try.func40, Try.ntmps40
    go_wp2_with (first
      | (go_at_call 25; refine (HM.out w1 HG1.out.1).mono ?_; rintro e w2 ⟨rfl, hb2⟩; have HG2 := hide (HG1.out.grow hb2); (try clear z0 z1 z2 z3); (try clear d0 d1 d2 d3 k0 k1 k2 k3); obtain ⟨⟨z0, z1, z2, z3⟩, _⟩ := node_cells HG2.out.2.1; obtain ⟨⟨d0, d1, d2, d3⟩, k0, k1, k2, k3⟩ := node_cells HG2.out.2.2; clear HM hb2))
    (try simp only [Exit.inBlock, Exit.then])
    refine bodyPost_ret (ret_node1 rfl _ _ (w.heap.size + 1) _ _ _ _ _ rfl rfl (laidN_blk HG2.out.2.2 _ _ _ _)) rfl ?_
    exact cg_no HG2.out _ _ _ _ _ rfl
  | true =>
    cases lf with
    | true =>
      have hib : innerB n = false := by
        cases hq9 : innerB n with
        | false => rfl
        | true => have := HLF.out hq9; cases this
      rw [hib] at HNN HEE
      rw [hm] at HM
      simp only [Bool.false_eq_true, if_false] at HNN HEE
      rw [HNN.out, HEE.out]
      clear HNN HEE
      go_enter Try.func40, Try.ntmps40
      go_wp2_with (first
        | (go_at_call 25; refine (HM.out w1 HG1.out.1).mono ?_; rintro e w2 ⟨rfl, hb2⟩; have HG2 := hide (HG1.out.grow hb2); (try clear z0 z1 z2 z3); (try clear d0 d1 d2 d3 k0 k1 k2 k3); obtain ⟨⟨z0, z1, z2, z3⟩, _⟩ := node_cells HG2.out.2.1; obtain ⟨⟨d0, d1, d2, d3⟩, k0, k1, k2, k3⟩ := node_cells HG2.out.2.2; clear HM hb2))
      (try simp only [Exit.inBlock, Exit.then])
      refine bodyPost_ret (ret_node1 rfl _ _ (w.heap.size + 1) _ _ _ _ _ rfl rfl (laidN_blk HG2.out.2.2 _ _ _ _)) rfl ?_
      exact cg_no HG2.out _ _ _ _ _ rfl
    | false =>
      have hib : innerB n = true := by rw [← HMI.out rfl]; exact hm
      rw [hib] at HNN HEE
      rw [hm] at HM
      simp only [if_true] at HNN HEE
      obtain ⟨hn1, hn2, hn3⟩ := HIN.out hib
      have hn4 : nc ≤ nk + 1 := by omega
      have hn5 : nk + 1 ≤ nc := by omega
      clear hn3
      rw [HNK.out] at HNN HEE
      cases hPB : placeB i nk with
      | true =>
        obtain ⟨K, rfl, hKm⟩ := place_nat hPB
        have hKi : (K : Int) < (nk : Int) := by omega
        rw [hPB] at HNN HEE
        simp only [if_true, Int.toNat_natCast] at HNN HEE
        rw [HNN.out, HEE.out]
        clear HNN HEE
        have HCT := hide (fun wx => cut_head (P := Try.prog) 23 34 1 Try.underlying23 sizeRowE ka nk kc K (by omega) (by unfold maxLen; omega) wx)
        have HCI0 : Hid (∀ wx, (Instr.slice 24 (.slice ca nc cc) none (some (.int .i64 (K + 1 : Int))) none).run Try.prog wx = .ok (.slice ca (K + 1) cc) wx) := fun wx => by
          have := cut_head (P := Try.prog) 24 3 1 Try.underlying24 sizeIntE ca nc cc (K + 1) (by omega) (by unfold maxLen; omega) wx
          rwa [show ((K + 1 : Nat) : Int) = (K + 1 : Int) by omega] at this
        obtain ⟨ba, bc, hlo, hB⟩ := HK.out.low HNK.out (K + 1) (by omega)
        obtain ⟨da, dc, hlo2, hB2⟩ := HC.out.low HNC.out (K + 2) (by omega)
        have HLO : Hid (∀ wx, (Instr.slice 23 (.slice ka nk kc) (some (.int .i64 (K + 1 : Int))) none none).run Try.prog wx = .ok (.slice ba (nk - (K + 1)) bc) wx) := fun wx => by
          have := hlo wx
          rwa [show ((K + 1 : Nat) : Int) = (K + 1 : Int) by omega] at this
        have HLI : Hid (∀ wx, (Instr.slice 24 (.slice ca nc cc) (some (.int .i64 (K + 2 : Int))) none none).run Try.prog wx = .ok (.slice da (nc - (K + 2)) dc) wx) := fun wx => by
          have := hlo2 wx
          rwa [show ((K + 2 : Nat) : Int) = (K + 2 : Int) by omega] at this
        obtain ⟨bn, hbn⟩ : ∃ m, nk - (K + 1) = m := ⟨_, rfl⟩
        obtain ⟨dn, hdn⟩ : ∃ m, nc - (K + 2) = m := ⟨_, rfl⟩
        rw [hbn] at HLO hB
        rw [hdn] at HLI hB2
        have HT1 : Hid (∀ W, Below w.heap.size w W → Bss W (.slice ka K kc) (ys.take K) (n.ks.take K)) := fun W hb => by
          have := HK.out.below hb
          rw [← HNK.out] at this
          exact this.take K kc (by rw [HNK.out]; omega) (by omega) (by unfold maxLen; omega)
        have HD1 : Hid (∀ W, Below w.heap.size w W → Bss W (.slice ba bn bc) (ys.drop (K + 1)) (n.ks.drop (K + 1))) := fun W hb => hB W (HK.out.below hb)
        have HT2 : Hid (∀ W, Below w.heap.size w W → Is W (.slice ca (K + 1) cc) (n.cs.take (K + 1))) := fun W hb => by
          have := HC.out.below hb
          rw [← HNC.out] at this
          exact this.take (by rw [HNC.out]; omega) cc (by omega) (by unfold maxLen; omega)
        have HD2 : Hid (∀ W, Below w.heap.size w W → Is W (.slice da dn dc) (n.cs.drop (K + 2))) := fun W hb => hB2 W (HC.out.below hb)
        obtain ⟨DN, hDN⟩ : ∃ x, x = lessN n K := ⟨_, rfl⟩
        rw [← hDN]
        have HDN : Hid (DN = ⟨false, [], n.ks.take K ++ n.ks.drop (K + 1), n.cs.take (K + 1) ++ n.cs.drop (K + 2)⟩) := hDN
        have HLT : Hid (((n.ks.take K).length ≤ 1000 ∧ (n.ks.drop (K + 1)).length ≤ 1000 ∧ (ys.take K).length ≤ 1000) ∧ (n.cs.take (K + 1)).length ≤ 1000 ∧ (n.cs.drop (K + 2)).length ≤ 1000 ∧ (iv (n.cs.take (K + 1))).length ≤ 1000) := by
          have := HNK.out
          have := HNC.out
          have := HK.out.1
          show (_ ∧ _ ∧ _) ∧ _ ∧ _ ∧ _
          simp only [iv, List.length_map, List.length_take, List.length_drop]
          omega
        have HQD : Hid (DN.ks.length + DN.cs.length ≤ 9223372036854775807) := by
          have := HNK.out
          have := HNC.out
          show _ ≤ _
          rw [HDN.out]
          simp only [List.length_append, List.length_take, List.length_drop]
          omega
        obtain ⟨KA, hKA⟩ : ∃ x, x = ys.take K := ⟨_, rfl⟩
        obtain ⟨KB, hKB⟩ : ∃ x, x = ys.drop (K + 1) := ⟨_, rfl⟩
        obtain ⟨IA, hIA⟩ : ∃ x, x = iv (n.cs.take (K + 1)) := ⟨_, rfl⟩
        obtain ⟨IB, hIB⟩ : ∃ x, x = iv (n.cs.drop (K + 2)) := ⟨_, rfl⟩
        have HR1 : Hid (∀ W, Below w.heap.size w W → RowR W 1 (.slice ka K kc) KA) := fun W hb => by rw [hKA]; exact RowR.of_bss (HT1.out W hb) HLT.out.1.1
        have HR2 : Hid (∀ W, Below w.heap.size w W → RowR W 1 (.slice ba bn bc) KB) := fun W hb => by rw [hKB]; exact RowR.of_bss (HD1.out W hb) HLT.out.1.2.1
        have HR3 : Hid (∀ W, Below w.heap.size w W → RowR W 1 (.slice ca (K + 1) cc) IA) := fun W hb => by rw [hIA]; exact RowR.of_is (HT2.out W hb) HLT.out.2.1
        have HR4 : Hid (∀ W, Below w.heap.size w W → RowR W 1 (.slice da dn dc) IB) := fun W hb => by rw [hIB]; exact RowR.of_is (HD2.out W hb) HLT.out.2.2.1
        have HL5 : Hid (KA.length ≤ 1000 ∧ IA.length ≤ 1000) := by rw [hKA, hIA]; exact ⟨HLT.out.1.2.2, HLT.out.2.2.2⟩
        have HND : Hid (∀ wx a1 n1 c1 a2 n2 c2, Below w.heap.size w wx → wx.ownsRow (w.heap.size + 2) 34 1 (.slice a1 n1 c1) n1 (KA ++ KB) → wx.ownsRow (w.heap.size + 2) 3 1 (.slice a2 n2 c2) n2 (IA ++ IB) → NdV wx (.agg #[.bool false, .slice none 0 0, .slice a1 n1 c1, .slice a2 n2 c2]) DN) := fun wx a1 n1 c1 a2 n2 c2 hbw h1 h2 => by
          rw [HDN.out]
          have h1' : wx.ownsRow (w.heap.size + 2) 34 1 (.slice a1 n1 c1) n1 (ys.take K ++ ys.drop (K + 1)) := by rw [hKA, hKB] at h1; simpa using h1
          have h2' : wx.ownsRow (w.heap.size + 2) 3 1 (.slice a2 n2 c2) n2 (iv (n.cs.take (K + 1) ++ n.cs.drop (K + 2))) := by rw [hIA, hIB] at h2; simpa [iv] using h2
          have e1 : n1 = (ys.take K ++ ys.drop (K + 1)).length := by have := h1'.1; omega
          have e2 : n2 = (n.cs.take (K + 1) ++ n.cs.drop (K + 2)).length := by have := h2'.1; rw [iv, List.length_map] at this; omega
          rw [e1] at h1' ⊢
          rw [e2] at h2' ⊢
          refine ⟨_, _, _, [], ys.take K ++ ys.drop (K + 1), rfl, Prs.nil _, bss_own h1' ?_ ?_, (show Ints wx _ _ _ from h2').is⟩
          · show _ = (n.ks.take K ++ n.ks.drop (K + 1)).length
            simp only [List.length_append, (HT1.out wx hbw).1, (HD1.out wx hbw).1, List.length_cons, List.length_nil]
          · exact keys_append (HT1.out wx hbw).1 (HT1.out wx hbw).texts (HD1.out wx hbw).texts
        clear hDN HDN hlo hlo2 hB hB2 hbn hdn hKA hKB hIA hIB HLT HT1 HT2 HD1 HD2
        go_enter Try.func40, Try.ntmps40
        go_wp2_with (first
          | (go_at_call 25; refine (HM.out w1 HG1.out.1).mono ?_; rintro e w2 ⟨rfl, hb2⟩; have HG2 := hide (HG1.out.grow hb2); (try clear z0 z1 z2 z3); (try clear d0 d1 d2 d3 k0 k1 k2 k3); obtain ⟨⟨z0, z1, z2, z3⟩, _⟩ := node_cells HG2.out.2.1; obtain ⟨⟨d0, d1, d2, d3⟩, k0, k1, k2, k3⟩ := node_cells HG2.out.2.2; clear HM hb2))
        refine wp_region_set [some (.pointer (some ⟨w.heap.size, 2, none⟩)), some (.slice ka nk kc), some (.int .i64 (K : Int)), some (.slice ka K kc), none, some (.pointer (some ⟨w.heap.size, 2, none⟩)), some (.slice ka nk kc), some (.int .i64 (K : Int)), some (.int .i64 (K + 1 : Int)), some (.slice ba bn bc), none, some (.pointer (some ⟨w.heap.size, 3, none⟩)), some (.slice ca nc cc), some (.int .i64 (K : Int)), some (.int .i64 (K + 1 : Int)), some (.slice ca (K + 1) cc), none, some (.pointer (some ⟨w.heap.size, 3, none⟩)), some (.slice ca nc cc), some (.int .i64 (K : Int)), some (.int .i64 (K + 2 : Int)), some (.slice da dn dc), none, none, none, none] [4, 10, 16, 22, 23, 24, 25] (fun D vals W => Hid (CgB w [.bool false, .slice pa np pc, .slice ka nk kc, .slice ca nc cc] zeroC W ∧ row2 (w.heap.size + 2) 34 1 4 (KA) 10 (KA ++ KB) D vals W ∧ row2 (w.heap.size + 2) 3 1 16 (IA) 22 (IA ++ IB) D vals W ∧ bldF 23 (fun vals => [.bool false, .slice none 0 0, vals 10, vals 22]) D vals ∧ box2 (w.heap.size + 2) 24 25 (fun vals => [.bool false, .slice none 0 0, vals 10, vals 22]) D vals W)) 53 (by kernel_rfl) (by kernel_rfl) (by kernel_rfl) (by kernel_rfl) rfl ?_ ?_ ?_ ?_
        · exact fun vals0 => hide ⟨HG2.out.keep ((Only.refl _ w2).drew), row2.none, row2.none, bldF.none, box2.none⟩
        · exact fun D D' vals vals' W hv hs => by obtain ⟨hg, hK, hI, hb, hx⟩ := hs; exact hide ⟨hg, (hK.ind (hv 4 (by decide)) (hv 10 (by decide))), (hI.ind (hv 16 (by decide)) (hv 22 (by decide))), hb.ind (hv 23 (by decide)) (by simp only [(hv 10 (by decide)).2, (hv 22 (by decide)).2]), hx.ind (hv 24 (by decide)) (hv 25 (by decide)).1 (by simp only [(hv 10 (by decide)).2, (hv 22 (by decide)).2])⟩
        · refine ⟨?_, ?_, ?_, ?_, ?_, ?_, ?_, ?_, ?_, ?_, ?_, ?_, ?_, ?_, ?_, ?_, ?_, ?_, ?_, ?_, ?_, ?_, ?_, ?_, ?_, ?_, trivial⟩
          · intro D vals act wx hu h hs
            have e2 : act.eval (.tmp 2) = .pointer (some ⟨w.heap.size, 0, none⟩) := h.old 2 (by kernel_rfl)
            clear h
            refine gives_by rfl act.eval rfl ?_
            generalize act.eval = ρ at *
            intro hf hc
            go_simp
            exact ⟨rfl, hs⟩
          · intro D vals act wx hu h hs
            have e25 : act.eval (.tmp 25) = .pointer (some ⟨w.heap.size, 2, none⟩) := h.q 0 25 (by kernel_rfl) rfl
            clear h
            obtain ⟨⟨x0, x1, x2, x3⟩, _⟩ := node_cells hs.out.1.2.1
            refine gives_by rfl act.eval rfl ?_
            generalize act.eval = ρ at *
            intro hf hc
            go_simp
            exact ⟨rfl, hs⟩
          · intro D vals act wx hu h hs
            have e1 : act.eval (.tmp 1) = .int .i64 (K : Int) := h.old 1 (by kernel_rfl)
            clear h
            refine gives_by rfl act.eval rfl ?_
            generalize act.eval = ρ at *
            intro hf hc
            go_simp
            exact ⟨rfl, hs⟩
          · intro D vals act wx hu h hs
            have e26 : act.eval (.tmp 26) = .slice ka nk kc := h.q 1 26 (by kernel_rfl) rfl
            have e27 : act.eval (.tmp 27) = .int .i64 (K : Int) := h.q 2 27 (by kernel_rfl) rfl
            clear h
            have hct := HCT.out wx
            refine gives_by rfl act.eval rfl ?_
            generalize act.eval = ρ at *
            intro hf hc
            go_simp
            exact ⟨rfl, hs⟩
          · intro D vals act wx hu h hs
            have e28 : act.eval (.tmp 28) = .slice ka K kc := h.q 3 28 (by kernel_rfl) rfl
            clear h
            obtain ⟨hg, hK, hI, hb, hx⟩ := hs
            have hsz := hg.2.2.lt
            obtain ⟨v', wy, hr, hrow, hon⟩ := appK (B := (w.heap.size + 2)) (.slice none 0 0) 0 [] (World.ownsRow_nil _ _ _ _) (by omega) (.slice ka K kc) (KA) (HR1.out wx hg.1) (by omega)
            rw [List.nil_append] at hrow
            have hof : Only (fun _ => False) wx wy := hon.mono (fun _ _ h => (by cases h))
            refine gives_of_run rfl (exec_append (.const (.slice none 0 0)) (.tmp 28) 23 rfl _ _ rfl e28 _ hr) ?_
            exact hide ⟨hg.keep hof, row2.first (by decide) (hu.not 10 (by decide) (by kernel_rfl)) hrow, (row2.map (hI.ne (by decide) (by decide)) (fun cs v h => h.keep hof)), bldF.not (by decide) (hu.not 23 (by decide) (by kernel_rfl)), (box2.map (hx.ne (by decide) (by decide) (hu.not 25 (by decide) (by kernel_rfl))) (fun b X h => h.only hof (fun h => h)))⟩
          · intro D vals act wx hu h hs
            have e2 : act.eval (.tmp 2) = .pointer (some ⟨w.heap.size, 0, none⟩) := h.old 2 (by kernel_rfl)
            clear h
            refine gives_by rfl act.eval rfl ?_
            generalize act.eval = ρ at *
            intro hf hc
            go_simp
            exact ⟨rfl, hs⟩
          · intro D vals act wx hu h hs
            have e30 : act.eval (.tmp 30) = .pointer (some ⟨w.heap.size, 2, none⟩) := h.q 5 30 (by kernel_rfl) rfl
            clear h
            obtain ⟨⟨x0, x1, x2, x3⟩, _⟩ := node_cells hs.out.1.2.1
            refine gives_by rfl act.eval rfl ?_
            generalize act.eval = ρ at *
            intro hf hc
            go_simp
            exact ⟨rfl, hs⟩
          · intro D vals act wx hu h hs
            have e1 : act.eval (.tmp 1) = .int .i64 (K : Int) := h.old 1 (by kernel_rfl)
            clear h
            refine gives_by rfl act.eval rfl ?_
            generalize act.eval = ρ at *
            intro hf hc
            go_simp
            exact ⟨rfl, hs⟩
          · intro D vals act wx hu h hs
            have e32 : act.eval (.tmp 32) = .int .i64 (K : Int) := h.q 7 32 (by kernel_rfl) rfl
            clear h
            refine gives_by rfl act.eval rfl ?_
            generalize act.eval = ρ at *
            intro hf hc
            go_simp
            rw [IntWalk.i64_in _ (by omega)]
            exact ⟨rfl, hs⟩
          · intro D vals act wx hu h hs
            have e31 : act.eval (.tmp 31) = .slice ka nk kc := h.q 6 31 (by kernel_rfl) rfl
            have e33 : act.eval (.tmp 33) = .int .i64 (K + 1 : Int) := h.q 8 33 (by kernel_rfl) rfl
            clear h
            have hlo := HLO.out wx
            refine gives_by rfl act.eval rfl ?_
            generalize act.eval = ρ at *
            intro hf hc
            go_simp
            exact ⟨rfl, hs⟩
          · intro D vals act wx hu h hs
            have e29 : act.eval (.tmp 29) = vals 4 := h.val 4 29 (by kernel_rfl)
            have e34 : act.eval (.tmp 34) = .slice ba bn bc := h.q 9 34 (by kernel_rfl) rfl
            clear h
            obtain ⟨hg, hK, hI, hb, hx⟩ := hs
            have hsz := hg.2.2.lt
            obtain ⟨a4, n4, c4, h4, hn4, ho4⟩ := hK.2 hu.self (hu.done 4 (by kernel_rfl))
            rw [h4] at e29
            have hn5 : n4 ≤ 2000 := by have := ho4.1; have := HL5.out.1; omega
            obtain ⟨v', wy, hr, hrow, hon⟩ := appK (B := (w.heap.size + 2)) _ n4 _ ho4 hn5 (.slice ba bn bc) (KB) (HR2.out wx hg.1) (by omega)
            refine gives_of_run rfl (exec_append (.tmp 29) (.tmp 34) 23 rfl _ _ e29 e34 _ hr) ?_
            exact hide ⟨hg.only hon (fun j hj => (row_blk ho4 hj).1), row2.second hrow, (row2.map (hI.ne (by decide) (by decide)) (fun cs v h => h.other ho4 (by decide) hon)), bldF.not (by decide) (hu.not 23 (by decide) (by kernel_rfl)), (box2.map (hx.ne (by decide) (by decide) (hu.not 25 (by decide) (by kernel_rfl))) (fun b X h => h.only hon (fun e => row_not_blk ho4 h (by decide) e)))⟩
          · intro D vals act wx hu h hs
            have e2 : act.eval (.tmp 2) = .pointer (some ⟨w.heap.size, 0, none⟩) := h.old 2 (by kernel_rfl)
            clear h
            refine gives_by rfl act.eval rfl ?_
            generalize act.eval = ρ at *
            intro hf hc
            go_simp
            exact ⟨rfl, hs⟩
          · intro D vals act wx hu h hs
            have e36 : act.eval (.tmp 36) = .pointer (some ⟨w.heap.size, 3, none⟩) := h.q 11 36 (by kernel_rfl) rfl
            clear h
            obtain ⟨⟨x0, x1, x2, x3⟩, _⟩ := node_cells hs.out.1.2.1
            refine gives_by rfl act.eval rfl ?_
            generalize act.eval = ρ at *
            intro hf hc
            go_simp
            exact ⟨rfl, hs⟩
          · intro D vals act wx hu h hs
            have e1 : act.eval (.tmp 1) = .int .i64 (K : Int) := h.old 1 (by kernel_rfl)
            clear h
            refine gives_by rfl act.eval rfl ?_
            generalize act.eval = ρ at *
            intro hf hc
            go_simp
            exact ⟨rfl, hs⟩
          · intro D vals act wx hu h hs
            have e38 : act.eval (.tmp 38) = .int .i64 (K : Int) := h.q 13 38 (by kernel_rfl) rfl
            clear h
            refine gives_by rfl act.eval rfl ?_
            generalize act.eval = ρ at *
            intro hf hc
            go_simp
            rw [IntWalk.i64_in _ (by omega)]
            exact ⟨rfl, hs⟩
          · intro D vals act wx hu h hs
            have e37 : act.eval (.tmp 37) = .slice ca nc cc := h.q 12 37 (by kernel_rfl) rfl
            have e39 : act.eval (.tmp 39) = .int .i64 (K + 1 : Int) := h.q 14 39 (by kernel_rfl) rfl
            clear h
            have hct := HCI0.out wx
            refine gives_by rfl act.eval rfl ?_
            generalize act.eval = ρ at *
            intro hf hc
            go_simp
            exact ⟨rfl, hs⟩
          · intro D vals act wx hu h hs
            have e40 : act.eval (.tmp 40) = .slice ca (K + 1) cc := h.q 15 40 (by kernel_rfl) rfl
            clear h
            obtain ⟨hg, hK, hI, hb, hx⟩ := hs
            have hsz := hg.2.2.lt
            obtain ⟨v', wy, hr, hrow, hon⟩ := appI (B := (w.heap.size + 2)) (.slice none 0 0) 0 [] (World.ownsRow_nil _ _ _ _) (by omega) (.slice ca (K + 1) cc) (IA) (HR3.out wx hg.1) (by omega)
            rw [List.nil_append] at hrow
            have hof : Only (fun _ => False) wx wy := hon.mono (fun _ _ h => (by cases h))
            refine gives_of_run rfl (exec_append (.const (.slice none 0 0)) (.tmp 40) 24 rfl _ _ rfl e40 _ hr) ?_
            exact hide ⟨hg.keep hof, (row2.map (hK.ne (by decide) (by decide)) (fun cs v h => h.keep hof)), row2.first (by decide) (hu.not 22 (by decide) (by kernel_rfl)) hrow, bldF.not (by decide) (hu.not 23 (by decide) (by kernel_rfl)), (box2.map (hx.ne (by decide) (by decide) (hu.not 25 (by decide) (by kernel_rfl))) (fun b X h => h.only hof (fun h => h)))⟩
          · intro D vals act wx hu h hs
            have e2 : act.eval (.tmp 2) = .pointer (some ⟨w.heap.size, 0, none⟩) := h.old 2 (by kernel_rfl)
            clear h
            refine gives_by rfl act.eval rfl ?_
            generalize act.eval = ρ at *
            intro hf hc
            go_simp
            exact ⟨rfl, hs⟩
          · intro D vals act wx hu h hs
            have e42 : act.eval (.tmp 42) = .pointer (some ⟨w.heap.size, 3, none⟩) := h.q 17 42 (by kernel_rfl) rfl
            clear h
            obtain ⟨⟨x0, x1, x2, x3⟩, _⟩ := node_cells hs.out.1.2.1
            refine gives_by rfl act.eval rfl ?_
            generalize act.eval = ρ at *
            intro hf hc
            go_simp
            exact ⟨rfl, hs⟩
          · intro D vals act wx hu h hs
            have e1 : act.eval (.tmp 1) = .int .i64 (K : Int) := h.old 1 (by kernel_rfl)
            clear h
            refine gives_by rfl act.eval rfl ?_
            generalize act.eval = ρ at *
            intro hf hc
            go_simp
            exact ⟨rfl, hs⟩
          · intro D vals act wx hu h hs
            have e44 : act.eval (.tmp 44) = .int .i64 (K : Int) := h.q 19 44 (by kernel_rfl) rfl
            clear h
            refine gives_by rfl act.eval rfl ?_
            generalize act.eval = ρ at *
            intro hf hc
            go_simp
            rw [IntWalk.i64_in _ (by omega)]
            exact ⟨rfl, hs⟩
          · intro D vals act wx hu h hs
            have e43 : act.eval (.tmp 43) = .slice ca nc cc := h.q 18 43 (by kernel_rfl) rfl
            have e45 : act.eval (.tmp 45) = .int .i64 (K + 2 : Int) := h.q 20 45 (by kernel_rfl) rfl
            clear h
            have hlo := HLI.out wx
            refine gives_by rfl act.eval rfl ?_
            generalize act.eval = ρ at *
            intro hf hc
            go_simp
            exact ⟨rfl, hs⟩
          · intro D vals act wx hu h hs
            have e41 : act.eval (.tmp 41) = vals 16 := h.val 16 41 (by kernel_rfl)
            have e46 : act.eval (.tmp 46) = .slice da dn dc := h.q 21 46 (by kernel_rfl) rfl
            clear h
            obtain ⟨hg, hK, hI, hb, hx⟩ := hs
            have hsz := hg.2.2.lt
            obtain ⟨a4, n4, c4, h4, hn4, ho4⟩ := hI.2 hu.self (hu.done 16 (by kernel_rfl))
            rw [h4] at e41
            have hn5 : n4 ≤ 2000 := by have := ho4.1; have := HL5.out.2; omega
            obtain ⟨v', wy, hr, hrow, hon⟩ := appI (B := (w.heap.size + 2)) _ n4 _ ho4 hn5 (.slice da dn dc) (IB) (HR4.out wx hg.1) (by omega)
            refine gives_of_run rfl (exec_append (.tmp 41) (.tmp 46) 24 rfl _ _ e41 e46 _ hr) ?_
            exact hide ⟨hg.only hon (fun j hj => (row_blk ho4 hj).1), (row2.map (hK.ne (by decide) (by decide)) (fun cs v h => h.other ho4 (by decide) hon)), row2.second hrow, bldF.not (by decide) (hu.not 23 (by decide) (by kernel_rfl)), (box2.map (hx.ne (by decide) (by decide) (hu.not 25 (by decide) (by kernel_rfl))) (fun b X h => h.only hon (fun e => row_not_blk ho4 h (by decide) e)))⟩
          · intro D vals act wx hu h hs
            have e35 : act.eval (.tmp 35) = vals 10 := h.val 10 35 (by kernel_rfl)
            have e47 : act.eval (.tmp 47) = vals 22 := h.val 22 47 (by kernel_rfl)
            clear h
            obtain ⟨hg, hK, hI, hb, hx⟩ := hs
            obtain ⟨a6, n6, c6, h6, hn6, ho6⟩ := hK.1 (hu.done 10 (by kernel_rfl))
            have h6' := h6
            rw [h6] at e35
            obtain ⟨a7, n7, c7, h7, hn7, ho7⟩ := hI.1 (hu.done 22 (by kernel_rfl))
            have h7' := h7
            rw [h7] at e47
            have hres := (hide ⟨hg, (hK.ne (by decide) (by decide)), (hI.ne (by decide) (by decide)), bldF.made (v := .agg #[.bool false, .slice none 0 0, .slice a6 n6 c6, .slice a7 n7 c7]) (by simp only [h6, h7]) (by simp [updV]), hx.ne (by decide) (by decide) (hu.not 25 (by decide) (by kernel_rfl))⟩ : (fun D vals W => Hid (CgB w [.bool false, .slice pa np pc, .slice ka nk kc, .slice ca nc cc] zeroC W ∧ row2 (w.heap.size + 2) 34 1 4 (KA) 10 (KA ++ KB) D vals W ∧ row2 (w.heap.size + 2) 3 1 16 (IA) 22 (IA ++ IB) D vals W ∧ bldF 23 (fun vals => [.bool false, .slice none 0 0, vals 10, vals 22]) D vals ∧ box2 (w.heap.size + 2) 24 25 (fun vals => [.bool false, .slice none 0 0, vals 10, vals 22]) D vals W)) (upD D 23) (updV vals 23 (.agg #[.bool false, .slice none 0 0, .slice a6 n6 c6, .slice a7 n7 c7])) wx)
            clear hg hb hx hK hI 
            refine gives_by rfl act.eval rfl ?_
            generalize act.eval = ρ at *
            intro hf hc
            go_simp
            exact hres
          · intro D vals act wx hu h hs
            clear h
            obtain ⟨hg, hK, hI, hb, hx⟩ := hs
            have hsz := hg.2.2.lt
            have hof : Only (fun _ => False) wx (wx.alloc (.cells #[.bool false, .slice none 0 0, .slice none 0 0, .slice none 0 0] 26)) := (Only.refl _ wx).alloc _
            have hres := (hide ⟨hg.keep hof, (row2.map (hK.ne (by decide) (by decide)) (fun cs v h => h.keep hof)), (row2.map (hI.ne (by decide) (by decide)) (fun cs v h => h.keep hof)), hb.ne (by decide) (by simp [updV]), box2.made (by decide) (hu.not 25 (by decide) (by kernel_rfl)) (by omega) (Blk.new wx _ _)⟩ : (fun D vals W => Hid (CgB w [.bool false, .slice pa np pc, .slice ka nk kc, .slice ca nc cc] zeroC W ∧ row2 (w.heap.size + 2) 34 1 4 (KA) 10 (KA ++ KB) D vals W ∧ row2 (w.heap.size + 2) 3 1 16 (IA) 22 (IA ++ IB) D vals W ∧ bldF 23 (fun vals => [.bool false, .slice none 0 0, vals 10, vals 22]) D vals ∧ box2 (w.heap.size + 2) 24 25 (fun vals => [.bool false, .slice none 0 0, vals 10, vals 22]) D vals W)) (upD D 24) (updV vals 24 (.pointer (some ⟨wx.heap.size, 0, none⟩))) (wx.alloc (.cells #[.bool false, .slice none 0 0, .slice none 0 0, .slice none 0 0] 26)))
            clear hg hb hx hK hI 
            refine gives_by rfl act.eval rfl ?_
            generalize act.eval = ρ at *
            intro hf hc
            go_simp
            exact hres
          · intro D vals act wx hu h hs
            have e6 : act.eval (.tmp 6) = vals 24 := h.val 24 6 (by kernel_rfl)
            have e48 : act.eval (.tmp 48) = vals 23 := h.val 23 48 (by kernel_rfl)
            clear h
            obtain ⟨hg, hK, hI, hb, hx⟩ := hs
            obtain ⟨b8, hb1, hb2, hb3⟩ := hx (hu.done 24 (by kernel_rfl))
            rw [if_neg (by rw [hu.self]; exact Bool.false_ne_true)] at hb3
            have hbv := hb (hu.done 23 (by kernel_rfl))
            obtain ⟨a6, n6, c6, h6, hn6, ho6⟩ := hK.1 (hu.done 10 (by kernel_rfl))
            obtain ⟨a7, n7, c7, h7, hn7, ho7⟩ := hI.1 (hu.done 22 (by kernel_rfl))
            simp only [h6, h7] at hbv
            rw [hbv] at e48
            rw [hb1] at e6
            obtain ⟨⟨d0, d1', d2, d3⟩, k0, k1, k2, k3⟩ := node_cells hb3
            have ho := laidN_only wx b8 (.bool false) (.slice none 0 0) (.slice a6 n6 c6) (.slice a7 n7 c7)
            have hlay := laidN_blk hb3 (.bool false) (.slice none 0 0) (.slice a6 n6 c6) (.slice a7 n7 c7)
            have hres := (hide ⟨hg.only ho (fun j hj => by subst hj; exact hb2), (row2.map (hK.ne (by decide) (by decide)) (fun cs v h => h.box hb3 (by decide) ho)), (row2.map (hI.ne (by decide) (by decide)) (fun cs v h => h.box hb3 (by decide) ho)), hb.ne (by decide) (by simp [updV]), box2.filled (by decide) hb1 hb2 (by simp [updV]) (by simp only [h6, h7]; exact hlay)⟩ : (fun D vals W => Hid (CgB w [.bool false, .slice pa np pc, .slice ka nk kc, .slice ca nc cc] zeroC W ∧ row2 (w.heap.size + 2) 34 1 4 (KA) 10 (KA ++ KB) D vals W ∧ row2 (w.heap.size + 2) 3 1 16 (IA) 22 (IA ++ IB) D vals W ∧ bldF 23 (fun vals => [.bool false, .slice none 0 0, vals 10, vals 22]) D vals ∧ box2 (w.heap.size + 2) 24 25 (fun vals => [.bool false, .slice none 0 0, vals 10, vals 22]) D vals W)) (upD D 25) (updV vals 25 undef) (laidN wx b8 (.bool false) (.slice none 0 0) (.slice a6 n6 c6) (.slice a7 n7 c7)))
            clear hg hb hx hlay hbv ho hK hI 
            refine gives_by rfl act.eval rfl ?_
            generalize act.eval = ρ at *
            intro hf hc
            go_simp
            exact hres
        · intro D vals w5 hq5 hD hs
          obtain ⟨hg, hK, hI, hb, hx⟩ := hs
          obtain ⟨a6, n6, c6, h6, hn6, ho6⟩ := hK.1 (hD 10 (by decide))
          obtain ⟨a7, n7, c7, h7, hn7, ho7⟩ := hI.1 (hD 22 (by decide))
          obtain ⟨b8, hb1, hb2, hb3⟩ := hx (hD 24 (by decide))
          rw [if_pos (hD 25 (by decide))] at hb3
          simp only [h6, h7] at hb3
          have HG5 := hide hg
          have HX5 := hide hb3
          have HO6 := hide ho6
          have HO7 := hide ho7
          obtain ⟨⟨z0, z1, z2, z3⟩, _⟩ := node_cells hb3
          clear hq5 hD hg hb hx hb3 hK hI  ho6 ho7
          simp only [putAll, Act.put, List.setIfInBounds_toArray, List.set_cons_zero, List.set_cons_succ, Nat.zero_add, Nat.reduceAdd, hb1]
          have HGD := hide (good_tup (B := w.heap.size + 2) (HND.out w5 a6 n6 c6 a7 n7 c7 HG5.out.1 HO6.out HO7.out) HQD.out (by have := HG5.out.2.2.lt; omega))
          generalize ownE DN = OE at *
          generalize ownN DN = ON at *
          go_wp2_with (first
            | (go_at_call 75; refine HGD.out.mono ?_; rintro e w6 ⟨l6, p6, m6, c6', kx6, mk6, kc6, q6, mq6, qc6, rfl, hn6, hb6⟩; have HG6 := hide (HG5.out.grow hb6); have HN6 := hide hn6; obtain ⟨⟨d0, d1, d2, d3⟩, k0, k1, k2, k3⟩ := node_cells HG6.out.2.2; clear HGD hb6 hn6))
          (try simp only [Exit.inBlock, Exit.then])
          refine bodyPost_ret (ret_node1 rfl _ _ (w.heap.size + 1) _ _ _ _ _ rfl rfl (laidN_blk HG6.out.2.2 _ _ _ _)) rfl ?_
          exact cg_yes HG6.out _ HN6.out
      | false =>
        rw [hPB] at HNN HEE
        simp only [Bool.false_eq_true, if_false] at HNN HEE
        rw [HNN.out, HEE.out]
        clear HNN HEE
        by_cases hi0 : i < 0
        · have hi0' := hi0
          go_enter Try.func40, Try.ntmps40
          go_wp2_with (first
            | (go_at_call 25; refine (HM.out w1 HG1.out.1).mono ?_; rintro e w2 ⟨rfl, hb2⟩; have HG2 := hide (HG1.out.grow hb2); (try clear z0 z1 z2 z3); (try clear d0 d1 d2 d3 k0 k1 k2 k3); obtain ⟨⟨z0, z1, z2, z3⟩, _⟩ := node_cells HG2.out.2.1; obtain ⟨⟨d0, d1, d2, d3⟩, k0, k1, k2, k3⟩ := node_cells HG2.out.2.2; clear HM hb2))
          (try simp only [Exit.inBlock, Exit.then])
          refine bodyPost_ret (ret_node1 rfl _ _ (w.heap.size + 1) _ _ _ _ _ rfl rfl (laidN_blk HG2.out.2.2 _ _ _ _)) rfl ?_
          exact cg_no HG2.out _ _ _ _ _ rfl
        · have hi1 : (nk : Int) ≤ i := by
            simp only [placeB, Bool.and_eq_false_iff, decide_eq_false_iff_not] at hPB
            omega
          have hi2 : ¬ i < (nk : Int) := by omega
          go_enter Try.func40, Try.ntmps40
          go_wp2_with (first
            | (go_at_call 25; refine (HM.out w1 HG1.out.1).mono ?_; rintro e w2 ⟨rfl, hb2⟩; have HG2 := hide (HG1.out.grow hb2); (try clear z0 z1 z2 z3); (try clear d0 d1 d2 d3 k0 k1 k2 k3); obtain ⟨⟨z0, z1, z2, z3⟩, _⟩ := node_cells HG2.out.2.1; obtain ⟨⟨d0, d1, d2, d3⟩, k0, k1, k2, k3⟩ := node_cells HG2.out.2.2; clear HM hb2))
          (try simp only [Exit.inBlock, Exit.then])
          refine bodyPost_ret (ret_node1 rfl _ _ (w.heap.size + 1) _ _ _ _ _ rfl rfl (laidN_blk HG2.out.2.2 _ _ _ _)) rfl ?_
          exact cg_no HG2.out _ _ _ _ _ rfl

end Go.Proofs.Ytoamdbjailpgdaa
/- Contract: the document's Grow. -/
namespace Go.Proofs.Ytoamdbjailpgdaa
set_option maxRecDepth 20000
open Go.RowKit Go.Shelf
set_option linter.unusedVariables false
set_option linter.unusedSimpArgs false
set_option maxRecDepth 100000
attribute [local go_sem] Oper.semAt_some

set_option maxHeartbeats 1500000 in
theorem refGrow_any (w : World) (v : Value) (n : Nd) (h : NdV w v n) (i : Int) (kv : Value) (key : List Int) (hkv : Sl w kv key) (kid : Int) (hq : n.ks.length + n.cs.length ≤ 9223372036854775807) :
    Calls Try.prog 38 #[v, .int .i64 i, kv, .int .i64 kid] w (GivesN w (growN n i key kid) (growE n i key kid)) := by
  have HM : Hid (∀ w1, Below w.heap.size w w1 → Calls Try.prog 25 #[v] w1 fun e w' => e = .returned (.bool (mayN n)) ∧ Below w1.heap.size w1 w') := fun w1 hb => refMay_any w1 v n (h.below hb) hq
  have HNN : Hid (growN n i key kid = if innerB n then (if placeB i n.cs.length && kidB kid && keyB key then ownN (gainN n i.toNat key kid) else noNd) else noNd) := rfl
  have HEE : Hid (growE n i key kid = if innerB n then (if placeB i n.cs.length && kidB kid && keyB key then ownE (gainN n i.toNat key kid) else 1) else 100) := rfl
  have HKE : Hid (∀ w1, Below w.heap.size w w1 → Calls Try.prog 66 #[kv] w1 fun e w' => e = .returned (.bool (keyB key)) ∧ w' = w1) := fun w1 hb => refKey_any w1 kv key (hkv.below hb)
  have HKV := hide hkv
  have hza : ∀ wx : World, (zeroValue 26).run Try.prog wx = .ok (.agg #[.bool false, .slice none 0 0, .slice none 0 0, .slice none 0 0]) wx := fun wx => by kernel_rfl
  have HIN : Hid (innerB n = true → 1 ≤ n.ks.length ∧ n.ks.length ≤ 255 ∧ n.cs.length = n.ks.length + 1) := fun h => by have := innerB_ps h; omega
  have HLN : Hid (leafB n = true → n.ps.length ≤ 255) := fun h => (leafB_ps h).1
  have HLF : Hid (innerB n = true → n.lf = false) := innerB_lf
  have HLL : Hid (leafB n = true → n.lf = true) := leafB_lf
  have HMI : Hid (n.lf = false → mayN n = innerB n) := mayN_in
  have HML : Hid (n.lf = true → mayN n = leafB n) := mayN_lf
  have HMO : Hid (mayN n = (leafB n || innerB n)) := rfl
  obtain ⟨pa, pc, ka, kc, ca, cc, xs, ys, rfl, hp1, hk1, hc1, hp2, hk2, hc2, hP, hK, hC⟩ := h.open
  have HP := hide hP
  have HK := hide hK
  have HC := hide hC
  obtain ⟨q1, m1, dq, rfl⟩ := sl_form hkv
  unfold ndv at HM ⊢
  obtain ⟨lf, hlf⟩ : ∃ b, n.lf = b := ⟨_, rfl⟩
  obtain ⟨np, hnp⟩ : ∃ m, n.ps.length = m := ⟨_, rfl⟩
  obtain ⟨nk, hnk⟩ : ∃ m, n.ks.length = m := ⟨_, rfl⟩
  obtain ⟨nc, hnc⟩ : ∃ m, n.cs.length = m := ⟨_, rfl⟩
  have HNP := hide hnp
  have HNK := hide hnk
  have HNC := hide hnc
  have HF0 := hide hlf
  rw [hnp, hnk, hnc, hlf] at HM
  rw [hnp] at HLN HP hp1
  rw [hnk, hnc] at HIN
  rw [hnk] at HK hk1
  rw [hnc] at HC hc1
  rw [hlf] at HLF HLL HMI HML
  rw [hnp, hnk, hnc, hlf]
  obtain ⟨w1, hw1, hcg⟩ := cg_new w (.bool lf) (.slice pa np pc) (.slice ka nk kc) (.slice ca nc cc)
  have HG1 := hide hcg
  obtain ⟨⟨z0, z1, z2, z3⟩, _⟩ := node_cells hcg.2.1
  clear h hP hK hC hcg hnp hnk hnc hlf
  cases hm : mayN n with
  | false =>
    have hib : innerB n = false := by
      have := HMO.out
      rw [hm] at this
      revert this
      cases leafB n <;> cases innerB n <;> simp
    rw [hib] at HNN HEE
    rw [hm] at HM
    simp only [Bool.false_eq_true, if_false] at HNN HEE
    rw [HNN.out, HEE.out]
    clear HNN HEE
    go_enter Try.func38, Try.ntmps38
    go_wp2_with (first
      | (go_at_call 25; refine (HM.out w1 HG1.out.1).mono ?_; rintro e w2 ⟨rfl, hb2⟩; have HG2 := hide (HG1.out.grow hb2); (try clear z0 z1 z2 z3); (try clear d0 d1 d2 d3 k0 k1 k2 k3); obtain ⟨⟨z0, z1, z2, z3⟩, _⟩ := node_cells HG2.out.2.1; obtain ⟨⟨d0, d1, d2, d3⟩, k0, k1, k2, k3⟩ := node_cells HG2.out.2.2; clear HM hb2))
    (try simp only [Exit.inBlock, Exit.then])
    refine bodyPost_ret (ret_node1 rfl _ _ (w.heap.size + 1) _ _ _ _ _ rfl rfl (laidN_blk HG2.out.2.2 _ _ _ _)) rfl ?_
    exact cg_no HG2.out _ _ _ _ _ rfl
  | true =>
    cases lf with
    | true =>
      have hib : innerB n = false := by
        cases hq9 : innerB n with
        | false => rfl
        | true => have := HLF.out hq9; cases this
      rw [hib] at HNN HEE
      rw [hm] at HM
      simp only [Bool.false_eq_true, if_false] at HNN HEE
      rw [HNN.out, HEE.out]
      clear HNN HEE
      go_enter Try.func38, Try.ntmps38
      go_wp2_with (first
        | (go_at_call 25; refine (HM.out w1 HG1.out.1).mono ?_; rintro e w2 ⟨rfl, hb2⟩; have HG2 := hide (HG1.out.grow hb2); (try clear z0 z1 z2 z3); (try clear d0 d1 d2 d3 k0 k1 k2 k3); obtain ⟨⟨z0, z1, z2, z3⟩, _⟩ := node_cells HG2.out.2.1; obtain ⟨⟨d0, d1, d2, d3⟩, k0, k1, k2, k3⟩ := node_cells HG2.out.2.2; clear HM hb2))
      (try simp only [Exit.inBlock, Exit.then])
      refine bodyPost_ret (ret_node1 rfl _ _ (w.heap.size + 1) _ _ _ _ _ rfl rfl (laidN_blk HG2.out.2.2 _ _ _ _)) rfl ?_
      exact cg_no HG2.out _ _ _ _ _ rfl
    | false =>
      have hib : innerB n = true := by rw [← HMI.out rfl]; exact hm
      rw [hib] at HNN HEE
      rw [hm] at HM
      simp only [if_true] at HNN HEE
      obtain ⟨hn1, hn2, hn3⟩ := HIN.out hib
      have hn4 : nc ≤ nk + 1 := by omega
      have hn5 : nk + 1 ≤ nc := by omega
      clear hn3
      rw [HNC.out] at HNN HEE
      cases hPB : placeB i nc with
      | true =>
        obtain ⟨K, rfl, hKm⟩ := place_nat hPB
        have hKi : (K : Int) < (nc : Int) := by omega
        cases hKB : kidB kid with
        | true =>
          cases hEB : keyB key with
          | true =>
            rw [hPB, hKB, hEB] at HNN HEE
            simp only [Bool.and_self, if_true, Int.toNat_natCast] at HNN HEE
            rw [hEB] at HKE
            rw [HNN.out, HEE.out]
            clear HNN HEE
            have HCT := hide (fun wx => cut_head (P := Try.prog) 23 34 1 Try.underlying23 sizeRowE ka nk kc K (by omega) (by unfold maxLen; omega) wx)
            have HCI0 : Hid (∀ wx, (Instr.slice 24 (.slice ca nc cc) none (some (.int .i64 (K + 1 : Int))) none).run Try.prog wx = .ok (.slice ca (K + 1) cc) wx) := fun wx => by
              have := cut_head (P := Try.prog) 24 3 1 Try.underlying24 sizeIntE ca nc cc (K + 1) (by omega) (by unfold maxLen; omega) wx
              rwa [show ((K + 1 : Nat) : Int) = (K + 1 : Int) by omega] at this
            obtain ⟨ba, bc, hlo, hB⟩ := HK.out.low HNK.out (K) (by omega)
            obtain ⟨da, dc, hlo2, hB2⟩ := HC.out.low HNC.out (K + 1) (by omega)
            have HLO : Hid (∀ wx, (Instr.slice 23 (.slice ka nk kc) (some (.int .i64 (K : Int))) none none).run Try.prog wx = .ok (.slice ba (nk - (K)) bc) wx) := fun wx => by
              have := hlo wx
              exact this
            have HLI : Hid (∀ wx, (Instr.slice 24 (.slice ca nc cc) (some (.int .i64 (K + 1 : Int))) none none).run Try.prog wx = .ok (.slice da (nc - (K + 1)) dc) wx) := fun wx => by
              have := hlo2 wx
              rwa [show ((K + 1 : Nat) : Int) = (K + 1 : Int) by omega] at this
            obtain ⟨bn, hbn⟩ : ∃ m, nk - (K) = m := ⟨_, rfl⟩
            obtain ⟨dn, hdn⟩ : ∃ m, nc - (K + 1) = m := ⟨_, rfl⟩
            rw [hbn] at HLO hB
            rw [hdn] at HLI hB2
            have HT1 : Hid (∀ W, Below w.heap.size w W → Bss W (.slice ka K kc) (ys.take K) (n.ks.take K)) := fun W hb => by
              have := HK.out.below hb
              rw [← HNK.out] at this
              exact this.take K kc (by rw [HNK.out]; omega) (by omega) (by unfold maxLen; omega)
            have HD1 : Hid (∀ W, Below w.heap.size w W → Bss W (.slice ba bn bc) (ys.drop (K)) (n.ks.drop (K))) := fun W hb => hB W (HK.out.below hb)
            have HT2 : Hid (∀ W, Below w.heap.size w W → Is W (.slice ca (K + 1) cc) (n.cs.take (K + 1))) := fun W hb => by
              have := HC.out.below hb
              rw [← HNC.out] at this
              exact this.take (by rw [HNC.out]; omega) cc (by omega) (by unfold maxLen; omega)
            have HD2 : Hid (∀ W, Below w.heap.size w W → Is W (.slice da dn dc) (n.cs.drop (K + 1))) := fun W hb => hB2 W (HC.out.below hb)
            obtain ⟨DN, hDN⟩ : ∃ x, x = gainN n K key kid := ⟨_, rfl⟩
            rw [← hDN]
            have HDN : Hid (DN = ⟨false, [], n.ks.take K ++ ([key] ++ n.ks.drop K), n.cs.take (K + 1) ++ ([kid] ++ n.cs.drop (K + 1))⟩) := hDN
            have HLT : Hid (((n.ks.take K).length ≤ 1000 ∧ (n.ks.drop K).length ≤ 1000 ∧ (ys.take K).length ≤ 1000) ∧ (n.cs.take (K + 1)).length ≤ 1000 ∧ (n.cs.drop (K + 1)).length ≤ 1000 ∧ (iv (n.cs.take (K + 1))).length ≤ 1000) := by
              have := HNK.out
              have := HNC.out
              have := HK.out.1
              show (_ ∧ _ ∧ _) ∧ _ ∧ _ ∧ _
              simp only [iv, List.length_map, List.length_take, List.length_drop]
              omega
            have HQD : Hid (DN.ks.length + DN.cs.length ≤ 9223372036854775807) := by
              have := HNK.out
              have := HNC.out
              show _ ≤ _
              rw [HDN.out]
              simp only [List.length_append, List.length_take, List.length_drop, List.length_cons, List.length_nil]
              omega
            obtain ⟨KA, hKA⟩ : ∃ x, x = ys.take K := ⟨_, rfl⟩
            obtain ⟨KB, hKB⟩ : ∃ x, x = ys.drop K := ⟨_, rfl⟩
            obtain ⟨IA, hIA⟩ : ∃ x, x = iv (n.cs.take (K + 1)) := ⟨_, rfl⟩
            obtain ⟨IB, hIB⟩ : ∃ x, x = iv (n.cs.drop (K + 1)) := ⟨_, rfl⟩
            have HR1 : Hid (∀ W, Below w.heap.size w W → RowR W 1 (.slice ka K kc) KA) := fun W hb => by rw [hKA]; exact RowR.of_bss (HT1.out W hb) HLT.out.1.1
            have HR2 : Hid (∀ W, Below w.heap.size w W → RowR W 1 (.slice ba bn bc) KB) := fun W hb => by rw [hKB]; exact RowR.of_bss (HD1.out W hb) HLT.out.1.2.1
            have HR3 : Hid (∀ W, Below w.heap.size w W → RowR W 1 (.slice ca (K + 1) cc) IA) := fun W hb => by rw [hIA]; exact RowR.of_is (HT2.out W hb) HLT.out.2.1
            have HR4 : Hid (∀ W, Below w.heap.size w W → RowR W 1 (.slice da dn dc) IB) := fun W hb => by rw [hIB]; exact RowR.of_is (HD2.out W hb) HLT.out.2.2.1
            have HL5 : Hid (KA.length ≤ 1000 ∧ IA.length ≤ 1000) := by rw [hKA, hIA]; exact ⟨HLT.out.1.2.2, HLT.out.2.2.2⟩
            have HND : Hid (∀ wx a1 n1 c1 a2 n2 c2, Below w.heap.size w wx → wx.ownsRow (w.heap.size + 2) 34 1 (.slice a1 n1 c1) n1 (KA ++ [Value.slice q1 m1 dq] ++ KB) → wx.ownsRow (w.heap.size + 2) 3 1 (.slice a2 n2 c2) n2 (IA ++ [Value.int .i64 kid] ++ IB) → NdV wx (.agg #[.bool false, .slice none 0 0, .slice a1 n1 c1, .slice a2 n2 c2]) DN) := fun wx a1 n1 c1 a2 n2 c2 hbw h1 h2 => by
              rw [HDN.out]
              have h1' : wx.ownsRow (w.heap.size + 2) 34 1 (.slice a1 n1 c1) n1 (ys.take K ++ ([Value.slice q1 m1 dq] ++ ys.drop K)) := by rw [hKA, hKB] at h1; simpa using h1
              have h2' : wx.ownsRow (w.heap.size + 2) 3 1 (.slice a2 n2 c2) n2 (iv (n.cs.take (K + 1) ++ ([kid] ++ n.cs.drop (K + 1)))) := by rw [hIA, hIB] at h2; simpa [iv] using h2
              have e1 : n1 = (ys.take K ++ ([Value.slice q1 m1 dq] ++ ys.drop K)).length := by have := h1'.1; omega
              have e2 : n2 = (n.cs.take (K + 1) ++ ([kid] ++ n.cs.drop (K + 1))).length := by have := h2'.1; rw [iv, List.length_map] at this; omega
              rw [e1] at h1' ⊢
              rw [e2] at h2' ⊢
              refine ⟨_, _, _, [], ys.take K ++ ([Value.slice q1 m1 dq] ++ ys.drop K), rfl, Prs.nil _, bss_own h1' ?_ ?_, (show Ints wx _ _ _ from h2').is⟩
              · show _ = (n.ks.take K ++ ([key] ++ n.ks.drop K)).length
                simp only [List.length_append, (HT1.out wx hbw).1, (HD1.out wx hbw).1, List.length_cons, List.length_nil]
              · exact keys_append (HT1.out wx hbw).1 (HT1.out wx hbw).texts (keys_append (ys := [.slice q1 m1 dq]) (ks := [key]) rfl (fun i hi => by
                  obtain rfl : i = 0 := by simp at hi; omega
                  exact HKV.out.below hbw) (HD1.out wx hbw).texts)
            clear hDN HDN hlo hlo2 hB hB2 hbn hdn hKA hKB hIA hIB HLT HT1 HT2 HD1 HD2
            go_enter Try.func38, Try.ntmps38
            go_wp2_with (first
              | (go_at_call 25; refine (HM.out w1 HG1.out.1).mono ?_; rintro e w2 ⟨rfl, hb2⟩; have HG2 := hide (HG1.out.grow hb2); (try clear z0 z1 z2 z3); (try clear d0 d1 d2 d3 k0 k1 k2 k3); obtain ⟨⟨z0, z1, z2, z3⟩, _⟩ := node_cells HG2.out.2.1; obtain ⟨⟨d0, d1, d2, d3⟩, k0, k1, k2, k3⟩ := node_cells HG2.out.2.2; clear HM hb2)
              | (go_at_call 67; refine (refChild_any w2 _).mono ?_; rintro e w3 ⟨rfl, hw⟩; subst w3; rw [hKB])
              | (go_at_call 66; refine (HKE.out w2 HG2.out.1).mono ?_; rintro e w3 ⟨rfl, hw⟩; subst w3))
            refine wp_region_set [some (.pointer (some ⟨w.heap.size, 2, none⟩)), some (.slice ka nk kc), some (.int .i64 (K : Int)), some (.slice ka K kc), none, some (.slice q1 m1 dq), none, none, some (.pointer (some ⟨w.heap.size, 3, none⟩)), some (.slice ca nc cc), some (.int .i64 (K : Int)), some (.int .i64 (K + 1 : Int)), some (.slice ca (K + 1) cc), none, some (.int .i64 kid), none, none, none, none, none] [4, 6, 7, 13, 15, 16, 17, 18, 19] (fun D vals W => Hid (CgB w [.bool false, .slice pa np pc, .slice ka nk kc, .slice ca nc cc] zeroC W ∧ row2 (w.heap.size + 2) 34 1 4 (KA) 7 (KA ++ [.slice q1 m1 dq]) D vals W ∧ row2 (w.heap.size + 2) 3 1 13 (IA) 16 (IA ++ [.int .i64 kid]) D vals W ∧ bldF 17 (fun vals => [.bool false, .slice none 0 0, vals 7, vals 16]) D vals ∧ box2 (w.heap.size + 2) 18 19 (fun vals => [.bool false, .slice none 0 0, vals 7, vals 16]) D vals W ∧ litF (w.heap.size + 2) 34 6 7 (.slice q1 m1 dq) D vals W ∧ litF (w.heap.size + 2) 3 15 16 (.int .i64 kid) D vals W)) 78 (by kernel_rfl) (by kernel_rfl) (by kernel_rfl) (by kernel_rfl) rfl ?_ ?_ ?_ ?_
            · exact fun vals0 => hide ⟨HG2.out.keep ((Only.refl _ w2).drew), row2.none, row2.none, bldF.none, box2.none, litF.none, litF.none⟩
            · exact fun D D' vals vals' W hv hs => by obtain ⟨hg, hK, hI, hb, hx, lK, lI⟩ := hs; exact hide ⟨hg, (hK.ind (hv 4 (by decide)) (hv 7 (by decide))), (hI.ind (hv 13 (by decide)) (hv 16 (by decide))), hb.ind (hv 17 (by decide)) (by simp only [(hv 7 (by decide)).2, (hv 16 (by decide)).2]), hx.ind (hv 18 (by decide)) (hv 19 (by decide)).1 (by simp only [(hv 7 (by decide)).2, (hv 16 (by decide)).2]), (lK.ind (hv 6 (by decide)) (hv 7 (by decide))), (lI.ind (hv 15 (by decide)) (hv 16 (by decide)))⟩
            · refine ⟨?_, ?_, ?_, ?_, ?_, ?_, ?_, ?_, ?_, ?_, ?_, ?_, ?_, ?_, ?_, ?_, ?_, ?_, ?_, ?_, trivial⟩
              · intro D vals act wx hu h hs
                have e4 : act.eval (.tmp 4) = .pointer (some ⟨w.heap.size, 0, none⟩) := h.old 4 (by kernel_rfl)
                clear h
                refine gives_by rfl act.eval rfl ?_
                generalize act.eval = ρ at *
                intro hf hc
                go_simp
                exact ⟨rfl, hs⟩
              · intro D vals act wx hu h hs
                have e39 : act.eval (.tmp 39) = .pointer (some ⟨w.heap.size, 2, none⟩) := h.q 0 39 (by kernel_rfl) rfl
                clear h
                obtain ⟨⟨x0, x1, x2, x3⟩, _⟩ := node_cells hs.out.1.2.1
                refine gives_by rfl act.eval rfl ?_
                generalize act.eval = ρ at *
                intro hf hc
                go_simp
                exact ⟨rfl, hs⟩
              · intro D vals act wx hu h hs
                have e1 : act.eval (.tmp 1) = .int .i64 (K : Int) := h.old 1 (by kernel_rfl)
                clear h
                refine gives_by rfl act.eval rfl ?_
                generalize act.eval = ρ at *
                intro hf hc
                go_simp
                exact ⟨rfl, hs⟩
              · intro D vals act wx hu h hs
                have e40 : act.eval (.tmp 40) = .slice ka nk kc := h.q 1 40 (by kernel_rfl) rfl
                have e41 : act.eval (.tmp 41) = .int .i64 (K : Int) := h.q 2 41 (by kernel_rfl) rfl
                clear h
                have hct := HCT.out wx
                refine gives_by rfl act.eval rfl ?_
                generalize act.eval = ρ at *
                intro hf hc
                go_simp
                exact ⟨rfl, hs⟩
              · intro D vals act wx hu h hs
                have e42 : act.eval (.tmp 42) = .slice ka K kc := h.q 3 42 (by kernel_rfl) rfl
                clear h
                obtain ⟨hg, hK, hI, hb, hx, lK, lI⟩ := hs
                have hsz := hg.2.2.lt
                obtain ⟨v', wy, hr, hrow, hon⟩ := appK (B := (w.heap.size + 2)) (.slice none 0 0) 0 [] (World.ownsRow_nil _ _ _ _) (by omega) (.slice ka K kc) (KA) (HR1.out wx hg.1) (by omega)
                rw [List.nil_append] at hrow
                have hof : Only (fun _ => False) wx wy := hon.mono (fun _ _ h => (by cases h))
                refine gives_of_run rfl (exec_append (.const (.slice none 0 0)) (.tmp 42) 23 rfl _ _ rfl e42 _ hr) ?_
                exact hide ⟨hg.keep hof, row2.first (by decide) (hu.not 7 (by decide) (by kernel_rfl)) hrow, (row2.map (hI.ne (by decide) (by decide)) (fun cs v h => h.keep hof)), bldF.not (by decide) (hu.not 17 (by decide) (by kernel_rfl)), (box2.map (hx.ne (by decide) (by decide) (hu.not 19 (by decide) (by kernel_rfl))) (fun b X h => h.only hof (fun h => h))), (litF.map (lK.ne (by decide) (by decide)) (fun g h => h.only hof (fun h => h))), (litF.map (lI.ne (by decide) (by decide)) (fun g h => h.only hof (fun h => h)))⟩
              · intro D vals act wx hu h hs
                have e2 : act.eval (.tmp 2) = .slice q1 m1 dq := h.old 2 (by kernel_rfl)
                clear h
                refine gives_by rfl act.eval rfl ?_
                generalize act.eval = ρ at *
                intro hf hc
                go_simp
                exact ⟨rfl, hs⟩
              · intro D vals act wx hu h hs
                have e44 : act.eval (.tmp 44) = .slice q1 m1 dq := h.q 5 44 (by kernel_rfl) rfl
                clear h
                obtain ⟨hg, hK, hI, hb, hx, lK, lI⟩ := hs
                have hof : Only (fun _ => False) wx (wx.alloc (.cells #[.slice q1 m1 dq] 34)) := (Only.refl _ wx).alloc _
                refine gives_of_run rfl (exec_buildSlice1 23 1 (.tmp 44) rfl _ _ e44 (build_row wx q1 m1 dq)) ?_
                exact hide ⟨hg.keep hof, (row2.map (hK.ne (by decide) (by decide)) (fun cs v h => h.keep hof)), (row2.map (hI.ne (by decide) (by decide)) (fun cs v h => h.keep hof)), bldF.not (by decide) (hu.not 17 (by decide) (by kernel_rfl)), (box2.map (hx.ne (by decide) (by decide) (hu.not 19 (by decide) (by kernel_rfl))) (fun b X h => h.only hof (fun h => h))), litF.made (Blk.new wx _ _), (litF.map (lI.ne (by decide) (by decide)) (fun g h => h.only hof (fun h => h)))⟩
              · intro D vals act wx hu h hs
                have e43 : act.eval (.tmp 43) = vals 4 := h.val 4 43 (by kernel_rfl)
                have e45 : act.eval (.tmp 45) = vals 6 := h.val 6 45 (by kernel_rfl)
                clear h
                obtain ⟨hg, hK, hI, hb, hx, lK, lI⟩ := hs
                have hsz := hg.2.2.lt
                obtain ⟨a4, n4, c4, h4, hn4, ho4⟩ := hK.2 hu.self (hu.done 4 (by kernel_rfl))
                rw [h4] at e43
                have hn5 : n4 ≤ 2000 := by have := ho4.1; have := HL5.out.1; omega
                obtain ⟨g5, h5, B5⟩ := lK hu.self (hu.done 6 (by kernel_rfl))
                rw [h5] at e45
                obtain ⟨v', wy, hr, hrow, hon⟩ := appK (B := (w.heap.size + 2)) _ n4 _ ho4 hn5 (.slice (some ⟨g5, 0, none⟩) 1 1) ([.slice q1 m1 dq]) (one_row B5 rfl) (by omega)
                refine gives_of_run rfl (exec_append (.tmp 43) (.tmp 45) 23 rfl _ _ e43 e45 _ hr) ?_
                exact hide ⟨hg.only hon (fun j hj => (row_blk ho4 hj).1), row2.second hrow, (row2.map (hI.ne (by decide) (by decide)) (fun cs v h => h.other ho4 (by decide) hon)), bldF.not (by decide) (hu.not 17 (by decide) (by kernel_rfl)), (box2.map (hx.ne (by decide) (by decide) (hu.not 19 (by decide) (by kernel_rfl))) (fun b X h => h.only hon (fun e => row_not_blk ho4 h (by decide) e))), litF.used, (litF.map (lI.ne (by decide) (by decide)) (fun g h => h.only hon (fun e => row_not_blk ho4 h (by decide) e)))⟩
              · intro D vals act wx hu h hs
                have e4 : act.eval (.tmp 4) = .pointer (some ⟨w.heap.size, 0, none⟩) := h.old 4 (by kernel_rfl)
                clear h
                refine gives_by rfl act.eval rfl ?_
                generalize act.eval = ρ at *
                intro hf hc
                go_simp
                exact ⟨rfl, hs⟩
              · intro D vals act wx hu h hs
                have e47 : act.eval (.tmp 47) = .pointer (some ⟨w.heap.size, 3, none⟩) := h.q 8 47 (by kernel_rfl) rfl
                clear h
                obtain ⟨⟨x0, x1, x2, x3⟩, _⟩ := node_cells hs.out.1.2.1
                refine gives_by rfl act.eval rfl ?_
                generalize act.eval = ρ at *
                intro hf hc
                go_simp
                exact ⟨rfl, hs⟩
              · intro D vals act wx hu h hs
                have e1 : act.eval (.tmp 1) = .int .i64 (K : Int) := h.old 1 (by kernel_rfl)
                clear h
                refine gives_by rfl act.eval rfl ?_
                generalize act.eval = ρ at *
                intro hf hc
                go_simp
                exact ⟨rfl, hs⟩
              · intro D vals act wx hu h hs
                have e49 : act.eval (.tmp 49) = .int .i64 (K : Int) := h.q 10 49 (by kernel_rfl) rfl
                clear h
                refine gives_by rfl act.eval rfl ?_
                generalize act.eval = ρ at *
                intro hf hc
                go_simp
                rw [IntWalk.i64_in _ (by omega)]
                exact ⟨rfl, hs⟩
              · intro D vals act wx hu h hs
                have e48 : act.eval (.tmp 48) = .slice ca nc cc := h.q 9 48 (by kernel_rfl) rfl
                have e50 : act.eval (.tmp 50) = .int .i64 (K + 1 : Int) := h.q 11 50 (by kernel_rfl) rfl
                clear h
                have hct := HCI0.out wx
                refine gives_by rfl act.eval rfl ?_
                generalize act.eval = ρ at *
                intro hf hc
                go_simp
                exact ⟨rfl, hs⟩
              · intro D vals act wx hu h hs
                have e51 : act.eval (.tmp 51) = .slice ca (K + 1) cc := h.q 12 51 (by kernel_rfl) rfl
                clear h
                obtain ⟨hg, hK, hI, hb, hx, lK, lI⟩ := hs
                have hsz := hg.2.2.lt
                obtain ⟨v', wy, hr, hrow, hon⟩ := appI (B := (w.heap.size + 2)) (.slice none 0 0) 0 [] (World.ownsRow_nil _ _ _ _) (by omega) (.slice ca (K + 1) cc) (IA) (HR3.out wx hg.1) (by omega)
                rw [List.nil_append] at hrow
                have hof : Only (fun _ => False) wx wy := hon.mono (fun _ _ h => (by cases h))
                refine gives_of_run rfl (exec_append (.const (.slice none 0 0)) (.tmp 51) 24 rfl _ _ rfl e51 _ hr) ?_
                exact hide ⟨hg.keep hof, (row2.map (hK.ne (by decide) (by decide)) (fun cs v h => h.keep hof)), row2.first (by decide) (hu.not 16 (by decide) (by kernel_rfl)) hrow, bldF.not (by decide) (hu.not 17 (by decide) (by kernel_rfl)), (box2.map (hx.ne (by decide) (by decide) (hu.not 19 (by decide) (by kernel_rfl))) (fun b X h => h.only hof (fun h => h))), (litF.map (lK.ne (by decide) (by decide)) (fun g h => h.only hof (fun h => h))), (litF.map (lI.ne (by decide) (by decide)) (fun g h => h.only hof (fun h => h)))⟩
              · intro D vals act wx hu h hs
                have e3 : act.eval (.tmp 3) = .int .i64 kid := h.old 3 (by kernel_rfl)
                clear h
                refine gives_by rfl act.eval rfl ?_
                generalize act.eval = ρ at *
                intro hf hc
                go_simp
                exact ⟨rfl, hs⟩
              · intro D vals act wx hu h hs
                have e53 : act.eval (.tmp 53) = .int .i64 kid := h.q 14 53 (by kernel_rfl) rfl
                clear h
                obtain ⟨hg, hK, hI, hb, hx, lK, lI⟩ := hs
                have hof : Only (fun _ => False) wx (wx.alloc (.cells #[.int .i64 kid] 3)) := (Only.refl _ wx).alloc _
                refine gives_of_run rfl (exec_buildSlice1 24 1 (.tmp 53) rfl _ _ e53 (build_kid wx kid)) ?_
                exact hide ⟨hg.keep hof, (row2.map (hK.ne (by decide) (by decide)) (fun cs v h => h.keep hof)), (row2.map (hI.ne (by decide) (by decide)) (fun cs v h => h.keep hof)), bldF.not (by decide) (hu.not 17 (by decide) (by kernel_rfl)), (box2.map (hx.ne (by decide) (by decide) (hu.not 19 (by decide) (by kernel_rfl))) (fun b X h => h.only hof (fun h => h))), (litF.map (lK.ne (by decide) (by decide)) (fun g h => h.only hof (fun h => h))), litF.made (Blk.new wx _ _)⟩
              · intro D vals act wx hu h hs
                have e52 : act.eval (.tmp 52) = vals 13 := h.val 13 52 (by kernel_rfl)
                have e54 : act.eval (.tmp 54) = vals 15 := h.val 15 54 (by kernel_rfl)
                clear h
                obtain ⟨hg, hK, hI, hb, hx, lK, lI⟩ := hs
                have hsz := hg.2.2.lt
                obtain ⟨a4, n4, c4, h4, hn4, ho4⟩ := hI.2 hu.self (hu.done 13 (by kernel_rfl))
                rw [h4] at e52
                have hn5 : n4 ≤ 2000 := by have := ho4.1; have := HL5.out.2; omega
                obtain ⟨g5, h5, B5⟩ := lI hu.self (hu.done 15 (by kernel_rfl))
                rw [h5] at e54
                obtain ⟨v', wy, hr, hrow, hon⟩ := appI (B := (w.heap.size + 2)) _ n4 _ ho4 hn5 (.slice (some ⟨g5, 0, none⟩) 1 1) ([.int .i64 kid]) (one_row B5 rfl) (by omega)
                refine gives_of_run rfl (exec_append (.tmp 52) (.tmp 54) 24 rfl _ _ e52 e54 _ hr) ?_
                exact hide ⟨hg.only hon (fun j hj => (row_blk ho4 hj).1), (row2.map (hK.ne (by decide) (by decide)) (fun cs v h => h.other ho4 (by decide) hon)), row2.second hrow, bldF.not (by decide) (hu.not 17 (by decide) (by kernel_rfl)), (box2.map (hx.ne (by decide) (by decide) (hu.not 19 (by decide) (by kernel_rfl))) (fun b X h => h.only hon (fun e => row_not_blk ho4 h (by decide) e))), (litF.map (lK.ne (by decide) (by decide)) (fun g h => h.only hon (fun e => row_not_blk ho4 h (by decide) e))), litF.used⟩
              · intro D vals act wx hu h hs
                have e46 : act.eval (.tmp 46) = vals 7 := h.val 7 46 (by kernel_rfl)
                have e55 : act.eval (.tmp 55) = vals 16 := h.val 16 55 (by kernel_rfl)
                clear h
                obtain ⟨hg, hK, hI, hb, hx, lK, lI⟩ := hs
                obtain ⟨a6, n6, c6, h6, hn6, ho6⟩ := hK.1 (hu.done 7 (by kernel_rfl))
                have h6' := h6
                rw [h6] at e46
                obtain ⟨a7, n7, c7, h7, hn7, ho7⟩ := hI.1 (hu.done 16 (by kernel_rfl))
                have h7' := h7
                rw [h7] at e55
                have hres := (hide ⟨hg, (hK.ne (by decide) (by decide)), (hI.ne (by decide) (by decide)), bldF.made (v := .agg #[.bool false, .slice none 0 0, .slice a6 n6 c6, .slice a7 n7 c7]) (by simp only [h6, h7]) (by simp [updV]), hx.ne (by decide) (by decide) (hu.not 19 (by decide) (by kernel_rfl)), (lK.ne (by decide) (by decide)), (lI.ne (by decide) (by decide))⟩ : (fun D vals W => Hid (CgB w [.bool false, .slice pa np pc, .slice ka nk kc, .slice ca nc cc] zeroC W ∧ row2 (w.heap.size + 2) 34 1 4 (KA) 7 (KA ++ [.slice q1 m1 dq]) D vals W ∧ row2 (w.heap.size + 2) 3 1 13 (IA) 16 (IA ++ [.int .i64 kid]) D vals W ∧ bldF 17 (fun vals => [.bool false, .slice none 0 0, vals 7, vals 16]) D vals ∧ box2 (w.heap.size + 2) 18 19 (fun vals => [.bool false, .slice none 0 0, vals 7, vals 16]) D vals W ∧ litF (w.heap.size + 2) 34 6 7 (.slice q1 m1 dq) D vals W ∧ litF (w.heap.size + 2) 3 15 16 (.int .i64 kid) D vals W)) (upD D 17) (updV vals 17 (.agg #[.bool false, .slice none 0 0, .slice a6 n6 c6, .slice a7 n7 c7])) wx)
                clear hg hb hx hK hI lK lI
                refine gives_by rfl act.eval rfl ?_
                generalize act.eval = ρ at *
                intro hf hc
                go_simp
                exact hres
              · intro D vals act wx hu h hs
                clear h
                obtain ⟨hg, hK, hI, hb, hx, lK, lI⟩ := hs
                have hsz := hg.2.2.lt
                have hof : Only (fun _ => False) wx (wx.alloc (.cells #[.bool false, .slice none 0 0, .slice none 0 0, .slice none 0 0] 26)) := (Only.refl _ wx).alloc _
                have hres := (hide ⟨hg.keep hof, (row2.map (hK.ne (by decide) (by decide)) (fun cs v h => h.keep hof)), (row2.map (hI.ne (by decide) (by decide)) (fun cs v h => h.keep hof)), hb.ne (by decide) (by simp [updV]), box2.made (by decide) (hu.not 19 (by decide) (by kernel_rfl)) (by omega) (Blk.new wx _ _), (litF.map (lK.ne (by decide) (by decide)) (fun g h => h.only hof (fun h => h))), (litF.map (lI.ne (by decide) (by decide)) (fun g h => h.only hof (fun h => h)))⟩ : (fun D vals W => Hid (CgB w [.bool false, .slice pa np pc, .slice ka nk kc, .slice ca nc cc] zeroC W ∧ row2 (w.heap.size + 2) 34 1 4 (KA) 7 (KA ++ [.slice q1 m1 dq]) D vals W ∧ row2 (w.heap.size + 2) 3 1 13 (IA) 16 (IA ++ [.int .i64 kid]) D vals W ∧ bldF 17 (fun vals => [.bool false, .slice none 0 0, vals 7, vals 16]) D vals ∧ box2 (w.heap.size + 2) 18 19 (fun vals => [.bool false, .slice none 0 0, vals 7, vals 16]) D vals W ∧ litF (w.heap.size + 2) 34 6 7 (.slice q1 m1 dq) D vals W ∧ litF (w.heap.size + 2) 3 15 16 (.int .i64 kid) D vals W)) (upD D 18) (updV vals 18 (.pointer (some ⟨wx.heap.size, 0, none⟩))) (wx.alloc (.cells #[.bool false, .slice none 0 0, .slice none 0 0, .slice none 0 0] 26)))
                clear hg hb hx hK hI lK lI
                refine gives_by rfl act.eval rfl ?_
                generalize act.eval = ρ at *
                intro hf hc
                go_simp
                exact hres
              · intro D vals act wx hu h hs
                have e10 : act.eval (.tmp 10) = vals 18 := h.val 18 10 (by kernel_rfl)
                have e56 : act.eval (.tmp 56) = vals 17 := h.val 17 56 (by kernel_rfl)
                clear h
                obtain ⟨hg, hK, hI, hb, hx, lK, lI⟩ := hs
                obtain ⟨b8, hb1, hb2, hb3⟩ := hx (hu.done 18 (by kernel_rfl))
                rw [if_neg (by rw [hu.self]; exact Bool.false_ne_true)] at hb3
                have hbv := hb (hu.done 17 (by kernel_rfl))
                obtain ⟨a6, n6, c6, h6, hn6, ho6⟩ := hK.1 (hu.done 7 (by kernel_rfl))
                obtain ⟨a7, n7, c7, h7, hn7, ho7⟩ := hI.1 (hu.done 16 (by kernel_rfl))
                simp only [h6, h7] at hbv
                rw [hbv] at e56
                rw [hb1] at e10
                obtain ⟨⟨d0, d1', d2, d3⟩, k0, k1, k2, k3⟩ := node_cells hb3
                have ho := laidN_only wx b8 (.bool false) (.slice none 0 0) (.slice a6 n6 c6) (.slice a7 n7 c7)
                have hlay := laidN_blk hb3 (.bool false) (.slice none 0 0) (.slice a6 n6 c6) (.slice a7 n7 c7)
                have hres := (hide ⟨hg.only ho (fun j hj => by subst hj; exact hb2), (row2.map (hK.ne (by decide) (by decide)) (fun cs v h => h.box hb3 (by decide) ho)), (row2.map (hI.ne (by decide) (by decide)) (fun cs v h => h.box hb3 (by decide) ho)), hb.ne (by decide) (by simp [updV]), box2.filled (by decide) hb1 hb2 (by simp [updV]) (by simp only [h6, h7]; exact hlay), (litF.map (lK.ne (by decide) (by decide)) (fun g h => h.only ho (fun e => (h.ne hb3 (by decide)) e))), (litF.map (lI.ne (by decide) (by decide)) (fun g h => h.only ho (fun e => (h.ne hb3 (by decide)) e)))⟩ : (fun D vals W => Hid (CgB w [.bool false, .slice pa np pc, .slice ka nk kc, .slice ca nc cc] zeroC W ∧ row2 (w.heap.size + 2) 34 1 4 (KA) 7 (KA ++ [.slice q1 m1 dq]) D vals W ∧ row2 (w.heap.size + 2) 3 1 13 (IA) 16 (IA ++ [.int .i64 kid]) D vals W ∧ bldF 17 (fun vals => [.bool false, .slice none 0 0, vals 7, vals 16]) D vals ∧ box2 (w.heap.size + 2) 18 19 (fun vals => [.bool false, .slice none 0 0, vals 7, vals 16]) D vals W ∧ litF (w.heap.size + 2) 34 6 7 (.slice q1 m1 dq) D vals W ∧ litF (w.heap.size + 2) 3 15 16 (.int .i64 kid) D vals W)) (upD D 19) (updV vals 19 undef) (laidN wx b8 (.bool false) (.slice none 0 0) (.slice a6 n6 c6) (.slice a7 n7 c7)))
                clear hg hb hx hlay hbv ho hK hI lK lI
                refine gives_by rfl act.eval rfl ?_
                generalize act.eval = ρ at *
                intro hf hc
                go_simp
                exact hres
            · intro D vals w5 hq5 hD hs
              obtain ⟨hg, hK, hI, hb, hx, lK, lI⟩ := hs
              obtain ⟨a6, n6, c6, h6, hn6, ho6⟩ := hK.1 (hD 7 (by decide))
              obtain ⟨a7, n7, c7, h7, hn7, ho7⟩ := hI.1 (hD 16 (by decide))
              obtain ⟨b8, hb1, hb2, hb3⟩ := hx (hD 18 (by decide))
              rw [if_pos (hD 19 (by decide))] at hb3
              simp only [h6, h7] at hb3
              have HG5 := hide hg
              have HX5 := hide hb3
              have HO6 := hide ho6
              have HO7 := hide ho7
              obtain ⟨⟨z0, z1, z2, z3⟩, _⟩ := node_cells hb3
              clear hq5 hD hg hb hx hb3 hK hI lK lI ho6 ho7
              simp only [putAll, Act.put, List.setIfInBounds_toArray, List.set_cons_zero, List.set_cons_succ, Nat.zero_add, Nat.reduceAdd, hb1]
              obtain ⟨KC, hKC⟩ : ∃ x, x = KA ++ [.slice q1 m1 dq] := ⟨_, rfl⟩
              obtain ⟨IC, hIC⟩ : ∃ x, x = IA ++ [.int .i64 kid] := ⟨_, rfl⟩
              have HL6 : Hid (KC.length ≤ 1500 ∧ IC.length ≤ 1500) := by
                have := HL5.out
                show _ ∧ _
                rw [hKC, hIC]
                simp only [List.length_append, List.length_cons, List.length_nil]
                omega
              rw [← hKC] at HO6 HND
              rw [← hIC] at HO7 HND
              clear hKC hIC
              have HRI : Hid (rowF (w.heap.size + 2) 3 1 IC (.slice a7 n7 c7) w5) := ⟨a7, n7, c7, rfl, hn7, HO7.out⟩
              (try go_wp2)
              refine wp_region_set [some (.pointer (some ⟨b8, 2, none⟩)), some (.slice a6 n6 c6), some (.pointer (some ⟨w.heap.size, 2, none⟩)), some (.slice ka nk kc), some (.int .i64 (K : Int)), some (.slice ba bn bc), none, some (.pointer (some ⟨b8, 2, none⟩)), none] [6, 8] (fun D vals W => ap2 w [.bool false, .slice pa np pc, .slice ka nk kc, .slice ca nc cc] (fun W => rowF (w.heap.size + 2) 3 1 IC (.slice a7 n7 c7) W) 34 1 (KC) (KB) (.slice a6 n6 c6) n6 b8 (fun v => [.bool false, .slice none 0 0, v, .slice a7 n7 c7]) (D 6) (D 8) (vals 6) W) 78 (by kernel_rfl) (by kernel_rfl) (by kernel_rfl) (by kernel_rfl) rfl ?_ ?_ ?_ ?_
              · exact fun vals0 => (ap2.start (HG5.out.keep ((Only.refl _ w5).drew)) (HRI.out.keep ((Only.refl _ w5).drew)) (ownsRow_only HO6.out ((Only.refl (fun _ => False) w5).drew) (fun _ _ h => h)) (HX5.out.only ((Only.refl (fun _ => False) w5).drew) (fun h => h)) : ap2 w [.bool false, .slice pa np pc, .slice ka nk kc, .slice ca nc cc] (fun W => rowF (w.heap.size + 2) 3 1 IC (.slice a7 n7 c7) W) 34 1 (KC) (KB) (.slice a6 n6 c6) n6 b8 (fun v => [.bool false, .slice none 0 0, v, .slice a7 n7 c7]) false false (vals0 6) _)
              · exact fun D D' vals vals' W hv hs => by (have e1 := hv 6 (by decide); have e2 := hv 8 (by decide); have hs' : ap2 w [.bool false, .slice pa np pc, .slice ka nk kc, .slice ca nc cc] (fun W => rowF (w.heap.size + 2) 3 1 IC (.slice a7 n7 c7) W) 34 1 (KC) (KB) (.slice a6 n6 c6) n6 b8 (fun v => [.bool false, .slice none 0 0, v, .slice a7 n7 c7]) (D 6) (D 8) (vals 6) W := hs; rw [e1.1, e1.2, e2.1] at hs'; exact hs')
              · refine ⟨?_, ?_, ?_, ?_, ?_, ?_, ?_, ?_, ?_, trivial⟩
                · intro D vals act wx hu h hs
                  have e10 : act.eval (.tmp 10) = .pointer (some ⟨b8, 0, none⟩) := h.old 10 (by kernel_rfl)
                  clear h
                  refine gives_by rfl act.eval rfl ?_
                  generalize act.eval = ρ at *
                  intro hf hc
                  go_simp
                  exact ⟨rfl, hs⟩
                · intro D vals act wx hu h hs
                  have e57 : act.eval (.tmp 57) = .pointer (some ⟨b8, 2, none⟩) := h.q 0 57 (by kernel_rfl) rfl
                  clear h
                  have hxx := ap2.box hs (hu.not 8 (by decide) (by kernel_rfl))
                  have c0 := hxx.cell 0
                  have c1 := hxx.cell 1
                  have c2 := hxx.cell 2
                  have c3 := hxx.cell 3
                  clear hxx
                  refine gives_by rfl act.eval rfl ?_
                  generalize act.eval = ρ at *
                  intro hf hc
                  go_simp
                  exact ⟨rfl, hs⟩
                · intro D vals act wx hu h hs
                  have e4 : act.eval (.tmp 4) = .pointer (some ⟨w.heap.size, 0, none⟩) := h.old 4 (by kernel_rfl)
                  clear h
                  refine gives_by rfl act.eval rfl ?_
                  generalize act.eval = ρ at *
                  intro hf hc
                  go_simp
                  exact ⟨rfl, hs⟩
                · intro D vals act wx hu h hs
                  have e59 : act.eval (.tmp 59) = .pointer (some ⟨w.heap.size, 2, none⟩) := h.q 2 59 (by kernel_rfl) rfl
                  clear h
                  obtain ⟨⟨x0, x1, x2, x3⟩, _⟩ := node_cells hs.1.2.1
                  refine gives_by rfl act.eval rfl ?_
                  generalize act.eval = ρ at *
                  intro hf hc
                  go_simp
                  exact ⟨rfl, hs⟩
                · intro D vals act wx hu h hs
                  have e1 : act.eval (.tmp 1) = .int .i64 (K : Int) := h.old 1 (by kernel_rfl)
                  clear h
                  refine gives_by rfl act.eval rfl ?_
                  generalize act.eval = ρ at *
                  intro hf hc
                  go_simp
                  exact ⟨rfl, hs⟩
                · intro D vals act wx hu h hs
                  have e60 : act.eval (.tmp 60) = .slice ka nk kc := h.q 3 60 (by kernel_rfl) rfl
                  have e61 : act.eval (.tmp 61) = .int .i64 (K : Int) := h.q 4 61 (by kernel_rfl) rfl
                  clear h
                  have hlo := HLO.out wx
                  refine gives_by rfl act.eval rfl ?_
                  generalize act.eval = ρ at *
                  intro hf hc
                  go_simp
                  exact ⟨rfl, hs⟩
                · intro D vals act wx hu h hs
                  have e58 : act.eval (.tmp 58) = .slice a6 n6 c6 := h.q 1 58 (by kernel_rfl) rfl
                  have e62 : act.eval (.tmp 62) = .slice ba bn bc := h.q 5 62 (by kernel_rfl) rfl
                  clear h
                  have hsz := hs.1.2.2.lt
                  have hg := hs.1
                  have hr0 := hs.2.2.2.1 hu.self
                  have hn5 : n6 ≤ 2000 := by have := hr0.1; have := HL6.out.1; omega
                  obtain ⟨v', wy, hr, hrow, hon⟩ := appK (B := (w.heap.size + 2)) _ _ _ hr0 hn5 (.slice ba bn bc) (KB) (HR2.out wx hg.1) (by omega)
                  refine gives_of_run rfl (exec_append (.tmp 58) (.tmp 62) 23 rfl _ _ e58 e62 _ hr) ?_
                  exact (ap2.app hs hu.self (hu.not 8 (by decide) (by kernel_rfl)) (by decide) hrow hon (fun hot => hot.other hr0 (by decide) hon) : ap2 w [.bool false, .slice pa np pc, .slice ka nk kc, .slice ca nc cc] (fun W => rowF (w.heap.size + 2) 3 1 IC (.slice a7 n7 c7) W) 34 1 (KC) (KB) (.slice a6 n6 c6) n6 b8 (fun v => [.bool false, .slice none 0 0, v, .slice a7 n7 c7]) true (D 8) v' wy)
                · intro D vals act wx hu h hs
                  have e10 : act.eval (.tmp 10) = .pointer (some ⟨b8, 0, none⟩) := h.old 10 (by kernel_rfl)
                  clear h
                  refine gives_by rfl act.eval rfl ?_
                  generalize act.eval = ρ at *
                  intro hf hc
                  go_simp
                  exact ⟨rfl, hs⟩
                · intro D vals act wx hu h hs
                  have e64 : act.eval (.tmp 64) = .pointer (some ⟨b8, 2, none⟩) := h.q 7 64 (by kernel_rfl) rfl
                  have e63 : act.eval (.tmp 63) = vals 6 := h.val 6 63 (by kernel_rfl)
                  clear h
                  have hdn := (hu.done 6 (by kernel_rfl))
                  obtain ⟨a9, n9, c9, h9, hn9, ho9⟩ := hs.2.2.1 hdn
                  rw [h9] at e63
                  have hx := ap2.box hs hu.self
                  have c0 := hx.cell 2
                  have f0 := hx.frozen 2
                  have hres := (ap2.put 2 hs hdn hu.self (by decide) hb2 rfl (fun W' ho8 hot => rowF.box hot hx (by decide) ho8) : ap2 w [.bool false, .slice pa np pc, .slice ka nk kc, .slice ca nc cc] (fun W => rowF (w.heap.size + 2) 3 1 IC (.slice a7 n7 c7) W) 34 1 (KC) (KB) (.slice a6 n6 c6) n6 b8 (fun v => [.bool false, .slice none 0 0, v, .slice a7 n7 c7]) (D 6) true (vals 6) (wx.setCell ⟨b8, 2, none⟩ (vals 6)))
                  rw [show wx.setCell ⟨b8, 2, none⟩ (vals 6) = wx.setCell ⟨b8, 2, none⟩ (.slice a9 n9 c9) by rw [h9]] at hres
                  clear hs hx ho9
                  refine gives_by rfl act.eval rfl ?_
                  generalize act.eval = ρ at *
                  intro hf hc
                  go_simp
                  first | exact hres | (rw [hdn] at hres; exact hres)
              · intro D vals w10 hq5 hD hs
                obtain ⟨hg, hot, h1, h2, hx⟩ := (show ap2 w [.bool false, .slice pa np pc, .slice ka nk kc, .slice ca nc cc] (fun W => rowF (w.heap.size + 2) 3 1 IC (.slice a7 n7 c7) W) 34 1 (KC) (KB) (.slice a6 n6 c6) n6 b8 (fun v => [.bool false, .slice none 0 0, v, .slice a7 n7 c7]) (D 6) (D 8) (vals 6) w10 from hs)
                obtain ⟨a10, n10, c10, h10, hn10, ho10⟩ := h1 (hD 6 (by decide))
                rw [if_pos (hD 8 (by decide)), h10] at hx
                have HG10 := hide hg
                have HX10 := hide hx
                have HO10 := hide ho10
                have HOT10 := hide hot
                (try clear z0 z1 z2 z3)
                obtain ⟨⟨z0, z1, z2, z3⟩, _⟩ := node_cells hx
                clear hq5 hD hg hot h1 h2 hx ho10
                simp only [putAll, Act.put, List.setIfInBounds_toArray, List.set_cons_zero, List.set_cons_succ, Nat.zero_add, Nat.reduceAdd]
                obtain ⟨aq, nq, cq, hq7, hnq, hoq⟩ := HOT10.out
                obtain ⟨rfl, rfl, rfl⟩ : a7 = aq ∧ n7 = nq ∧ c7 = cq := by simpa using hq7
                have HO11 := hide hoq
                have HRK : Hid (rowF (w.heap.size + 2) 34 1 (KC ++ KB) (.slice a10 n10 c10) w10) := ⟨a10, n10, c10, rfl, hn10, HO10.out⟩
                clear hoq hq7
                (try go_wp2)
                refine wp_region_set [some (.pointer (some ⟨b8, 3, none⟩)), some (.slice a7 n7 c7), some (.pointer (some ⟨w.heap.size, 3, none⟩)), some (.slice ca nc cc), some (.int .i64 (K : Int)), some (.int .i64 (K + 1 : Int)), some (.slice da dn dc), none, some (.pointer (some ⟨b8, 3, none⟩)), none] [7, 9] (fun D vals W => ap2 w [.bool false, .slice pa np pc, .slice ka nk kc, .slice ca nc cc] (fun W => rowF (w.heap.size + 2) 34 1 (KC ++ KB) (.slice a10 n10 c10) W) 3 1 (IC) (IB) (.slice a7 n7 c7) n7 b8 (fun v => [.bool false, .slice none 0 0, .slice a10 n10 c10, v]) (D 7) (D 9) (vals 7) W) 78 (by kernel_rfl) (by kernel_rfl) (by kernel_rfl) (by kernel_rfl) rfl ?_ ?_ ?_ ?_
                · exact fun vals0 => (ap2.start (HG10.out.keep ((Only.refl _ w10).drew)) (HRK.out.keep ((Only.refl _ w10).drew)) (ownsRow_only HO11.out ((Only.refl (fun _ => False) w10).drew) (fun _ _ h => h)) (HX10.out.only ((Only.refl (fun _ => False) w10).drew) (fun h => h)) : ap2 w [.bool false, .slice pa np pc, .slice ka nk kc, .slice ca nc cc] (fun W => rowF (w.heap.size + 2) 34 1 (KC ++ KB) (.slice a10 n10 c10) W) 3 1 (IC) (IB) (.slice a7 n7 c7) n7 b8 (fun v => [.bool false, .slice none 0 0, .slice a10 n10 c10, v]) false false (vals0 7) _)
                · exact fun D D' vals vals' W hv hs => by (have e1 := hv 7 (by decide); have e2 := hv 9 (by decide); have hs' : ap2 w [.bool false, .slice pa np pc, .slice ka nk kc, .slice ca nc cc] (fun W => rowF (w.heap.size + 2) 34 1 (KC ++ KB) (.slice a10 n10 c10) W) 3 1 (IC) (IB) (.slice a7 n7 c7) n7 b8 (fun v => [.bool false, .slice none 0 0, .slice a10 n10 c10, v]) (D 7) (D 9) (vals 7) W := hs; rw [e1.1, e1.2, e2.1] at hs'; exact hs')
                · refine ⟨?_, ?_, ?_, ?_, ?_, ?_, ?_, ?_, ?_, ?_, trivial⟩
                  · intro D vals act wx hu h hs
                    have e10 : act.eval (.tmp 10) = .pointer (some ⟨b8, 0, none⟩) := h.old 10 (by kernel_rfl)
                    clear h
                    refine gives_by rfl act.eval rfl ?_
                    generalize act.eval = ρ at *
                    intro hf hc
                    go_simp
                    exact ⟨rfl, hs⟩
                  · intro D vals act wx hu h hs
                    have e65 : act.eval (.tmp 65) = .pointer (some ⟨b8, 3, none⟩) := h.q 0 65 (by kernel_rfl) rfl
                    clear h
                    have hxx := ap2.box hs (hu.not 9 (by decide) (by kernel_rfl))
                    have c0 := hxx.cell 0
                    have c1 := hxx.cell 1
                    have c2 := hxx.cell 2
                    have c3 := hxx.cell 3
                    clear hxx
                    refine gives_by rfl act.eval rfl ?_
                    generalize act.eval = ρ at *
                    intro hf hc
                    go_simp
                    exact ⟨rfl, hs⟩
                  · intro D vals act wx hu h hs
                    have e4 : act.eval (.tmp 4) = .pointer (some ⟨w.heap.size, 0, none⟩) := h.old 4 (by kernel_rfl)
                    clear h
                    refine gives_by rfl act.eval rfl ?_
                    generalize act.eval = ρ at *
                    intro hf hc
                    go_simp
                    exact ⟨rfl, hs⟩
                  · intro D vals act wx hu h hs
                    have e67 : act.eval (.tmp 67) = .pointer (some ⟨w.heap.size, 3, none⟩) := h.q 2 67 (by kernel_rfl) rfl
                    clear h
                    obtain ⟨⟨x0, x1, x2, x3⟩, _⟩ := node_cells hs.1.2.1
                    refine gives_by rfl act.eval rfl ?_
                    generalize act.eval = ρ at *
                    intro hf hc
                    go_simp
                    exact ⟨rfl, hs⟩
                  · intro D vals act wx hu h hs
                    have e1 : act.eval (.tmp 1) = .int .i64 (K : Int) := h.old 1 (by kernel_rfl)
                    clear h
                    refine gives_by rfl act.eval rfl ?_
                    generalize act.eval = ρ at *
                    intro hf hc
                    go_simp
                    exact ⟨rfl, hs⟩
                  · intro D vals act wx hu h hs
                    have e69 : act.eval (.tmp 69) = .int .i64 (K : Int) := h.q 4 69 (by kernel_rfl) rfl
                    clear h
                    refine gives_by rfl act.eval rfl ?_
                    generalize act.eval = ρ at *
                    intro hf hc
                    go_simp
                    rw [IntWalk.i64_in _ (by omega)]
                    exact ⟨rfl, hs⟩
                  · intro D vals act wx hu h hs
                    have e68 : act.eval (.tmp 68) = .slice ca nc cc := h.q 3 68 (by kernel_rfl) rfl
                    have e70 : act.eval (.tmp 70) = .int .i64 (K + 1 : Int) := h.q 5 70 (by kernel_rfl) rfl
                    clear h
                    have hlo := HLI.out wx
                    refine gives_by rfl act.eval rfl ?_
                    generalize act.eval = ρ at *
                    intro hf hc
                    go_simp
                    exact ⟨rfl, hs⟩
                  · intro D vals act wx hu h hs
                    have e66 : act.eval (.tmp 66) = .slice a7 n7 c7 := h.q 1 66 (by kernel_rfl) rfl
                    have e71 : act.eval (.tmp 71) = .slice da dn dc := h.q 6 71 (by kernel_rfl) rfl
                    clear h
                    have hsz := hs.1.2.2.lt
                    have hg := hs.1
                    have hr0 := hs.2.2.2.1 hu.self
                    have hn5 : n7 ≤ 2000 := by have := hr0.1; have := HL6.out.2; omega
                    obtain ⟨v', wy, hr, hrow, hon⟩ := appI (B := (w.heap.size + 2)) _ _ _ hr0 hn5 (.slice da dn dc) (IB) (HR4.out wx hg.1) (by omega)
                    refine gives_of_run rfl (exec_append (.tmp 66) (.tmp 71) 24 rfl _ _ e66 e71 _ hr) ?_
                    exact (ap2.app hs hu.self (hu.not 9 (by decide) (by kernel_rfl)) (by decide) hrow hon (fun hot => hot.other hr0 (by decide) hon) : ap2 w [.bool false, .slice pa np pc, .slice ka nk kc, .slice ca nc cc] (fun W => rowF (w.heap.size + 2) 34 1 (KC ++ KB) (.slice a10 n10 c10) W) 3 1 (IC) (IB) (.slice a7 n7 c7) n7 b8 (fun v => [.bool false, .slice none 0 0, .slice a10 n10 c10, v]) true (D 9) v' wy)
                  · intro D vals act wx hu h hs
                    have e10 : act.eval (.tmp 10) = .pointer (some ⟨b8, 0, none⟩) := h.old 10 (by kernel_rfl)
                    clear h
                    refine gives_by rfl act.eval rfl ?_
                    generalize act.eval = ρ at *
                    intro hf hc
                    go_simp
                    exact ⟨rfl, hs⟩
                  · intro D vals act wx hu h hs
                    have e73 : act.eval (.tmp 73) = .pointer (some ⟨b8, 3, none⟩) := h.q 8 73 (by kernel_rfl) rfl
                    have e72 : act.eval (.tmp 72) = vals 7 := h.val 7 72 (by kernel_rfl)
                    clear h
                    have hdn := (hu.done 7 (by kernel_rfl))
                    obtain ⟨a9, n9, c9, h9, hn9, ho9⟩ := hs.2.2.1 hdn
                    rw [h9] at e72
                    have hx := ap2.box hs hu.self
                    have c0 := hx.cell 3
                    have f0 := hx.frozen 3
                    have hres := (ap2.put 3 hs hdn hu.self (by decide) hb2 rfl (fun W' ho8 hot => rowF.box hot hx (by decide) ho8) : ap2 w [.bool false, .slice pa np pc, .slice ka nk kc, .slice ca nc cc] (fun W => rowF (w.heap.size + 2) 34 1 (KC ++ KB) (.slice a10 n10 c10) W) 3 1 (IC) (IB) (.slice a7 n7 c7) n7 b8 (fun v => [.bool false, .slice none 0 0, .slice a10 n10 c10, v]) (D 7) true (vals 7) (wx.setCell ⟨b8, 3, none⟩ (vals 7)))
                    rw [show wx.setCell ⟨b8, 3, none⟩ (vals 7) = wx.setCell ⟨b8, 3, none⟩ (.slice a9 n9 c9) by rw [h9]] at hres
                    clear hs hx ho9
                    refine gives_by rfl act.eval rfl ?_
                    generalize act.eval = ρ at *
                    intro hf hc
                    go_simp
                    first | exact hres | (rw [hdn] at hres; exact hres)
                · intro D vals w12 hq5 hD hs
                  obtain ⟨hg, hot, h1, h2, hx⟩ := (show ap2 w [.bool false, .slice pa np pc, .slice ka nk kc, .slice ca nc cc] (fun W => rowF (w.heap.size + 2) 34 1 (KC ++ KB) (.slice a10 n10 c10) W) 3 1 (IC) (IB) (.slice a7 n7 c7) n7 b8 (fun v => [.bool false, .slice none 0 0, .slice a10 n10 c10, v]) (D 7) (D 9) (vals 7) w12 from hs)
                  obtain ⟨a12, n12, c12, h12, hn12, ho12⟩ := h1 (hD 7 (by decide))
                  rw [if_pos (hD 9 (by decide)), h12] at hx
                  have HG12 := hide hg
                  have HX12 := hide hx
                  have HO12 := hide ho12
                  have HOT12 := hide hot
                  (try clear z0 z1 z2 z3)
                  obtain ⟨⟨z0, z1, z2, z3⟩, _⟩ := node_cells hx
                  clear hq5 hD hg hot h1 h2 hx ho12
                  simp only [putAll, Act.put, List.setIfInBounds_toArray, List.set_cons_zero, List.set_cons_succ, Nat.zero_add, Nat.reduceAdd]
                  obtain ⟨ar, nr, cr, hr7, hnr, hor⟩ := HOT12.out
                  obtain ⟨rfl, rfl, rfl⟩ : a10 = ar ∧ n10 = nr ∧ c10 = cr := by simpa using hr7
                  have HO13 := hide hor
                  clear hor hr7
                  have HGD := hide (good_tup (B := w.heap.size + 2) (HND.out w12 a10 n10 c10 a12 n12 c12 HG12.out.1 HO13.out HO12.out) HQD.out (by have := HG12.out.2.2.lt; omega))
                  generalize ownE DN = OE at *
                  generalize ownN DN = ON at *
                  go_wp2_with (first
                    | (go_at_call 75; refine HGD.out.mono ?_; rintro e w6 ⟨l6, p6, m6, c6', kx6, mk6, kc6, q6, mq6, qc6, rfl, hn6, hb6⟩; have HG6 := hide (HG12.out.grow hb6); have HN6 := hide hn6; obtain ⟨⟨d0, d1, d2, d3⟩, k0, k1, k2, k3⟩ := node_cells HG6.out.2.2; clear HGD hb6 hn6))
                  (try simp only [Exit.inBlock, Exit.then])
                  refine bodyPost_ret (ret_node1 rfl _ _ (w.heap.size + 1) _ _ _ _ _ rfl rfl (laidN_blk HG6.out.2.2 _ _ _ _)) rfl ?_
                  exact cg_yes HG6.out _ HN6.out
          | false =>
            rw [hPB, hKB, hEB] at HNN HEE
            simp only [Bool.and_false, Bool.false_eq_true, if_false] at HNN HEE
            rw [HNN.out, HEE.out]
            clear HNN HEE
            go_enter Try.func38, Try.ntmps38
            go_wp2_with (first
              | (go_at_call 25; refine (HM.out w1 HG1.out.1).mono ?_; rintro e w2 ⟨rfl, hb2⟩; have HG2 := hide (HG1.out.grow hb2); (try clear z0 z1 z2 z3); (try clear d0 d1 d2 d3 k0 k1 k2 k3); obtain ⟨⟨z0, z1, z2, z3⟩, _⟩ := node_cells HG2.out.2.1; obtain ⟨⟨d0, d1, d2, d3⟩, k0, k1, k2, k3⟩ := node_cells HG2.out.2.2; clear HM hb2)
              | (go_at_call 67; refine (refChild_any w2 _).mono ?_; rintro e w3 ⟨rfl, hw⟩; subst w3; rw [hKB])
              | (go_at_call 66; refine (HKE.out w2 HG2.out.1).mono ?_; rintro e w3 ⟨rfl, hw⟩; subst w3; rw [hEB]))
            (try simp only [Exit.inBlock, Exit.then])
            refine bodyPost_ret (ret_node1 rfl _ _ (w.heap.size + 1) _ _ _ _ _ rfl rfl (laidN_blk HG2.out.2.2 _ _ _ _)) rfl ?_
            exact cg_no HG2.out _ _ _ _ _ rfl
        | false =>
          rw [hPB, hKB] at HNN HEE
          simp only [Bool.and_false, Bool.false_and, Bool.false_eq_true, if_false] at HNN HEE
          rw [HNN.out, HEE.out]
          clear HNN HEE
          go_enter Try.func38, Try.ntmps38
          go_wp2_with (first
            | (go_at_call 25; refine (HM.out w1 HG1.out.1).mono ?_; rintro e w2 ⟨rfl, hb2⟩; have HG2 := hide (HG1.out.grow hb2); (try clear z0 z1 z2 z3); (try clear d0 d1 d2 d3 k0 k1 k2 k3); obtain ⟨⟨z0, z1, z2, z3⟩, _⟩ := node_cells HG2.out.2.1; obtain ⟨⟨d0, d1, d2, d3⟩, k0, k1, k2, k3⟩ := node_cells HG2.out.2.2; clear HM hb2)
            | (go_at_call 67; refine (refChild_any w2 _).mono ?_; rintro e w3 ⟨rfl, hw⟩; subst w3; rw [hKB]))
          (try simp only [Exit.inBlock, Exit.then])
          refine bodyPost_ret (ret_node1 rfl _ _ (w.heap.size + 1) _ _ _ _ _ rfl rfl (laidN_blk HG2.out.2.2 _ _ _ _)) rfl ?_
          exact cg_no HG2.out _ _ _ _ _ rfl
      | false =>
        rw [hPB] at HNN HEE
        simp only [Bool.false_and, Bool.false_eq_true, if_false] at HNN HEE
        rw [HNN.out, HEE.out]
        clear HNN HEE
        by_cases hi0 : i < 0
        · have hi0' := hi0
          go_enter Try.func38, Try.ntmps38
          go_wp2_with (first
            | (go_at_call 25; refine (HM.out w1 HG1.out.1).mono ?_; rintro e w2 ⟨rfl, hb2⟩; have HG2 := hide (HG1.out.grow hb2); (try clear z0 z1 z2 z3); (try clear d0 d1 d2 d3 k0 k1 k2 k3); obtain ⟨⟨z0, z1, z2, z3⟩, _⟩ := node_cells HG2.out.2.1; obtain ⟨⟨d0, d1, d2, d3⟩, k0, k1, k2, k3⟩ := node_cells HG2.out.2.2; clear HM hb2))
          (try simp only [Exit.inBlock, Exit.then])
          refine bodyPost_ret (ret_node1 rfl _ _ (w.heap.size + 1) _ _ _ _ _ rfl rfl (laidN_blk HG2.out.2.2 _ _ _ _)) rfl ?_
          exact cg_no HG2.out _ _ _ _ _ rfl
        · have hi1 : (nc : Int) ≤ i := by
            simp only [placeB, Bool.and_eq_false_iff, decide_eq_false_iff_not] at hPB
            omega
          have hi2 : ¬ i < (nc : Int) := by omega
          go_enter Try.func38, Try.ntmps38
          go_wp2_with (first
            | (go_at_call 25; refine (HM.out w1 HG1.out.1).mono ?_; rintro e w2 ⟨rfl, hb2⟩; have HG2 := hide (HG1.out.grow hb2); (try clear z0 z1 z2 z3); (try clear d0 d1 d2 d3 k0 k1 k2 k3); obtain ⟨⟨z0, z1, z2, z3⟩, _⟩ := node_cells HG2.out.2.1; obtain ⟨⟨d0, d1, d2, d3⟩, k0, k1, k2, k3⟩ := node_cells HG2.out.2.2; clear HM hb2))
          (try simp only [Exit.inBlock, Exit.then])
          refine bodyPost_ret (ret_node1 rfl _ _ (w.heap.size + 1) _ _ _ _ _ rfl rfl (laidN_blk HG2.out.2.2 _ _ _ _)) rfl ?_
          exact cg_no HG2.out _ _ _ _ _ rfl

end Go.Proofs.Ytoamdbjailpgdaa
/- Contract: the document's Set. -/
namespace Go.Proofs.Ytoamdbjailpgdaa
set_option maxRecDepth 20000
open Go.RowKit Go.Shelf
set_option linter.unusedVariables false
set_option linter.unusedSimpArgs false
set_option maxRecDepth 100000
attribute [local go_sem] Oper.semAt_some

theorem sl_len {w : World} {v : Value} {zs : List Int} (h : Sl w v zs) : lenV v = zs.length := by
  obtain ⟨_, ao, cap, rfl, _⟩ := h
  rfl
theorem pair_row {W : World} {g : Nat} {a1 a2 : Option Addr} {n1 n2 c1 c2 : Nat} (hB : Blk W g 36 [.slice a1 n1 c1, .slice a2 n2 c2]) : RowR W 2 (.slice (some ⟨g, 0, none⟩) 1 1) [.slice a1 n1 c1, .slice a2 n2 c2] :=
  ⟨some ⟨g, 0, none⟩, 1, 1, rfl, by simp, by omega, fun h => (by cases h), fun b hb j u hj => (by
    obtain rfl := (Option.some.inj hb)
    rw [Addr.add_mid, Nat.zero_add, hB.cell]
    exact hj), fun u hu => (by simp at hu; rcases hu with rfl | rfl <;> rfl)⟩

set_option maxHeartbeats 1500000 in
theorem refSet_any (w : World) (v : Value) (n : Nd) (h : NdV w v n) (kv : Value) (key : List Int) (hkv : Sl w kv key) (vv : Value) (val : List Int) (hvv : Sl w vv val) (hq : n.ks.length + n.cs.length ≤ 9223372036854775807) :
    Calls Try.prog 32 #[v, kv, vv] w (GivesN w (setN n key val) (setE n key val)) := by
  have HM : Hid (∀ w1, Below w.heap.size w w1 → Calls Try.prog 25 #[v] w1 fun e w' => e = .returned (.bool (mayN n)) ∧ Below w1.heap.size w1 w') := fun w1 hb => refMay_any w1 v n (h.below hb) hq
  have HNN : Hid (setN n key val = if leafB n then (if keyB key && valB val then ownN (insN n key val) else noNd) else noNd) := rfl
  have HEE : Hid (setE n key val = if leafB n then (if keyB key && valB val then ownE (insN n key val) else 1) else 100) := rfl
  have HFD : Hid (∀ w1, Below w.heap.size w w1 → Calls Try.prog 24 #[v, kv] w1 fun e w' => e = .returned (.tuple #[.int .i64 (findN n key), .bool (findB n key)]) ∧ Below w1.heap.size w1 w') := fun w1 hb => refFind_any w1 v n (h.below hb) kv key (hkv.below hb) hq
  have HKE : Hid (∀ w1, Below w.heap.size w w1 → Calls Try.prog 66 #[kv] w1 fun e w' => e = .returned (.bool (keyB key)) ∧ w' = w1) := fun w1 hb => refKey_any w1 kv key (hkv.below hb)
  have HIS : Hid (insN n key val = ⟨true, n.ps.take (findN n key) ++ ([(key, val)] ++ n.ps.drop (findN n key + if findB n key then 1 else 0)), [], []⟩) := rfl
  have HFL := hide (@find_le n key)
  have HKV := hide hkv
  have HVV := hide hvv
  have HVB : Hid (valB val = decide (val.length ≤ 24)) := rfl
  have hvl := sl_len hvv
  have hza : ∀ wx : World, (zeroValue 26).run Try.prog wx = .ok (.agg #[.bool false, .slice none 0 0, .slice none 0 0, .slice none 0 0]) wx := fun wx => by kernel_rfl
  have HIN : Hid (innerB n = true → 1 ≤ n.ks.length ∧ n.ks.length ≤ 255 ∧ n.cs.length = n.ks.length + 1) := fun h => by have := innerB_ps h; omega
  have HLN : Hid (leafB n = true → n.ps.length ≤ 255) := fun h => (leafB_ps h).1
  have HLF : Hid (innerB n = true → n.lf = false) := innerB_lf
  have HLL : Hid (leafB n = true → n.lf = true) := leafB_lf
  have HMI : Hid (n.lf = false → mayN n = innerB n) := mayN_in
  have HML : Hid (n.lf = true → mayN n = leafB n) := mayN_lf
  have HMO : Hid (mayN n = (leafB n || innerB n)) := rfl
  obtain ⟨pa, pc, ka, kc, ca, cc, xs, ys, rfl, hp1, hk1, hc1, hp2, hk2, hc2, hP, hK, hC⟩ := h.open
  have HP := hide hP
  have HK := hide hK
  have HC := hide hC
  obtain ⟨a1, n1, c1, rfl⟩ := sl_form hkv
  obtain ⟨a2, n2, c2, rfl⟩ := sl_form hvv
  unfold ndv at HM HFD ⊢
  obtain ⟨lf, hlf⟩ : ∃ b, n.lf = b := ⟨_, rfl⟩
  obtain ⟨np, hnp⟩ : ∃ m, n.ps.length = m := ⟨_, rfl⟩
  obtain ⟨nk, hnk⟩ : ∃ m, n.ks.length = m := ⟨_, rfl⟩
  obtain ⟨nc, hnc⟩ : ∃ m, n.cs.length = m := ⟨_, rfl⟩
  have HNP := hide hnp
  have HNK := hide hnk
  have HNC := hide hnc
  have HF0 := hide hlf
  rw [hnp, hnk, hnc, hlf] at HM HFD
  rw [hnp] at HLN HP hp1
  rw [hnk, hnc] at HIN
  rw [hnk] at HK hk1
  rw [hnc] at HC hc1
  rw [hlf] at HLF HLL HMI HML
  rw [hnp, hnk, hnc, hlf]
  obtain ⟨w1, hw1, hcg⟩ := cg_new w (.bool lf) (.slice pa np pc) (.slice ka nk kc) (.slice ca nc cc)
  have HG1 := hide hcg
  obtain ⟨⟨z0, z1, z2, z3⟩, _⟩ := node_cells hcg.2.1
  clear h hP hK hC hcg hnp hnk hnc hlf
  cases hm : mayN n with
  | false =>
    have hib : leafB n = false := by
      have := HMO.out
      rw [hm] at this
      revert this
      cases leafB n <;> cases innerB n <;> simp
    rw [hib] at HNN HEE
    rw [hm] at HM
    simp only [Bool.false_eq_true, if_false] at HNN HEE
    rw [HNN.out, HEE.out]
    clear HNN HEE
    go_enter Try.func32, Try.ntmps32
    go_wp2_with (first
      | (go_at_call 25; refine (HM.out w1 HG1.out.1).mono ?_; rintro e w2 ⟨rfl, hb2⟩; have HG2 := hide (HG1.out.grow hb2); (try clear z0 z1 z2 z3); (try clear d0 d1 d2 d3 k0 k1 k2 k3); obtain ⟨⟨z0, z1, z2, z3⟩, _⟩ := node_cells HG2.out.2.1; obtain ⟨⟨d0, d1, d2, d3⟩, k0, k1, k2, k3⟩ := node_cells HG2.out.2.2; clear HM hb2))
    (try simp only [Exit.inBlock, Exit.then])
    refine bodyPost_ret (ret_node1 rfl _ _ (w.heap.size + 1) _ _ _ _ _ rfl rfl (laidN_blk HG2.out.2.2 _ _ _ _)) rfl ?_
    exact cg_no HG2.out _ _ _ _ _ rfl
  | true =>
    cases lf with
    | false =>
      have hib : leafB n = false := by
        cases hq9 : leafB n with
        | false => rfl
        | true => have := HLL.out hq9; cases this
      rw [hib] at HNN HEE
      rw [hm] at HM
      simp only [Bool.false_eq_true, if_false] at HNN HEE
      rw [HNN.out, HEE.out]
      clear HNN HEE
      go_enter Try.func32, Try.ntmps32
      go_wp2_with (first
        | (go_at_call 25; refine (HM.out w1 HG1.out.1).mono ?_; rintro e w2 ⟨rfl, hb2⟩; have HG2 := hide (HG1.out.grow hb2); (try clear z0 z1 z2 z3); (try clear d0 d1 d2 d3 k0 k1 k2 k3); obtain ⟨⟨z0, z1, z2, z3⟩, _⟩ := node_cells HG2.out.2.1; obtain ⟨⟨d0, d1, d2, d3⟩, k0, k1, k2, k3⟩ := node_cells HG2.out.2.2; clear HM hb2))
      (try simp only [Exit.inBlock, Exit.then])
      refine bodyPost_ret (ret_node1 rfl _ _ (w.heap.size + 1) _ _ _ _ _ rfl rfl (laidN_blk HG2.out.2.2 _ _ _ _)) rfl ?_
      exact cg_no HG2.out _ _ _ _ _ rfl
    | true =>
      have hib : leafB n = true := by rw [← HML.out rfl]; exact hm
      rw [hib] at HNN HEE
      rw [hm] at HM
      simp only [if_true] at HNN HEE
      have hn2 : n2 = val.length := hvl
      cases hKB : keyB key with
      | false =>
        rw [hKB] at HNN HEE HKE
        simp only [Bool.false_and, Bool.false_eq_true, if_false] at HNN HEE
        rw [HNN.out, HEE.out]
        clear HNN HEE
        go_enter Try.func32, Try.ntmps32
        go_wp2_with (first
          | (go_at_call 25; refine (HM.out w1 HG1.out.1).mono ?_; rintro e w2 ⟨rfl, hb2⟩; have HG2 := hide (HG1.out.grow hb2); (try clear z0 z1 z2 z3); (try clear d0 d1 d2 d3 k0 k1 k2 k3); obtain ⟨⟨z0, z1, z2, z3⟩, _⟩ := node_cells HG2.out.2.1; obtain ⟨⟨d0, d1, d2, d3⟩, k0, k1, k2, k3⟩ := node_cells HG2.out.2.2; clear HM hb2)
          | (go_at_call 66; refine (HKE.out w2 HG2.out.1).mono ?_; rintro e w3 ⟨rfl, hw⟩; subst w3))
        (try simp only [Exit.inBlock, Exit.then])
        refine bodyPost_ret (ret_node1 rfl _ _ (w.heap.size + 1) _ _ _ _ _ rfl rfl (laidN_blk HG2.out.2.2 _ _ _ _)) rfl ?_
        exact cg_no HG2.out _ _ _ _ _ rfl
      | true =>
        rw [hKB] at HNN HEE HKE
        by_cases hv24 : n2 ≤ 24
        · have hv24i : ¬ (24 : Int) < (n2 : Int) := by omega
          have hVB : valB val = true := by rw [HVB.out, ← hn2]; exact decide_eq_true hv24
          rw [hVB] at HNN HEE
          simp only [Bool.and_self, if_true] at HNN HEE
          rw [HNN.out, HEE.out]
          clear HNN HEE
          clear hn2 hvl HVB
          obtain ⟨hF1, hF2⟩ := HFL.out hib
          have hnp5 := HLN.out hib
          rw [HNP.out] at hF1 hF2
          obtain ⟨FI, hFI⟩ : ∃ x, findN n key = x := ⟨_, rfl⟩
          rw [hFI] at HFD HIS hF1 hF2
          have HCT := hide (fun wx => cut_head (P := Try.prog) 22 36 2 Try.underlying22 sizePair pa np pc FI (by omega) (by unfold maxLen; omega) wx)
          have hct := HCT.out
          have hbp := fun wx => build_p1 wx a1 a2 n1 n2 c1 c2
          have HTK : Hid (∀ W, Below w.heap.size w W → Prs W (.slice pa FI pc) (xs.take FI) (n.ps.take FI)) := fun W hb => by
            have := HP.out.below hb
            rw [← HNP.out] at this
            exact this.take FI pc (by rw [HNP.out]; omega) (by omega) (by unfold maxLen; omega)
          obtain ⟨PA, hPA⟩ : ∃ x, x = flatP (xs.take FI) := ⟨_, rfl⟩
          have HR1 : Hid (∀ W, Below w.heap.size w W → RowR W 2 (.slice pa FI pc) PA) := fun W hb => by rw [hPA]; exact RowR.of_prs (HTK.out W hb) (by rw [List.length_take]; have := HNP.out; omega)
          have HL1 : Hid (PA.length ≤ 1000) := by
            have := HNP.out
            have := HP.out.1
            show _ ≤ _
            rw [hPA, flatP_len, List.length_take]
            omega
          obtain ⟨DN, hDN⟩ : ∃ x, x = insN n key val := ⟨_, rfl⟩
          rw [← hDN] at HIS ⊢
          have HQD : Hid (DN.ks.length + DN.cs.length ≤ 9223372036854775807) := by show _ ≤ _; rw [HIS.out]; exact Nat.zero_le _
          clear hDN HFL
          cases hFB : findB n key with
          | false =>
            rw [hFB] at HFD HIS
            obtain ⟨ba, bc, hlo, hB, hbc1, hbc2⟩ := HP.out.low HNP.out (FI) (by omega)
            have HLO : Hid (∀ wx, (Instr.slice 22 (.slice pa np pc) (some (.int .i64 (FI : Int))) none none).run Try.prog wx = .ok (.slice ba (np - (FI)) bc) wx) := fun wx => by
              have := hlo wx
              exact this
            obtain ⟨bn, hbn⟩ : ∃ m, np - (FI) = m := ⟨_, rfl⟩
            rw [hbn] at HLO hB
            have HDR : Hid (∀ W, Below w.heap.size w W → Prs W (.slice ba bn bc) (xs.drop (FI)) (n.ps.drop (FI))) := fun W hb => hB W (HP.out.below hb)
            obtain ⟨PB, hPB⟩ : ∃ x, x = flatP (xs.drop (FI)) := ⟨_, rfl⟩
            have HR2 : Hid (∀ W, Below w.heap.size w W → RowR W 2 (.slice ba bn bc) PB) := fun W hb => by rw [hPB]; exact RowR.of_prs (HDR.out W hb) (by rw [List.length_drop]; have := HNP.out; omega)
            obtain ⟨PC, hPC⟩ : ∃ x, x = PA ++ [.slice a1 n1 c1, .slice a2 n2 c2] := ⟨_, rfl⟩
            have HL2 : Hid (PC.length ≤ 1500) := by
              have := HL1.out
              show _ ≤ _
              rw [hPC]
              simp only [List.length_append, List.length_cons, List.length_nil]
              omega
            have HND : Hid (∀ wx a m c, Below w.heap.size w wx → wx.ownsRow (w.heap.size + 2) 36 2 (.slice a m c) m (PC ++ PB) → NdV wx (.agg #[.bool true, .slice a m c, .slice none 0 0, .slice none 0 0]) DN) := fun wx a m c hbw ho => by
              rw [hPC, hPA, hPB] at ho
              have ho' : wx.ownsRow (w.heap.size + 2) 36 2 (.slice a m c) m (flatP (xs.take FI ++ ([(.slice a1 n1 c1, .slice a2 n2 c2)] ++ xs.drop (FI)))) := by rw [flatP_append, flatP_append]; simpa [flatP] using ho
              have hm : m = (xs.take FI ++ ([(Value.slice a1 n1 c1, Value.slice a2 n2 c2)] ++ xs.drop (FI))).length := by have := ho'.1; rw [flatP_len] at this; omega
              subst hm
              rw [HIS.out]
              refine ⟨_, _, _, _, [], rfl, prs_own ho' ?_ ?_, Bss.nil _, Is.nil' _⟩
              · simp only [List.length_append, (HTK.out wx hbw).1, (HDR.out wx hbw).1, List.length_cons, List.length_nil, Bool.false_eq_true, if_false, Nat.add_zero]
              · simp only [Bool.false_eq_true, if_false, Nat.add_zero]; exact texts_append (HTK.out wx hbw).1 (HTK.out wx hbw).texts (texts_append (xs := [(.slice a1 n1 c1, .slice a2 n2 c2)]) (ps := [(key, val)]) rfl (fun i hi => by
                  obtain rfl : i = 0 := by simp at hi; omega
                  exact ⟨HKV.out.below hbw, HVV.out.below hbw⟩) (HDR.out wx hbw).texts)
            have HPC := hide hPC
            clear hPC hPA hPB hB hlo hbn HIS HTK HDR
            go_enter Try.func32, Try.ntmps32
            go_wp2_with (first
              | (go_at_call 25; refine (HM.out w1 HG1.out.1).mono ?_; rintro e w2 ⟨rfl, hb2⟩; have HG2 := hide (HG1.out.grow hb2); (try clear z0 z1 z2 z3); (try clear d0 d1 d2 d3 k0 k1 k2 k3); obtain ⟨⟨z0, z1, z2, z3⟩, _⟩ := node_cells HG2.out.2.1; obtain ⟨⟨d0, d1, d2, d3⟩, k0, k1, k2, k3⟩ := node_cells HG2.out.2.2; clear HM hb2)
              | (go_at_call 66; refine (HKE.out w2 HG2.out.1).mono ?_; rintro e w3 ⟨rfl, hw⟩; subst w3)
              | (go_at_call 24; refine (HFD.out w2 HG2.out.1).mono ?_; rintro e w4 ⟨rfl, hb4⟩; have HG4 := hide (HG2.out.grow hb4); (try clear z0 z1 z2 z3); (try clear d0 d1 d2 d3 k0 k1 k2 k3); obtain ⟨⟨z0, z1, z2, z3⟩, _⟩ := node_cells HG4.out.2.1; obtain ⟨⟨d0, d1, d2, d3⟩, k0, k1, k2, k3⟩ := node_cells HG4.out.2.2; obtain ⟨v5, w5, hr5, hrow5, hon5⟩ := appP (B := w.heap.size + 2) (.slice none 0 0) 0 [] (World.ownsRow_nil _ _ _ _) (by omega) (.slice pa FI pc) PA (HR1.out w4 HG4.out.1) (by have := HG4.out.2.2.lt; omega); rw [List.nil_append] at hrow5; have hof5 : Only (fun _ => False) w4 w5 := hon5.mono (fun _ _ h => (by cases h)); obtain ⟨a5, n5, c5, rfl, hn5, ho5⟩ := hrow5; have HG5 := hide (HG4.out.keep hof5); have HR5 := hide hr5; obtain ⟨wz, hwz, HBz, HXz, t0, t1, t2, t3⟩ := nd_box w5 true (.slice a5 n5 c5) (.slice none 0 0) (.slice none 0 0); have hoz := ownsRow_only ho5 (Only.of_below (fun _ => False) HBz.out) (fun _ _ h => h); have fz2 := HXz.out.frozen 2; have fz3 := HXz.out.frozen 3; obtain ⟨w6, hw6⟩ : ∃ x, (wz.setCell ⟨w5.heap.size, 2, none⟩ (.slice none 0 0)).setCell ⟨w5.heap.size, 3, none⟩ (.slice none 0 0) = x := ⟨_, rfl⟩; have on6 : Only (· = w5.heap.size) wz w6 := (by rw [← hw6]; exact ((Only.refl (· = w5.heap.size) wz).setCell ⟨w5.heap.size, 2, none⟩ _ (fun _ => rfl)).setCell ⟨w5.heap.size, 3, none⟩ _ (fun _ => rfl)); have HX6 : Hid (Blk w6 w5.heap.size 26 [.bool true, .slice a5 n5 c5, .slice none 0 0, .slice none 0 0]) := (by rw [← hw6]; exact (HXz.out.set 2 (.slice none 0 0)).set 3 (.slice none 0 0)); have HG6 := hide ((HG5.out.grow HBz.out).only on6 (fun j hj => by subst hj; have := HG5.out.2.2.lt; omega)); have ho6 := ownsRow_only hoz on6 (fun j hj e => row_not_blk hoz HXz.out (by decide) (e ▸ hj)); have hsz : wz.heap.size = w5.heap.size + 1 := (by rw [← hwz]; simp); obtain ⟨w7, hw7⟩ : ∃ x, w6.alloc (.cells #[.slice a1 n1 c1, .slice a2 n2 c2] 36) = x := ⟨_, rfl⟩; have hb7 : Below w6.heap.size w6 w7 := (by rw [← hw7]; exact (Below.refl _ w6).alloc (Nat.le_refl _) _); have hB7 : Blk w7 w6.heap.size 36 [.slice a1 n1 c1, .slice a2 n2 c2] := (by rw [← hw7]; exact Blk.new w6 _ _); have hs6 : w6.heap.size = w5.heap.size + 1 := (by rw [← hw6]; simp [World.setCell]; exact hsz); have ho7 := ownsRow_only ho6 (Only.of_below (fun _ => False) hb7) (fun _ _ h => h); have HG7 := hide (HG6.out.grow hb7); have HX7 := hide (HX6.out.below hb7 HX6.out.lt); obtain ⟨v8, w8, hr8, hrow8, hon8⟩ := appP (B := w.heap.size + 2) _ n5 _ ho7 (by have := ho5.1; have := HL1.out; omega) (.slice (some ⟨w5.heap.size + 1, 0, none⟩) 1 1) [.slice a1 n1 c1, .slice a2 n2 c2] (pair_row (by rw [← hs6]; exact hB7)) (by have := HG7.out.2.2.lt; omega); obtain ⟨a8, n8, c8, rfl, hn8, ho8⟩ := hrow8; have HR8 := hide hr8; have HG8 := hide (HG7.out.only hon8 (fun j hj => (row_blk ho7 hj).1)); have hX8 := HX7.out.only hon8 (fun e => row_not_blk ho7 HX7.out (by decide) e); have c8a := hX8.cell 1; have f8a := hX8.frozen 1; obtain ⟨w9, hw9⟩ : ∃ x, w8.setCell ⟨w5.heap.size, 1, none⟩ (.slice a8 n8 c8) = x := ⟨_, rfl⟩; have on9 : Only (· = w5.heap.size) w8 w9 := (by rw [← hw9]; exact (Only.refl (· = w5.heap.size) w8).setCell ⟨w5.heap.size, 1, none⟩ _ (fun _ => rfl)); have HX9 : Hid (Blk w9 w5.heap.size 26 [.bool true, .slice a8 n8 c8, .slice none 0 0, .slice none 0 0]) := (by rw [← hw9]; exact hX8.set 1 (.slice a8 n8 c8)); have hz5 : w.heap.size + 2 ≤ w5.heap.size := (by have := HG5.out.2.2.lt; omega); have HG9 := hide (HG8.out.only on9 (fun j hj => by subst hj; exact hz5)); have HO9 := hide (ownsRow_only ho8 on9 (fun j hj e => row_not_blk ho8 hX8 (by decide) (e ▸ hj))); obtain ⟨⟨r0, r1, r2, r3⟩, _⟩ := node_cells HX7.out; obtain ⟨⟨y0, y1, y2, y3⟩, _⟩ := node_cells HX9.out; obtain ⟨⟨u0, u1, u2, u3⟩, _⟩ := node_cells HG9.out.2.1; obtain ⟨⟨s0, s1, s2, s3⟩, _⟩ := node_cells HX6.out; clear on6 hoz hr5 hof5 hon5 hr8 hon8 hX8 ho5 ho6 ho7 ho8 on9 hb7 hB7 HX7; clear HFD hb4)
              | (at_builtin; (with_reducible refine wpList_append_run _ rfl (.const (.slice none 0 0)) (.tmp 38) 22 rfl _ _ ?_ ?_ _ _ HR5.out ?_); exact rfl; exact rfl; clear HR5)
              | (at_builtin; (with_reducible refine wpList_append_run _ rfl (.tmp 42) (.tmp 46) 22 rfl _ _ ?_ ?_ _ _ HR8.out ?_); exact rfl; exact rfl; clear HR8))
            rw [← HPC.out] at HO9
            obtain ⟨b8, hb8⟩ : ∃ x, x = w5.heap.size := ⟨_, rfl⟩
            have hb2 : w.heap.size + 2 ≤ b8 := by rw [hb8]; exact hz5
            rw [← hb8] at HX9
            simp only [← hb8]
            clear hb8 hz5
            refine wp_region_set [some (.pointer (some ⟨b8, 1, none⟩)), some (.slice a8 n8 c8), some (.pointer (some ⟨w.heap.size, 1, none⟩)), some (.slice pa np pc), some (.int .i64 (FI : Int)), some (.slice ba bn bc), none, some (.pointer (some ⟨b8, 1, none⟩)), none] [6, 8] (fun D vals W => ap2 w [.bool true, .slice pa np pc, .slice ka nk kc, .slice ca nc cc] (fun W => True) 36 2 (PC) (PB) (.slice a8 n8 c8) n8 b8 (fun v => [.bool true, v, .slice none 0 0, .slice none 0 0]) (D 6) (D 8) (vals 6) W) 64 (by kernel_rfl) (by kernel_rfl) (by kernel_rfl) (by kernel_rfl) rfl ?_ ?_ ?_ ?_
            · exact fun vals0 => (ap2.start (HG9.out.keep ((Only.refl _ w9).drew)) (trivial) (ownsRow_only HO9.out ((Only.refl (fun _ => False) w9).drew) (fun _ _ h => h)) (HX9.out.only ((Only.refl (fun _ => False) w9).drew) (fun h => h)) : ap2 w [.bool true, .slice pa np pc, .slice ka nk kc, .slice ca nc cc] (fun W => True) 36 2 (PC) (PB) (.slice a8 n8 c8) n8 b8 (fun v => [.bool true, v, .slice none 0 0, .slice none 0 0]) false false (vals0 6) _)
            · exact fun D D' vals vals' W hv hs => by (have e1 := hv 6 (by decide); have e2 := hv 8 (by decide); have hs' : ap2 w [.bool true, .slice pa np pc, .slice ka nk kc, .slice ca nc cc] (fun W => True) 36 2 (PC) (PB) (.slice a8 n8 c8) n8 b8 (fun v => [.bool true, v, .slice none 0 0, .slice none 0 0]) (D 6) (D 8) (vals 6) W := hs; rw [e1.1, e1.2, e2.1] at hs'; exact hs')
            · refine ⟨?_, ?_, ?_, ?_, ?_, ?_, ?_, ?_, ?_, trivial⟩
              · intro D vals act wx hu h hs
                have e10 : act.eval (.tmp 10) = .pointer (some ⟨b8, 0, none⟩) := h.old 10 (by kernel_rfl)
                clear h
                refine gives_by rfl act.eval rfl ?_
                generalize act.eval = ρ at *
                intro hf hc
                go_simp
                exact ⟨rfl, hs⟩
              · intro D vals act wx hu h hs
                have e52 : act.eval (.tmp 52) = .pointer (some ⟨b8, 1, none⟩) := h.q 0 52 (by kernel_rfl) rfl
                clear h
                have hxx := ap2.box hs (hu.not 8 (by decide) (by kernel_rfl))
                have c0 := hxx.cell 0
                have c1 := hxx.cell 1
                have c2 := hxx.cell 2
                have c3 := hxx.cell 3
                clear hxx
                refine gives_by rfl act.eval rfl ?_
                generalize act.eval = ρ at *
                intro hf hc
                go_simp
                exact ⟨rfl, hs⟩
              · intro D vals act wx hu h hs
                have e3 : act.eval (.tmp 3) = .pointer (some ⟨w.heap.size, 0, none⟩) := h.old 3 (by kernel_rfl)
                clear h
                refine gives_by rfl act.eval rfl ?_
                generalize act.eval = ρ at *
                intro hf hc
                go_simp
                exact ⟨rfl, hs⟩
              · intro D vals act wx hu h hs
                have e54 : act.eval (.tmp 54) = .pointer (some ⟨w.heap.size, 1, none⟩) := h.q 2 54 (by kernel_rfl) rfl
                clear h
                obtain ⟨⟨x0, x1, x2, x3⟩, _⟩ := node_cells hs.1.2.1
                refine gives_by rfl act.eval rfl ?_
                generalize act.eval = ρ at *
                intro hf hc
                go_simp
                exact ⟨rfl, hs⟩
              · intro D vals act wx hu h hs
                have e8 : act.eval (.tmp 8) = .int .i64 (FI : Int) := h.old 8 (by kernel_rfl)
                clear h
                refine gives_by rfl act.eval rfl ?_
                generalize act.eval = ρ at *
                intro hf hc
                go_simp
                exact ⟨rfl, hs⟩
              · intro D vals act wx hu h hs
                have e55 : act.eval (.tmp 55) = .slice pa np pc := h.q 3 55 (by kernel_rfl) rfl
                have e56 : act.eval (.tmp 56) = .int .i64 (FI : Int) := h.q 4 56 (by kernel_rfl) rfl
                clear h
                have hlo := HLO.out wx
                refine gives_by rfl act.eval rfl ?_
                generalize act.eval = ρ at *
                intro hf hc
                go_simp
                exact ⟨rfl, hs⟩
              · intro D vals act wx hu h hs
                have e53 : act.eval (.tmp 53) = .slice a8 n8 c8 := h.q 1 53 (by kernel_rfl) rfl
                have e57 : act.eval (.tmp 57) = .slice ba bn bc := h.q 5 57 (by kernel_rfl) rfl
                clear h
                have hsz := hs.1.2.2.lt
                have hg := hs.1
                have hr0 := hs.2.2.2.1 hu.self
                have hn5 : n8 ≤ 2000 := by have := hr0.1; have := HL2.out; omega
                obtain ⟨v', wy, hr, hrow, hon⟩ := appP (B := (w.heap.size + 2)) _ _ _ hr0 hn5 (.slice ba bn bc) (PB) (HR2.out wx hg.1) (by omega)
                refine gives_of_run rfl (exec_append (.tmp 53) (.tmp 57) 22 rfl _ _ e53 e57 _ hr) ?_
                exact (ap2.app hs hu.self (hu.not 8 (by decide) (by kernel_rfl)) (by decide) hrow hon (fun _ => trivial) : ap2 w [.bool true, .slice pa np pc, .slice ka nk kc, .slice ca nc cc] (fun W => True) 36 2 (PC) (PB) (.slice a8 n8 c8) n8 b8 (fun v => [.bool true, v, .slice none 0 0, .slice none 0 0]) true (D 8) v' wy)
              · intro D vals act wx hu h hs
                have e10 : act.eval (.tmp 10) = .pointer (some ⟨b8, 0, none⟩) := h.old 10 (by kernel_rfl)
                clear h
                refine gives_by rfl act.eval rfl ?_
                generalize act.eval = ρ at *
                intro hf hc
                go_simp
                exact ⟨rfl, hs⟩
              · intro D vals act wx hu h hs
                have e59 : act.eval (.tmp 59) = .pointer (some ⟨b8, 1, none⟩) := h.q 7 59 (by kernel_rfl) rfl
                have e58 : act.eval (.tmp 58) = vals 6 := h.val 6 58 (by kernel_rfl)
                clear h
                have hdn := (hu.done 6 (by kernel_rfl))
                obtain ⟨a9, n9, c9, h9, hn9, ho9⟩ := hs.2.2.1 hdn
                rw [h9] at e58
                have hx := ap2.box hs hu.self
                have c0 := hx.cell 1
                have f0 := hx.frozen 1
                have hres := (ap2.put 1 hs hdn hu.self (by decide) hb2 rfl (fun _ _ _ => trivial) : ap2 w [.bool true, .slice pa np pc, .slice ka nk kc, .slice ca nc cc] (fun W => True) 36 2 (PC) (PB) (.slice a8 n8 c8) n8 b8 (fun v => [.bool true, v, .slice none 0 0, .slice none 0 0]) (D 6) true (vals 6) (wx.setCell ⟨b8, 1, none⟩ (vals 6)))
                rw [show wx.setCell ⟨b8, 1, none⟩ (vals 6) = wx.setCell ⟨b8, 1, none⟩ (.slice a9 n9 c9) by rw [h9]] at hres
                clear hs hx ho9
                refine gives_by rfl act.eval rfl ?_
                generalize act.eval = ρ at *
                intro hf hc
                go_simp
                first | exact hres | (rw [hdn] at hres; exact hres)
            · intro D vals w12 hq5 hD hs
              obtain ⟨hg, hot, h1, h2, hx⟩ := (show ap2 w [.bool true, .slice pa np pc, .slice ka nk kc, .slice ca nc cc] (fun W => True) 36 2 (PC) (PB) (.slice a8 n8 c8) n8 b8 (fun v => [.bool true, v, .slice none 0 0, .slice none 0 0]) (D 6) (D 8) (vals 6) w12 from hs)
              obtain ⟨a12, n12, c12, h12, hn12, ho12⟩ := h1 (hD 6 (by decide))
              rw [if_pos (hD 8 (by decide)), h12] at hx
              have HG12 := hide hg
              have HX12 := hide hx
              have HO12 := hide ho12
              (try clear z0 z1 z2 z3)
              obtain ⟨⟨z0, z1, z2, z3⟩, _⟩ := node_cells hx
              clear hq5 hD hg hot h1 h2 hx ho12
              simp only [putAll, Act.put, List.setIfInBounds_toArray, List.set_cons_zero, List.set_cons_succ, Nat.zero_add, Nat.reduceAdd]
              have HGD := hide (good_tup (B := w.heap.size + 2) (HND.out w12 a12 n12 c12 HG12.out.1 HO12.out) HQD.out (by have := HG12.out.2.2.lt; omega))
              generalize ownE DN = OE at *
              generalize ownN DN = ON at *
              go_wp2_with (first
                | (go_at_call 75; refine HGD.out.mono ?_; rintro e w6 ⟨l6, p6, m6, c6', kx6, mk6, kc6, q6, mq6, qc6, rfl, hn6, hb6⟩; have HG6 := hide (HG12.out.grow hb6); have HN6 := hide hn6; obtain ⟨⟨d0, d1, d2, d3⟩, k0, k1, k2, k3⟩ := node_cells HG6.out.2.2; clear HGD hb6 hn6))
              (try simp only [Exit.inBlock, Exit.then])
              refine bodyPost_ret (ret_node1 rfl _ _ (w.heap.size + 1) _ _ _ _ _ rfl rfl (laidN_blk HG6.out.2.2 _ _ _ _)) rfl ?_
              exact cg_yes HG6.out _ HN6.out
          | true =>
            have hF3 := hF2 hFB
            rw [hFB] at HFD HIS
            obtain ⟨ba, bc, hlo, hB, hbc1, hbc2⟩ := HP.out.low HNP.out (FI + 1) (by omega)
            have HLO : Hid (∀ wx, (Instr.slice 22 (.slice pa np pc) (some (.int .i64 (FI + 1 : Int))) none none).run Try.prog wx = .ok (.slice ba (np - (FI + 1)) bc) wx) := fun wx => by
              have := hlo wx
              rwa [show ((FI + 1 : Nat) : Int) = (FI + 1 : Int) by omega] at this
            obtain ⟨bn, hbn⟩ : ∃ m, np - (FI + 1) = m := ⟨_, rfl⟩
            rw [hbn] at HLO hB
            have HDR : Hid (∀ W, Below w.heap.size w W → Prs W (.slice ba bn bc) (xs.drop (FI + 1)) (n.ps.drop (FI + 1))) := fun W hb => hB W (HP.out.below hb)
            obtain ⟨PB, hPB⟩ : ∃ x, x = flatP (xs.drop (FI + 1)) := ⟨_, rfl⟩
            have HR2 : Hid (∀ W, Below w.heap.size w W → RowR W 2 (.slice ba bn bc) PB) := fun W hb => by rw [hPB]; exact RowR.of_prs (HDR.out W hb) (by rw [List.length_drop]; have := HNP.out; omega)
            obtain ⟨PC, hPC⟩ : ∃ x, x = PA ++ [.slice a1 n1 c1, .slice a2 n2 c2] := ⟨_, rfl⟩
            have HL2 : Hid (PC.length ≤ 1500) := by
              have := HL1.out
              show _ ≤ _
              rw [hPC]
              simp only [List.length_append, List.length_cons, List.length_nil]
              omega
            have HND : Hid (∀ wx a m c, Below w.heap.size w wx → wx.ownsRow (w.heap.size + 2) 36 2 (.slice a m c) m (PC ++ PB) → NdV wx (.agg #[.bool true, .slice a m c, .slice none 0 0, .slice none 0 0]) DN) := fun wx a m c hbw ho => by
              rw [hPC, hPA, hPB] at ho
              have ho' : wx.ownsRow (w.heap.size + 2) 36 2 (.slice a m c) m (flatP (xs.take FI ++ ([(.slice a1 n1 c1, .slice a2 n2 c2)] ++ xs.drop (FI + 1)))) := by rw [flatP_append, flatP_append]; simpa [flatP] using ho
              have hm : m = (xs.take FI ++ ([(Value.slice a1 n1 c1, Value.slice a2 n2 c2)] ++ xs.drop (FI + 1))).length := by have := ho'.1; rw [flatP_len] at this; omega
              subst hm
              rw [HIS.out]
              refine ⟨_, _, _, _, [], rfl, prs_own ho' ?_ ?_, Bss.nil _, Is.nil' _⟩
              · simp only [List.length_append, (HTK.out wx hbw).1, (HDR.out wx hbw).1, List.length_cons, List.length_nil, if_true]
              · simp only [if_true]; exact texts_append (HTK.out wx hbw).1 (HTK.out wx hbw).texts (texts_append (xs := [(.slice a1 n1 c1, .slice a2 n2 c2)]) (ps := [(key, val)]) rfl (fun i hi => by
                  obtain rfl : i = 0 := by simp at hi; omega
                  exact ⟨HKV.out.below hbw, HVV.out.below hbw⟩) (HDR.out wx hbw).texts)
            have HPC := hide hPC
            clear hPC hPA hPB hB hlo hbn HIS HTK HDR
            go_enter Try.func32, Try.ntmps32
            go_wp2_with (first
              | (go_at_call 25; refine (HM.out w1 HG1.out.1).mono ?_; rintro e w2 ⟨rfl, hb2⟩; have HG2 := hide (HG1.out.grow hb2); (try clear z0 z1 z2 z3); (try clear d0 d1 d2 d3 k0 k1 k2 k3); obtain ⟨⟨z0, z1, z2, z3⟩, _⟩ := node_cells HG2.out.2.1; obtain ⟨⟨d0, d1, d2, d3⟩, k0, k1, k2, k3⟩ := node_cells HG2.out.2.2; clear HM hb2)
              | (go_at_call 66; refine (HKE.out w2 HG2.out.1).mono ?_; rintro e w3 ⟨rfl, hw⟩; subst w3)
              | (go_at_call 24; refine (HFD.out w2 HG2.out.1).mono ?_; rintro e w4 ⟨rfl, hb4⟩; have HG4 := hide (HG2.out.grow hb4); (try clear z0 z1 z2 z3); (try clear d0 d1 d2 d3 k0 k1 k2 k3); obtain ⟨⟨z0, z1, z2, z3⟩, _⟩ := node_cells HG4.out.2.1; obtain ⟨⟨d0, d1, d2, d3⟩, k0, k1, k2, k3⟩ := node_cells HG4.out.2.2; obtain ⟨v5, w5, hr5, hrow5, hon5⟩ := appP (B := w.heap.size + 2) (.slice none 0 0) 0 [] (World.ownsRow_nil _ _ _ _) (by omega) (.slice pa FI pc) PA (HR1.out w4 HG4.out.1) (by have := HG4.out.2.2.lt; omega); rw [List.nil_append] at hrow5; have hof5 : Only (fun _ => False) w4 w5 := hon5.mono (fun _ _ h => (by cases h)); obtain ⟨a5, n5, c5, rfl, hn5, ho5⟩ := hrow5; have HG5 := hide (HG4.out.keep hof5); have HR5 := hide hr5; obtain ⟨wz, hwz, HBz, HXz, t0, t1, t2, t3⟩ := nd_box w5 true (.slice a5 n5 c5) (.slice none 0 0) (.slice none 0 0); have hoz := ownsRow_only ho5 (Only.of_below (fun _ => False) HBz.out) (fun _ _ h => h); have fz2 := HXz.out.frozen 2; have fz3 := HXz.out.frozen 3; obtain ⟨w6, hw6⟩ : ∃ x, (wz.setCell ⟨w5.heap.size, 2, none⟩ (.slice none 0 0)).setCell ⟨w5.heap.size, 3, none⟩ (.slice none 0 0) = x := ⟨_, rfl⟩; have on6 : Only (· = w5.heap.size) wz w6 := (by rw [← hw6]; exact ((Only.refl (· = w5.heap.size) wz).setCell ⟨w5.heap.size, 2, none⟩ _ (fun _ => rfl)).setCell ⟨w5.heap.size, 3, none⟩ _ (fun _ => rfl)); have HX6 : Hid (Blk w6 w5.heap.size 26 [.bool true, .slice a5 n5 c5, .slice none 0 0, .slice none 0 0]) := (by rw [← hw6]; exact (HXz.out.set 2 (.slice none 0 0)).set 3 (.slice none 0 0)); have HG6 := hide ((HG5.out.grow HBz.out).only on6 (fun j hj => by subst hj; have := HG5.out.2.2.lt; omega)); have ho6 := ownsRow_only hoz on6 (fun j hj e => row_not_blk hoz HXz.out (by decide) (e ▸ hj)); have hsz : wz.heap.size = w5.heap.size + 1 := (by rw [← hwz]; simp); obtain ⟨w7, hw7⟩ : ∃ x, w6.alloc (.cells #[.slice a1 n1 c1, .slice a2 n2 c2] 36) = x := ⟨_, rfl⟩; have hb7 : Below w6.heap.size w6 w7 := (by rw [← hw7]; exact (Below.refl _ w6).alloc (Nat.le_refl _) _); have hB7 : Blk w7 w6.heap.size 36 [.slice a1 n1 c1, .slice a2 n2 c2] := (by rw [← hw7]; exact Blk.new w6 _ _); have hs6 : w6.heap.size = w5.heap.size + 1 := (by rw [← hw6]; simp [World.setCell]; exact hsz); have ho7 := ownsRow_only ho6 (Only.of_below (fun _ => False) hb7) (fun _ _ h => h); have HG7 := hide (HG6.out.grow hb7); have HX7 := hide (HX6.out.below hb7 HX6.out.lt); obtain ⟨v8, w8, hr8, hrow8, hon8⟩ := appP (B := w.heap.size + 2) _ n5 _ ho7 (by have := ho5.1; have := HL1.out; omega) (.slice (some ⟨w5.heap.size + 1, 0, none⟩) 1 1) [.slice a1 n1 c1, .slice a2 n2 c2] (pair_row (by rw [← hs6]; exact hB7)) (by have := HG7.out.2.2.lt; omega); obtain ⟨a8, n8, c8, rfl, hn8, ho8⟩ := hrow8; have HR8 := hide hr8; have HG8 := hide (HG7.out.only hon8 (fun j hj => (row_blk ho7 hj).1)); have hX8 := HX7.out.only hon8 (fun e => row_not_blk ho7 HX7.out (by decide) e); have c8a := hX8.cell 1; have f8a := hX8.frozen 1; obtain ⟨w9, hw9⟩ : ∃ x, w8.setCell ⟨w5.heap.size, 1, none⟩ (.slice a8 n8 c8) = x := ⟨_, rfl⟩; have on9 : Only (· = w5.heap.size) w8 w9 := (by rw [← hw9]; exact (Only.refl (· = w5.heap.size) w8).setCell ⟨w5.heap.size, 1, none⟩ _ (fun _ => rfl)); have HX9 : Hid (Blk w9 w5.heap.size 26 [.bool true, .slice a8 n8 c8, .slice none 0 0, .slice none 0 0]) := (by rw [← hw9]; exact hX8.set 1 (.slice a8 n8 c8)); have hz5 : w.heap.size + 2 ≤ w5.heap.size := (by have := HG5.out.2.2.lt; omega); have HG9 := hide (HG8.out.only on9 (fun j hj => by subst hj; exact hz5)); have HO9 := hide (ownsRow_only ho8 on9 (fun j hj e => row_not_blk ho8 hX8 (by decide) (e ▸ hj))); obtain ⟨⟨r0, r1, r2, r3⟩, _⟩ := node_cells HX7.out; obtain ⟨⟨y0, y1, y2, y3⟩, _⟩ := node_cells HX9.out; obtain ⟨⟨u0, u1, u2, u3⟩, _⟩ := node_cells HG9.out.2.1; obtain ⟨⟨s0, s1, s2, s3⟩, _⟩ := node_cells HX6.out; clear on6 hoz hr5 hof5 hon5 hr8 hon8 hX8 ho5 ho6 ho7 ho8 on9 hb7 hB7 HX7; clear HFD hb4)
              | (at_builtin; (with_reducible refine wpList_append_run _ rfl (.const (.slice none 0 0)) (.tmp 38) 22 rfl _ _ ?_ ?_ _ _ HR5.out ?_); exact rfl; exact rfl; clear HR5)
              | (at_builtin; (with_reducible refine wpList_append_run _ rfl (.tmp 42) (.tmp 46) 22 rfl _ _ ?_ ?_ _ _ HR8.out ?_); exact rfl; exact rfl; clear HR8))
            rw [← HPC.out] at HO9
            obtain ⟨b8, hb8⟩ : ∃ x, x = w5.heap.size := ⟨_, rfl⟩
            have hb2 : w.heap.size + 2 ≤ b8 := by rw [hb8]; exact hz5
            rw [← hb8] at HX9
            simp only [← hb8]
            clear hb8 hz5
            refine wp_region_set [some (.pointer (some ⟨b8, 1, none⟩)), some (.slice a8 n8 c8), some (.pointer (some ⟨w.heap.size, 1, none⟩)), some (.slice pa np pc), some (.int .i64 (FI + 1 : Int)), some (.slice ba bn bc), none, some (.pointer (some ⟨b8, 1, none⟩)), none] [6, 8] (fun D vals W => ap2 w [.bool true, .slice pa np pc, .slice ka nk kc, .slice ca nc cc] (fun W => True) 36 2 (PC) (PB) (.slice a8 n8 c8) n8 b8 (fun v => [.bool true, v, .slice none 0 0, .slice none 0 0]) (D 6) (D 8) (vals 6) W) 64 (by kernel_rfl) (by kernel_rfl) (by kernel_rfl) (by kernel_rfl) rfl ?_ ?_ ?_ ?_
            · exact fun vals0 => (ap2.start (HG9.out.keep ((Only.refl _ w9).drew)) (trivial) (ownsRow_only HO9.out ((Only.refl (fun _ => False) w9).drew) (fun _ _ h => h)) (HX9.out.only ((Only.refl (fun _ => False) w9).drew) (fun h => h)) : ap2 w [.bool true, .slice pa np pc, .slice ka nk kc, .slice ca nc cc] (fun W => True) 36 2 (PC) (PB) (.slice a8 n8 c8) n8 b8 (fun v => [.bool true, v, .slice none 0 0, .slice none 0 0]) false false (vals0 6) _)
            · exact fun D D' vals vals' W hv hs => by (have e1 := hv 6 (by decide); have e2 := hv 8 (by decide); have hs' : ap2 w [.bool true, .slice pa np pc, .slice ka nk kc, .slice ca nc cc] (fun W => True) 36 2 (PC) (PB) (.slice a8 n8 c8) n8 b8 (fun v => [.bool true, v, .slice none 0 0, .slice none 0 0]) (D 6) (D 8) (vals 6) W := hs; rw [e1.1, e1.2, e2.1] at hs'; exact hs')
            · refine ⟨?_, ?_, ?_, ?_, ?_, ?_, ?_, ?_, ?_, trivial⟩
              · intro D vals act wx hu h hs
                have e10 : act.eval (.tmp 10) = .pointer (some ⟨b8, 0, none⟩) := h.old 10 (by kernel_rfl)
                clear h
                refine gives_by rfl act.eval rfl ?_
                generalize act.eval = ρ at *
                intro hf hc
                go_simp
                exact ⟨rfl, hs⟩
              · intro D vals act wx hu h hs
                have e52 : act.eval (.tmp 52) = .pointer (some ⟨b8, 1, none⟩) := h.q 0 52 (by kernel_rfl) rfl
                clear h
                have hxx := ap2.box hs (hu.not 8 (by decide) (by kernel_rfl))
                have c0 := hxx.cell 0
                have c1 := hxx.cell 1
                have c2 := hxx.cell 2
                have c3 := hxx.cell 3
                clear hxx
                refine gives_by rfl act.eval rfl ?_
                generalize act.eval = ρ at *
                intro hf hc
                go_simp
                exact ⟨rfl, hs⟩
              · intro D vals act wx hu h hs
                have e3 : act.eval (.tmp 3) = .pointer (some ⟨w.heap.size, 0, none⟩) := h.old 3 (by kernel_rfl)
                clear h
                refine gives_by rfl act.eval rfl ?_
                generalize act.eval = ρ at *
                intro hf hc
                go_simp
                exact ⟨rfl, hs⟩
              · intro D vals act wx hu h hs
                have e54 : act.eval (.tmp 54) = .pointer (some ⟨w.heap.size, 1, none⟩) := h.q 2 54 (by kernel_rfl) rfl
                clear h
                obtain ⟨⟨x0, x1, x2, x3⟩, _⟩ := node_cells hs.1.2.1
                refine gives_by rfl act.eval rfl ?_
                generalize act.eval = ρ at *
                intro hf hc
                go_simp
                exact ⟨rfl, hs⟩
              · intro D vals act wx hu h hs
                have e8 : act.eval (.tmp 8) = .int .i64 (FI + 1 : Int) := h.old 8 (by kernel_rfl)
                clear h
                refine gives_by rfl act.eval rfl ?_
                generalize act.eval = ρ at *
                intro hf hc
                go_simp
                exact ⟨rfl, hs⟩
              · intro D vals act wx hu h hs
                have e55 : act.eval (.tmp 55) = .slice pa np pc := h.q 3 55 (by kernel_rfl) rfl
                have e56 : act.eval (.tmp 56) = .int .i64 (FI + 1 : Int) := h.q 4 56 (by kernel_rfl) rfl
                clear h
                have hlo := HLO.out wx
                refine gives_by rfl act.eval rfl ?_
                generalize act.eval = ρ at *
                intro hf hc
                go_simp
                exact ⟨rfl, hs⟩
              · intro D vals act wx hu h hs
                have e53 : act.eval (.tmp 53) = .slice a8 n8 c8 := h.q 1 53 (by kernel_rfl) rfl
                have e57 : act.eval (.tmp 57) = .slice ba bn bc := h.q 5 57 (by kernel_rfl) rfl
                clear h
                have hsz := hs.1.2.2.lt
                have hg := hs.1
                have hr0 := hs.2.2.2.1 hu.self
                have hn5 : n8 ≤ 2000 := by have := hr0.1; have := HL2.out; omega
                obtain ⟨v', wy, hr, hrow, hon⟩ := appP (B := (w.heap.size + 2)) _ _ _ hr0 hn5 (.slice ba bn bc) (PB) (HR2.out wx hg.1) (by omega)
                refine gives_of_run rfl (exec_append (.tmp 53) (.tmp 57) 22 rfl _ _ e53 e57 _ hr) ?_
                exact (ap2.app hs hu.self (hu.not 8 (by decide) (by kernel_rfl)) (by decide) hrow hon (fun _ => trivial) : ap2 w [.bool true, .slice pa np pc, .slice ka nk kc, .slice ca nc cc] (fun W => True) 36 2 (PC) (PB) (.slice a8 n8 c8) n8 b8 (fun v => [.bool true, v, .slice none 0 0, .slice none 0 0]) true (D 8) v' wy)
              · intro D vals act wx hu h hs
                have e10 : act.eval (.tmp 10) = .pointer (some ⟨b8, 0, none⟩) := h.old 10 (by kernel_rfl)
                clear h
                refine gives_by rfl act.eval rfl ?_
                generalize act.eval = ρ at *
                intro hf hc
                go_simp
                exact ⟨rfl, hs⟩
              · intro D vals act wx hu h hs
                have e59 : act.eval (.tmp 59) = .pointer (some ⟨b8, 1, none⟩) := h.q 7 59 (by kernel_rfl) rfl
                have e58 : act.eval (.tmp 58) = vals 6 := h.val 6 58 (by kernel_rfl)
                clear h
                have hdn := (hu.done 6 (by kernel_rfl))
                obtain ⟨a9, n9, c9, h9, hn9, ho9⟩ := hs.2.2.1 hdn
                rw [h9] at e58
                have hx := ap2.box hs hu.self
                have c0 := hx.cell 1
                have f0 := hx.frozen 1
                have hres := (ap2.put 1 hs hdn hu.self (by decide) hb2 rfl (fun _ _ _ => trivial) : ap2 w [.bool true, .slice pa np pc, .slice ka nk kc, .slice ca nc cc] (fun W => True) 36 2 (PC) (PB) (.slice a8 n8 c8) n8 b8 (fun v => [.bool true, v, .slice none 0 0, .slice none 0 0]) (D 6) true (vals 6) (wx.setCell ⟨b8, 1, none⟩ (vals 6)))
                rw [show wx.setCell ⟨b8, 1, none⟩ (vals 6) = wx.setCell ⟨b8, 1, none⟩ (.slice a9 n9 c9) by rw [h9]] at hres
                clear hs hx ho9
                refine gives_by rfl act.eval rfl ?_
                generalize act.eval = ρ at *
                intro hf hc
                go_simp
                first | exact hres | (rw [hdn] at hres; exact hres)
            · intro D vals w12 hq5 hD hs
              obtain ⟨hg, hot, h1, h2, hx⟩ := (show ap2 w [.bool true, .slice pa np pc, .slice ka nk kc, .slice ca nc cc] (fun W => True) 36 2 (PC) (PB) (.slice a8 n8 c8) n8 b8 (fun v => [.bool true, v, .slice none 0 0, .slice none 0 0]) (D 6) (D 8) (vals 6) w12 from hs)
              obtain ⟨a12, n12, c12, h12, hn12, ho12⟩ := h1 (hD 6 (by decide))
              rw [if_pos (hD 8 (by decide)), h12] at hx
              have HG12 := hide hg
              have HX12 := hide hx
              have HO12 := hide ho12
              (try clear z0 z1 z2 z3)
              obtain ⟨⟨z0, z1, z2, z3⟩, _⟩ := node_cells hx
              clear hq5 hD hg hot h1 h2 hx ho12
              simp only [putAll, Act.put, List.setIfInBounds_toArray, List.set_cons_zero, List.set_cons_succ, Nat.zero_add, Nat.reduceAdd]
              have HGD := hide (good_tup (B := w.heap.size + 2) (HND.out w12 a12 n12 c12 HG12.out.1 HO12.out) HQD.out (by have := HG12.out.2.2.lt; omega))
              generalize ownE DN = OE at *
              generalize ownN DN = ON at *
              go_wp2_with (first
                | (go_at_call 75; refine HGD.out.mono ?_; rintro e w6 ⟨l6, p6, m6, c6', kx6, mk6, kc6, q6, mq6, qc6, rfl, hn6, hb6⟩; have HG6 := hide (HG12.out.grow hb6); have HN6 := hide hn6; obtain ⟨⟨d0, d1, d2, d3⟩, k0, k1, k2, k3⟩ := node_cells HG6.out.2.2; clear HGD hb6 hn6))
              (try simp only [Exit.inBlock, Exit.then])
              refine bodyPost_ret (ret_node1 rfl _ _ (w.heap.size + 1) _ _ _ _ _ rfl rfl (laidN_blk HG6.out.2.2 _ _ _ _)) rfl ?_
              exact cg_yes HG6.out _ HN6.out
        · have hv24i : (24 : Int) < (n2 : Int) := by omega
          have hVB : valB val = false := by rw [HVB.out, ← hn2]; exact decide_eq_false hv24
          rw [hVB] at HNN HEE
          simp only [Bool.and_false, Bool.false_eq_true, if_false] at HNN HEE
          rw [HNN.out, HEE.out]
          clear HNN HEE
          clear hn2 hvl
          go_enter Try.func32, Try.ntmps32
          go_wp2_with (first
            | (go_at_call 25; refine (HM.out w1 HG1.out.1).mono ?_; rintro e w2 ⟨rfl, hb2⟩; have HG2 := hide (HG1.out.grow hb2); (try clear z0 z1 z2 z3); (try clear d0 d1 d2 d3 k0 k1 k2 k3); obtain ⟨⟨z0, z1, z2, z3⟩, _⟩ := node_cells HG2.out.2.1; obtain ⟨⟨d0, d1, d2, d3⟩, k0, k1, k2, k3⟩ := node_cells HG2.out.2.2; clear HM hb2)
            | (go_at_call 66; refine (HKE.out w2 HG2.out.1).mono ?_; rintro e w3 ⟨rfl, hw⟩; subst w3))
          (try simp only [Exit.inBlock, Exit.then])
          refine bodyPost_ret (ret_node1 rfl _ _ (w.heap.size + 1) _ _ _ _ _ rfl rfl (laidN_blk HG2.out.2.2 _ _ _ _)) rfl ?_
          exact cg_no HG2.out _ _ _ _ _ rfl

end Go.Proofs.Ytoamdbjailpgdaa
