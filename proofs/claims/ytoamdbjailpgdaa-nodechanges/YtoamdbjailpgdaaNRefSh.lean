/- Contract: the document's Shrink. -/
import Derived.Test.YtoamdbjailpgdaaNRefUn
namespace Go.Proofs.Ytoamdbjailpgdaa
set_option maxRecDepth 20000
open Go.RowKit Go.Shelf
set_option linter.unusedVariables false
set_option linter.unusedSimpArgs false
set_option maxRecDepth 100000
attribute [local go_sem] Oper.semAt_some

set_option maxHeartbeats 1500000 in
theorem refShrink_any (w : World) (v : Value) (n : Nd) (h : NdV w v n) (i : Int) (hq : n.ks.length + n.cs.length ≤ 9223372036854775807) :
    Calls Try.prog 40 #[v, .int .i64 i] w (GivesN w (shrinkN n i) (shrinkE n i)) := by
  have HM : Hid (∀ w1, Below w.heap.size w w1 → Calls Try.prog 25 #[v] w1 fun e w' => e = .returned (.bool (mayN n)) ∧ Below w1.heap.size w1 w') := fun w1 hb => refMay_any w1 v n (h.below hb) hq
  have HNN : Hid (shrinkN n i = if innerB n then (if placeB i n.ks.length then ownN (lessN n i.toNat) else noNd) else noNd) := rfl
  have HEE : Hid (shrinkE n i = if innerB n then (if placeB i n.ks.length then ownE (lessN n i.toNat) else 1) else 100) := rfl
  have hza : ∀ wx : World, (zeroValue 26).run Try.prog wx = .ok (.agg #[.bool false, .slice none 0 0, .slice none 0 0, .slice none 0 0]) wx := fun wx => by kernel_rfl
  have HIN : Hid (innerB n = true → 1 ≤ n.ks.length ∧ n.ks.length ≤ 255 ∧ n.cs.length = n.ks.length + 1) := fun h => by have := innerB_ps h; omega
  have HLN : Hid (leafB n = true → n.ps.length ≤ 255) := fun h => (leafB_ps h).1
  have HLF : Hid (innerB n = true → n.lf = false) := innerB_lf
  have HLL : Hid (leafB n = true → n.lf = true) := leafB_lf
  have HMI : Hid (n.lf = false → mayN n = innerB n) := mayN_in
  have HML : Hid (n.lf = true → mayN n = leafB n) := mayN_lf
  have HMO : Hid (mayN n = (leafB n || innerB n)) := rfl
  obtain ⟨pa, pc, ka, kc, ca, cc, xs, ys, rfl, hp1, hk1, hc1, hp2, hk2, hc2, hP, hK, hC⟩ := h.open
  have HP := hide hP
  have HK := hide hK
  have HC := hide hC
  unfold ndv at HM ⊢
  obtain ⟨lf, hlf⟩ : ∃ b, n.lf = b := ⟨_, rfl⟩
  obtain ⟨np, hnp⟩ : ∃ m, n.ps.length = m := ⟨_, rfl⟩
  obtain ⟨nk, hnk⟩ : ∃ m, n.ks.length = m := ⟨_, rfl⟩
  obtain ⟨nc, hnc⟩ : ∃ m, n.cs.length = m := ⟨_, rfl⟩
  have HNP := hide hnp
  have HNK := hide hnk
  have HNC := hide hnc
  have HF0 := hide hlf
  rw [hnp, hnk, hnc, hlf] at HM
  rw [hnp] at HLN HP hp1
  rw [hnk, hnc] at HIN
  rw [hnk] at HK hk1
  rw [hnc] at HC hc1
  rw [hlf] at HLF HLL HMI HML
  rw [hnp, hnk, hnc, hlf]
  obtain ⟨w1, hw1, hcg⟩ := cg_new w (.bool lf) (.slice pa np pc) (.slice ka nk kc) (.slice ca nc cc)
  have HG1 := hide hcg
  obtain ⟨⟨z0, z1, z2, z3⟩, _⟩ := node_cells hcg.2.1
  clear h hP hK hC hcg hnp hnk hnc hlf
  cases hm : mayN n with
  | false =>
    have hib : innerB n = false := by
      have := HMO.out
      rw [hm] at this
      revert this
      cases leafB n <;> cases innerB n <;> simp
    rw [hib] at HNN HEE
    rw [hm] at HM
    simp only [Bool.false_eq_true, if_false] at HNN HEE
    rw [HNN.out, HEE.out]
    clear HNN HEE
    go_enter Try.func40, Try.ntmps40
    go_wp2_with (first
      | (go_at_call 25; refine (HM.out w1 HG1.out.1).mono ?_; rintro e w2 ⟨rfl, hb2⟩; have HG2 := hide (HG1.out.grow hb2); (try clear z0 z1 z2 z3); (try clear d0 d1 d2 d3 k0 k1 k2 k3); obtain ⟨⟨z0, z1, z2, z3⟩, _⟩ := node_cells HG2.out.2.1; obtain ⟨⟨d0, d1, d2, d3⟩, k0, k1, k2, k3⟩ := node_cells HG2.out.2.2; clear HM hb2))
    (try simp only [Exit.inBlock, Exit.then])
    refine bodyPost_ret (ret_node1 rfl _ _ (w.heap.size + 1) _ _ _ _ _ rfl rfl (laidN_blk HG2.out.2.2 _ _ _ _)) rfl ?_
    exact cg_no HG2.out _ _ _ _ _ rfl
  | true =>
    cases lf with
    | true =>
      have hib : innerB n = false := by
        cases hq9 : innerB n with
        | false => rfl
        | true => have := HLF.out hq9; cases this
      rw [hib] at HNN HEE
      rw [hm] at HM
      simp only [Bool.false_eq_true, if_false] at HNN HEE
      rw [HNN.out, HEE.out]
      clear HNN HEE
      go_enter Try.func40, Try.ntmps40
      go_wp2_with (first
        | (go_at_call 25; refine (HM.out w1 HG1.out.1).mono ?_; rintro e w2 ⟨rfl, hb2⟩; have HG2 := hide (HG1.out.grow hb2); (try clear z0 z1 z2 z3); (try clear d0 d1 d2 d3 k0 k1 k2 k3); obtain ⟨⟨z0, z1, z2, z3⟩, _⟩ := node_cells HG2.out.2.1; obtain ⟨⟨d0, d1, d2, d3⟩, k0, k1, k2, k3⟩ := node_cells HG2.out.2.2; clear HM hb2))
      (try simp only [Exit.inBlock, Exit.then])
      refine bodyPost_ret (ret_node1 rfl _ _ (w.heap.size + 1) _ _ _ _ _ rfl rfl (laidN_blk HG2.out.2.2 _ _ _ _)) rfl ?_
      exact cg_no HG2.out _ _ _ _ _ rfl
    | false =>
      have hib : innerB n = true := by rw [← HMI.out rfl]; exact hm
      rw [hib] at HNN HEE
      rw [hm] at HM
      simp only [if_true] at HNN HEE
      obtain ⟨hn1, hn2, hn3⟩ := HIN.out hib
      have hn4 : nc ≤ nk + 1 := by omega
      have hn5 : nk + 1 ≤ nc := by omega
      clear hn3
      rw [HNK.out] at HNN HEE
      cases hPB : placeB i nk with
      | true =>
        obtain ⟨K, rfl, hKm⟩ := place_nat hPB
        have hKi : (K : Int) < (nk : Int) := by omega
        rw [hPB] at HNN HEE
        simp only [if_true, Int.toNat_natCast] at HNN HEE
        rw [HNN.out, HEE.out]
        clear HNN HEE
        have HCT := hide (fun wx => cut_head (P := Try.prog) 23 34 1 Try.underlying23 sizeRowE ka nk kc K (by omega) (by unfold maxLen; omega) wx)
        have HCI0 : Hid (∀ wx, (Instr.slice 24 (.slice ca nc cc) none (some (.int .i64 (K + 1 : Int))) none).run Try.prog wx = .ok (.slice ca (K + 1) cc) wx) := fun wx => by
          have := cut_head (P := Try.prog) 24 3 1 Try.underlying24 sizeIntE ca nc cc (K + 1) (by omega) (by unfold maxLen; omega) wx
          rwa [show ((K + 1 : Nat) : Int) = (K + 1 : Int) by omega] at this
        obtain ⟨ba, bc, hlo, hB⟩ := HK.out.low HNK.out (K + 1) (by omega)
        obtain ⟨da, dc, hlo2, hB2⟩ := HC.out.low HNC.out (K + 2) (by omega)
        have HLO : Hid (∀ wx, (Instr.slice 23 (.slice ka nk kc) (some (.int .i64 (K + 1 : Int))) none none).run Try.prog wx = .ok (.slice ba (nk - (K + 1)) bc) wx) := fun wx => by
          have := hlo wx
          rwa [show ((K + 1 : Nat) : Int) = (K + 1 : Int) by omega] at this
        have HLI : Hid (∀ wx, (Instr.slice 24 (.slice ca nc cc) (some (.int .i64 (K + 2 : Int))) none none).run Try.prog wx = .ok (.slice da (nc - (K + 2)) dc) wx) := fun wx => by
          have := hlo2 wx
          rwa [show ((K + 2 : Nat) : Int) = (K + 2 : Int) by omega] at this
        obtain ⟨bn, hbn⟩ : ∃ m, nk - (K + 1) = m := ⟨_, rfl⟩
        obtain ⟨dn, hdn⟩ : ∃ m, nc - (K + 2) = m := ⟨_, rfl⟩
        rw [hbn] at HLO hB
        rw [hdn] at HLI hB2
        have HT1 : Hid (∀ W, Below w.heap.size w W → Bss W (.slice ka K kc) (ys.take K) (n.ks.take K)) := fun W hb => by
          have := HK.out.below hb
          rw [← HNK.out] at this
          exact this.take K kc (by rw [HNK.out]; omega) (by omega) (by unfold maxLen; omega)
        have HD1 : Hid (∀ W, Below w.heap.size w W → Bss W (.slice ba bn bc) (ys.drop (K + 1)) (n.ks.drop (K + 1))) := fun W hb => hB W (HK.out.below hb)
        have HT2 : Hid (∀ W, Below w.heap.size w W → Is W (.slice ca (K + 1) cc) (n.cs.take (K + 1))) := fun W hb => by
          have := HC.out.below hb
          rw [← HNC.out] at this
          exact this.take (by rw [HNC.out]; omega) cc (by omega) (by unfold maxLen; omega)
        have HD2 : Hid (∀ W, Below w.heap.size w W → Is W (.slice da dn dc) (n.cs.drop (K + 2))) := fun W hb => hB2 W (HC.out.below hb)
        obtain ⟨DN, hDN⟩ : ∃ x, x = lessN n K := ⟨_, rfl⟩
        rw [← hDN]
        have HDN : Hid (DN = ⟨false, [], n.ks.take K ++ n.ks.drop (K + 1), n.cs.take (K + 1) ++ n.cs.drop (K + 2)⟩) := hDN
        have HLT : Hid (((n.ks.take K).length ≤ 1000 ∧ (n.ks.drop (K + 1)).length ≤ 1000 ∧ (ys.take K).length ≤ 1000) ∧ (n.cs.take (K + 1)).length ≤ 1000 ∧ (n.cs.drop (K + 2)).length ≤ 1000 ∧ (iv (n.cs.take (K + 1))).length ≤ 1000) := by
          have := HNK.out
          have := HNC.out
          have := HK.out.1
          show (_ ∧ _ ∧ _) ∧ _ ∧ _ ∧ _
          simp only [iv, List.length_map, List.length_take, List.length_drop]
          omega
        have HQD : Hid (DN.ks.length + DN.cs.length ≤ 9223372036854775807) := by
          have := HNK.out
          have := HNC.out
          show _ ≤ _
          rw [HDN.out]
          simp only [List.length_append, List.length_take, List.length_drop]
          omega
        obtain ⟨KA, hKA⟩ : ∃ x, x = ys.take K := ⟨_, rfl⟩
        obtain ⟨KB, hKB⟩ : ∃ x, x = ys.drop (K + 1) := ⟨_, rfl⟩
        obtain ⟨IA, hIA⟩ : ∃ x, x = iv (n.cs.take (K + 1)) := ⟨_, rfl⟩
        obtain ⟨IB, hIB⟩ : ∃ x, x = iv (n.cs.drop (K + 2)) := ⟨_, rfl⟩
        have HR1 : Hid (∀ W, Below w.heap.size w W → RowR W 1 (.slice ka K kc) KA) := fun W hb => by rw [hKA]; exact RowR.of_bss (HT1.out W hb) HLT.out.1.1
        have HR2 : Hid (∀ W, Below w.heap.size w W → RowR W 1 (.slice ba bn bc) KB) := fun W hb => by rw [hKB]; exact RowR.of_bss (HD1.out W hb) HLT.out.1.2.1
        have HR3 : Hid (∀ W, Below w.heap.size w W → RowR W 1 (.slice ca (K + 1) cc) IA) := fun W hb => by rw [hIA]; exact RowR.of_is (HT2.out W hb) HLT.out.2.1
        have HR4 : Hid (∀ W, Below w.heap.size w W → RowR W 1 (.slice da dn dc) IB) := fun W hb => by rw [hIB]; exact RowR.of_is (HD2.out W hb) HLT.out.2.2.1
        have HL5 : Hid (KA.length ≤ 1000 ∧ IA.length ≤ 1000) := by rw [hKA, hIA]; exact ⟨HLT.out.1.2.2, HLT.out.2.2.2⟩
        have HND : Hid (∀ wx a1 n1 c1 a2 n2 c2, Below w.heap.size w wx → wx.ownsRow (w.heap.size + 2) 34 1 (.slice a1 n1 c1) n1 (KA ++ KB) → wx.ownsRow (w.heap.size + 2) 3 1 (.slice a2 n2 c2) n2 (IA ++ IB) → NdV wx (.agg #[.bool false, .slice none 0 0, .slice a1 n1 c1, .slice a2 n2 c2]) DN) := fun wx a1 n1 c1 a2 n2 c2 hbw h1 h2 => by
          rw [HDN.out]
          have h1' : wx.ownsRow (w.heap.size + 2) 34 1 (.slice a1 n1 c1) n1 (ys.take K ++ ys.drop (K + 1)) := by rw [hKA, hKB] at h1; simpa using h1
          have h2' : wx.ownsRow (w.heap.size + 2) 3 1 (.slice a2 n2 c2) n2 (iv (n.cs.take (K + 1) ++ n.cs.drop (K + 2))) := by rw [hIA, hIB] at h2; simpa [iv] using h2
          have e1 : n1 = (ys.take K ++ ys.drop (K + 1)).length := by have := h1'.1; omega
          have e2 : n2 = (n.cs.take (K + 1) ++ n.cs.drop (K + 2)).length := by have := h2'.1; rw [iv, List.length_map] at this; omega
          rw [e1] at h1' ⊢
          rw [e2] at h2' ⊢
          refine ⟨_, _, _, [], ys.take K ++ ys.drop (K + 1), rfl, Prs.nil _, bss_own h1' ?_ ?_, (show Ints wx _ _ _ from h2').is⟩
          · show _ = (n.ks.take K ++ n.ks.drop (K + 1)).length
            simp only [List.length_append, (HT1.out wx hbw).1, (HD1.out wx hbw).1, List.length_cons, List.length_nil]
          · exact keys_append (HT1.out wx hbw).1 (HT1.out wx hbw).texts (HD1.out wx hbw).texts
        clear hDN HDN hlo hlo2 hB hB2 hbn hdn hKA hKB hIA hIB HLT HT1 HT2 HD1 HD2
        go_enter Try.func40, Try.ntmps40
        go_wp2_with (first
          | (go_at_call 25; refine (HM.out w1 HG1.out.1).mono ?_; rintro e w2 ⟨rfl, hb2⟩; have HG2 := hide (HG1.out.grow hb2); (try clear z0 z1 z2 z3); (try clear d0 d1 d2 d3 k0 k1 k2 k3); obtain ⟨⟨z0, z1, z2, z3⟩, _⟩ := node_cells HG2.out.2.1; obtain ⟨⟨d0, d1, d2, d3⟩, k0, k1, k2, k3⟩ := node_cells HG2.out.2.2; clear HM hb2))
        refine wp_region_set [some (.pointer (some ⟨w.heap.size, 2, none⟩)), some (.slice ka nk kc), some (.int .i64 (K : Int)), some (.slice ka K kc), none, some (.pointer (some ⟨w.heap.size, 2, none⟩)), some (.slice ka nk kc), some (.int .i64 (K : Int)), some (.int .i64 (K + 1 : Int)), some (.slice ba bn bc), none, some (.pointer (some ⟨w.heap.size, 3, none⟩)), some (.slice ca nc cc), some (.int .i64 (K : Int)), some (.int .i64 (K + 1 : Int)), some (.slice ca (K + 1) cc), none, some (.pointer (some ⟨w.heap.size, 3, none⟩)), some (.slice ca nc cc), some (.int .i64 (K : Int)), some (.int .i64 (K + 2 : Int)), some (.slice da dn dc), none, none, none, none] [4, 10, 16, 22, 23, 24, 25] (fun D vals W => Hid (CgB w [.bool false, .slice pa np pc, .slice ka nk kc, .slice ca nc cc] zeroC W ∧ row2 (w.heap.size + 2) 34 1 4 (KA) 10 (KA ++ KB) D vals W ∧ row2 (w.heap.size + 2) 3 1 16 (IA) 22 (IA ++ IB) D vals W ∧ bldF 23 (fun vals => [.bool false, .slice none 0 0, vals 10, vals 22]) D vals ∧ box2 (w.heap.size + 2) 24 25 (fun vals => [.bool false, .slice none 0 0, vals 10, vals 22]) D vals W)) 53 (by kernel_rfl) (by kernel_rfl) (by kernel_rfl) (by kernel_rfl) rfl ?_ ?_ ?_ ?_
        · exact fun vals0 => hide ⟨HG2.out.keep ((Only.refl _ w2).drew), row2.none, row2.none, bldF.none, box2.none⟩
        · exact fun D D' vals vals' W hv hs => by obtain ⟨hg, hK, hI, hb, hx⟩ := hs; exact hide ⟨hg, (hK.ind (hv 4 (by decide)) (hv 10 (by decide))), (hI.ind (hv 16 (by decide)) (hv 22 (by decide))), hb.ind (hv 23 (by decide)) (by simp only [(hv 10 (by decide)).2, (hv 22 (by decide)).2]), hx.ind (hv 24 (by decide)) (hv 25 (by decide)).1 (by simp only [(hv 10 (by decide)).2, (hv 22 (by decide)).2])⟩
        · refine ⟨?_, ?_, ?_, ?_, ?_, ?_, ?_, ?_, ?_, ?_, ?_, ?_, ?_, ?_, ?_, ?_, ?_, ?_, ?_, ?_, ?_, ?_, ?_, ?_, ?_, ?_, trivial⟩
          · intro D vals act wx hu h hs
            have e2 : act.eval (.tmp 2) = .pointer (some ⟨w.heap.size, 0, none⟩) := h.old 2 (by kernel_rfl)
            clear h
            refine gives_by rfl act.eval rfl ?_
            generalize act.eval = ρ at *
            intro hf hc
            go_simp
            exact ⟨rfl, hs⟩
          · intro D vals act wx hu h hs
            have e25 : act.eval (.tmp 25) = .pointer (some ⟨w.heap.size, 2, none⟩) := h.q 0 25 (by kernel_rfl) rfl
            clear h
            obtain ⟨⟨x0, x1, x2, x3⟩, _⟩ := node_cells hs.out.1.2.1
            refine gives_by rfl act.eval rfl ?_
            generalize act.eval = ρ at *
            intro hf hc
            go_simp
            exact ⟨rfl, hs⟩
          · intro D vals act wx hu h hs
            have e1 : act.eval (.tmp 1) = .int .i64 (K : Int) := h.old 1 (by kernel_rfl)
            clear h
            refine gives_by rfl act.eval rfl ?_
            generalize act.eval = ρ at *
            intro hf hc
            go_simp
            exact ⟨rfl, hs⟩
          · intro D vals act wx hu h hs
            have e26 : act.eval (.tmp 26) = .slice ka nk kc := h.q 1 26 (by kernel_rfl) rfl
            have e27 : act.eval (.tmp 27) = .int .i64 (K : Int) := h.q 2 27 (by kernel_rfl) rfl
            clear h
            have hct := HCT.out wx
            refine gives_by rfl act.eval rfl ?_
            generalize act.eval = ρ at *
            intro hf hc
            go_simp
            exact ⟨rfl, hs⟩
          · intro D vals act wx hu h hs
            have e28 : act.eval (.tmp 28) = .slice ka K kc := h.q 3 28 (by kernel_rfl) rfl
            clear h
            obtain ⟨hg, hK, hI, hb, hx⟩ := hs
            have hsz := hg.2.2.lt
            obtain ⟨v', wy, hr, hrow, hon⟩ := appK (B := (w.heap.size + 2)) (.slice none 0 0) 0 [] (World.ownsRow_nil _ _ _ _) (by omega) (.slice ka K kc) (KA) (HR1.out wx hg.1) (by omega)
            rw [List.nil_append] at hrow
            have hof : Only (fun _ => False) wx wy := hon.mono (fun _ _ h => (by cases h))
            refine gives_of_run rfl (exec_append (.const (.slice none 0 0)) (.tmp 28) 23 rfl _ _ rfl e28 _ hr) ?_
            exact hide ⟨hg.keep hof, row2.first (by decide) (hu.not 10 (by decide) (by kernel_rfl)) hrow, (row2.map (hI.ne (by decide) (by decide)) (fun cs v h => h.keep hof)), bldF.not (by decide) (hu.not 23 (by decide) (by kernel_rfl)), (box2.map (hx.ne (by decide) (by decide) (hu.not 25 (by decide) (by kernel_rfl))) (fun b X h => h.only hof (fun h => h)))⟩
          · intro D vals act wx hu h hs
            have e2 : act.eval (.tmp 2) = .pointer (some ⟨w.heap.size, 0, none⟩) := h.old 2 (by kernel_rfl)
            clear h
            refine gives_by rfl act.eval rfl ?_
            generalize act.eval = ρ at *
            intro hf hc
            go_simp
            exact ⟨rfl, hs⟩
          · intro D vals act wx hu h hs
            have e30 : act.eval (.tmp 30) = .pointer (some ⟨w.heap.size, 2, none⟩) := h.q 5 30 (by kernel_rfl) rfl
            clear h
            obtain ⟨⟨x0, x1, x2, x3⟩, _⟩ := node_cells hs.out.1.2.1
            refine gives_by rfl act.eval rfl ?_
            generalize act.eval = ρ at *
            intro hf hc
            go_simp
            exact ⟨rfl, hs⟩
          · intro D vals act wx hu h hs
            have e1 : act.eval (.tmp 1) = .int .i64 (K : Int) := h.old 1 (by kernel_rfl)
            clear h
            refine gives_by rfl act.eval rfl ?_
            generalize act.eval = ρ at *
            intro hf hc
            go_simp
            exact ⟨rfl, hs⟩
          · intro D vals act wx hu h hs
            have e32 : act.eval (.tmp 32) = .int .i64 (K : Int) := h.q 7 32 (by kernel_rfl) rfl
            clear h
            refine gives_by rfl act.eval rfl ?_
            generalize act.eval = ρ at *
            intro hf hc
            go_simp
            rw [IntWalk.i64_in _ (by omega)]
            exact ⟨rfl, hs⟩
          · intro D vals act wx hu h hs
            have e31 : act.eval (.tmp 31) = .slice ka nk kc := h.q 6 31 (by kernel_rfl) rfl
            have e33 : act.eval (.tmp 33) = .int .i64 (K + 1 : Int) := h.q 8 33 (by kernel_rfl) rfl
            clear h
            have hlo := HLO.out wx
            refine gives_by rfl act.eval rfl ?_
            generalize act.eval = ρ at *
            intro hf hc
            go_simp
            exact ⟨rfl, hs⟩
          · intro D vals act wx hu h hs
            have e29 : act.eval (.tmp 29) = vals 4 := h.val 4 29 (by kernel_rfl)
            have e34 : act.eval (.tmp 34) = .slice ba bn bc := h.q 9 34 (by kernel_rfl) rfl
            clear h
            obtain ⟨hg, hK, hI, hb, hx⟩ := hs
            have hsz := hg.2.2.lt
            obtain ⟨a4, n4, c4, h4, hn4, ho4⟩ := hK.2 hu.self (hu.done 4 (by kernel_rfl))
            rw [h4] at e29
            have hn5 : n4 ≤ 2000 := by have := ho4.1; have := HL5.out.1; omega
            obtain ⟨v', wy, hr, hrow, hon⟩ := appK (B := (w.heap.size + 2)) _ n4 _ ho4 hn5 (.slice ba bn bc) (KB) (HR2.out wx hg.1) (by omega)
            refine gives_of_run rfl (exec_append (.tmp 29) (.tmp 34) 23 rfl _ _ e29 e34 _ hr) ?_
            exact hide ⟨hg.only hon (fun j hj => (row_blk ho4 hj).1), row2.second hrow, (row2.map (hI.ne (by decide) (by decide)) (fun cs v h => h.other ho4 (by decide) hon)), bldF.not (by decide) (hu.not 23 (by decide) (by kernel_rfl)), (box2.map (hx.ne (by decide) (by decide) (hu.not 25 (by decide) (by kernel_rfl))) (fun b X h => h.only hon (fun e => row_not_blk ho4 h (by decide) e)))⟩
          · intro D vals act wx hu h hs
            have e2 : act.eval (.tmp 2) = .pointer (some ⟨w.heap.size, 0, none⟩) := h.old 2 (by kernel_rfl)
            clear h
            refine gives_by rfl act.eval rfl ?_
            generalize act.eval = ρ at *
            intro hf hc
            go_simp
            exact ⟨rfl, hs⟩
          · intro D vals act wx hu h hs
            have e36 : act.eval (.tmp 36) = .pointer (some ⟨w.heap.size, 3, none⟩) := h.q 11 36 (by kernel_rfl) rfl
            clear h
            obtain ⟨⟨x0, x1, x2, x3⟩, _⟩ := node_cells hs.out.1.2.1
            refine gives_by rfl act.eval rfl ?_
            generalize act.eval = ρ at *
            intro hf hc
            go_simp
            exact ⟨rfl, hs⟩
          · intro D vals act wx hu h hs
            have e1 : act.eval (.tmp 1) = .int .i64 (K : Int) := h.old 1 (by kernel_rfl)
            clear h
            refine gives_by rfl act.eval rfl ?_
            generalize act.eval = ρ at *
            intro hf hc
            go_simp
            exact ⟨rfl, hs⟩
          · intro D vals act wx hu h hs
            have e38 : act.eval (.tmp 38) = .int .i64 (K : Int) := h.q 13 38 (by kernel_rfl) rfl
            clear h
            refine gives_by rfl act.eval rfl ?_
            generalize act.eval = ρ at *
            intro hf hc
            go_simp
            rw [IntWalk.i64_in _ (by omega)]
            exact ⟨rfl, hs⟩
          · intro D vals act wx hu h hs
            have e37 : act.eval (.tmp 37) = .slice ca nc cc := h.q 12 37 (by kernel_rfl) rfl
            have e39 : act.eval (.tmp 39) = .int .i64 (K + 1 : Int) := h.q 14 39 (by kernel_rfl) rfl
            clear h
            have hct := HCI0.out wx
            refine gives_by rfl act.eval rfl ?_
            generalize act.eval = ρ at *
            intro hf hc
            go_simp
            exact ⟨rfl, hs⟩
          · intro D vals act wx hu h hs
            have e40 : act.eval (.tmp 40) = .slice ca (K + 1) cc := h.q 15 40 (by kernel_rfl) rfl
            clear h
            obtain ⟨hg, hK, hI, hb, hx⟩ := hs
            have hsz := hg.2.2.lt
            obtain ⟨v', wy, hr, hrow, hon⟩ := appI (B := (w.heap.size + 2)) (.slice none 0 0) 0 [] (World.ownsRow_nil _ _ _ _) (by omega) (.slice ca (K + 1) cc) (IA) (HR3.out wx hg.1) (by omega)
            rw [List.nil_append] at hrow
            have hof : Only (fun _ => False) wx wy := hon.mono (fun _ _ h => (by cases h))
            refine gives_of_run rfl (exec_append (.const (.slice none 0 0)) (.tmp 40) 24 rfl _ _ rfl e40 _ hr) ?_
            exact hide ⟨hg.keep hof, (row2.map (hK.ne (by decide) (by decide)) (fun cs v h => h.keep hof)), row2.first (by decide) (hu.not 22 (by decide) (by kernel_rfl)) hrow, bldF.not (by decide) (hu.not 23 (by decide) (by kernel_rfl)), (box2.map (hx.ne (by decide) (by decide) (hu.not 25 (by decide) (by kernel_rfl))) (fun b X h => h.only hof (fun h => h)))⟩
          · intro D vals act wx hu h hs
            have e2 : act.eval (.tmp 2) = .pointer (some ⟨w.heap.size, 0, none⟩) := h.old 2 (by kernel_rfl)
            clear h
            refine gives_by rfl act.eval rfl ?_
            generalize act.eval = ρ at *
            intro hf hc
            go_simp
            exact ⟨rfl, hs⟩
          · intro D vals act wx hu h hs
            have e42 : act.eval (.tmp 42) = .pointer (some ⟨w.heap.size, 3, none⟩) := h.q 17 42 (by kernel_rfl) rfl
            clear h
            obtain ⟨⟨x0, x1, x2, x3⟩, _⟩ := node_cells hs.out.1.2.1
            refine gives_by rfl act.eval rfl ?_
            generalize act.eval = ρ at *
            intro hf hc
            go_simp
            exact ⟨rfl, hs⟩
          · intro D vals act wx hu h hs
            have e1 : act.eval (.tmp 1) = .int .i64 (K : Int) := h.old 1 (by kernel_rfl)
            clear h
            refine gives_by rfl act.eval rfl ?_
            generalize act.eval = ρ at *
            intro hf hc
            go_simp
            exact ⟨rfl, hs⟩
          · intro D vals act wx hu h hs
            have e44 : act.eval (.tmp 44) = .int .i64 (K : Int) := h.q 19 44 (by kernel_rfl) rfl
            clear h
            refine gives_by rfl act.eval rfl ?_
            generalize act.eval = ρ at *
            intro hf hc
            go_simp
            rw [IntWalk.i64_in _ (by omega)]
            exact ⟨rfl, hs⟩
          · intro D vals act wx hu h hs
            have e43 : act.eval (.tmp 43) = .slice ca nc cc := h.q 18 43 (by kernel_rfl) rfl
            have e45 : act.eval (.tmp 45) = .int .i64 (K + 2 : Int) := h.q 20 45 (by kernel_rfl) rfl
            clear h
            have hlo := HLI.out wx
            refine gives_by rfl act.eval rfl ?_
            generalize act.eval = ρ at *
            intro hf hc
            go_simp
            exact ⟨rfl, hs⟩
          · intro D vals act wx hu h hs
            have e41 : act.eval (.tmp 41) = vals 16 := h.val 16 41 (by kernel_rfl)
            have e46 : act.eval (.tmp 46) = .slice da dn dc := h.q 21 46 (by kernel_rfl) rfl
            clear h
            obtain ⟨hg, hK, hI, hb, hx⟩ := hs
            have hsz := hg.2.2.lt
            obtain ⟨a4, n4, c4, h4, hn4, ho4⟩ := hI.2 hu.self (hu.done 16 (by kernel_rfl))
            rw [h4] at e41
            have hn5 : n4 ≤ 2000 := by have := ho4.1; have := HL5.out.2; omega
            obtain ⟨v', wy, hr, hrow, hon⟩ := appI (B := (w.heap.size + 2)) _ n4 _ ho4 hn5 (.slice da dn dc) (IB) (HR4.out wx hg.1) (by omega)
            refine gives_of_run rfl (exec_append (.tmp 41) (.tmp 46) 24 rfl _ _ e41 e46 _ hr) ?_
            exact hide ⟨hg.only hon (fun j hj => (row_blk ho4 hj).1), (row2.map (hK.ne (by decide) (by decide)) (fun cs v h => h.other ho4 (by decide) hon)), row2.second hrow, bldF.not (by decide) (hu.not 23 (by decide) (by kernel_rfl)), (box2.map (hx.ne (by decide) (by decide) (hu.not 25 (by decide) (by kernel_rfl))) (fun b X h => h.only hon (fun e => row_not_blk ho4 h (by decide) e)))⟩
          · intro D vals act wx hu h hs
            have e35 : act.eval (.tmp 35) = vals 10 := h.val 10 35 (by kernel_rfl)
            have e47 : act.eval (.tmp 47) = vals 22 := h.val 22 47 (by kernel_rfl)
            clear h
            obtain ⟨hg, hK, hI, hb, hx⟩ := hs
            obtain ⟨a6, n6, c6, h6, hn6, ho6⟩ := hK.1 (hu.done 10 (by kernel_rfl))
            have h6' := h6
            rw [h6] at e35
            obtain ⟨a7, n7, c7, h7, hn7, ho7⟩ := hI.1 (hu.done 22 (by kernel_rfl))
            have h7' := h7
            rw [h7] at e47
            have hres := (hide ⟨hg, (hK.ne (by decide) (by decide)), (hI.ne (by decide) (by decide)), bldF.made (v := .agg #[.bool false, .slice none 0 0, .slice a6 n6 c6, .slice a7 n7 c7]) (by simp only [h6, h7]) (by simp [updV]), hx.ne (by decide) (by decide) (hu.not 25 (by decide) (by kernel_rfl))⟩ : (fun D vals W => Hid (CgB w [.bool false, .slice pa np pc, .slice ka nk kc, .slice ca nc cc] zeroC W ∧ row2 (w.heap.size + 2) 34 1 4 (KA) 10 (KA ++ KB) D vals W ∧ row2 (w.heap.size + 2) 3 1 16 (IA) 22 (IA ++ IB) D vals W ∧ bldF 23 (fun vals => [.bool false, .slice none 0 0, vals 10, vals 22]) D vals ∧ box2 (w.heap.size + 2) 24 25 (fun vals => [.bool false, .slice none 0 0, vals 10, vals 22]) D vals W)) (upD D 23) (updV vals 23 (.agg #[.bool false, .slice none 0 0, .slice a6 n6 c6, .slice a7 n7 c7])) wx)
            clear hg hb hx hK hI 
            refine gives_by rfl act.eval rfl ?_
            generalize act.eval = ρ at *
            intro hf hc
            go_simp
            exact hres
          · intro D vals act wx hu h hs
            clear h
            obtain ⟨hg, hK, hI, hb, hx⟩ := hs
            have hsz := hg.2.2.lt
            have hof : Only (fun _ => False) wx (wx.alloc (.cells #[.bool false, .slice none 0 0, .slice none 0 0, .slice none 0 0] 26)) := (Only.refl _ wx).alloc _
            have hres := (hide ⟨hg.keep hof, (row2.map (hK.ne (by decide) (by decide)) (fun cs v h => h.keep hof)), (row2.map (hI.ne (by decide) (by decide)) (fun cs v h => h.keep hof)), hb.ne (by decide) (by simp [updV]), box2.made (by decide) (hu.not 25 (by decide) (by kernel_rfl)) (by omega) (Blk.new wx _ _)⟩ : (fun D vals W => Hid (CgB w [.bool false, .slice pa np pc, .slice ka nk kc, .slice ca nc cc] zeroC W ∧ row2 (w.heap.size + 2) 34 1 4 (KA) 10 (KA ++ KB) D vals W ∧ row2 (w.heap.size + 2) 3 1 16 (IA) 22 (IA ++ IB) D vals W ∧ bldF 23 (fun vals => [.bool false, .slice none 0 0, vals 10, vals 22]) D vals ∧ box2 (w.heap.size + 2) 24 25 (fun vals => [.bool false, .slice none 0 0, vals 10, vals 22]) D vals W)) (upD D 24) (updV vals 24 (.pointer (some ⟨wx.heap.size, 0, none⟩))) (wx.alloc (.cells #[.bool false, .slice none 0 0, .slice none 0 0, .slice none 0 0] 26)))
            clear hg hb hx hK hI 
            refine gives_by rfl act.eval rfl ?_
            generalize act.eval = ρ at *
            intro hf hc
            go_simp
            exact hres
          · intro D vals act wx hu h hs
            have e6 : act.eval (.tmp 6) = vals 24 := h.val 24 6 (by kernel_rfl)
            have e48 : act.eval (.tmp 48) = vals 23 := h.val 23 48 (by kernel_rfl)
            clear h
            obtain ⟨hg, hK, hI, hb, hx⟩ := hs
            obtain ⟨b8, hb1, hb2, hb3⟩ := hx (hu.done 24 (by kernel_rfl))
            rw [if_neg (by rw [hu.self]; exact Bool.false_ne_true)] at hb3
            have hbv := hb (hu.done 23 (by kernel_rfl))
            obtain ⟨a6, n6, c6, h6, hn6, ho6⟩ := hK.1 (hu.done 10 (by kernel_rfl))
            obtain ⟨a7, n7, c7, h7, hn7, ho7⟩ := hI.1 (hu.done 22 (by kernel_rfl))
            simp only [h6, h7] at hbv
            rw [hbv] at e48
            rw [hb1] at e6
            obtain ⟨⟨d0, d1', d2, d3⟩, k0, k1, k2, k3⟩ := node_cells hb3
            have ho := laidN_only wx b8 (.bool false) (.slice none 0 0) (.slice a6 n6 c6) (.slice a7 n7 c7)
            have hlay := laidN_blk hb3 (.bool false) (.slice none 0 0) (.slice a6 n6 c6) (.slice a7 n7 c7)
            have hres := (hide ⟨hg.only ho (fun j hj => by subst hj; exact hb2), (row2.map (hK.ne (by decide) (by decide)) (fun cs v h => h.box hb3 (by decide) ho)), (row2.map (hI.ne (by decide) (by decide)) (fun cs v h => h.box hb3 (by decide) ho)), hb.ne (by decide) (by simp [updV]), box2.filled (by decide) hb1 hb2 (by simp [updV]) (by simp only [h6, h7]; exact hlay)⟩ : (fun D vals W => Hid (CgB w [.bool false, .slice pa np pc, .slice ka nk kc, .slice ca nc cc] zeroC W ∧ row2 (w.heap.size + 2) 34 1 4 (KA) 10 (KA ++ KB) D vals W ∧ row2 (w.heap.size + 2) 3 1 16 (IA) 22 (IA ++ IB) D vals W ∧ bldF 23 (fun vals => [.bool false, .slice none 0 0, vals 10, vals 22]) D vals ∧ box2 (w.heap.size + 2) 24 25 (fun vals => [.bool false, .slice none 0 0, vals 10, vals 22]) D vals W)) (upD D 25) (updV vals 25 undef) (laidN wx b8 (.bool false) (.slice none 0 0) (.slice a6 n6 c6) (.slice a7 n7 c7)))
            clear hg hb hx hlay hbv ho hK hI 
            refine gives_by rfl act.eval rfl ?_
            generalize act.eval = ρ at *
            intro hf hc
            go_simp
            exact hres
        · intro D vals w5 hq5 hD hs
          obtain ⟨hg, hK, hI, hb, hx⟩ := hs
          obtain ⟨a6, n6, c6, h6, hn6, ho6⟩ := hK.1 (hD 10 (by decide))
          obtain ⟨a7, n7, c7, h7, hn7, ho7⟩ := hI.1 (hD 22 (by decide))
          obtain ⟨b8, hb1, hb2, hb3⟩ := hx (hD 24 (by decide))
          rw [if_pos (hD 25 (by decide))] at hb3
          simp only [h6, h7] at hb3
          have HG5 := hide hg
          have HX5 := hide hb3
          have HO6 := hide ho6
          have HO7 := hide ho7
          obtain ⟨⟨z0, z1, z2, z3⟩, _⟩ := node_cells hb3
          clear hq5 hD hg hb hx hb3 hK hI  ho6 ho7
          simp only [putAll, Act.put, List.setIfInBounds_toArray, List.set_cons_zero, List.set_cons_succ, Nat.zero_add, Nat.reduceAdd, hb1]
          have HGD := hide (good_tup (B := w.heap.size + 2) (HND.out w5 a6 n6 c6 a7 n7 c7 HG5.out.1 HO6.out HO7.out) HQD.out (by have := HG5.out.2.2.lt; omega))
          generalize ownE DN = OE at *
          generalize ownN DN = ON at *
          go_wp2_with (first
            | (go_at_call 75; refine HGD.out.mono ?_; rintro e w6 ⟨l6, p6, m6, c6', kx6, mk6, kc6, q6, mq6, qc6, rfl, hn6, hb6⟩; have HG6 := hide (HG5.out.grow hb6); have HN6 := hide hn6; obtain ⟨⟨d0, d1, d2, d3⟩, k0, k1, k2, k3⟩ := node_cells HG6.out.2.2; clear HGD hb6 hn6))
          (try simp only [Exit.inBlock, Exit.then])
          refine bodyPost_ret (ret_node1 rfl _ _ (w.heap.size + 1) _ _ _ _ _ rfl rfl (laidN_blk HG6.out.2.2 _ _ _ _)) rfl ?_
          exact cg_yes HG6.out _ HN6.out
      | false =>
        rw [hPB] at HNN HEE
        simp only [Bool.false_eq_true, if_false] at HNN HEE
        rw [HNN.out, HEE.out]
        clear HNN HEE
        by_cases hi0 : i < 0
        · have hi0' := hi0
          go_enter Try.func40, Try.ntmps40
          go_wp2_with (first
            | (go_at_call 25; refine (HM.out w1 HG1.out.1).mono ?_; rintro e w2 ⟨rfl, hb2⟩; have HG2 := hide (HG1.out.grow hb2); (try clear z0 z1 z2 z3); (try clear d0 d1 d2 d3 k0 k1 k2 k3); obtain ⟨⟨z0, z1, z2, z3⟩, _⟩ := node_cells HG2.out.2.1; obtain ⟨⟨d0, d1, d2, d3⟩, k0, k1, k2, k3⟩ := node_cells HG2.out.2.2; clear HM hb2))
          (try simp only [Exit.inBlock, Exit.then])
          refine bodyPost_ret (ret_node1 rfl _ _ (w.heap.size + 1) _ _ _ _ _ rfl rfl (laidN_blk HG2.out.2.2 _ _ _ _)) rfl ?_
          exact cg_no HG2.out _ _ _ _ _ rfl
        · have hi1 : (nk : Int) ≤ i := by
            simp only [placeB, Bool.and_eq_false_iff, decide_eq_false_iff_not] at hPB
            omega
          have hi2 : ¬ i < (nk : Int) := by omega
          go_enter Try.func40, Try.ntmps40
          go_wp2_with (first
            | (go_at_call 25; refine (HM.out w1 HG1.out.1).mono ?_; rintro e w2 ⟨rfl, hb2⟩; have HG2 := hide (HG1.out.grow hb2); (try clear z0 z1 z2 z3); (try clear d0 d1 d2 d3 k0 k1 k2 k3); obtain ⟨⟨z0, z1, z2, z3⟩, _⟩ := node_cells HG2.out.2.1; obtain ⟨⟨d0, d1, d2, d3⟩, k0, k1, k2, k3⟩ := node_cells HG2.out.2.2; clear HM hb2))
          (try simp only [Exit.inBlock, Exit.then])
          refine bodyPost_ret (ret_node1 rfl _ _ (w.heap.size + 1) _ _ _ _ _ rfl rfl (laidN_blk HG2.out.2.2 _ _ _ _)) rfl ?_
          exact cg_no HG2.out _ _ _ _ _ rfl

end Go.Proofs.Ytoamdbjailpgdaa
