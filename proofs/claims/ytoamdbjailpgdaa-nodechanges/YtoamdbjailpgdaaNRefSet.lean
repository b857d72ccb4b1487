/- Contract: the document's Set. -/
import Derived.Test.YtoamdbjailpgdaaNRefGr
namespace Go.Proofs.Ytoamdbjailpgdaa
set_option maxRecDepth 20000
open Go.RowKit Go.Shelf
set_option linter.unusedVariables false
set_option linter.unusedSimpArgs false
set_option maxRecDepth 100000
attribute [local go_sem] Oper.semAt_some

theorem sl_len {w : World} {v : Value} {zs : List Int} (h : Sl w v zs) : lenV v = zs.length := by
  obtain ⟨_, ao, cap, rfl, _⟩ := h
  rfl
theorem pair_row {W : World} {g : Nat} {a1 a2 : Option Addr} {n1 n2 c1 c2 : Nat} (hB : Blk W g 36 [.slice a1 n1 c1, .slice a2 n2 c2]) : RowR W 2 (.slice (some ⟨g, 0, none⟩) 1 1) [.slice a1 n1 c1, .slice a2 n2 c2] :=
  ⟨some ⟨g, 0, none⟩, 1, 1, rfl, by simp, by omega, fun h => (by cases h), fun b hb j u hj => (by
    obtain rfl := (Option.some.inj hb)
    rw [Addr.add_mid, Nat.zero_add, hB.cell]
    exact hj), fun u hu => (by simp at hu; rcases hu with rfl | rfl <;> rfl)⟩

set_option maxHeartbeats 1500000 in
theorem refSet_any (w : World) (v : Value) (n : Nd) (h : NdV w v n) (kv : Value) (key : List Int) (hkv : Sl w kv key) (vv : Value) (val : List Int) (hvv : Sl w vv val) (hq : n.ks.length + n.cs.length ≤ 9223372036854775807) :
    Calls Try.prog 32 #[v, kv, vv] w (GivesN w (setN n key val) (setE n key val)) := by
  have HM : Hid (∀ w1, Below w.heap.size w w1 → Calls Try.prog 25 #[v] w1 fun e w' => e = .returned (.bool (mayN n)) ∧ Below w1.heap.size w1 w') := fun w1 hb => refMay_any w1 v n (h.below hb) hq
  have HNN : Hid (setN n key val = if leafB n then (if keyB key && valB val then ownN (insN n key val) else noNd) else noNd) := rfl
  have HEE : Hid (setE n key val = if leafB n then (if keyB key && valB val then ownE (insN n key val) else 1) else 100) := rfl
  have HFD : Hid (∀ w1, Below w.heap.size w w1 → Calls Try.prog 24 #[v, kv] w1 fun e w' => e = .returned (.tuple #[.int .i64 (findN n key), .bool (findB n key)]) ∧ Below w1.heap.size w1 w') := fun w1 hb => refFind_any w1 v n (h.below hb) kv key (hkv.below hb) hq
  have HKE : Hid (∀ w1, Below w.heap.size w w1 → Calls Try.prog 66 #[kv] w1 fun e w' => e = .returned (.bool (keyB key)) ∧ w' = w1) := fun w1 hb => refKey_any w1 kv key (hkv.below hb)
  have HIS : Hid (insN n key val = ⟨true, n.ps.take (findN n key) ++ ([(key, val)] ++ n.ps.drop (findN n key + if findB n key then 1 else 0)), [], []⟩) := rfl
  have HFL := hide (@find_le n key)
  have HKV := hide hkv
  have HVV := hide hvv
  have HVB : Hid (valB val = decide (val.length ≤ 24)) := rfl
  have hvl := sl_len hvv
  have hza : ∀ wx : World, (zeroValue 26).run Try.prog wx = .ok (.agg #[.bool false, .slice none 0 0, .slice none 0 0, .slice none 0 0]) wx := fun wx => by kernel_rfl
  have HIN : Hid (innerB n = true → 1 ≤ n.ks.length ∧ n.ks.length ≤ 255 ∧ n.cs.length = n.ks.length + 1) := fun h => by have := innerB_ps h; omega
  have HLN : Hid (leafB n = true → n.ps.length ≤ 255) := fun h => (leafB_ps h).1
  have HLF : Hid (innerB n = true → n.lf = false) := innerB_lf
  have HLL : Hid (leafB n = true → n.lf = true) := leafB_lf
  have HMI : Hid (n.lf = false → mayN n = innerB n) := mayN_in
  have HML : Hid (n.lf = true → mayN n = leafB n) := mayN_lf
  have HMO : Hid (mayN n = (leafB n || innerB n)) := rfl
  obtain ⟨pa, pc, ka, kc, ca, cc, xs, ys, rfl, hp1, hk1, hc1, hp2, hk2, hc2, hP, hK, hC⟩ := h.open
  have HP := hide hP
  have HK := hide hK
  have HC := hide hC
  obtain ⟨a1, n1, c1, rfl⟩ := sl_form hkv
  obtain ⟨a2, n2, c2, rfl⟩ := sl_form hvv
  unfold ndv at HM HFD ⊢
  obtain ⟨lf, hlf⟩ : ∃ b, n.lf = b := ⟨_, rfl⟩
  obtain ⟨np, hnp⟩ : ∃ m, n.ps.length = m := ⟨_, rfl⟩
  obtain ⟨nk, hnk⟩ : ∃ m, n.ks.length = m := ⟨_, rfl⟩
  obtain ⟨nc, hnc⟩ : ∃ m, n.cs.length = m := ⟨_, rfl⟩
  have HNP := hide hnp
  have HNK := hide hnk
  have HNC := hide hnc
  have HF0 := hide hlf
  rw [hnp, hnk, hnc, hlf] at HM HFD
  rw [hnp] at HLN HP hp1
  rw [hnk, hnc] at HIN
  rw [hnk] at HK hk1
  rw [hnc] at HC hc1
  rw [hlf] at HLF HLL HMI HML
  rw [hnp, hnk, hnc, hlf]
  obtain ⟨w1, hw1, hcg⟩ := cg_new w (.bool lf) (.slice pa np pc) (.slice ka nk kc) (.slice ca nc cc)
  have HG1 := hide hcg
  obtain ⟨⟨z0, z1, z2, z3⟩, _⟩ := node_cells hcg.2.1
  clear h hP hK hC hcg hnp hnk hnc hlf
  cases hm : mayN n with
  | false =>
    have hib : leafB n = false := by
      have := HMO.out
      rw [hm] at this
      revert this
      cases leafB n <;> cases innerB n <;> simp
    rw [hib] at HNN HEE
    rw [hm] at HM
    simp only [Bool.false_eq_true, if_false] at HNN HEE
    rw [HNN.out, HEE.out]
    clear HNN HEE
    go_enter Try.func32, Try.ntmps32
    go_wp2_with (first
      | (go_at_call 25; refine (HM.out w1 HG1.out.1).mono ?_; rintro e w2 ⟨rfl, hb2⟩; have HG2 := hide (HG1.out.grow hb2); (try clear z0 z1 z2 z3); (try clear d0 d1 d2 d3 k0 k1 k2 k3); obtain ⟨⟨z0, z1, z2, z3⟩, _⟩ := node_cells HG2.out.2.1; obtain ⟨⟨d0, d1, d2, d3⟩, k0, k1, k2, k3⟩ := node_cells HG2.out.2.2; clear HM hb2))
    (try simp only [Exit.inBlock, Exit.then])
    refine bodyPost_ret (ret_node1 rfl _ _ (w.heap.size + 1) _ _ _ _ _ rfl rfl (laidN_blk HG2.out.2.2 _ _ _ _)) rfl ?_
    exact cg_no HG2.out _ _ _ _ _ rfl
  | true =>
    cases lf with
    | false =>
      have hib : leafB n = false := by
        cases hq9 : leafB n with
        | false => rfl
        | true => have := HLL.out hq9; cases this
      rw [hib] at HNN HEE
      rw [hm] at HM
      simp only [Bool.false_eq_true, if_false] at HNN HEE
      rw [HNN.out, HEE.out]
      clear HNN HEE
      go_enter Try.func32, Try.ntmps32
      go_wp2_with (first
        | (go_at_call 25; refine (HM.out w1 HG1.out.1).mono ?_; rintro e w2 ⟨rfl, hb2⟩; have HG2 := hide (HG1.out.grow hb2); (try clear z0 z1 z2 z3); (try clear d0 d1 d2 d3 k0 k1 k2 k3); obtain ⟨⟨z0, z1, z2, z3⟩, _⟩ := node_cells HG2.out.2.1; obtain ⟨⟨d0, d1, d2, d3⟩, k0, k1, k2, k3⟩ := node_cells HG2.out.2.2; clear HM hb2))
      (try simp only [Exit.inBlock, Exit.then])
      refine bodyPost_ret (ret_node1 rfl _ _ (w.heap.size + 1) _ _ _ _ _ rfl rfl (laidN_blk HG2.out.2.2 _ _ _ _)) rfl ?_
      exact cg_no HG2.out _ _ _ _ _ rfl
    | true =>
      have hib : leafB n = true := by rw [← HML.out rfl]; exact hm
      rw [hib] at HNN HEE
      rw [hm] at HM
      simp only [if_true] at HNN HEE
      have hn2 : n2 = val.length := hvl
      cases hKB : keyB key with
      | false =>
        rw [hKB] at HNN HEE HKE
        simp only [Bool.false_and, Bool.false_eq_true, if_false] at HNN HEE
        rw [HNN.out, HEE.out]
        clear HNN HEE
        go_enter Try.func32, Try.ntmps32
        go_wp2_with (first
          | (go_at_call 25; refine (HM.out w1 HG1.out.1).mono ?_; rintro e w2 ⟨rfl, hb2⟩; have HG2 := hide (HG1.out.grow hb2); (try clear z0 z1 z2 z3); (try clear d0 d1 d2 d3 k0 k1 k2 k3); obtain ⟨⟨z0, z1, z2, z3⟩, _⟩ := node_cells HG2.out.2.1; obtain ⟨⟨d0, d1, d2, d3⟩, k0, k1, k2, k3⟩ := node_cells HG2.out.2.2; clear HM hb2)
          | (go_at_call 66; refine (HKE.out w2 HG2.out.1).mono ?_; rintro e w3 ⟨rfl, hw⟩; subst w3))
        (try simp only [Exit.inBlock, Exit.then])
        refine bodyPost_ret (ret_node1 rfl _ _ (w.heap.size + 1) _ _ _ _ _ rfl rfl (laidN_blk HG2.out.2.2 _ _ _ _)) rfl ?_
        exact cg_no HG2.out _ _ _ _ _ rfl
      | true =>
        rw [hKB] at HNN HEE HKE
        by_cases hv24 : n2 ≤ 24
        · have hv24i : ¬ (24 : Int) < (n2 : Int) := by omega
          have hVB : valB val = true := by rw [HVB.out, ← hn2]; exact decide_eq_true hv24
          rw [hVB] at HNN HEE
          simp only [Bool.and_self, if_true] at HNN HEE
          rw [HNN.out, HEE.out]
          clear HNN HEE
          clear hn2 hvl HVB
          obtain ⟨hF1, hF2⟩ := HFL.out hib
          have hnp5 := HLN.out hib
          rw [HNP.out] at hF1 hF2
          obtain ⟨FI, hFI⟩ : ∃ x, findN n key = x := ⟨_, rfl⟩
          rw [hFI] at HFD HIS hF1 hF2
          have HCT := hide (fun wx => cut_head (P := Try.prog) 22 36 2 Try.underlying22 sizePair pa np pc FI (by omega) (by unfold maxLen; omega) wx)
          have hct := HCT.out
          have hbp := fun wx => build_p1 wx a1 a2 n1 n2 c1 c2
          have HTK : Hid (∀ W, Below w.heap.size w W → Prs W (.slice pa FI pc) (xs.take FI) (n.ps.take FI)) := fun W hb => by
            have := HP.out.below hb
            rw [← HNP.out] at this
            exact this.take FI pc (by rw [HNP.out]; omega) (by omega) (by unfold maxLen; omega)
          obtain ⟨PA, hPA⟩ : ∃ x, x = flatP (xs.take FI) := ⟨_, rfl⟩
          have HR1 : Hid (∀ W, Below w.heap.size w W → RowR W 2 (.slice pa FI pc) PA) := fun W hb => by rw [hPA]; exact RowR.of_prs (HTK.out W hb) (by rw [List.length_take]; have := HNP.out; omega)
          have HL1 : Hid (PA.length ≤ 1000) := by
            have := HNP.out
            have := HP.out.1
            show _ ≤ _
            rw [hPA, flatP_len, List.length_take]
            omega
          obtain ⟨DN, hDN⟩ : ∃ x, x = insN n key val := ⟨_, rfl⟩
          rw [← hDN] at HIS ⊢
          have HQD : Hid (DN.ks.length + DN.cs.length ≤ 9223372036854775807) := by show _ ≤ _; rw [HIS.out]; exact Nat.zero_le _
          clear hDN HFL
          cases hFB : findB n key with
          | false =>
            rw [hFB] at HFD HIS
            obtain ⟨ba, bc, hlo, hB, hbc1, hbc2⟩ := HP.out.low HNP.out (FI) (by omega)
            have HLO : Hid (∀ wx, (Instr.slice 22 (.slice pa np pc) (some (.int .i64 (FI : Int))) none none).run Try.prog wx = .ok (.slice ba (np - (FI)) bc) wx) := fun wx => by
              have := hlo wx
              exact this
            obtain ⟨bn, hbn⟩ : ∃ m, np - (FI) = m := ⟨_, rfl⟩
            rw [hbn] at HLO hB
            have HDR : Hid (∀ W, Below w.heap.size w W → Prs W (.slice ba bn bc) (xs.drop (FI)) (n.ps.drop (FI))) := fun W hb => hB W (HP.out.below hb)
            obtain ⟨PB, hPB⟩ : ∃ x, x = flatP (xs.drop (FI)) := ⟨_, rfl⟩
            have HR2 : Hid (∀ W, Below w.heap.size w W → RowR W 2 (.slice ba bn bc) PB) := fun W hb => by rw [hPB]; exact RowR.of_prs (HDR.out W hb) (by rw [List.length_drop]; have := HNP.out; omega)
            obtain ⟨PC, hPC⟩ : ∃ x, x = PA ++ [.slice a1 n1 c1, .slice a2 n2 c2] := ⟨_, rfl⟩
            have HL2 : Hid (PC.length ≤ 1500) := by
              have := HL1.out
              show _ ≤ _
              rw [hPC]
              simp only [List.length_append, List.length_cons, List.length_nil]
              omega
            have HND : Hid (∀ wx a m c, Below w.heap.size w wx → wx.ownsRow (w.heap.size + 2) 36 2 (.slice a m c) m (PC ++ PB) → NdV wx (.agg #[.bool true, .slice a m c, .slice none 0 0, .slice none 0 0]) DN) := fun wx a m c hbw ho => by
              rw [hPC, hPA, hPB] at ho
              have ho' : wx.ownsRow (w.heap.size + 2) 36 2 (.slice a m c) m (flatP (xs.take FI ++ ([(.slice a1 n1 c1, .slice a2 n2 c2)] ++ xs.drop (FI)))) := by rw [flatP_append, flatP_append]; simpa [flatP] using ho
              have hm : m = (xs.take FI ++ ([(Value.slice a1 n1 c1, Value.slice a2 n2 c2)] ++ xs.drop (FI))).length := by have := ho'.1; rw [flatP_len] at this; omega
              subst hm
              rw [HIS.out]
              refine ⟨_, _, _, _, [], rfl, prs_own ho' ?_ ?_, Bss.nil _, Is.nil' _⟩
              · simp only [List.length_append, (HTK.out wx hbw).1, (HDR.out wx hbw).1, List.length_cons, List.length_nil, Bool.false_eq_true, if_false, Nat.add_zero]
              · simp only [Bool.false_eq_true, if_false, Nat.add_zero]; exact texts_append (HTK.out wx hbw).1 (HTK.out wx hbw).texts (texts_append (xs := [(.slice a1 n1 c1, .slice a2 n2 c2)]) (ps := [(key, val)]) rfl (fun i hi => by
                  obtain rfl : i = 0 := by simp at hi; omega
                  exact ⟨HKV.out.below hbw, HVV.out.below hbw⟩) (HDR.out wx hbw).texts)
            have HPC := hide hPC
            clear hPC hPA hPB hB hlo hbn HIS HTK HDR
            go_enter Try.func32, Try.ntmps32
            go_wp2_with (first
              | (go_at_call 25; refine (HM.out w1 HG1.out.1).mono ?_; rintro e w2 ⟨rfl, hb2⟩; have HG2 := hide (HG1.out.grow hb2); (try clear z0 z1 z2 z3); (try clear d0 d1 d2 d3 k0 k1 k2 k3); obtain ⟨⟨z0, z1, z2, z3⟩, _⟩ := node_cells HG2.out.2.1; obtain ⟨⟨d0, d1, d2, d3⟩, k0, k1, k2, k3⟩ := node_cells HG2.out.2.2; clear HM hb2)
              | (go_at_call 66; refine (HKE.out w2 HG2.out.1).mono ?_; rintro e w3 ⟨rfl, hw⟩; subst w3)
              | (go_at_call 24; refine (HFD.out w2 HG2.out.1).mono ?_; rintro e w4 ⟨rfl, hb4⟩; have HG4 := hide (HG2.out.grow hb4); (try clear z0 z1 z2 z3); (try clear d0 d1 d2 d3 k0 k1 k2 k3); obtain ⟨⟨z0, z1, z2, z3⟩, _⟩ := node_cells HG4.out.2.1; obtain ⟨⟨d0, d1, d2, d3⟩, k0, k1, k2, k3⟩ := node_cells HG4.out.2.2; obtain ⟨v5, w5, hr5, hrow5, hon5⟩ := appP (B := w.heap.size + 2) (.slice none 0 0) 0 [] (World.ownsRow_nil _ _ _ _) (by omega) (.slice pa FI pc) PA (HR1.out w4 HG4.out.1) (by have := HG4.out.2.2.lt; omega); rw [List.nil_append] at hrow5; have hof5 : Only (fun _ => False) w4 w5 := hon5.mono (fun _ _ h => (by cases h)); obtain ⟨a5, n5, c5, rfl, hn5, ho5⟩ := hrow5; have HG5 := hide (HG4.out.keep hof5); have HR5 := hide hr5; obtain ⟨wz, hwz, HBz, HXz, t0, t1, t2, t3⟩ := nd_box w5 true (.slice a5 n5 c5) (.slice none 0 0) (.slice none 0 0); have hoz := ownsRow_only ho5 (Only.of_below (fun _ => False) HBz.out) (fun _ _ h => h); have fz2 := HXz.out.frozen 2; have fz3 := HXz.out.frozen 3; obtain ⟨w6, hw6⟩ : ∃ x, (wz.setCell ⟨w5.heap.size, 2, none⟩ (.slice none 0 0)).setCell ⟨w5.heap.size, 3, none⟩ (.slice none 0 0) = x := ⟨_, rfl⟩; have on6 : Only (· = w5.heap.size) wz w6 := (by rw [← hw6]; exact ((Only.refl (· = w5.heap.size) wz).setCell ⟨w5.heap.size, 2, none⟩ _ (fun _ => rfl)).setCell ⟨w5.heap.size, 3, none⟩ _ (fun _ => rfl)); have HX6 : Hid (Blk w6 w5.heap.size 26 [.bool true, .slice a5 n5 c5, .slice none 0 0, .slice none 0 0]) := (by rw [← hw6]; exact (HXz.out.set 2 (.slice none 0 0)).set 3 (.slice none 0 0)); have HG6 := hide ((HG5.out.grow HBz.out).only on6 (fun j hj => by subst hj; have := HG5.out.2.2.lt; omega)); have ho6 := ownsRow_only hoz on6 (fun j hj e => row_not_blk hoz HXz.out (by decide) (e ▸ hj)); have hsz : wz.heap.size = w5.heap.size + 1 := (by rw [← hwz]; simp); obtain ⟨w7, hw7⟩ : ∃ x, w6.alloc (.cells #[.slice a1 n1 c1, .slice a2 n2 c2] 36) = x := ⟨_, rfl⟩; have hb7 : Below w6.heap.size w6 w7 := (by rw [← hw7]; exact (Below.refl _ w6).alloc (Nat.le_refl _) _); have hB7 : Blk w7 w6.heap.size 36 [.slice a1 n1 c1, .slice a2 n2 c2] := (by rw [← hw7]; exact Blk.new w6 _ _); have hs6 : w6.heap.size = w5.heap.size + 1 := (by rw [← hw6]; simp [World.setCell]; exact hsz); have ho7 := ownsRow_only ho6 (Only.of_below (fun _ => False) hb7) (fun _ _ h => h); have HG7 := hide (HG6.out.grow hb7); have HX7 := hide (HX6.out.below hb7 HX6.out.lt); obtain ⟨v8, w8, hr8, hrow8, hon8⟩ := appP (B := w.heap.size + 2) _ n5 _ ho7 (by have := ho5.1; have := HL1.out; omega) (.slice (some ⟨w5.heap.size + 1, 0, none⟩) 1 1) [.slice a1 n1 c1, .slice a2 n2 c2] (pair_row (by rw [← hs6]; exact hB7)) (by have := HG7.out.2.2.lt; omega); obtain ⟨a8, n8, c8, rfl, hn8, ho8⟩ := hrow8; have HR8 := hide hr8; have HG8 := hide (HG7.out.only hon8 (fun j hj => (row_blk ho7 hj).1)); have hX8 := HX7.out.only hon8 (fun e => row_not_blk ho7 HX7.out (by decide) e); have c8a := hX8.cell 1; have f8a := hX8.frozen 1; obtain ⟨w9, hw9⟩ : ∃ x, w8.setCell ⟨w5.heap.size, 1, none⟩ (.slice a8 n8 c8) = x := ⟨_, rfl⟩; have on9 : Only (· = w5.heap.size) w8 w9 := (by rw [← hw9]; exact (Only.refl (· = w5.heap.size) w8).setCell ⟨w5.heap.size, 1, none⟩ _ (fun _ => rfl)); have HX9 : Hid (Blk w9 w5.heap.size 26 [.bool true, .slice a8 n8 c8, .slice none 0 0, .slice none 0 0]) := (by rw [← hw9]; exact hX8.set 1 (.slice a8 n8 c8)); have hz5 : w.heap.size + 2 ≤ w5.heap.size := (by have := HG5.out.2.2.lt; omega); have HG9 := hide (HG8.out.only on9 (fun j hj => by subst hj; exact hz5)); have HO9 := hide (ownsRow_only ho8 on9 (fun j hj e => row_not_blk ho8 hX8 (by decide) (e ▸ hj))); obtain ⟨⟨r0, r1, r2, r3⟩, _⟩ := node_cells HX7.out; obtain ⟨⟨y0, y1, y2, y3⟩, _⟩ := node_cells HX9.out; obtain ⟨⟨u0, u1, u2, u3⟩, _⟩ := node_cells HG9.out.2.1; obtain ⟨⟨s0, s1, s2, s3⟩, _⟩ := node_cells HX6.out; clear on6 hoz hr5 hof5 hon5 hr8 hon8 hX8 ho5 ho6 ho7 ho8 on9 hb7 hB7 HX7; clear HFD hb4)
              | (at_builtin; (with_reducible refine wpList_append_run _ rfl (.const (.slice none 0 0)) (.tmp 38) 22 rfl _ _ ?_ ?_ _ _ HR5.out ?_); exact rfl; exact rfl; clear HR5)
              | (at_builtin; (with_reducible refine wpList_append_run _ rfl (.tmp 42) (.tmp 46) 22 rfl _ _ ?_ ?_ _ _ HR8.out ?_); exact rfl; exact rfl; clear HR8))
            rw [← HPC.out] at HO9
            obtain ⟨b8, hb8⟩ : ∃ x, x = w5.heap.size := ⟨_, rfl⟩
            have hb2 : w.heap.size + 2 ≤ b8 := by rw [hb8]; exact hz5
            rw [← hb8] at HX9
            simp only [← hb8]
            clear hb8 hz5
            refine wp_region_set [some (.pointer (some ⟨b8, 1, none⟩)), some (.slice a8 n8 c8), some (.pointer (some ⟨w.heap.size, 1, none⟩)), some (.slice pa np pc), some (.int .i64 (FI : Int)), some (.slice ba bn bc), none, some (.pointer (some ⟨b8, 1, none⟩)), none] [6, 8] (fun D vals W => ap2 w [.bool true, .slice pa np pc, .slice ka nk kc, .slice ca nc cc] (fun W => True) 36 2 (PC) (PB) (.slice a8 n8 c8) n8 b8 (fun v => [.bool true, v, .slice none 0 0, .slice none 0 0]) (D 6) (D 8) (vals 6) W) 64 (by kernel_rfl) (by kernel_rfl) (by kernel_rfl) (by kernel_rfl) rfl ?_ ?_ ?_ ?_
            · exact fun vals0 => (ap2.start (HG9.out.keep ((Only.refl _ w9).drew)) (trivial) (ownsRow_only HO9.out ((Only.refl (fun _ => False) w9).drew) (fun _ _ h => h)) (HX9.out.only ((Only.refl (fun _ => False) w9).drew) (fun h => h)) : ap2 w [.bool true, .slice pa np pc, .slice ka nk kc, .slice ca nc cc] (fun W => True) 36 2 (PC) (PB) (.slice a8 n8 c8) n8 b8 (fun v => [.bool true, v, .slice none 0 0, .slice none 0 0]) false false (vals0 6) _)
            · exact fun D D' vals vals' W hv hs => by (have e1 := hv 6 (by decide); have e2 := hv 8 (by decide); have hs' : ap2 w [.bool true, .slice pa np pc, .slice ka nk kc, .slice ca nc cc] (fun W => True) 36 2 (PC) (PB) (.slice a8 n8 c8) n8 b8 (fun v => [.bool true, v, .slice none 0 0, .slice none 0 0]) (D 6) (D 8) (vals 6) W := hs; rw [e1.1, e1.2, e2.1] at hs'; exact hs')
            · refine ⟨?_, ?_, ?_, ?_, ?_, ?_, ?_, ?_, ?_, trivial⟩
              · intro D vals act wx hu h hs
                have e10 : act.eval (.tmp 10) = .pointer (some ⟨b8, 0, none⟩) := h.old 10 (by kernel_rfl)
                clear h
                refine gives_by rfl act.eval rfl ?_
                generalize act.eval = ρ at *
                intro hf hc
                go_simp
                exact ⟨rfl, hs⟩
              · intro D vals act wx hu h hs
                have e52 : act.eval (.tmp 52) = .pointer (some ⟨b8, 1, none⟩) := h.q 0 52 (by kernel_rfl) rfl
                clear h
                have hxx := ap2.box hs (hu.not 8 (by decide) (by kernel_rfl))
                have c0 := hxx.cell 0
                have c1 := hxx.cell 1
                have c2 := hxx.cell 2
                have c3 := hxx.cell 3
                clear hxx
                refine gives_by rfl act.eval rfl ?_
                generalize act.eval = ρ at *
                intro hf hc
                go_simp
                exact ⟨rfl, hs⟩
              · intro D vals act wx hu h hs
                have e3 : act.eval (.tmp 3) = .pointer (some ⟨w.heap.size, 0, none⟩) := h.old 3 (by kernel_rfl)
                clear h
                refine gives_by rfl act.eval rfl ?_
                generalize act.eval = ρ at *
                intro hf hc
                go_simp
                exact ⟨rfl, hs⟩
              · intro D vals act wx hu h hs
                have e54 : act.eval (.tmp 54) = .pointer (some ⟨w.heap.size, 1, none⟩) := h.q 2 54 (by kernel_rfl) rfl
                clear h
                obtain ⟨⟨x0, x1, x2, x3⟩, _⟩ := node_cells hs.1.2.1
                refine gives_by rfl act.eval rfl ?_
                generalize act.eval = ρ at *
                intro hf hc
                go_simp
                exact ⟨rfl, hs⟩
              · intro D vals act wx hu h hs
                have e8 : act.eval (.tmp 8) = .int .i64 (FI : Int) := h.old 8 (by kernel_rfl)
                clear h
                refine gives_by rfl act.eval rfl ?_
                generalize act.eval = ρ at *
                intro hf hc
                go_simp
                exact ⟨rfl, hs⟩
              · intro D vals act wx hu h hs
                have e55 : act.eval (.tmp 55) = .slice pa np pc := h.q 3 55 (by kernel_rfl) rfl
                have e56 : act.eval (.tmp 56) = .int .i64 (FI : Int) := h.q 4 56 (by kernel_rfl) rfl
                clear h
                have hlo := HLO.out wx
                refine gives_by rfl act.eval rfl ?_
                generalize act.eval = ρ at *
                intro hf hc
                go_simp
                exact ⟨rfl, hs⟩
              · intro D vals act wx hu h hs
                have e53 : act.eval (.tmp 53) = .slice a8 n8 c8 := h.q 1 53 (by kernel_rfl) rfl
                have e57 : act.eval (.tmp 57) = .slice ba bn bc := h.q 5 57 (by kernel_rfl) rfl
                clear h
                have hsz := hs.1.2.2.lt
                have hg := hs.1
                have hr0 := hs.2.2.2.1 hu.self
                have hn5 : n8 ≤ 2000 := by have := hr0.1; have := HL2.out; omega
                obtain ⟨v', wy, hr, hrow, hon⟩ := appP (B := (w.heap.size + 2)) _ _ _ hr0 hn5 (.slice ba bn bc) (PB) (HR2.out wx hg.1) (by omega)
                refine gives_of_run rfl (exec_append (.tmp 53) (.tmp 57) 22 rfl _ _ e53 e57 _ hr) ?_
                exact (ap2.app hs hu.self (hu.not 8 (by decide) (by kernel_rfl)) (by decide) hrow hon (fun _ => trivial) : ap2 w [.bool true, .slice pa np pc, .slice ka nk kc, .slice ca nc cc] (fun W => True) 36 2 (PC) (PB) (.slice a8 n8 c8) n8 b8 (fun v => [.bool true, v, .slice none 0 0, .slice none 0 0]) true (D 8) v' wy)
              · intro D vals act wx hu h hs
                have e10 : act.eval (.tmp 10) = .pointer (some ⟨b8, 0, none⟩) := h.old 10 (by kernel_rfl)
                clear h
                refine gives_by rfl act.eval rfl ?_
                generalize act.eval = ρ at *
                intro hf hc
                go_simp
                exact ⟨rfl, hs⟩
              · intro D vals act wx hu h hs
                have e59 : act.eval (.tmp 59) = .pointer (some ⟨b8, 1, none⟩) := h.q 7 59 (by kernel_rfl) rfl
                have e58 : act.eval (.tmp 58) = vals 6 := h.val 6 58 (by kernel_rfl)
                clear h
                have hdn := (hu.done 6 (by kernel_rfl))
                obtain ⟨a9, n9, c9, h9, hn9, ho9⟩ := hs.2.2.1 hdn
                rw [h9] at e58
                have hx := ap2.box hs hu.self
                have c0 := hx.cell 1
                have f0 := hx.frozen 1
                have hres := (ap2.put 1 hs hdn hu.self (by decide) hb2 rfl (fun _ _ _ => trivial) : ap2 w [.bool true, .slice pa np pc, .slice ka nk kc, .slice ca nc cc] (fun W => True) 36 2 (PC) (PB) (.slice a8 n8 c8) n8 b8 (fun v => [.bool true, v, .slice none 0 0, .slice none 0 0]) (D 6) true (vals 6) (wx.setCell ⟨b8, 1, none⟩ (vals 6)))
                rw [show wx.setCell ⟨b8, 1, none⟩ (vals 6) = wx.setCell ⟨b8, 1, none⟩ (.slice a9 n9 c9) by rw [h9]] at hres
                clear hs hx ho9
                refine gives_by rfl act.eval rfl ?_
                generalize act.eval = ρ at *
                intro hf hc
                go_simp
                first | exact hres | (rw [hdn] at hres; exact hres)
            · intro D vals w12 hq5 hD hs
              obtain ⟨hg, hot, h1, h2, hx⟩ := (show ap2 w [.bool true, .slice pa np pc, .slice ka nk kc, .slice ca nc cc] (fun W => True) 36 2 (PC) (PB) (.slice a8 n8 c8) n8 b8 (fun v => [.bool true, v, .slice none 0 0, .slice none 0 0]) (D 6) (D 8) (vals 6) w12 from hs)
              obtain ⟨a12, n12, c12, h12, hn12, ho12⟩ := h1 (hD 6 (by decide))
              rw [if_pos (hD 8 (by decide)), h12] at hx
              have HG12 := hide hg
              have HX12 := hide hx
              have HO12 := hide ho12
              (try clear z0 z1 z2 z3)
              obtain ⟨⟨z0, z1, z2, z3⟩, _⟩ := node_cells hx
              clear hq5 hD hg hot h1 h2 hx ho12
              simp only [putAll, Act.put, List.setIfInBounds_toArray, List.set_cons_zero, List.set_cons_succ, Nat.zero_add, Nat.reduceAdd]
              have HGD := hide (good_tup (B := w.heap.size + 2) (HND.out w12 a12 n12 c12 HG12.out.1 HO12.out) HQD.out (by have := HG12.out.2.2.lt; omega))
              generalize ownE DN = OE at *
              generalize ownN DN = ON at *
              go_wp2_with (first
                | (go_at_call 75; refine HGD.out.mono ?_; rintro e w6 ⟨l6, p6, m6, c6', kx6, mk6, kc6, q6, mq6, qc6, rfl, hn6, hb6⟩; have HG6 := hide (HG12.out.grow hb6); have HN6 := hide hn6; obtain ⟨⟨d0, d1, d2, d3⟩, k0, k1, k2, k3⟩ := node_cells HG6.out.2.2; clear HGD hb6 hn6))
              (try simp only [Exit.inBlock, Exit.then])
              refine bodyPost_ret (ret_node1 rfl _ _ (w.heap.size + 1) _ _ _ _ _ rfl rfl (laidN_blk HG6.out.2.2 _ _ _ _)) rfl ?_
              exact cg_yes HG6.out _ HN6.out
          | true =>
            have hF3 := hF2 hFB
            rw [hFB] at HFD HIS
            obtain ⟨ba, bc, hlo, hB, hbc1, hbc2⟩ := HP.out.low HNP.out (FI + 1) (by omega)
            have HLO : Hid (∀ wx, (Instr.slice 22 (.slice pa np pc) (some (.int .i64 (FI + 1 : Int))) none none).run Try.prog wx = .ok (.slice ba (np - (FI + 1)) bc) wx) := fun wx => by
              have := hlo wx
              rwa [show ((FI + 1 : Nat) : Int) = (FI + 1 : Int) by omega] at this
            obtain ⟨bn, hbn⟩ : ∃ m, np - (FI + 1) = m := ⟨_, rfl⟩
            rw [hbn] at HLO hB
            have HDR : Hid (∀ W, Below w.heap.size w W → Prs W (.slice ba bn bc) (xs.drop (FI + 1)) (n.ps.drop (FI + 1))) := fun W hb => hB W (HP.out.below hb)
            obtain ⟨PB, hPB⟩ : ∃ x, x = flatP (xs.drop (FI + 1)) := ⟨_, rfl⟩
            have HR2 : Hid (∀ W, Below w.heap.size w W → RowR W 2 (.slice ba bn bc) PB) := fun W hb => by rw [hPB]; exact RowR.of_prs (HDR.out W hb) (by rw [List.length_drop]; have := HNP.out; omega)
            obtain ⟨PC, hPC⟩ : ∃ x, x = PA ++ [.slice a1 n1 c1, .slice a2 n2 c2] := ⟨_, rfl⟩
            have HL2 : Hid (PC.length ≤ 1500) := by
              have := HL1.out
              show _ ≤ _
              rw [hPC]
              simp only [List.length_append, List.length_cons, List.length_nil]
              omega
            have HND : Hid (∀ wx a m c, Below w.heap.size w wx → wx.ownsRow (w.heap.size + 2) 36 2 (.slice a m c) m (PC ++ PB) → NdV wx (.agg #[.bool true, .slice a m c, .slice none 0 0, .slice none 0 0]) DN) := fun wx a m c hbw ho => by
              rw [hPC, hPA, hPB] at ho
              have ho' : wx.ownsRow (w.heap.size + 2) 36 2 (.slice a m c) m (flatP (xs.take FI ++ ([(.slice a1 n1 c1, .slice a2 n2 c2)] ++ xs.drop (FI + 1)))) := by rw [flatP_append, flatP_append]; simpa [flatP] using ho
              have hm : m = (xs.take FI ++ ([(Value.slice a1 n1 c1, Value.slice a2 n2 c2)] ++ xs.drop (FI + 1))).length := by have := ho'.1; rw [flatP_len] at this; omega
              subst hm
              rw [HIS.out]
              refine ⟨_, _, _, _, [], rfl, prs_own ho' ?_ ?_, Bss.nil _, Is.nil' _⟩
              · simp only [List.length_append, (HTK.out wx hbw).1, (HDR.out wx hbw).1, List.length_cons, List.length_nil, if_true]
              · simp only [if_true]; exact texts_append (HTK.out wx hbw).1 (HTK.out wx hbw).texts (texts_append (xs := [(.slice a1 n1 c1, .slice a2 n2 c2)]) (ps := [(key, val)]) rfl (fun i hi => by
                  obtain rfl : i = 0 := by simp at hi; omega
                  exact ⟨HKV.out.below hbw, HVV.out.below hbw⟩) (HDR.out wx hbw).texts)
            have HPC := hide hPC
            clear hPC hPA hPB hB hlo hbn HIS HTK HDR
            go_enter Try.func32, Try.ntmps32
            go_wp2_with (first
              | (go_at_call 25; refine (HM.out w1 HG1.out.1).mono ?_; rintro e w2 ⟨rfl, hb2⟩; have HG2 := hide (HG1.out.grow hb2); (try clear z0 z1 z2 z3); (try clear d0 d1 d2 d3 k0 k1 k2 k3); obtain ⟨⟨z0, z1, z2, z3⟩, _⟩ := node_cells HG2.out.2.1; obtain ⟨⟨d0, d1, d2, d3⟩, k0, k1, k2, k3⟩ := node_cells HG2.out.2.2; clear HM hb2)
              | (go_at_call 66; refine (HKE.out w2 HG2.out.1).mono ?_; rintro e w3 ⟨rfl, hw⟩; subst w3)
              | (go_at_call 24; refine (HFD.out w2 HG2.out.1).mono ?_; rintro e w4 ⟨rfl, hb4⟩; have HG4 := hide (HG2.out.grow hb4); (try clear z0 z1 z2 z3); (try clear d0 d1 d2 d3 k0 k1 k2 k3); obtain ⟨⟨z0, z1, z2, z3⟩, _⟩ := node_cells HG4.out.2.1; obtain ⟨⟨d0, d1, d2, d3⟩, k0, k1, k2, k3⟩ := node_cells HG4.out.2.2; obtain ⟨v5, w5, hr5, hrow5, hon5⟩ := appP (B := w.heap.size + 2) (.slice none 0 0) 0 [] (World.ownsRow_nil _ _ _ _) (by omega) (.slice pa FI pc) PA (HR1.out w4 HG4.out.1) (by have := HG4.out.2.2.lt; omega); rw [List.nil_append] at hrow5; have hof5 : Only (fun _ => False) w4 w5 := hon5.mono (fun _ _ h => (by cases h)); obtain ⟨a5, n5, c5, rfl, hn5, ho5⟩ := hrow5; have HG5 := hide (HG4.out.keep hof5); have HR5 := hide hr5; obtain ⟨wz, hwz, HBz, HXz, t0, t1, t2, t3⟩ := nd_box w5 true (.slice a5 n5 c5) (.slice none 0 0) (.slice none 0 0); have hoz := ownsRow_only ho5 (Only.of_below (fun _ => False) HBz.out) (fun _ _ h => h); have fz2 := HXz.out.frozen 2; have fz3 := HXz.out.frozen 3; obtain ⟨w6, hw6⟩ : ∃ x, (wz.setCell ⟨w5.heap.size, 2, none⟩ (.slice none 0 0)).setCell ⟨w5.heap.size, 3, none⟩ (.slice none 0 0) = x := ⟨_, rfl⟩; have on6 : Only (· = w5.heap.size) wz w6 := (by rw [← hw6]; exact ((Only.refl (· = w5.heap.size) wz).setCell ⟨w5.heap.size, 2, none⟩ _ (fun _ => rfl)).setCell ⟨w5.heap.size, 3, none⟩ _ (fun _ => rfl)); have HX6 : Hid (Blk w6 w5.heap.size 26 [.bool true, .slice a5 n5 c5, .slice none 0 0, .slice none 0 0]) := (by rw [← hw6]; exact (HXz.out.set 2 (.slice none 0 0)).set 3 (.slice none 0 0)); have HG6 := hide ((HG5.out.grow HBz.out).only on6 (fun j hj => by subst hj; have := HG5.out.2.2.lt; omega)); have ho6 := ownsRow_only hoz on6 (fun j hj e => row_not_blk hoz HXz.out (by decide) (e ▸ hj)); have hsz : wz.heap.size = w5.heap.size + 1 := (by rw [← hwz]; simp); obtain ⟨w7, hw7⟩ : ∃ x, w6.alloc (.cells #[.slice a1 n1 c1, .slice a2 n2 c2] 36) = x := ⟨_, rfl⟩; have hb7 : Below w6.heap.size w6 w7 := (by rw [← hw7]; exact (Below.refl _ w6).alloc (Nat.le_refl _) _); have hB7 : Blk w7 w6.heap.size 36 [.slice a1 n1 c1, .slice a2 n2 c2] := (by rw [← hw7]; exact Blk.new w6 _ _); have hs6 : w6.heap.size = w5.heap.size + 1 := (by rw [← hw6]; simp [World.setCell]; exact hsz); have ho7 := ownsRow_only ho6 (Only.of_below (fun _ => False) hb7) (fun _ _ h => h); have HG7 := hide (HG6.out.grow hb7); have HX7 := hide (HX6.out.below hb7 HX6.out.lt); obtain ⟨v8, w8, hr8, hrow8, hon8⟩ := appP (B := w.heap.size + 2) _ n5 _ ho7 (by have := ho5.1; have := HL1.out; omega) (.slice (some ⟨w5.heap.size + 1, 0, none⟩) 1 1) [.slice a1 n1 c1, .slice a2 n2 c2] (pair_row (by rw [← hs6]; exact hB7)) (by have := HG7.out.2.2.lt; omega); obtain ⟨a8, n8, c8, rfl, hn8, ho8⟩ := hrow8; have HR8 := hide hr8; have HG8 := hide (HG7.out.only hon8 (fun j hj => (row_blk ho7 hj).1)); have hX8 := HX7.out.only hon8 (fun e => row_not_blk ho7 HX7.out (by decide) e); have c8a := hX8.cell 1; have f8a := hX8.frozen 1; obtain ⟨w9, hw9⟩ : ∃ x, w8.setCell ⟨w5.heap.size, 1, none⟩ (.slice a8 n8 c8) = x := ⟨_, rfl⟩; have on9 : Only (· = w5.heap.size) w8 w9 := (by rw [← hw9]; exact (Only.refl (· = w5.heap.size) w8).setCell ⟨w5.heap.size, 1, none⟩ _ (fun _ => rfl)); have HX9 : Hid (Blk w9 w5.heap.size 26 [.bool true, .slice a8 n8 c8, .slice none 0 0, .slice none 0 0]) := (by rw [← hw9]; exact hX8.set 1 (.slice a8 n8 c8)); have hz5 : w.heap.size + 2 ≤ w5.heap.size := (by have := HG5.out.2.2.lt; omega); have HG9 := hide (HG8.out.only on9 (fun j hj => by subst hj; exact hz5)); have HO9 := hide (ownsRow_only ho8 on9 (fun j hj e => row_not_blk ho8 hX8 (by decide) (e ▸ hj))); obtain ⟨⟨r0, r1, r2, r3⟩, _⟩ := node_cells HX7.out; obtain ⟨⟨y0, y1, y2, y3⟩, _⟩ := node_cells HX9.out; obtain ⟨⟨u0, u1, u2, u3⟩, _⟩ := node_cells HG9.out.2.1; obtain ⟨⟨s0, s1, s2, s3⟩, _⟩ := node_cells HX6.out; clear on6 hoz hr5 hof5 hon5 hr8 hon8 hX8 ho5 ho6 ho7 ho8 on9 hb7 hB7 HX7; clear HFD hb4)
              | (at_builtin; (with_reducible refine wpList_append_run _ rfl (.const (.slice none 0 0)) (.tmp 38) 22 rfl _ _ ?_ ?_ _ _ HR5.out ?_); exact rfl; exact rfl; clear HR5)
              | (at_builtin; (with_reducible refine wpList_append_run _ rfl (.tmp 42) (.tmp 46) 22 rfl _ _ ?_ ?_ _ _ HR8.out ?_); exact rfl; exact rfl; clear HR8))
            rw [← HPC.out] at HO9
            obtain ⟨b8, hb8⟩ : ∃ x, x = w5.heap.size := ⟨_, rfl⟩
            have hb2 : w.heap.size + 2 ≤ b8 := by rw [hb8]; exact hz5
            rw [← hb8] at HX9
            simp only [← hb8]
            clear hb8 hz5
            refine wp_region_set [some (.pointer (some ⟨b8, 1, none⟩)), some (.slice a8 n8 c8), some (.pointer (some ⟨w.heap.size, 1, none⟩)), some (.slice pa np pc), some (.int .i64 (FI + 1 : Int)), some (.slice ba bn bc), none, some (.pointer (some ⟨b8, 1, none⟩)), none] [6, 8] (fun D vals W => ap2 w [.bool true, .slice pa np pc, .slice ka nk kc, .slice ca nc cc] (fun W => True) 36 2 (PC) (PB) (.slice a8 n8 c8) n8 b8 (fun v => [.bool true, v, .slice none 0 0, .slice none 0 0]) (D 6) (D 8) (vals 6) W) 64 (by kernel_rfl) (by kernel_rfl) (by kernel_rfl) (by kernel_rfl) rfl ?_ ?_ ?_ ?_
            · exact fun vals0 => (ap2.start (HG9.out.keep ((Only.refl _ w9).drew)) (trivial) (ownsRow_only HO9.out ((Only.refl (fun _ => False) w9).drew) (fun _ _ h => h)) (HX9.out.only ((Only.refl (fun _ => False) w9).drew) (fun h => h)) : ap2 w [.bool true, .slice pa np pc, .slice ka nk kc, .slice ca nc cc] (fun W => True) 36 2 (PC) (PB) (.slice a8 n8 c8) n8 b8 (fun v => [.bool true, v, .slice none 0 0, .slice none 0 0]) false false (vals0 6) _)
            · exact fun D D' vals vals' W hv hs => by (have e1 := hv 6 (by decide); have e2 := hv 8 (by decide); have hs' : ap2 w [.bool true, .slice pa np pc, .slice ka nk kc, .slice ca nc cc] (fun W => True) 36 2 (PC) (PB) (.slice a8 n8 c8) n8 b8 (fun v => [.bool true, v, .slice none 0 0, .slice none 0 0]) (D 6) (D 8) (vals 6) W := hs; rw [e1.1, e1.2, e2.1] at hs'; exact hs')
            · refine ⟨?_, ?_, ?_, ?_, ?_, ?_, ?_, ?_, ?_, trivial⟩
              · intro D vals act wx hu h hs
                have e10 : act.eval (.tmp 10) = .pointer (some ⟨b8, 0, none⟩) := h.old 10 (by kernel_rfl)
                clear h
                refine gives_by rfl act.eval rfl ?_
                generalize act.eval = ρ at *
                intro hf hc
                go_simp
                exact ⟨rfl, hs⟩
              · intro D vals act wx hu h hs
                have e52 : act.eval (.tmp 52) = .pointer (some ⟨b8, 1, none⟩) := h.q 0 52 (by kernel_rfl) rfl
                clear h
                have hxx := ap2.box hs (hu.not 8 (by decide) (by kernel_rfl))
                have c0 := hxx.cell 0
                have c1 := hxx.cell 1
                have c2 := hxx.cell 2
                have c3 := hxx.cell 3
                clear hxx
                refine gives_by rfl act.eval rfl ?_
                generalize act.eval = ρ at *
                intro hf hc
                go_simp
                exact ⟨rfl, hs⟩
              · intro D vals act wx hu h hs
                have e3 : act.eval (.tmp 3) = .pointer (some ⟨w.heap.size, 0, none⟩) := h.old 3 (by kernel_rfl)
                clear h
                refine gives_by rfl act.eval rfl ?_
                generalize act.eval = ρ at *
                intro hf hc
                go_simp
                exact ⟨rfl, hs⟩
              · intro D vals act wx hu h hs
                have e54 : act.eval (.tmp 54) = .pointer (some ⟨w.heap.size, 1, none⟩) := h.q 2 54 (by kernel_rfl) rfl
                clear h
                obtain ⟨⟨x0, x1, x2, x3⟩, _⟩ := node_cells hs.1.2.1
                refine gives_by rfl act.eval rfl ?_
                generalize act.eval = ρ at *
                intro hf hc
                go_simp
                exact ⟨rfl, hs⟩
              · intro D vals act wx hu h hs
                have e8 : act.eval (.tmp 8) = .int .i64 (FI + 1 : Int) := h.old 8 (by kernel_rfl)
                clear h
                refine gives_by rfl act.eval rfl ?_
                generalize act.eval = ρ at *
                intro hf hc
                go_simp
                exact ⟨rfl, hs⟩
              · intro D vals act wx hu h hs
                have e55 : act.eval (.tmp 55) = .slice pa np pc := h.q 3 55 (by kernel_rfl) rfl
                have e56 : act.eval (.tmp 56) = .int .i64 (FI + 1 : Int) := h.q 4 56 (by kernel_rfl) rfl
                clear h
                have hlo := HLO.out wx
                refine gives_by rfl act.eval rfl ?_
                generalize act.eval = ρ at *
                intro hf hc
                go_simp
                exact ⟨rfl, hs⟩
              · intro D vals act wx hu h hs
                have e53 : act.eval (.tmp 53) = .slice a8 n8 c8 := h.q 1 53 (by kernel_rfl) rfl
                have e57 : act.eval (.tmp 57) = .slice ba bn bc := h.q 5 57 (by kernel_rfl) rfl
                clear h
                have hsz := hs.1.2.2.lt
                have hg := hs.1
                have hr0 := hs.2.2.2.1 hu.self
                have hn5 : n8 ≤ 2000 := by have := hr0.1; have := HL2.out; omega
                obtain ⟨v', wy, hr, hrow, hon⟩ := appP (B := (w.heap.size + 2)) _ _ _ hr0 hn5 (.slice ba bn bc) (PB) (HR2.out wx hg.1) (by omega)
                refine gives_of_run rfl (exec_append (.tmp 53) (.tmp 57) 22 rfl _ _ e53 e57 _ hr) ?_
                exact (ap2.app hs hu.self (hu.not 8 (by decide) (by kernel_rfl)) (by decide) hrow hon (fun _ => trivial) : ap2 w [.bool true, .slice pa np pc, .slice ka nk kc, .slice ca nc cc] (fun W => True) 36 2 (PC) (PB) (.slice a8 n8 c8) n8 b8 (fun v => [.bool true, v, .slice none 0 0, .slice none 0 0]) true (D 8) v' wy)
              · intro D vals act wx hu h hs
                have e10 : act.eval (.tmp 10) = .pointer (some ⟨b8, 0, none⟩) := h.old 10 (by kernel_rfl)
                clear h
                refine gives_by rfl act.eval rfl ?_
                generalize act.eval = ρ at *
                intro hf hc
                go_simp
                exact ⟨rfl, hs⟩
              · intro D vals act wx hu h hs
                have e59 : act.eval (.tmp 59) = .pointer (some ⟨b8, 1, none⟩) := h.q 7 59 (by kernel_rfl) rfl
                have e58 : act.eval (.tmp 58) = vals 6 := h.val 6 58 (by kernel_rfl)
                clear h
                have hdn := (hu.done 6 (by kernel_rfl))
                obtain ⟨a9, n9, c9, h9, hn9, ho9⟩ := hs.2.2.1 hdn
                rw [h9] at e58
                have hx := ap2.box hs hu.self
                have c0 := hx.cell 1
                have f0 := hx.frozen 1
                have hres := (ap2.put 1 hs hdn hu.self (by decide) hb2 rfl (fun _ _ _ => trivial) : ap2 w [.bool true, .slice pa np pc, .slice ka nk kc, .slice ca nc cc] (fun W => True) 36 2 (PC) (PB) (.slice a8 n8 c8) n8 b8 (fun v => [.bool true, v, .slice none 0 0, .slice none 0 0]) (D 6) true (vals 6) (wx.setCell ⟨b8, 1, none⟩ (vals 6)))
                rw [show wx.setCell ⟨b8, 1, none⟩ (vals 6) = wx.setCell ⟨b8, 1, none⟩ (.slice a9 n9 c9) by rw [h9]] at hres
                clear hs hx ho9
                refine gives_by rfl act.eval rfl ?_
                generalize act.eval = ρ at *
                intro hf hc
                go_simp
                first | exact hres | (rw [hdn] at hres; exact hres)
            · intro D vals w12 hq5 hD hs
              obtain ⟨hg, hot, h1, h2, hx⟩ := (show ap2 w [.bool true, .slice pa np pc, .slice ka nk kc, .slice ca nc cc] (fun W => True) 36 2 (PC) (PB) (.slice a8 n8 c8) n8 b8 (fun v => [.bool true, v, .slice none 0 0, .slice none 0 0]) (D 6) (D 8) (vals 6) w12 from hs)
              obtain ⟨a12, n12, c12, h12, hn12, ho12⟩ := h1 (hD 6 (by decide))
              rw [if_pos (hD 8 (by decide)), h12] at hx
              have HG12 := hide hg
              have HX12 := hide hx
              have HO12 := hide ho12
              (try clear z0 z1 z2 z3)
              obtain ⟨⟨z0, z1, z2, z3⟩, _⟩ := node_cells hx
              clear hq5 hD hg hot h1 h2 hx ho12
              simp only [putAll, Act.put, List.setIfInBounds_toArray, List.set_cons_zero, List.set_cons_succ, Nat.zero_add, Nat.reduceAdd]
              have HGD := hide (good_tup (B := w.heap.size + 2) (HND.out w12 a12 n12 c12 HG12.out.1 HO12.out) HQD.out (by have := HG12.out.2.2.lt; omega))
              generalize ownE DN = OE at *
              generalize ownN DN = ON at *
              go_wp2_with (first
                | (go_at_call 75; refine HGD.out.mono ?_; rintro e w6 ⟨l6, p6, m6, c6', kx6, mk6, kc6, q6, mq6, qc6, rfl, hn6, hb6⟩; have HG6 := hide (HG12.out.grow hb6); have HN6 := hide hn6; obtain ⟨⟨d0, d1, d2, d3⟩, k0, k1, k2, k3⟩ := node_cells HG6.out.2.2; clear HGD hb6 hn6))
              (try simp only [Exit.inBlock, Exit.then])
              refine bodyPost_ret (ret_node1 rfl _ _ (w.heap.size + 1) _ _ _ _ _ rfl rfl (laidN_blk HG6.out.2.2 _ _ _ _)) rfl ?_
              exact cg_yes HG6.out _ HN6.out
        · have hv24i : (24 : Int) < (n2 : Int) := by omega
          have hVB : valB val = false := by rw [HVB.out, ← hn2]; exact decide_eq_false hv24
          rw [hVB] at HNN HEE
          simp only [Bool.and_false, Bool.false_eq_true, if_false] at HNN HEE
          rw [HNN.out, HEE.out]
          clear HNN HEE
          clear hn2 hvl
          go_enter Try.func32, Try.ntmps32
          go_wp2_with (first
            | (go_at_call 25; refine (HM.out w1 HG1.out.1).mono ?_; rintro e w2 ⟨rfl, hb2⟩; have HG2 := hide (HG1.out.grow hb2); (try clear z0 z1 z2 z3); (try clear d0 d1 d2 d3 k0 k1 k2 k3); obtain ⟨⟨z0, z1, z2, z3⟩, _⟩ := node_cells HG2.out.2.1; obtain ⟨⟨d0, d1, d2, d3⟩, k0, k1, k2, k3⟩ := node_cells HG2.out.2.2; clear HM hb2)
            | (go_at_call 66; refine (HKE.out w2 HG2.out.1).mono ?_; rintro e w3 ⟨rfl, hw⟩; subst w3))
          (try simp only [Exit.inBlock, Exit.then])
          refine bodyPost_ret (ret_node1 rfl _ _ (w.heap.size + 1) _ _ _ _ _ rfl rfl (laidN_blk HG2.out.2.2 _ _ _ _)) rfl ?_
          exact cg_no HG2.out _ _ _ _ _ rfl

end Go.Proofs.Ytoamdbjailpgdaa
