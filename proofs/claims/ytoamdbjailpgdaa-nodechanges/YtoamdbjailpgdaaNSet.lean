/- Contract: package node's Set. -/
import Derived.Test.YtoamdbjailpgdaaNCg
import Derived.Test.YtoamdbjailpgdaaNFind
namespace Go.Proofs.Ytoamdbjailpgdaa
set_option maxRecDepth 20000
open Go.RowKit Go.Shelf
set_option linter.unusedVariables false
set_option linter.unusedSimpArgs false
set_option maxRecDepth 100000
attribute [local go_sem] Oper.semAt_some

/-- a leaf with a pair more -/
def insN (n : Nd) (key val : List Int) : Nd := ⟨true, n.ps.take (findN n key) ++ ([(key, val)] ++ n.ps.drop (findN n key + if findB n key then 1 else 0)), [], []⟩
def setN (n : Nd) (key val : List Int) : Nd := if leafB n then (if keyB key && valB val then ownN (insN n key val) else noNd) else noNd
def setE (n : Nd) (key val : List Int) : Int := if leafB n then (if keyB key && valB val then ownE (insN n key val) else 1) else 100
/-- a leaf with a pair less -/
def delN (n : Nd) (key : List Int) : Nd := ⟨true, n.ps.take (findN n key) ++ n.ps.drop (findN n key + 1), [], []⟩
def unsetN (n : Nd) (key : List Int) : Nd := if leafB n then (if findB n key then ownN (delN n key) else noNd) else noNd
def unsetE (n : Nd) (key : List Int) : Int := if leafB n then (if findB n key then ownE (delN n key) else 4) else 100
theorem find_le {n : Nd} (key : List Int) (h : leafB n = true) : findN n key ≤ n.ps.length ∧ (findB n key = true → findN n key < n.ps.length) := by
  unfold findN findB
  rw [if_pos h, if_pos h]
  refine ⟨by have := cntK_le (n.ps.map (·.1)) key; rwa [List.length_map] at this, fun hb => ?_⟩
  simp only [isK, Bool.and_eq_true, decide_eq_true_iff, List.length_map] at hb
  exact hb.1

set_option maxHeartbeats 3000000 in
theorem set_any (w : World) (v : Value) (n : Nd) (h : NdV w v n) (kv : Value) (key : List Int) (hk : Sl w kv key) (vv : Value) (val : List Int) (hvv : Sl w vv val) :
    Calls Try.prog 31 #[v, kv, vv] w (GivesN w (setN n key val) (setE n key val)) := by
  have HM : Hid (∀ w1, Below w.heap.size w w1 → Calls Try.prog 62 #[v] w1 fun e w' => e = .returned (.bool (leafB n)) ∧ Below w1.heap.size w1 w') := fun w1 hb => isLeaf_any w1 v n (h.below hb)
  have HKE : Hid (∀ w1, Below w.heap.size w w1 → Calls Try.prog 71 #[kv] w1 fun e w' => e = .returned (.bool (keyB key)) ∧ w' = w1) := fun w1 hb => isKey_any w1 kv key (hk.below hb)
  have HVE : Hid (∀ w1, Below w.heap.size w w1 → Calls Try.prog 72 #[vv] w1 fun e w' => e = .returned (.bool (valB val)) ∧ w' = w1) := fun w1 hb => isVal_any w1 vv val (hvv.below hb)
  have HFD : Hid (∀ w1, Below w.heap.size w w1 → Calls Try.prog 23 #[v, kv] w1 fun e w' => e = .returned (.tuple #[.int .i64 (findN n key), .bool (findB n key)]) ∧ Below w1.heap.size w1 w') := fun w1 hb => find_any w1 v n (h.below hb) kv key (hk.below hb)
  have HNN : Hid (setN n key val = if leafB n then (if keyB key && valB val then ownN (insN n key val) else noNd) else noNd) := rfl
  have HEE : Hid (setE n key val = if leafB n then (if keyB key && valB val then ownE (insN n key val) else 1) else 100) := rfl
  have HIN : Hid (insN n key val = ⟨true, n.ps.take (findN n key) ++ ([(key, val)] ++ n.ps.drop (findN n key + if findB n key then 1 else 0)), [], []⟩) := rfl
  have HFL := hide (@find_le n key)
  have HPL : Hid (leafB n = true → n.ps.length ≤ 255) := fun h => (leafB_ps h).1
  have hza : ∀ wx : World, (zeroValue 26).run Try.prog wx = .ok (.agg #[.bool false, .slice none 0 0, .slice none 0 0, .slice none 0 0]) wx := fun wx => by kernel_rfl
  obtain ⟨pa, pc, ka, kc, ca, cc, xs, ys, rfl, hp1, hk1, hc1, hp2, hk2, hc2, hP, hK, hC⟩ := h.open
  have HP := hide hP
  have HKV := hide hk
  have HVV := hide hvv
  obtain ⟨a1, n1, c1, rfl⟩ := sl_form hk
  obtain ⟨a2, n2, c2, rfl⟩ := sl_form hvv
  unfold ndv at HM HFD ⊢
  generalize n.lf = lf at *
  obtain ⟨np, hnp⟩ : ∃ m, n.ps.length = m := ⟨_, rfl⟩
  rw [hnp] at HP HM HFD hp1 HFL HPL ⊢
  have HNP := hide hnp
  generalize n.ks.length = nk at *
  generalize n.cs.length = nc at *
  obtain ⟨w1, hw1, hcg⟩ := cg_new w (.bool lf) (.slice pa np pc) (.slice ka nk kc) (.slice ca nc cc)
  have HG1 := hide hcg
  obtain ⟨⟨z0, z1, z2, z3⟩, _⟩ := node_cells hcg.2.1
  clear h hk hvv hP hK hC hcg hnp hk1 hc1 hk2 hc2
  generalize setN n key val = SN at *
  generalize setE n key val = SE at *
  generalize insN n key val = IN at *
  generalize findN n key = FI at *
  generalize findB n key = FB at *
  generalize leafB n = LB at *
  generalize keyB key = KB at *
  generalize valB val = VB at *
  cases LB with
  | false =>
    simp only [Bool.false_eq_true, if_false] at HNN HEE
    rw [HNN.out, HEE.out]
    go_enter Try.func31, Try.ntmps31
    go_wp2_with (go_at_call 62; refine (HM.out w1 HG1.out.1).mono ?_; rintro e w2 ⟨rfl, hb2⟩; have HG2 := hide (HG1.out.grow hb2); clear z0 z1 z2 z3; obtain ⟨⟨d0, d1, d2, d3⟩, k0, k1, k2, k3⟩ := node_cells HG2.out.2.2; clear HM hb2)
    (try simp only [Exit.inBlock, Exit.then])
    refine bodyPost_ret (ret_node1 rfl _ _ (w.heap.size + 1) _ _ _ _ _ rfl rfl (laidN_blk HG2.out.2.2 _ _ _ _)) rfl ?_
    exact cg_no HG2.out _ _ _ _ _ rfl
  | true =>
    simp only [if_true] at HNN HEE
    by_cases hKV : (KB && VB) = true
    · rw [if_pos hKV] at HNN HEE
      rw [HNN.out, HEE.out]
      obtain ⟨rfl, rfl⟩ : KB = true ∧ VB = true := by simpa using hKV
      have hnp5 := HPL.out rfl
      obtain ⟨hF1, hF2⟩ := HFL.out rfl
      clear HNN HEE hKV HFL HPL
      have hct := fun wx => cut_head (P := Try.prog) 22 36 2 Try.underlying22 sizePair pa np pc FI (by omega) (by unfold maxLen; omega) wx
      obtain ⟨ba, bc, hlo, hB, hbc1, hbc2⟩ := HP.out.low HNP.out FI hF1
      have hb1 := fun wx => build_p1 wx a1 a2 n1 n2 c1 c2
      have HTK : Hid (∀ W, Below w.heap.size w W → Prs W (.slice pa FI pc) (xs.take FI) (n.ps.take FI)) := fun W hb => by
        have := HP.out.below hb
        rw [← HNP.out] at this
        exact this.take FI pc (by rw [HNP.out]; omega) (by omega) (by unfold maxLen; omega)
      have HLF : Hid (∀ W b2 m2 bc2 zs qs, Below w.heap.size w W → (∀ W', Below w.heap.size w W' → Prs W' (.slice b2 m2 bc2) zs qs) → qs.length ≤ 1000 → IN = ⟨true, n.ps.take FI ++ ([(key, val)] ++ qs), [], []⟩ → Calls Try.prog 74 #[.slice (some ⟨W.heap.size + 1, 0, none⟩) 3 3] ((W.alloc (.cells #[.slice a1 n1 c1, .slice a2 n2 c2] 36)).alloc (.cells #[.slice pa FI pc, .slice (some ⟨W.heap.size, 0, none⟩) 1 1, .slice b2 m2 bc2] 22)) fun e w' => ∃ r N c, e = .returned (.agg #[.bool true, .slice r N c, .slice none 0 0, .slice none 0 0]) ∧ NdV w' (.agg #[.bool true, .slice r N c, .slice none 0 0, .slice none 0 0]) IN ∧ Below W.heap.size W w') := fun W b2 m2 bc2 zs qs hW hq hql hIN => by
        have ha1 : Below W.heap.size W (W.alloc (.cells #[.slice a1 n1 c1, .slice a2 n2 c2] 36)) := (Below.refl _ W).alloc (Nat.le_refl _) _
        have ha2 : Below W.heap.size W ((W.alloc (.cells #[.slice a1 n1 c1, .slice a2 n2 c2] 36)).alloc (.cells #[.slice pa FI pc, .slice (some ⟨W.heap.size, 0, none⟩) 1 1, .slice b2 m2 bc2] 22)) := ha1.alloc (by simp) _
        have haw := hW.trans (ha2.mono hW.size)
        have hBl := Blk.new (W.alloc (.cells #[.slice a1 n1 c1, .slice a2 n2 c2] 36)) 22 [.slice pa FI pc, .slice (some ⟨W.heap.size, 0, none⟩) 1 1, .slice b2 m2 bc2]
        rw [World.size_alloc] at hBl
        refine (leaf_prs _ (W.heap.size + 1) [.slice pa FI pc, .slice (some ⟨W.heap.size, 0, none⟩) 1 1, .slice b2 m2 bc2] [xs.take FI, [(.slice a1 n1 c1, .slice a2 n2 c2)], zs] [n.ps.take FI, [(key, val)], qs] rfl rfl (by simp) hBl ?_).mono ?_
        · intro i hi
          have : i = 0 ∨ i = 1 ∨ i = 2 := by simp at hi; omega
          rcases this with rfl | rfl | rfl
          · exact ⟨HTK.out _ haw, by show (n.ps.take FI).length ≤ 1000; rw [List.length_take]; have := HNP.out; omega⟩
          · exact ⟨prs_one ((Blk.new W _ _).alloc _) (HKV.out.below haw) (HVV.out.below haw), by show ([(key, val)] : List (List Int × List Int)).length ≤ 1000; simp⟩
          · exact ⟨hq _ haw, hql⟩
        · rintro e w' ⟨r, N, c, rfl, hn, hb⟩
          refine ⟨r, N, c, rfl, ?_, ha2.trans (hb.mono ha2.size)⟩
          rw [hIN]
          simpa using hn
      have hbb := fun wx b2 m2 bc2 => buildP3 wx pa (some ⟨wx.heap.size, 0, none⟩) b2 FI 1 m2 pc 1 bc2
      cases FB with
      | false =>
        have hb3 := fun wx (q : Nat) => buildP3 wx pa (some ⟨q, 0, none⟩) ba FI 1 (np - FI) pc 1 bc
        have HL1 : Hid (∀ W, Below w.heap.size w W → Calls Try.prog 74 #[.slice (some ⟨W.heap.size + 1, 0, none⟩) 3 3] ((W.alloc (.cells #[.slice a1 n1 c1, .slice a2 n2 c2] 36)).alloc (.cells #[.slice pa FI pc, .slice (some ⟨W.heap.size, 0, none⟩) 1 1, .slice ba (np - FI) bc] 22)) fun e w' => ∃ r N c, e = .returned (.agg #[.bool true, .slice r N c, .slice none 0 0, .slice none 0 0]) ∧ NdV w' (.agg #[.bool true, .slice r N c, .slice none 0 0, .slice none 0 0]) IN ∧ Below W.heap.size W w') := fun W hW => HLF.out W ba (np - FI) bc (xs.drop FI) (n.ps.drop FI) hW (fun W' hW' => hB W' (HP.out.below hW')) (by rw [List.length_drop]; have := HNP.out; omega) (by rw [HIN.out]; simp)
        clear HLF HTK HIN hB hbb HP HKV HVV
        go_enter Try.func31, Try.ntmps31
        go_wp2_with (first
          | (go_at_call 62; refine (HM.out w1 HG1.out.1).mono ?_; rintro e w2 ⟨rfl, hb2⟩; have HG2 := hide (HG1.out.grow hb2); clear z0 z1 z2 z3; obtain ⟨⟨z0, z1, z2, z3⟩, _⟩ := node_cells HG2.out.2.1; obtain ⟨⟨d0, d1, d2, d3⟩, k0, k1, k2, k3⟩ := node_cells HG2.out.2.2; clear HM hb2)
          | (go_at_call 71; refine (HKE.out w2 HG2.out.1).mono ?_; rintro e w3 ⟨rfl, hw⟩; subst w3; clear HKE)
          | (go_at_call 72; refine (HVE.out w2 HG2.out.1).mono ?_; rintro e w3 ⟨rfl, hw⟩; subst w3; clear HVE)
          | (go_at_call 23; refine (HFD.out w2 HG2.out.1).mono ?_; rintro e w4 ⟨rfl, hb4⟩; have HG4 := hide (HG2.out.grow hb4); clear z0 z1 z2 z3 d0 d1 d2 d3 k0 k1 k2 k3; obtain ⟨⟨z0, z1, z2, z3⟩, _⟩ := node_cells HG4.out.2.1; clear HFD hb4)
          | (go_at_call 74; refine (HL1.out w4 HG4.out.1).mono ?_; rintro e w5 ⟨r5, N5, c5, rfl, hn5, hb5⟩; have HG5 := hide (HG4.out.grow hb5); have HO5 := hide (owned_tup hn5 (B := w.heap.size + 2) (by have := HG5.out.2.2.lt; omega)); clear HL1 hb5 hn5)
          | (go_at_call 73; refine HO5.out.mono ?_; rintro e w6 ⟨u6, rfl, ⟨l6, p6, n6, c6, k6, nk6, kc6, q6, nq6, qc6, rfl, hn6⟩, hb6⟩; have HG6 := hide (HG5.out.grow hb6); have HN6 := hide hn6; obtain ⟨⟨d0, d1, d2, d3⟩, k0, k1, k2, k3⟩ := node_cells HG6.out.2.2; clear HO5 hb6 hn6))
        (try simp only [Exit.inBlock, Exit.then])
        refine bodyPost_ret (ret_node1 rfl _ _ (w.heap.size + 1) _ _ _ _ _ rfl rfl (laidN_blk HG6.out.2.2 _ _ _ _)) rfl ?_
        exact cg_yes HG6.out _ HN6.out
      | true =>
        have hF3 := hF2 rfl
        have hpb : Prs w (.slice ba (np - FI) bc) (xs.drop FI) (n.ps.drop FI) := hB w HP.out
        obtain ⟨ba2, bc2, hlo2, hB2, hbd1, hbd2⟩ := hpb.low (by rw [List.length_drop, HNP.out]) 1 (by omega)
        have hlo3 : ∀ wx, (Instr.slice 22 (.slice ba (np - FI) bc) (some (.int .i64 1)) none none).run Try.prog wx = .ok (.slice ba2 (np - FI - 1) bc2) wx := hlo2
        have hb3 := fun wx (q : Nat) => buildP3 wx pa (some ⟨q, 0, none⟩) ba2 FI 1 (np - FI - 1) pc 1 bc2
        have HL1 : Hid (∀ W, Below w.heap.size w W → Calls Try.prog 74 #[.slice (some ⟨W.heap.size + 1, 0, none⟩) 3 3] ((W.alloc (.cells #[.slice a1 n1 c1, .slice a2 n2 c2] 36)).alloc (.cells #[.slice pa FI pc, .slice (some ⟨W.heap.size, 0, none⟩) 1 1, .slice ba2 (np - FI - 1) bc2] 22)) fun e w' => ∃ r N c, e = .returned (.agg #[.bool true, .slice r N c, .slice none 0 0, .slice none 0 0]) ∧ NdV w' (.agg #[.bool true, .slice r N c, .slice none 0 0, .slice none 0 0]) IN ∧ Below W.heap.size W w') := fun W hW => HLF.out W ba2 (np - FI - 1) bc2 ((xs.drop FI).drop 1) ((n.ps.drop FI).drop 1) hW (fun W' hW' => hB2 W' (hB W' (HP.out.below hW'))) (by rw [List.length_drop, List.length_drop]; have := HNP.out; omega) (by rw [HIN.out, List.drop_drop]; simp)
        clear HLF HTK HIN hB hB2 hpb hbb hlo2 HP HKV HVV
        go_enter Try.func31, Try.ntmps31
        go_wp2_with (first
          | (go_at_call 62; refine (HM.out w1 HG1.out.1).mono ?_; rintro e w2 ⟨rfl, hb2⟩; have HG2 := hide (HG1.out.grow hb2); clear z0 z1 z2 z3; obtain ⟨⟨z0, z1, z2, z3⟩, _⟩ := node_cells HG2.out.2.1; obtain ⟨⟨d0, d1, d2, d3⟩, k0, k1, k2, k3⟩ := node_cells HG2.out.2.2; clear HM hb2)
          | (go_at_call 71; refine (HKE.out w2 HG2.out.1).mono ?_; rintro e w3 ⟨rfl, hw⟩; subst w3; clear HKE)
          | (go_at_call 72; refine (HVE.out w2 HG2.out.1).mono ?_; rintro e w3 ⟨rfl, hw⟩; subst w3; clear HVE)
          | (go_at_call 23; refine (HFD.out w2 HG2.out.1).mono ?_; rintro e w4 ⟨rfl, hb4⟩; have HG4 := hide (HG2.out.grow hb4); clear z0 z1 z2 z3 d0 d1 d2 d3 k0 k1 k2 k3; obtain ⟨⟨z0, z1, z2, z3⟩, _⟩ := node_cells HG4.out.2.1; clear HFD hb4)
          | (go_at_call 74; refine (HL1.out w4 HG4.out.1).mono ?_; rintro e w5 ⟨r5, N5, c5, rfl, hn5, hb5⟩; have HG5 := hide (HG4.out.grow hb5); have HO5 := hide (owned_tup hn5 (B := w.heap.size + 2) (by have := HG5.out.2.2.lt; omega)); clear HL1 hb5 hn5)
          | (go_at_call 73; refine HO5.out.mono ?_; rintro e w6 ⟨u6, rfl, ⟨l6, p6, n6, c6, k6, nk6, kc6, q6, nq6, qc6, rfl, hn6⟩, hb6⟩; have HG6 := hide (HG5.out.grow hb6); have HN6 := hide hn6; obtain ⟨⟨d0, d1, d2, d3⟩, k0, k1, k2, k3⟩ := node_cells HG6.out.2.2; clear HO5 hb6 hn6))
        (try simp only [Exit.inBlock, Exit.then])
        refine bodyPost_ret (ret_node1 rfl _ _ (w.heap.size + 1) _ _ _ _ _ rfl rfl (laidN_blk HG6.out.2.2 _ _ _ _)) rfl ?_
        exact cg_yes HG6.out _ HN6.out
    · rw [if_neg hKV] at HNN HEE
      rw [HNN.out, HEE.out]
      clear HNN HEE
      cases KB with
      | false =>
        go_enter Try.func31, Try.ntmps31
        go_wp2_with (first
          | (go_at_call 62; refine (HM.out w1 HG1.out.1).mono ?_; rintro e w2 ⟨rfl, hb2⟩; have HG2 := hide (HG1.out.grow hb2); clear z0 z1 z2 z3; obtain ⟨⟨z0, z1, z2, z3⟩, _⟩ := node_cells HG2.out.2.1; obtain ⟨⟨d0, d1, d2, d3⟩, k0, k1, k2, k3⟩ := node_cells HG2.out.2.2; clear HM hb2)
          | (go_at_call 71; refine (HKE.out w2 HG2.out.1).mono ?_; rintro e w3 ⟨rfl, hw⟩; subst w3; clear HKE)
          | (go_at_call 72; refine (HVE.out w2 HG2.out.1).mono ?_; rintro e w3 ⟨rfl, hw⟩; subst w3; clear HVE))
        (try simp only [Exit.inBlock, Exit.then])
        refine bodyPost_ret (ret_node1 rfl _ _ (w.heap.size + 1) _ _ _ _ _ rfl rfl (laidN_blk HG2.out.2.2 _ _ _ _)) rfl ?_
        exact cg_no HG2.out _ _ _ _ _ rfl
      | true =>
        obtain rfl : VB = false := by simpa using hKV
        go_enter Try.func31, Try.ntmps31
        go_wp2_with (first
          | (go_at_call 62; refine (HM.out w1 HG1.out.1).mono ?_; rintro e w2 ⟨rfl, hb2⟩; have HG2 := hide (HG1.out.grow hb2); clear z0 z1 z2 z3; obtain ⟨⟨z0, z1, z2, z3⟩, _⟩ := node_cells HG2.out.2.1; obtain ⟨⟨d0, d1, d2, d3⟩, k0, k1, k2, k3⟩ := node_cells HG2.out.2.2; clear HM hb2)
          | (go_at_call 71; refine (HKE.out w2 HG2.out.1).mono ?_; rintro e w3 ⟨rfl, hw⟩; subst w3; clear HKE)
          | (go_at_call 72; refine (HVE.out w2 HG2.out.1).mono ?_; rintro e w3 ⟨rfl, hw⟩; subst w3; clear HVE))
        (try simp only [Exit.inBlock, Exit.then])
        refine bodyPost_ret (ret_node1 rfl _ _ (w.heap.size + 1) _ _ _ _ _ rfl rfl (laidN_blk HG2.out.2.2 _ _ _ _)) rfl ?_
        exact cg_no HG2.out _ _ _ _ _ rfl

end Go.Proofs.Ytoamdbjailpgdaa
