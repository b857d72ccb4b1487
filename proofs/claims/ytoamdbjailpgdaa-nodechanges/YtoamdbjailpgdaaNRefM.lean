/- Contracts: which keys, children and nodes may be, as the document says (incipitref10.Key, Child, May). -/
import Derived.Test.YtoamdbjailpgdaaNRefS
import Derived.Test.YtoamdbjailpgdaaNOrd
namespace Go.Proofs.Ytoamdbjailpgdaa
set_option maxRecDepth 20000
open Go.RowKit
set_option linter.unusedVariables false
set_option linter.unusedSimpArgs false
set_option maxRecDepth 100000

theorem refKey_any (w : World) (v : Value) (k : List Int) (h : Sl w v k) :
    Calls Try.prog 66 #[v] w fun e w' => e = .returned (.bool (keyB k)) ∧ w' = w := by
  obtain ⟨ao, cap, rfl⟩ := sl_form' h
  obtain ⟨n, hn⟩ : ∃ n, k.length = n := ⟨_, rfl⟩
  have HK : Hid (keyB k = (decide (0 < n) && decide (n ≤ 25))) := by rw [← hn]; exact rfl
  rw [hn]
  clear hn h
  by_cases h0 : 0 < n
  · have i0 : (1 : Int) ≤ (n : Int) := by omega
    by_cases h1 : n ≤ 25
    · have i1 : (n : Int) ≤ 25 := by omega
      go_enter Try.func66, Try.ntmps66
      go_wp2
      go_ret
      exact ⟨ret_bool (by rw [HK.out]; simp [h0, h1]), rfl⟩
    · have i1 : ¬ (n : Int) ≤ 25 := by omega
      go_enter Try.func66, Try.ntmps66
      go_wp2
      go_ret
      exact ⟨ret_bool (by rw [HK.out]; simp [h0, h1]), rfl⟩
  · obtain rfl : n = 0 := by omega
    go_enter Try.func66, Try.ntmps66
    go_wp2
    go_ret
    exact ⟨ret_bool (by rw [HK.out]; rfl), rfl⟩

theorem refChild_any (w : World) (c : Int) :
    Calls Try.prog 67 #[.int .i64 c] w fun e w' => e = .returned (.bool (kidB c)) ∧ w' = w := by
  by_cases h0 : 2 ≤ c
  · by_cases h1 : c < 2048
    · go_enter Try.func67, Try.ntmps67
      go_wp2
      go_ret
      exact ⟨ret_bool (by simp [kidB, h0, h1]), rfl⟩
    · go_enter Try.func67, Try.ntmps67
      go_wp2
      go_ret
      exact ⟨ret_bool (by simp [kidB, h0, h1]), rfl⟩
  · go_enter Try.func67, Try.ntmps67
    go_wp2
    go_ret
    exact ⟨ret_bool (by rw [kidB, decide_eq_false (show ¬ 2 ≤ c by omega)]; rfl), rfl⟩

theorem less_cmp : ∀ (xs ys : List Int), ByteOk xs → ByteOk ys → Op.bytesLess (xs.map fun z => UInt8.ofNat z.toNat) (ys.map fun z => UInt8.ofNat z.toNat) = decide (cmp xs ys < 0)
  | [], [], _, _ => rfl
  | [], _ :: _, _, _ => rfl
  | _ :: _, [], _, _ => rfl
  | x :: xs, y :: ys, hx, hy => by
    have h1 := hx x (List.mem_cons_self ..)
    have h2 := hy y (List.mem_cons_self ..)
    have ih := less_cmp xs ys (fun z hz => hx z (List.mem_cons_of_mem _ hz)) (fun z hz => hy z (List.mem_cons_of_mem _ hz))
    have e1 : (UInt8.ofNat x.toNat < UInt8.ofNat y.toNat) ↔ x < y := by
      rw [UInt8.lt_iff_toNat_lt]; simp; omega
    have e2 : (UInt8.ofNat x.toNat = UInt8.ofNat y.toNat) ↔ x = y := by
      rw [← UInt8.toNat_inj]; simp; omega
    rw [List.map_cons, List.map_cons, Op.bytesLess, ih, Bool.eq_iff_iff, decide_eq_true_iff, Bool.or_eq_true, Bool.and_eq_true, decide_eq_true_iff, decide_eq_true_iff, beq_iff_eq, e1, e2, cmp]
    by_cases h : x < y
    · rw [if_pos h]
      exact ⟨fun _ => by decide, fun _ => .inl h⟩
    · rw [if_neg h]
      by_cases h' : y < x
      · rw [if_pos h']
        exact ⟨fun hh => by omega, fun hh => by omega⟩
      · rw [if_neg h']
        have he : x = y := by omega
        exact ⟨fun hh => hh.elim (fun a => absurd a h) (fun a => a.2), fun hh => .inr ⟨he, hh⟩⟩
/-- how two texts stand, as strings -/
theorem two_less {w : World} {u t : Value} {p q : List Int} (h1 : Sl w u p) (h2 : Sl w t q) : ∃ sx sy : ByteArray, (∀ m, (convert 34 9 u).run Try.prog (w.drewN m) = .ok (.string sx) (w.drewN m)) ∧ (∀ m, (convert 34 9 t).run Try.prog (w.drewN m) = .ok (.string sy) (w.drewN m)) ∧ Op.bytesLess sx.toList sy.toList = decide (cmp p q < 0) ∧ (sx.toList = sy.toList ↔ p = q) := by
  have hk : ∀ {v : Value} {zs : List Int} (m : Nat), Sl w v zs → Sl (w.drewN m) v zs := fun m h => h.below ⟨rfl, rfl, rfl, Nat.le_refl _, fun _ _ => rfl⟩
  refine ⟨strOfNums p, strOfNums q, fun m => run_convert_sl (P := Try.prog) (w.drewN m) 34 5 9 Try.underlying34 Try.underlying5 Try.underlying9 u p (hk m h1), fun m => run_convert_sl (P := Try.prog) (w.drewN m) 34 5 9 Try.underlying34 Try.underlying5 Try.underlying9 t q (hk m h2), ?_, ?_⟩
  · rw [ByteArray.toList_eq, ByteArray.toList_eq, strOfNums_data, strOfNums_data]
    exact less_cmp p q h1.bytes h2.bytes
  · rw [toList_same]
    exact strOfNums_inj h1.bytes h2.bytes

theorem str_geq (sx sy : ByteArray) (w : World) : (binOp .geq 9 (.string sx) (.string sy)).run Try.prog w = .ok (.bool (!Op.bytesLess sx.toList sy.toList)) w := by kernel_rfl
theorem str_lss (sx sy : ByteArray) (w : World) : (binOp .lss 9 (.string sx) (.string sy)).run Try.prog w = .ok (.bool (Op.bytesLess sx.toList sy.toList)) w := by kernel_rfl

set_option maxHeartbeats 3000000 in
theorem refMay_any (w : World) (v : Value) (n : Nd) (h : NdV w v n) (hq : n.ks.length + n.cs.length ≤ 9223372036854775807) :
    Calls Try.prog 25 #[v] w fun e w' => e = .returned (.bool (mayN n)) ∧ Below w.heap.size w w' := by
  obtain ⟨pa, pc, ka, kc, ca, cc, xs, ys, rfl, hp1, hk1, hc1, hp2, hk2, hc2, hP, hK, hC⟩ := h.open
  have HML := hide (@mayN_lf n)
  have HMI := hide (@mayN_in n)
  have HLB : Hid (leafB n = (n.lf && decide (n.ps.length ≤ 255) && decide (n.ks = []) && decide (n.cs = []) && riseP [] n.ps)) := rfl
  have HIB : Hid (innerB n = (!n.lf && decide (n.ps = []) && decide (1 ≤ n.ks.length) && decide (n.ks.length ≤ 255) && decide (n.cs.length = n.ks.length + 1) && riseK [] n.ks && n.cs.all kidB)) := rfl
  have HPZ : Hid (n.ps = [] ↔ n.ps.length = 0) := List.length_eq_zero_iff.symm
  have HKZ : Hid (n.ks = [] ↔ n.ks.length = 0) := List.length_eq_zero_iff.symm
  have HCZ : Hid (n.cs = [] ↔ n.cs.length = 0) := List.length_eq_zero_iff.symm
  unfold ndv
  generalize mayN n = M at *
  generalize leafB n = LB at *
  generalize innerB n = IB at *
  generalize n.lf = lf at *
  obtain ⟨np, hnp⟩ : ∃ m, n.ps.length = m := ⟨_, rfl⟩
  obtain ⟨nk, hnk⟩ : ∃ m, n.ks.length = m := ⟨_, rfl⟩
  obtain ⟨nc, hnc⟩ : ∃ m, n.cs.length = m := ⟨_, rfl⟩
  have HNP := hide hnp
  have HNK := hide hnk
  have HNC := hide hnc
  have HP := hide hP
  have HK := hide hK
  have HC := hide hC
  rw [hnk, hnc] at hq
  rw [hnp] at HP HLB HPZ hp1 ⊢
  rw [hnk] at HK HIB HKZ hk1 ⊢
  rw [hnc] at HC HIB HCZ hc1 ⊢
  obtain ⟨w1, hw1, HB1, HBB, z0, z1, z2, z3⟩ := nd_box w lf (.slice pa np pc) (.slice ka nk kc) (.slice ca nc cc)
  clear h hP hK hC hnp hnk hnc
  cases lf with
  | true =>
    have hM : M = LB := HML.out rfl
    clear HML HMI HIB
    by_cases e0 : nk + nc = 0
    · obtain rfl : nk = 0 := by omega
      obtain rfl : nc = 0 := by omega
      by_cases e1 : np ≤ 255
      · have i1 : ¬ (255 : Int) < (np : Int) := by omega
        have HR : Hid (M = riseP [] n.ps) := by show M = _; rw [hM, HLB.out]; simp [e1, HKZ.out, HCZ.out]
        clear HLB hM
        go_enter Try.func25, Try.ntmps25
        go_wp2
        go_loopg [3] np (fun g i wr => ∃ k : Nat, g + k = np ∧ i = .int .i64 k ∧ riseP [] n.ps = riseP (if k = 0 then [] else (n.ps.getD (k - 1) ([], [])).1) (n.ps.drop k) ∧ Below w1.heap.size w1 wr)
        case atStart => exact ⟨0, by omega, rfl, by simp, Below.refl _ _⟩
        case round =>
          obtain ⟨k, hgk, rfl, hall, hbr⟩ := hrel
          obtain ⟨W1, rfl⟩ : ∃ x, x = wr := ⟨_, rfl⟩
          have HA := hide hall
          have HBR := hide hbr
          obtain ⟨s0, s1, s2, s3⟩ := box_ndc (HBB.out.below hbr HBB.out.lt)
          have HBW := hide (HB1.out.trans (hbr.mono HB1.out.size))
          clear hall hbr z0 z1 z2 z3
          by_cases hk : k < np
          · have hki : (k : Int) < (np : Int) := by omega
            have hkl : k < n.ps.length := by rw [HNP.out]; exact hk
            obtain ⟨ba, oa, rfl, r1, g1, g2⟩ := (HP.out.below HBW.out).at k hkl
            have hd : n.ps.drop k = n.ps.getD k ([], []) :: n.ps.drop (k + 1) := by rw [List.drop_eq_getElem_cons hkl]; congr 1; simp [List.getD, hkl]
            generalize hx : xs.getD k nil2 = x at *
            obtain ⟨p, hp⟩ : ∃ p, n.ps.getD k ([], []) = p := ⟨_, rfl⟩
            rw [hp] at g1 g2 hd
            obtain ⟨u1, u2⟩ := x
            obtain ⟨p1, p2⟩ := p
            simp only at r1 g1 g2
            have c1 : W1.cell? ⟨ba, oa + k * 2, none⟩ = some u1 := r1 0 _ rfl
            have c2 : W1.cell? ⟨ba, oa + k * 2 + 1, none⟩ = some u2 := r1 1 _ rfl
            have HKY : Hid (∀ m, Calls Try.prog 66 #[u1] (W1.drewN m) fun e w' => e = .returned (.bool (keyB p1)) ∧ w' = W1.drewN m) := fun m => refKey_any (W1.drewN m) u1 p1 (g1.below (below_q W1 m))
            have HNX : Hid (riseP [] n.ps = (behB (if k = 0 then [] else (n.ps.getD (k - 1) ([], [])).1) p1 && valB p2 && riseP p1 (n.ps.drop (k + 1)))) := by show _ = _; rw [HA.out, hd]; rfl
            have HN2 : Hid (riseP p1 (n.ps.drop (k + 1)) = riseP (if k + 1 = 0 then [] else (n.ps.getD (k + 1 - 1) ([], [])).1) (n.ps.drop (k + 1))) := by show _ = _; rw [if_neg (by omega), Nat.add_sub_cancel, hp]
            have HVB : Hid (valB p2 = decide (p2.length ≤ 24)) := rfl
            have G1 := hide g1
            obtain ⟨f2, l2, rfl⟩ := sl_form' g2
            generalize p2.length = n2 at *
            generalize valB p2 = VB at *
            have HBN : Hid (∀ l, behB l p1 = (keyB p1 && decide (cmp l p1 < 0))) := fun l => rfl
            have HB0 : Hid (behB [] p1 = keyB p1) := behB_nil p1
            generalize keyB p1 = KB at *
            clear r1 g2 hd hx hp
            cases KB with
            | false =>
              obtain ⟨f1, m1, l1, rfl⟩ := sl_form g1
              clear g1
              go_wp2
              go_quiet (first | (go_at_call 66; exact Calls.quiet_of_same (HKY.out _)))
              go_wp2
              go_ret
              exact ⟨ret_bool (by rw [HR.out, HNX.out, HBN.out]; rfl), HBW.out.trans ((below_q W1 _).mono HBW.out.size)⟩
            | true =>
              by_cases hv : n2 ≤ 24
              · have hvi : decide ((24 : Int) < (n2 : Int)) = false := decide_eq_false (by omega)
                by_cases hk0 : k = 0
                · have hk0i : decide ((0 : Int) < (k : Int)) = false := decide_eq_false (by omega)
                  have hk0n : decide (0 < k) = false := decide_eq_false (by omega)
                  have HK0 := hide hk0
                  clear hk0
                  obtain ⟨f1, m1, l1, rfl⟩ := sl_form g1
                  clear g1
                  go_wp2
                  go_quiet (first | (go_at_call 66; exact Calls.quiet_of_same (HKY.out _)))
                  go_wp2
                  go_roundg (gk - 1)
                  case measure => omega
                  case rel => exact ⟨k + 1, by omega, by go_num, by rw [HNX.out, if_pos HK0.out, HB0.out, HVB.out, decide_eq_true hv, HN2.out]; rfl, HBR.out.trans ((below_q W1 _).mono HBR.out.size)⟩
                · have hk0i : decide ((0 : Int) < (k : Int)) = true := decide_eq_true (by omega)
                  have hk0n : decide (0 < k) = true := decide_eq_true (by omega)
                  obtain ⟨j, hj⟩ : ∃ j, k = j + 1 := ⟨k - 1, by omega⟩
                  have hji : (k : Int) - 1 = (j : Int) := by omega
                  have hjn : j < np := by omega
                  have hwj : IntKind.i64.wrap (j : Int) = (j : Int) := IntWalk.i64_in _ (by omega)
                  have hjl : j < n.ps.length := by rw [HNP.out]; exact hjn
                  obtain ⟨bj, oj, hbj, rj, gj, _⟩ := (HP.out.below HBW.out).at j hjl
                  obtain ⟨rfl, rfl⟩ : ba = bj ∧ oa = oj := by simpa using hbj
                  have HNJ : Hid ((if k = 0 then ([] : List Int) else (n.ps.getD (k - 1) ([], [])).1) = (n.ps.getD j ([], [])).1) := by show _ = _; rw [if_neg hk0, hj, Nat.add_sub_cancel]
                  generalize xs.getD j nil2 = y at *
                  generalize hlj : (n.ps.getD j ([], [])).1 = lj at *
                  obtain ⟨y1, y2⟩ := y
                  simp only at rj gj
                  have cj : W1.cell? ⟨ba, oa + j * 2, none⟩ = some y1 := rj 0 _ rfl
                  obtain ⟨sx, sy, cv1, cv2, hless, _⟩ := two_less gj g1
                  have HLS := hide hless
                  obtain ⟨f1, m1, l1, rfl⟩ := sl_form g1
                  obtain ⟨f3, m3, l3, rfl⟩ := sl_form gj
                  have HJ := hide hj
                  clear g1 gj rj hbj hlj hj hjl hless
                  by_cases hc : cmp lj p1 < 0
                  · have hls : Op.bytesLess sx.toList sy.toList = true := by rw [HLS.out]; exact decide_eq_true hc
                    have hge := fun m => str_geq sx sy (W1.drewN m)
                    rw [hls] at hge
                    go_wp2
                    go_quiet (first | (go_at_call 66; exact Calls.quiet_of_same (HKY.out _)))
                    go_wp2
                    go_roundg (gk - 1)
                    case measure => omega
                    case rel => exact ⟨k + 1, by omega, by go_num, by rw [HNX.out, HNJ.out, HBN.out, decide_eq_true hc, HVB.out, decide_eq_true hv, HN2.out]; rfl, HBR.out.trans ((below_q W1 _).mono HBR.out.size)⟩
                  · have hls : Op.bytesLess sx.toList sy.toList = false := by rw [HLS.out]; exact decide_eq_false hc
                    have hge := fun m => str_geq sx sy (W1.drewN m)
                    rw [hls] at hge
                    go_wp2
                    go_quiet (first | (go_at_call 66; exact Calls.quiet_of_same (HKY.out _)))
                    go_wp2
                    go_ret
                    exact ⟨ret_bool (by rw [HR.out, HNX.out, HNJ.out, HBN.out, decide_eq_false (show ¬ cmp lj p1 < 0 by omega)]; rfl), HBW.out.trans ((below_q W1 _).mono HBW.out.size)⟩
              · have hvi : decide ((24 : Int) < (n2 : Int)) = true := decide_eq_true (by omega)
                obtain ⟨f1, m1, l1, rfl⟩ := sl_form g1
                clear g1
                go_wp2
                go_quiet (first | (go_at_call 66; exact Calls.quiet_of_same (HKY.out _)))
                go_wp2
                go_ret
                exact ⟨ret_bool (by rw [HR.out, HNX.out, HVB.out, decide_eq_false hv, Bool.and_false]; rfl), HBW.out.trans ((below_q W1 _).mono HBW.out.size)⟩
          · have HE : Hid (riseP [] n.ps = true) := by show _ = _; rw [HA.out, List.drop_of_length_le (by have := HNP.out; omega)]; rfl
            go_wp2
            go_ret
            exact ⟨ret_bool (by rw [HR.out, HE.out]), HBW.out⟩
      · have i1 : (255 : Int) < (np : Int) := by omega
        go_enter Try.func25, Try.ntmps25
        go_wp2
        go_ret
        exact ⟨ret_bool (by rw [HLB.out]; simp [e1]), HB1.out⟩
    · have hwn : IntKind.i64.wrap ((nk : Int) + (nc : Int)) = (nk : Int) + (nc : Int) := IntWalk.i64_in _ (by omega)
      have i0 : (0 : Int) < (nk : Int) + (nc : Int) := by omega
      have i0n : 0 < nk + nc := by omega
      have i0d : decide ((0 : Int) < (nk : Int) + (nc : Int)) = true := decide_eq_true i0
      have hz : ¬ (n.ks = [] ∧ n.cs = []) := fun hh => e0 (by have a := HKZ.out.1 hh.1; have b := HCZ.out.1 hh.2; omega)
      have HZ : Hid ((decide (n.ks = []) && decide (n.cs = [])) = false) := by
        show _ = _
        rw [Bool.eq_false_iff]
        intro hh
        rw [Bool.and_eq_true, decide_eq_true_iff, decide_eq_true_iff] at hh
        exact hz hh
      clear hz e0
      go_enter Try.func25, Try.ntmps25
      go_wp2
      go_ret
      exact ⟨ret_bool (by rw [hM, HLB.out, Bool.true_and, Bool.and_assoc (decide (np ≤ 255)), HZ.out]; simp), HB1.out⟩
  | false =>
    have hM : M = IB := HMI.out rfl
    clear HML HMI HLB
    by_cases e1 : np = 0
    · subst e1
      by_cases e2 : 1 ≤ nk
      · have i2 : ¬ (nk : Int) < 1 := by omega
        by_cases e3 : nk ≤ 255
        · have i3 : ¬ (255 : Int) < (nk : Int) := by omega
          by_cases e4 : nc = nk + 1
          · have i4 : ((nc : Int) != (nk : Int) + 1) = false := by simp; omega
            have HR : Hid (M = (riseK [] n.ks && n.cs.all kidB)) := by show M = _; rw [hM, HIB.out]; simp [e2, e3, e4, HPZ.out]
            have HNCK := hide e4
            clear HIB hM e4
            go_enter Try.func25, Try.ntmps25
            go_wp2
            go_loopg [4] nk (fun g i wr => ∃ k : Nat, g + k = nk ∧ i = .int .i64 k ∧ riseK [] n.ks = riseK (if k = 0 then [] else n.ks.getD (k - 1) []) (n.ks.drop k) ∧ Below w1.heap.size w1 wr)
            case atStart => exact ⟨0, by omega, rfl, by simp, Below.refl _ _⟩
            case round =>
              obtain ⟨k, hgk, rfl, hall, hbr⟩ := hrel
              obtain ⟨W1, rfl⟩ : ∃ x, x = wr := ⟨_, rfl⟩
              have HA := hide hall
              have HBR := hide hbr
              obtain ⟨s0, s1, s2, s3⟩ := box_ndc (HBB.out.below hbr HBB.out.lt)
              have HBW := hide (HB1.out.trans (hbr.mono HB1.out.size))
              clear hall hbr z0 z1 z2 z3
              by_cases hk : k < nk
              · have hki : (k : Int) < (nk : Int) := by omega
                have hkl : k < n.ks.length := by rw [HNK.out]; exact hk
                obtain ⟨ba, oa, rfl, c1, g1⟩ := (HK.out.below HBW.out).at k hkl
                have hd : n.ks.drop k = n.ks.getD k [] :: n.ks.drop (k + 1) := by rw [List.drop_eq_getElem_cons hkl]; congr 1; simp [List.getD, hkl]
                generalize ys.getD k nilS = u1 at *
                obtain ⟨p1, hp⟩ : ∃ p, n.ks.getD k [] = p := ⟨_, rfl⟩
                rw [hp] at g1 hd
                have HKY : Hid (∀ m, Calls Try.prog 66 #[u1] (W1.drewN m) fun e w' => e = .returned (.bool (keyB p1)) ∧ w' = W1.drewN m) := fun m => refKey_any (W1.drewN m) u1 p1 (g1.below (below_q W1 m))
                have HNX : Hid (riseK [] n.ks = (behB (if k = 0 then [] else n.ks.getD (k - 1) []) p1 && riseK p1 (n.ks.drop (k + 1)))) := by show _ = _; rw [HA.out, hd]; rfl
                have HN2 : Hid (riseK p1 (n.ks.drop (k + 1)) = riseK (if k + 1 = 0 then [] else n.ks.getD (k + 1 - 1) []) (n.ks.drop (k + 1))) := by show _ = _; rw [if_neg (by omega), Nat.add_sub_cancel, hp]
                have HBN : Hid (∀ l, behB l p1 = (keyB p1 && decide (cmp l p1 < 0))) := fun l => rfl
                have HB0 : Hid (behB [] p1 = keyB p1) := behB_nil p1
                generalize keyB p1 = KB at *
                clear hd hp
                cases KB with
                | false =>
                  obtain ⟨f1, m1, l1, rfl⟩ := sl_form g1
                  clear g1
                  go_wp2
                  go_quiet (first | (go_at_call 66; exact Calls.quiet_of_same (HKY.out _)))
                  go_wp2
                  go_ret
                  exact ⟨ret_bool (by rw [HR.out, HNX.out, HBN.out]; rfl), HBW.out.trans ((below_q W1 _).mono HBW.out.size)⟩
                | true =>
                  by_cases hk0 : k = 0
                  · have hk0i : decide ((0 : Int) < (k : Int)) = false := decide_eq_false (by omega)
                    have hk0n : decide (0 < k) = false := decide_eq_false (by omega)
                    have HK0 := hide hk0
                    clear hk0
                    obtain ⟨f1, m1, l1, rfl⟩ := sl_form g1
                    clear g1
                    go_wp2
                    go_quiet (first | (go_at_call 66; exact Calls.quiet_of_same (HKY.out _)))
                    go_wp2
                    go_roundg (gk - 1)
                    case measure => omega
                    case rel => exact ⟨k + 1, by omega, by go_num, by rw [HNX.out, if_pos HK0.out, HB0.out, HN2.out]; rfl, HBR.out.trans ((below_q W1 _).mono HBR.out.size)⟩
                  · have hk0i : decide ((0 : Int) < (k : Int)) = true := decide_eq_true (by omega)
                    have hk0n : decide (0 < k) = true := decide_eq_true (by omega)
                    obtain ⟨j, hj⟩ : ∃ j, k = j + 1 := ⟨k - 1, by omega⟩
                    have hji : (k : Int) - 1 = (j : Int) := by omega
                    have hjn : j < nk := by omega
                    have hwj : IntKind.i64.wrap (j : Int) = (j : Int) := IntWalk.i64_in _ (by omega)
                    have hjl : j < n.ks.length := by rw [HNK.out]; exact hjn
                    obtain ⟨bj, oj, hbj, cj, gj⟩ := (HK.out.below HBW.out).at j hjl
                    obtain ⟨rfl, rfl⟩ : ba = bj ∧ oa = oj := by simpa using hbj
                    have HNJ : Hid ((if k = 0 then ([] : List Int) else n.ks.getD (k - 1) []) = n.ks.getD j []) := by show _ = _; rw [if_neg hk0, hj, Nat.add_sub_cancel]
                    generalize ys.getD j nilS = y1 at *
                    generalize n.ks.getD j [] = lj at *
                    obtain ⟨sx, sy, cv1, cv2, hless, _⟩ := two_less gj g1
                    have HLS := hide hless
                    obtain ⟨f1, m1, l1, rfl⟩ := sl_form g1
                    obtain ⟨f3, m3, l3, rfl⟩ := sl_form gj
                    have HJ := hide hj
                    clear g1 gj hbj hj hjl hless
                    by_cases hc : cmp lj p1 < 0
                    · have hls : Op.bytesLess sx.toList sy.toList = true := by rw [HLS.out]; exact decide_eq_true hc
                      have hge := fun m => str_geq sx sy (W1.drewN m)
                      rw [hls] at hge
                      go_wp2
                      go_quiet (first | (go_at_call 66; exact Calls.quiet_of_same (HKY.out _)))
                      go_wp2
                      go_roundg (gk - 1)
                      case measure => omega
                      case rel => exact ⟨k + 1, by omega, by go_num, by rw [HNX.out, HNJ.out, HBN.out, decide_eq_true hc, HN2.out]; rfl, HBR.out.trans ((below_q W1 _).mono HBR.out.size)⟩
                    · have hls : Op.bytesLess sx.toList sy.toList = false := by rw [HLS.out]; exact decide_eq_false hc
                      have hge := fun m => str_geq sx sy (W1.drewN m)
                      rw [hls] at hge
                      go_wp2
                      go_quiet (first | (go_at_call 66; exact Calls.quiet_of_same (HKY.out _)))
                      go_wp2
                      go_ret
                      exact ⟨ret_bool (by rw [HR.out, HNX.out, HNJ.out, HBN.out, decide_eq_false (show ¬ cmp lj p1 < 0 by omega)]; rfl), HBW.out.trans ((below_q W1 _).mono HBW.out.size)⟩
              · have HE : Hid (riseK [] n.ks = true) := by show _ = _; rw [HA.out, List.drop_of_length_le (by have := HNK.out; omega)]; rfl
                go_wp2
                go_loopg [5] nc (fun g i wr => ∃ k : Nat, g + k = nc ∧ i = .int .i64 k ∧ n.cs.all kidB = (n.cs.drop k).all kidB ∧ Below w1.heap.size w1 wr)
                case atStart => exact ⟨0, by omega, rfl, rfl, HBR.out⟩
                case round =>
                  obtain ⟨m, hgm, rfl, hall, hbr⟩ := hrel
                  obtain ⟨W2, rfl⟩ : ∃ x, x = wr := ⟨_, rfl⟩
                  have HA2 := hide hall
                  have HBR2 := hide hbr
                  clear s0 s1 s2 s3
                  obtain ⟨s0, s1, s2, s3⟩ := box_ndc (HBB.out.below hbr HBB.out.lt)
                  have HBW2 := hide (HB1.out.trans (hbr.mono HB1.out.size))
                  clear hall hbr
                  by_cases hm : m < nc
                  · have hmi : (m : Int) < (nc : Int) := by omega
                    have hml : m < n.cs.length := by rw [HNC.out]; exact hm
                    obtain ⟨ba, oa, rfl, c1⟩ := (HC.out.below HBW2.out).at m hml
                    have HST := hide (all_drop n.cs m hml)
                    generalize n.cs.getD m 0 = c at *
                    have HCH := hide (refChild_any W2 c)
                    generalize kidB c = CB at *
                    cases CB with
                    | true =>
                      go_wp2_with (go_at_call 67; refine HCH.out.mono ?_; rintro e w3 ⟨rfl, hw⟩; subst w3; clear HCH)
                      go_roundg (gk - 1)
                      case measure => omega
                      case rel => exact ⟨m + 1, by omega, by go_num, by rw [HA2.out, HST.out]; rfl, HBR2.out⟩
                    | false =>
                      go_wp2_with (go_at_call 67; refine HCH.out.mono ?_; rintro e w3 ⟨rfl, hw⟩; subst w3; clear HCH)
                      go_ret
                      exact ⟨ret_bool (by rw [HR.out, HA2.out, HST.out]; simp), HBW2.out⟩
                  · have HCT : Hid (n.cs.all kidB = true) := by show _ = _; rw [HA2.out, List.drop_of_length_le (by have := HNC.out; omega)]; rfl
                    go_wp2
                    go_ret
                    exact ⟨ret_bool (by rw [HR.out, HE.out, HCT.out]; rfl), HBW2.out⟩
          · have i4 : ((nc : Int) != (nk : Int) + 1) = true := by simp; omega
            go_enter Try.func25, Try.ntmps25
            go_wp2
            go_ret
            exact ⟨ret_bool (by rw [HIB.out]; simp [e4]), HB1.out⟩
        · have i3 : (255 : Int) < (nk : Int) := by omega
          go_enter Try.func25, Try.ntmps25
          go_wp2
          go_ret
          exact ⟨ret_bool (by rw [HIB.out]; simp [e3]), HB1.out⟩
      · have i2 : (nk : Int) < 1 := by omega
        go_enter Try.func25, Try.ntmps25
        go_wp2
        go_ret
        exact ⟨ret_bool (by rw [HIB.out]; simp [e2]), HB1.out⟩
    · have i1 : (0 : Int) < (np : Int) := by omega
      go_enter Try.func25, Try.ntmps25
      go_wp2
      go_ret
      exact ⟨ret_bool (by rw [hM, HIB.out]; simp [HPZ.out, e1]), HB1.out⟩

end Go.Proofs.Ytoamdbjailpgdaa
