/- Contracts: package node's Turn and isPlace, and the document's Turn. -/
import Derived.Test.YtoamdbjailpgdaaNCg
import Derived.Test.YtoamdbjailpgdaaNRefN
import Derived.Test.YtoamdbjailpgdaaNRefM
namespace Go.Proofs.Ytoamdbjailpgdaa
set_option maxRecDepth 20000
open Go.RowKit Go.Shelf
set_option linter.unusedVariables false
set_option linter.unusedSimpArgs false
set_option maxRecDepth 100000
attribute [local go_sem] Oper.semAt_some

def placeB (i : Int) (m : Nat) : Bool := decide (0 ≤ i) && decide (i < (m : Int))
theorem place_nat {i : Int} {m : Nat} (h : placeB i m = true) : ∃ k : Nat, i = (k : Int) ∧ k < m := by
  simp only [placeB, Bool.and_eq_true, decide_eq_true_iff] at h
  exact ⟨i.toNat, by omega, by omega⟩
def kidsN (n : Nd) (i : Int) (kid : Int) : Nd := ⟨n.lf, n.ps, n.ks, n.cs.set i.toNat kid⟩
def turnN (n : Nd) (i kid : Int) : Nd := if innerB n then (if placeB i n.cs.length && kidB kid then kidsN n i kid else noNd) else noNd
def turnE (n : Nd) (i kid : Int) : Int := if innerB n then (if placeB i n.cs.length && kidB kid then 0 else 1) else 100

theorem isPlace_any (w : World) (i : Int) (m : Nat) : Calls Try.prog 76 #[.int .i64 i, .int .i64 (m : Int)] w fun e w' => e = .returned (.bool (placeB i m)) ∧ w' = w := by
  by_cases h1 : 0 ≤ i
  · by_cases h2 : i < (m : Int)
    · go_enter Try.func76, Try.ntmps76
      go_wp2
      go_ret
      exact ⟨ret_bool (by simp [placeB, h1, h2]), rfl⟩
    · go_enter Try.func76, Try.ntmps76
      go_wp2
      go_ret
      exact ⟨ret_bool (by simp [placeB, h1, h2]), rfl⟩
  · go_enter Try.func76, Try.ntmps76
    go_wp2
    go_ret
    exact ⟨ret_bool (by simp [placeB]; omega), rfl⟩

/-- another child in a node of one's own -/
theorem ndn_setKid {W : World} {base : Nat} {l : Bool} {p k : Value} {g nc cap : Nat} {n : Nd} (h : NdN W base (.agg #[.bool l, p, k, .slice (some ⟨g, 0, none⟩) nc cap]) n) (i : Nat) (hi : i < nc) (kid : Int) : NdN (W.setCell ⟨g, i, none⟩ (.int .i64 kid)) base (.agg #[.bool l, p, k, .slice (some ⟨g, 0, none⟩) nc cap]) ⟨n.lf, n.ps, n.ks, n.cs.set i kid⟩ := by
  obtain ⟨vp, vk, vc, xs, ys, sv, he, h1, h2, h3, h4, h5, h6⟩ := h
  simp only [ndv, Value.agg.injEq] at he
  have e1 : p = vp := by simpa using congrArg (fun a => a.getD 1 undef) he
  have e2 : k = vk := by simpa using congrArg (fun a => a.getD 2 undef) he
  have e3 : Value.slice (some ⟨g, 0, none⟩) nc cap = vc := by simpa using congrArg (fun a => a.getD 3 undef) he
  have e0 : l = n.lf := by simpa using congrArg (fun a => a.getD 0 undef) he
  subst e1 e2 e3 e0
  have ho : Only (· = g) W (W.setCell ⟨g, i, none⟩ (.int .i64 kid)) := (Only.refl (· = g) W).setCell ⟨g, i, none⟩ _ (fun _ => rfl)
  rcases h3.form with ⟨e, _⟩ | ⟨g', cap', sp, e, i1, i2, i3, i4, i5⟩
  · simp at e
  · simp only [Value.slice.injEq, Option.some.injEq, Addr.mk.injEq, and_true] at e
    obtain ⟨rfl, e2, rfl⟩ := e
    have hnrow : ∀ {e : TypeId} {size n : Nat} {v : Value} {zs : List Value}, W.ownsRow base e size v n zs → e ≠ 3 → ∀ j, v.ownBlock = some j → ¬ j = g := fun hr hn j hj e => by
      subst e
      exact row_not_blk hr i4 hn hj
    have hx : ∀ u zs, Sl W u zs → Held W base sv u → Sl (W.setCell ⟨g, i, none⟩ (.int .i64 kid)) u zs ∧ Held (W.setCell ⟨g, i, none⟩ (.int .i64 kid)) base sv u := fun u zs a b => by
      have hk : ∀ j, u.ownBlock = some j → ¬ j = g := fun j hj e => by
        obtain ⟨c1, ⟨cs, c2⟩, c3⟩ := b j hj
        subst e
        have := i4.symm.trans c2
        simp at this
      refine ⟨a.only ho hk, fun j hj => ?_⟩
      obtain ⟨c1, ⟨cs, c2⟩, c3⟩ := b j hj
      exact ⟨c1, ⟨cs, c2.only ho (hk j hj)⟩, c3⟩
    refine ⟨p, k, _, xs, ys, sv, rfl, ownsRow_only h1 ho (hnrow h1 (by decide)), ownsRow_only h2 ho (hnrow h2 (by decide)), ?_, h4, fun j hj => ⟨hx _ _ (h5 j hj).1.1 (h5 j hj).1.2, hx _ _ (h5 j hj).2.1 (h5 j hj).2.2⟩, fun j hj => hx _ _ (h6 j hj).1 (h6 j hj).2⟩
    have hs := i4.set i (.int .i64 kid)
    have he2 : (iv n.cs ++ sp).set i (.int .i64 kid) = iv (n.cs.set i kid) ++ sp := by
      rw [List.set_append_left _ _ (by simp [iv]; omega)]
      congr 1
      simp [iv, List.map_set]
    rw [he2] at hs
    have hl : (n.cs.set i kid).length = nc := by rw [List.length_set]; exact e2.symm
    have := Ints.mk (zs := n.cs.set i kid) (cap := cap) hs i1 (by rw [hl, e2]; exact i2) i3 (by rw [hl, e2]; exact i5)
    rw [hl] at this
    exact this
/-- the children's row of a node of one's own -/
theorem ndn_kidsRow {W : World} {base : Nat} {l : Bool} {p k : Value} {a : Option Addr} {nc cap : Nat} {n : Nd} (h : NdN W base (.agg #[.bool l, p, k, .slice a nc cap]) n) (i : Nat) (hi : i < n.cs.length) : ∃ g x, a = some ⟨g, 0, none⟩ ∧ nc = n.cs.length ∧ base ≤ g ∧ W.cell? ⟨g, i, none⟩ = some (.int .i64 x) ∧ W.frozen? ⟨g, i, none⟩ = false ∧ ∃ cs, Blk W g 3 cs := by
  obtain ⟨vp, vk, vc, xs, ys, sv, he, h1, h2, h3, h4, h5, h6⟩ := h
  simp only [ndv, Value.agg.injEq] at he
  have e3 : Value.slice a nc cap = vc := by simpa using congrArg (fun a => a.getD 3 undef) he
  subst e3
  rcases h3.form with ⟨e, e2⟩ | ⟨g', cap', sp, e, i1, i2, i3, i4, i5⟩
  · rw [e2] at hi; simp at hi
  · simp only [Value.slice.injEq] at e
    obtain ⟨rfl, rfl, rfl⟩ := e
    refine ⟨g', n.cs[i], rfl, rfl, i1, ?_, i4.frozen i, ⟨_, i4⟩⟩
    rw [i4.cell i, List.getElem?_append_left (by simp [iv]; exact hi)]
    simp [iv, hi]

set_option maxHeartbeats 2000000 in
theorem turn_any (w : World) (v : Value) (n : Nd) (h : NdV w v n) (i kid : Int) :
    Calls Try.prog 35 #[v, .int .i64 i, .int .i64 kid] w (GivesN w (turnN n i kid) (turnE n i kid)) := by
  have HM : Hid (∀ w1, Below w.heap.size w w1 → Calls Try.prog 68 #[v] w1 fun e w' => e = .returned (.bool (innerB n)) ∧ Below w1.heap.size w1 w') := fun w1 hb => isInner_any w1 v n (h.below hb)
  have HNN : Hid (turnN n i kid = if innerB n then (if placeB i n.cs.length && kidB kid then kidsN n i kid else noNd) else noNd) := rfl
  have HEE : Hid (turnE n i kid = if innerB n then (if placeB i n.cs.length && kidB kid then 0 else 1) else 100) := rfl
  have HCL : Hid (innerB n = true → ∀ w1, Below w.heap.size w w1 → Calls Try.prog 11 #[v] w1 fun e w' => ∃ u, e = .returned u ∧ NdN w' w1.heap.size u n ∧ Below w1.heap.size w1 w') := fun hm w1 hb => ndClone_any w1 v n (h.below hb) (may_few (by rw [mayN, hm, Bool.or_true]))
  have HKN : Hid (kidsN n i kid = ⟨n.lf, n.ps, n.ks, n.cs.set i.toNat kid⟩) := rfl
  have hza : ∀ wx : World, (zeroValue 26).run Try.prog wx = .ok (.agg #[.bool false, .slice none 0 0, .slice none 0 0, .slice none 0 0]) wx := fun wx => by kernel_rfl
  have HIN : Hid (innerB n = true → 1 ≤ n.ks.length ∧ n.ks.length ≤ 255 ∧ n.cs.length = n.ks.length + 1) := fun h => by have := innerB_ps h; omega
  have HLN : Hid (leafB n = true → n.ps.length ≤ 255) := fun h => (leafB_ps h).1
  have HLF : Hid (innerB n = true → n.lf = false) := innerB_lf
  have HLL : Hid (leafB n = true → n.lf = true) := leafB_lf
  have HMI : Hid (n.lf = false → mayN n = innerB n) := mayN_in
  have HML : Hid (n.lf = true → mayN n = leafB n) := mayN_lf
  have HMO : Hid (mayN n = (leafB n || innerB n)) := rfl
  obtain ⟨pa, pc, ka, kc, ca, cc, xs, ys, rfl, hp1, hk1, hc1, hp2, hk2, hc2, hP, hK, hC⟩ := h.open
  have HP := hide hP
  have HK := hide hK
  have HC := hide hC
  unfold ndv at HM HCL ⊢
  obtain ⟨lf, hlf⟩ : ∃ b, n.lf = b := ⟨_, rfl⟩
  obtain ⟨np, hnp⟩ : ∃ m, n.ps.length = m := ⟨_, rfl⟩
  obtain ⟨nk, hnk⟩ : ∃ m, n.ks.length = m := ⟨_, rfl⟩
  obtain ⟨nc, hnc⟩ : ∃ m, n.cs.length = m := ⟨_, rfl⟩
  have HNP := hide hnp
  have HNK := hide hnk
  have HNC := hide hnc
  have HF0 := hide hlf
  rw [hnp, hnk, hnc, hlf] at HM HCL
  rw [hnp] at HLN HP hp1
  rw [hnk, hnc] at HIN
  rw [hnk] at HK hk1
  rw [hnc] at HC hc1
  rw [hlf] at HLF HLL HMI HML
  rw [hnp, hnk, hnc, hlf]
  obtain ⟨w1, hw1, hcg⟩ := cg_new w (.bool lf) (.slice pa np pc) (.slice ka nk kc) (.slice ca nc cc)
  have HG1 := hide hcg
  obtain ⟨⟨z0, z1, z2, z3⟩, _⟩ := node_cells hcg.2.1
  clear h hP hK hC hcg hnp hnk hnc hlf
  cases hib : innerB n with
  | false =>
    rw [hib] at HNN HEE HM
    simp only [Bool.false_eq_true, if_false] at HNN HEE
    rw [HNN.out, HEE.out]
    clear HNN HEE
    go_enter Try.func35, Try.ntmps35
    go_wp2_with (first
      | (go_at_call 68; refine (HM.out w1 HG1.out.1).mono ?_; rintro e w2 ⟨rfl, hb2⟩; have HG2 := hide (HG1.out.grow hb2); (try clear z0 z1 z2 z3); (try clear d0 d1 d2 d3 k0 k1 k2 k3); obtain ⟨⟨z0, z1, z2, z3⟩, _⟩ := node_cells HG2.out.2.1; obtain ⟨⟨d0, d1, d2, d3⟩, k0, k1, k2, k3⟩ := node_cells HG2.out.2.2; clear HM hb2))
    (try simp only [Exit.inBlock, Exit.then])
    refine bodyPost_ret (ret_node1 rfl _ _ (w.heap.size + 1) _ _ _ _ _ rfl rfl (laidN_blk HG2.out.2.2 _ _ _ _)) rfl ?_
    exact cg_no HG2.out _ _ _ _ _ rfl
  | true =>
    have hlf : lf = false := HLF.out hib
    rw [hib] at HNN HEE HM
    simp only [if_true] at HNN HEE
    subst hlf
    have HCL1 := hide (HCL.out hib)
    rw [HNC.out] at HNN HEE
    clear HCL
    cases hPB : placeB i nc with
    | true =>
      obtain ⟨K, rfl, hKm⟩ := place_nat hPB
      have hKi : (K : Int) < (nc : Int) := by omega
      cases hKB : kidB kid with
      | true =>
        rw [hPB, hKB] at HNN HEE
        simp only [Bool.and_self, if_true] at HNN HEE
        rw [HNN.out, HEE.out]
        clear HNN HEE
        go_enter Try.func35, Try.ntmps35
        go_wp2_with (first
          | (go_at_call 68; refine (HM.out w1 HG1.out.1).mono ?_; rintro e w2 ⟨rfl, hb2⟩; have HG2 := hide (HG1.out.grow hb2); (try clear z0 z1 z2 z3); (try clear d0 d1 d2 d3 k0 k1 k2 k3); obtain ⟨⟨z0, z1, z2, z3⟩, _⟩ := node_cells HG2.out.2.1; obtain ⟨⟨d0, d1, d2, d3⟩, k0, k1, k2, k3⟩ := node_cells HG2.out.2.2; clear HM hb2)
          | (go_at_call 76; refine (isPlace_any w2 _ _).mono ?_; rintro e w3 ⟨rfl, hw⟩; subst w3; rw [hPB])
          | (go_at_call 77; refine (isChild_any w2 _).mono ?_; rintro e w3 ⟨rfl, hw⟩; subst w3; rw [hKB])
          | (go_at_call 11; refine (HCL1.out w2 HG2.out.1).mono ?_; rintro e w4 ⟨u4, rfl, hn4, hb4⟩; obtain ⟨p4, np4, pc4, k4, nk4, kc4, q4, nq4, qc4, rfl⟩ := hn4.form; obtain ⟨g4, x4, rfl, hq4, hg4, cc4, ff4, ct4, hct4⟩ := ndn_kidsRow hn4 K (by rw [HNC.out]; exact hKm); rw [HNC.out] at hq4; subst nq4; have HG4 := hide (HG2.out.grow hb4); obtain ⟨w5, hw5, HB5, HC5, s0, s1, s2, s3⟩ := nd_box w4 n.lf (.slice p4 np4 pc4) (.slice k4 nk4 kc4) (.slice (some ⟨g4, 0, none⟩) nc qc4); have HG5 := hide (HG4.out.grow HB5.out); have HN5 := hide (hn4.below HB5.out); have HT5 := hide (hct4.below HB5.out hct4.lt); have cg5 : w5.cell? ⟨g4, K, none⟩ = some (.int .i64 x4) := (HB5.out.cell (p := ⟨g4, K, none⟩) (World.block_lt_of_cell? w4 _ cc4)).trans cc4; have fg5 : w5.frozen? ⟨g4, K, none⟩ = false := HT5.out.frozen K; obtain ⟨w6, hw6⟩ : ∃ x, w5.setCell ⟨g4, K, none⟩ (.int .i64 kid) = x := ⟨_, rfl⟩; have ho6 : Only (· = g4) w5 w6 := (by rw [← hw6]; exact (Only.refl (· = g4) w5).setCell ⟨g4, K, none⟩ _ (fun _ => rfl)); have hg5 := HT5.out.lt; have hz2 := HG2.out.2.2.lt; have hz4 := hb4.size; have HN6 : Hid (NdN w6 w2.heap.size (.agg #[.bool n.lf, .slice p4 np4 pc4, .slice k4 nk4 kc4, .slice (some ⟨g4, 0, none⟩) nc qc4]) ⟨n.lf, n.ps, n.ks, n.cs.set K kid⟩) := (by rw [← hw6]; exact ndn_setKid HN5.out K hKm kid); have hC6 := HC5.out.only ho6 (fun e => by have := HC5.out.ne HT5.out (by decide); omega); have HG6 : Hid (CgB w [.bool false, .slice pa np pc, .slice ka nk kc, .slice ca nc cc] zeroC w6) := ⟨HG5.out.1.trans (ho6.below HG5.out.1.size (fun j hj e => by omega)), HG5.out.2.1.only ho6 (by omega), HG5.out.2.2.only ho6 (by omega)⟩; clear s0 s1 s2 s3; obtain ⟨s0, s1, s2, s3⟩ := box_ndc HC5.out; obtain ⟨r0, r1, r2, r3⟩ := box_ndc hC6; (try clear z0 z1 z2 z3); (try clear d0 d1 d2 d3 k0 k1 k2 k3); obtain ⟨⟨z0, z1, z2, z3⟩, _⟩ := node_cells HG6.out.2.1; obtain ⟨⟨d0, d1, d2, d3⟩, k0, k1, k2, k3⟩ := node_cells HG6.out.2.2; clear HCL1 hb4 hn4 cc4 ff4 hct4 hC6))
        (try simp only [Exit.inBlock, Exit.then])
        refine bodyPost_ret (ret_node1 rfl _ _ (w.heap.size + 1) _ _ _ _ _ rfl rfl (laidN_blk HG6.out.2.2 _ _ _ _)) rfl ?_
        rw [HKN.out, Int.toNat_natCast]
        exact cg_yes HG6.out _ (HN6.out.le (by omega))
      | false =>
        rw [hPB, hKB] at HNN HEE
        simp only [Bool.and_false, Bool.false_eq_true, if_false] at HNN HEE
        rw [HNN.out, HEE.out]
        clear HNN HEE
        go_enter Try.func35, Try.ntmps35
        go_wp2_with (first
          | (go_at_call 68; refine (HM.out w1 HG1.out.1).mono ?_; rintro e w2 ⟨rfl, hb2⟩; have HG2 := hide (HG1.out.grow hb2); (try clear z0 z1 z2 z3); (try clear d0 d1 d2 d3 k0 k1 k2 k3); obtain ⟨⟨z0, z1, z2, z3⟩, _⟩ := node_cells HG2.out.2.1; obtain ⟨⟨d0, d1, d2, d3⟩, k0, k1, k2, k3⟩ := node_cells HG2.out.2.2; clear HM hb2)
          | (go_at_call 76; refine (isPlace_any w2 _ _).mono ?_; rintro e w3 ⟨rfl, hw⟩; subst w3; rw [hPB])
          | (go_at_call 77; refine (isChild_any w2 _).mono ?_; rintro e w3 ⟨rfl, hw⟩; subst w3; rw [hKB]))
        (try simp only [Exit.inBlock, Exit.then])
        refine bodyPost_ret (ret_node1 rfl _ _ (w.heap.size + 1) _ _ _ _ _ rfl rfl (laidN_blk HG2.out.2.2 _ _ _ _)) rfl ?_
        exact cg_no HG2.out _ _ _ _ _ rfl
    | false =>
      rw [hPB] at HNN HEE
      simp only [Bool.false_and, Bool.false_eq_true, if_false] at HNN HEE
      rw [HNN.out, HEE.out]
      clear HNN HEE
      go_enter Try.func35, Try.ntmps35
      go_wp2_with (first
        | (go_at_call 68; refine (HM.out w1 HG1.out.1).mono ?_; rintro e w2 ⟨rfl, hb2⟩; have HG2 := hide (HG1.out.grow hb2); (try clear z0 z1 z2 z3); (try clear d0 d1 d2 d3 k0 k1 k2 k3); obtain ⟨⟨z0, z1, z2, z3⟩, _⟩ := node_cells HG2.out.2.1; obtain ⟨⟨d0, d1, d2, d3⟩, k0, k1, k2, k3⟩ := node_cells HG2.out.2.2; clear HM hb2)
        | (go_at_call 76; refine (isPlace_any w2 _ _).mono ?_; rintro e w3 ⟨rfl, hw⟩; subst w3; rw [hPB]))
      (try simp only [Exit.inBlock, Exit.then])
      refine bodyPost_ret (ret_node1 rfl _ _ (w.heap.size + 1) _ _ _ _ _ rfl rfl (laidN_blk HG2.out.2.2 _ _ _ _)) rfl ?_
      exact cg_no HG2.out _ _ _ _ _ rfl

set_option maxHeartbeats 2000000 in
theorem refTurn_any (w : World) (v : Value) (n : Nd) (h : NdV w v n) (i kid : Int) (hq : n.ks.length + n.cs.length ≤ 9223372036854775807) :
    Calls Try.prog 36 #[v, .int .i64 i, .int .i64 kid] w (GivesN w (turnN n i kid) (turnE n i kid)) := by
  have HM : Hid (∀ w1, Below w.heap.size w w1 → Calls Try.prog 25 #[v] w1 fun e w' => e = .returned (.bool (mayN n)) ∧ Below w1.heap.size w1 w') := fun w1 hb => refMay_any w1 v n (h.below hb) hq
  have HNN : Hid (turnN n i kid = if innerB n then (if placeB i n.cs.length && kidB kid then kidsN n i kid else noNd) else noNd) := rfl
  have HEE : Hid (turnE n i kid = if innerB n then (if placeB i n.cs.length && kidB kid then 0 else 1) else 100) := rfl
  have HCL : Hid (innerB n = true → ∀ w1, Below w.heap.size w w1 → Calls Try.prog 10 #[v] w1 fun e w' => ∃ u, e = .returned u ∧ NdN w' w1.heap.size u n ∧ Below w1.heap.size w1 w') := fun hm w1 hb => refClone_any w1 v n (h.below hb) (may_few (by rw [mayN, hm, Bool.or_true]))
  have HKN : Hid (kidsN n i kid = ⟨n.lf, n.ps, n.ks, n.cs.set i.toNat kid⟩) := rfl
  have hza : ∀ wx : World, (zeroValue 26).run Try.prog wx = .ok (.agg #[.bool false, .slice none 0 0, .slice none 0 0, .slice none 0 0]) wx := fun wx => by kernel_rfl
  have HIN : Hid (innerB n = true → 1 ≤ n.ks.length ∧ n.ks.length ≤ 255 ∧ n.cs.length = n.ks.length + 1) := fun h => by have := innerB_ps h; omega
  have HLN : Hid (leafB n = true → n.ps.length ≤ 255) := fun h => (leafB_ps h).1
  have HLF : Hid (innerB n = true → n.lf = false) := innerB_lf
  have HLL : Hid (leafB n = true → n.lf = true) := leafB_lf
  have HMI : Hid (n.lf = false → mayN n = innerB n) := mayN_in
  have HML : Hid (n.lf = true → mayN n = leafB n) := mayN_lf
  have HMO : Hid (mayN n = (leafB n || innerB n)) := rfl
  obtain ⟨pa, pc, ka, kc, ca, cc, xs, ys, rfl, hp1, hk1, hc1, hp2, hk2, hc2, hP, hK, hC⟩ := h.open
  have HP := hide hP
  have HK := hide hK
  have HC := hide hC
  unfold ndv at HM HCL ⊢
  obtain ⟨lf, hlf⟩ : ∃ b, n.lf = b := ⟨_, rfl⟩
  obtain ⟨np, hnp⟩ : ∃ m, n.ps.length = m := ⟨_, rfl⟩
  obtain ⟨nk, hnk⟩ : ∃ m, n.ks.length = m := ⟨_, rfl⟩
  obtain ⟨nc, hnc⟩ : ∃ m, n.cs.length = m := ⟨_, rfl⟩
  have HNP := hide hnp
  have HNK := hide hnk
  have HNC := hide hnc
  have HF0 := hide hlf
  rw [hnp, hnk, hnc, hlf] at HM HCL
  rw [hnp] at HLN HP hp1
  rw [hnk, hnc] at HIN
  rw [hnk] at HK hk1
  rw [hnc] at HC hc1
  rw [hlf] at HLF HLL HMI HML
  rw [hnp, hnk, hnc, hlf]
  obtain ⟨w1, hw1, hcg⟩ := cg_new w (.bool lf) (.slice pa np pc) (.slice ka nk kc) (.slice ca nc cc)
  have HG1 := hide hcg
  obtain ⟨⟨z0, z1, z2, z3⟩, _⟩ := node_cells hcg.2.1
  clear h hP hK hC hcg hnp hnk hnc hlf
  cases hm : mayN n with
  | false =>
    have hib : innerB n = false := by
      have := HMO.out
      rw [hm] at this
      revert this
      cases leafB n <;> cases innerB n <;> simp
    rw [hib] at HNN HEE
    rw [hm] at HM
    simp only [Bool.false_eq_true, if_false] at HNN HEE
    rw [HNN.out, HEE.out]
    clear HNN HEE
    go_enter Try.func36, Try.ntmps36
    go_wp2_with (first
      | (go_at_call 25; refine (HM.out w1 HG1.out.1).mono ?_; rintro e w2 ⟨rfl, hb2⟩; have HG2 := hide (HG1.out.grow hb2); (try clear z0 z1 z2 z3); (try clear d0 d1 d2 d3 k0 k1 k2 k3); obtain ⟨⟨z0, z1, z2, z3⟩, _⟩ := node_cells HG2.out.2.1; obtain ⟨⟨d0, d1, d2, d3⟩, k0, k1, k2, k3⟩ := node_cells HG2.out.2.2; clear HM hb2))
    (try simp only [Exit.inBlock, Exit.then])
    refine bodyPost_ret (ret_node1 rfl _ _ (w.heap.size + 1) _ _ _ _ _ rfl rfl (laidN_blk HG2.out.2.2 _ _ _ _)) rfl ?_
    exact cg_no HG2.out _ _ _ _ _ rfl
  | true =>
    cases lf with
    | true =>
      have hib : innerB n = false := by
        cases hq9 : innerB n with
        | false => rfl
        | true => have := HLF.out hq9; cases this
      rw [hib] at HNN HEE
      rw [hm] at HM
      simp only [Bool.false_eq_true, if_false] at HNN HEE
      rw [HNN.out, HEE.out]
      clear HNN HEE
      go_enter Try.func36, Try.ntmps36
      go_wp2_with (first
        | (go_at_call 25; refine (HM.out w1 HG1.out.1).mono ?_; rintro e w2 ⟨rfl, hb2⟩; have HG2 := hide (HG1.out.grow hb2); (try clear z0 z1 z2 z3); (try clear d0 d1 d2 d3 k0 k1 k2 k3); obtain ⟨⟨z0, z1, z2, z3⟩, _⟩ := node_cells HG2.out.2.1; obtain ⟨⟨d0, d1, d2, d3⟩, k0, k1, k2, k3⟩ := node_cells HG2.out.2.2; clear HM hb2))
      (try simp only [Exit.inBlock, Exit.then])
      refine bodyPost_ret (ret_node1 rfl _ _ (w.heap.size + 1) _ _ _ _ _ rfl rfl (laidN_blk HG2.out.2.2 _ _ _ _)) rfl ?_
      exact cg_no HG2.out _ _ _ _ _ rfl
    | false =>
      have hib : innerB n = true := by rw [← HMI.out rfl]; exact hm
      rw [hib] at HNN HEE
      rw [hm] at HM
      simp only [if_true] at HNN HEE
      have HCL1 := hide (HCL.out hib)
      rw [HNC.out] at HNN HEE
      clear HCL
      cases hPB : placeB i nc with
      | true =>
        obtain ⟨K, rfl, hKm⟩ := place_nat hPB
        have hKi : (K : Int) < (nc : Int) := by omega
        cases hKB : kidB kid with
        | true =>
          rw [hPB, hKB] at HNN HEE
          simp only [Bool.and_self, if_true] at HNN HEE
          rw [HNN.out, HEE.out]
          clear HNN HEE
          go_enter Try.func36, Try.ntmps36
          go_wp2_with (first
            | (go_at_call 25; refine (HM.out w1 HG1.out.1).mono ?_; rintro e w2 ⟨rfl, hb2⟩; have HG2 := hide (HG1.out.grow hb2); (try clear z0 z1 z2 z3); (try clear d0 d1 d2 d3 k0 k1 k2 k3); obtain ⟨⟨z0, z1, z2, z3⟩, _⟩ := node_cells HG2.out.2.1; obtain ⟨⟨d0, d1, d2, d3⟩, k0, k1, k2, k3⟩ := node_cells HG2.out.2.2; clear HM hb2)
            | (go_at_call 67; refine (refChild_any w2 _).mono ?_; rintro e w3 ⟨rfl, hw⟩; subst w3; rw [hKB])
            | (go_at_call 10; refine (HCL1.out w2 HG2.out.1).mono ?_; rintro e w4 ⟨u4, rfl, hn4, hb4⟩; obtain ⟨p4, np4, pc4, k4, nk4, kc4, q4, nq4, qc4, rfl⟩ := hn4.form; obtain ⟨g4, x4, rfl, hq4, hg4, cc4, ff4, ct4, hct4⟩ := ndn_kidsRow hn4 K (by rw [HNC.out]; exact hKm); rw [HNC.out] at hq4; subst nq4; have HG4 := hide (HG2.out.grow hb4); obtain ⟨w5, hw5, HB5, HC5, s0, s1, s2, s3⟩ := nd_box w4 n.lf (.slice p4 np4 pc4) (.slice k4 nk4 kc4) (.slice (some ⟨g4, 0, none⟩) nc qc4); have HG5 := hide (HG4.out.grow HB5.out); have HN5 := hide (hn4.below HB5.out); have HT5 := hide (hct4.below HB5.out hct4.lt); have cg5 : w5.cell? ⟨g4, K, none⟩ = some (.int .i64 x4) := (HB5.out.cell (p := ⟨g4, K, none⟩) (World.block_lt_of_cell? w4 _ cc4)).trans cc4; have fg5 : w5.frozen? ⟨g4, K, none⟩ = false := HT5.out.frozen K; obtain ⟨w6, hw6⟩ : ∃ x, w5.setCell ⟨g4, K, none⟩ (.int .i64 kid) = x := ⟨_, rfl⟩; have ho6 : Only (· = g4) w5 w6 := (by rw [← hw6]; exact (Only.refl (· = g4) w5).setCell ⟨g4, K, none⟩ _ (fun _ => rfl)); have hg5 := HT5.out.lt; have hz2 := HG2.out.2.2.lt; have hz4 := hb4.size; have HN6 : Hid (NdN w6 w2.heap.size (.agg #[.bool n.lf, .slice p4 np4 pc4, .slice k4 nk4 kc4, .slice (some ⟨g4, 0, none⟩) nc qc4]) ⟨n.lf, n.ps, n.ks, n.cs.set K kid⟩) := (by rw [← hw6]; exact ndn_setKid HN5.out K hKm kid); have hC6 := HC5.out.only ho6 (fun e => by have := HC5.out.ne HT5.out (by decide); omega); have HG6 : Hid (CgB w [.bool false, .slice pa np pc, .slice ka nk kc, .slice ca nc cc] zeroC w6) := ⟨HG5.out.1.trans (ho6.below HG5.out.1.size (fun j hj e => by omega)), HG5.out.2.1.only ho6 (by omega), HG5.out.2.2.only ho6 (by omega)⟩; clear s0 s1 s2 s3; obtain ⟨s0, s1, s2, s3⟩ := box_ndc HC5.out; obtain ⟨r0, r1, r2, r3⟩ := box_ndc hC6; (try clear z0 z1 z2 z3); (try clear d0 d1 d2 d3 k0 k1 k2 k3); obtain ⟨⟨z0, z1, z2, z3⟩, _⟩ := node_cells HG6.out.2.1; obtain ⟨⟨d0, d1, d2, d3⟩, k0, k1, k2, k3⟩ := node_cells HG6.out.2.2; clear HCL1 hb4 hn4 cc4 ff4 hct4 hC6))
          (try simp only [Exit.inBlock, Exit.then])
          refine bodyPost_ret (ret_node1 rfl _ _ (w.heap.size + 1) _ _ _ _ _ rfl rfl (laidN_blk HG6.out.2.2 _ _ _ _)) rfl ?_
          rw [HKN.out, Int.toNat_natCast]
          exact cg_yes HG6.out _ (HN6.out.le (by omega))
        | false =>
          rw [hPB, hKB] at HNN HEE
          simp only [Bool.and_false, Bool.false_eq_true, if_false] at HNN HEE
          rw [HNN.out, HEE.out]
          clear HNN HEE
          go_enter Try.func36, Try.ntmps36
          go_wp2_with (first
            | (go_at_call 25; refine (HM.out w1 HG1.out.1).mono ?_; rintro e w2 ⟨rfl, hb2⟩; have HG2 := hide (HG1.out.grow hb2); (try clear z0 z1 z2 z3); (try clear d0 d1 d2 d3 k0 k1 k2 k3); obtain ⟨⟨z0, z1, z2, z3⟩, _⟩ := node_cells HG2.out.2.1; obtain ⟨⟨d0, d1, d2, d3⟩, k0, k1, k2, k3⟩ := node_cells HG2.out.2.2; clear HM hb2)
            | (go_at_call 67; refine (refChild_any w2 _).mono ?_; rintro e w3 ⟨rfl, hw⟩; subst w3; rw [hKB]))
          (try simp only [Exit.inBlock, Exit.then])
          refine bodyPost_ret (ret_node1 rfl _ _ (w.heap.size + 1) _ _ _ _ _ rfl rfl (laidN_blk HG2.out.2.2 _ _ _ _)) rfl ?_
          exact cg_no HG2.out _ _ _ _ _ rfl
      | false =>
        rw [hPB] at HNN HEE
        simp only [Bool.false_and, Bool.false_eq_true, if_false] at HNN HEE
        rw [HNN.out, HEE.out]
        clear HNN HEE
        by_cases hi0 : i < 0
        · have hi0' := hi0
          go_enter Try.func36, Try.ntmps36
          go_wp2_with (first
            | (go_at_call 25; refine (HM.out w1 HG1.out.1).mono ?_; rintro e w2 ⟨rfl, hb2⟩; have HG2 := hide (HG1.out.grow hb2); (try clear z0 z1 z2 z3); (try clear d0 d1 d2 d3 k0 k1 k2 k3); obtain ⟨⟨z0, z1, z2, z3⟩, _⟩ := node_cells HG2.out.2.1; obtain ⟨⟨d0, d1, d2, d3⟩, k0, k1, k2, k3⟩ := node_cells HG2.out.2.2; clear HM hb2))
          (try simp only [Exit.inBlock, Exit.then])
          refine bodyPost_ret (ret_node1 rfl _ _ (w.heap.size + 1) _ _ _ _ _ rfl rfl (laidN_blk HG2.out.2.2 _ _ _ _)) rfl ?_
          exact cg_no HG2.out _ _ _ _ _ rfl
        · have hi1 : (nc : Int) ≤ i := by
            simp only [placeB, Bool.and_eq_false_iff, decide_eq_false_iff_not] at hPB
            omega
          have hi2 : ¬ i < (nc : Int) := by omega
          go_enter Try.func36, Try.ntmps36
          go_wp2_with (first
            | (go_at_call 25; refine (HM.out w1 HG1.out.1).mono ?_; rintro e w2 ⟨rfl, hb2⟩; have HG2 := hide (HG1.out.grow hb2); (try clear z0 z1 z2 z3); (try clear d0 d1 d2 d3 k0 k1 k2 k3); obtain ⟨⟨z0, z1, z2, z3⟩, _⟩ := node_cells HG2.out.2.1; obtain ⟨⟨d0, d1, d2, d3⟩, k0, k1, k2, k3⟩ := node_cells HG2.out.2.2; clear HM hb2))
          (try simp only [Exit.inBlock, Exit.then])
          refine bodyPost_ret (ret_node1 rfl _ _ (w.heap.size + 1) _ _ _ _ _ rfl rfl (laidN_blk HG2.out.2.2 _ _ _ _)) rfl ?_
          exact cg_no HG2.out _ _ _ _ _ rfl

end Go.Proofs.Ytoamdbjailpgdaa
