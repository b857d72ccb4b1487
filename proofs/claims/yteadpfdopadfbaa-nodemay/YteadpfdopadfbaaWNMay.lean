/- NodeMay, walked. -/
import Derived.Test.YteadpfdopadfbaaNSpoil
import Derived.Test.YteadpfdopadfbaaNLive
import Derived.Test.YteadpfdopadfbaaNFew
namespace Go.Proofs.Yteadpfdopadfbaa
set_option maxRecDepth 20000
open Go.RowKit Go.Shelf
set_option linter.unusedVariables false
set_option linter.unusedSimpArgs false
set_option maxRecDepth 100000
attribute [local go_sem] Oper.semAt_some

/-- a literal with two nodes -/
theorem nds_two {w : World} {v1 v2 : Value} {a b : Nd} (h1 : NdV w v1 a) (h2 : NdV w v2 b) {lf lf' : Bool} {p k c p' k' c' : Value} (e1 : v1 = .agg #[.bool lf, p, k, c]) (e2 : v2 = .agg #[.bool lf', p', k', c']) : Nds (w.alloc (.cells #[.bool lf, p, k, c, .bool lf', p', k', c'] 26)) w.heap.size [v1, v2] [a, b] := by
  have hB := Blk.new w 26 [.bool lf, p, k, c, .bool lf', p', k', c']
  refine ⟨rfl, fun i hi => ?_⟩
  have hi2 : i < 2 := by simpa using hi
  subst e1 e2
  match i, hi2 with
  | 0, _ => exact ⟨h1.alloc _, hB.range 0 [.bool lf, p, k, c] (fun j hj => by rcases j with _ | _ | _ | _ | j <;> first | rfl | (simp at hj; omega))⟩
  | 1, _ => exact ⟨h2.alloc _, hB.range 4 [.bool lf', p', k', c'] (fun j hj => by rcases j with _ | _ | _ | _ | j <;> first | rfl | (simp at hj; omega))⟩

/-- a copy, in a box -/
theorem sp_of {W0 W : World} {vp vk vc : Value} {lf : Bool} {n : Nd} (h : NdN W W0.heap.size (ndv lf vp vk vc) n) (hb : Below W0.heap.size W0 W) : ∃ xs ys, Sp W0 W.heap.size lf vp vk vc n.ps.length n.ks.length n.cs.length xs ys lenV (W.alloc (.cells #[.bool lf, vp, vk, vc] 26)) := by
  obtain ⟨vp', vk', vc', xs, ys, sv, he, h1, h2, h3, h4, h5, h6⟩ := h
  simp only [ndv, Value.agg.injEq, Array.mk.injEq, List.cons.injEq, Value.bool.injEq, and_true] at he
  obtain ⟨rfl, rfl, rfl, rfl⟩ := he
  have hA : Below W.heap.size W (W.alloc (.cells #[.bool n.lf, vp, vk, vc] 26)) := (Below.refl _ W).alloc (Nat.le_refl _) _
  have ho := Only.of_below (fun _ => False) hA
  have htx : ∀ x zs, Sl W x zs → Held W W0.heap.size sv x → Tx (W.alloc (.cells #[.bool n.lf, vp, vk, vc] 26)) W0.heap.size x (lenV x) := fun x zs hs hh => by
    refine ⟨zs, ?_, hs.below hA, fun b e => ⟨(hh b e).1, ?_⟩⟩
    · obtain ⟨a, c, rfl⟩ := sl_form' hs
      rfl
    · obtain ⟨_, ⟨cs, hB⟩, _⟩ := hh b e
      exact ⟨cs, hB.only ho (fun h => h)⟩
  exact ⟨xs, ys, Blk.new W _ [.bool n.lf, vp, vk, vc], ownsRow_only h1 ho (fun _ _ h => h), h4, ownsRow_only h2 ho (fun _ _ h => h), ⟨n.cs, rfl, h3.below hA⟩, fun i hi => ⟨htx _ _ (h5 i hi).1.1 (h5 i hi).1.2, htx _ _ (h5 i hi).2.1 (h5 i hi).2.2⟩, fun i hi => htx _ _ (h6 i hi).1 (h6 i hi).2, hb.trans (hA.mono hb.size)⟩

theorem Tx.le {W : World} {base n cap m : Nat} {ao : Option Addr} (h : Tx W base (.slice ao n cap) m) : n ≤ 9223372036854775807 := by
  obtain ⟨zs, hl, ⟨hok, ao', cap', he, h1, h2, h3, h4⟩, hb⟩ := h
  simp only [Value.slice.injEq] at he
  unfold maxLen at h2
  omega

set_option maxHeartbeats 16000000 in
theorem nodeMay_walk (w : World) (v1 : Value) (a : Nd) (v2 : Value) (b : Nd) (h1 : NdV w v1 a) (h2 : NdV w v2 b) :
    Calls Try.prog 3 #[v1, v2] w fun e w' => e = .returned (.bool true) ∧ Below w.heap.size w w' := by
  have HLV := hide live_any
  have HFW : Hid (∀ w1, Below w.heap.size w w1 → ∀ lf p k c lf' p' k' c', v1 = .agg #[.bool lf, p, k, c] → v2 = .agg #[.bool lf', p', k', c'] → Calls Try.prog 9 #[.slice (some ⟨w1.heap.size, 0, none⟩) 2 2] (w1.alloc (.cells #[.bool lf, p, k, c, .bool lf', p', k', c'] 26)) fun e w' => e = .returned (.bool (fewN [a, b])) ∧ Below w1.heap.size w1 w') := fun w1 hb lf p k c lf' p' k' c' e1 e2 =>
    (few_any _ _ 2 [v1, v2] [a, b] (nds_two (h1.below hb) (h2.below hb) e1 e2) (by simp)).mono fun e w' ⟨h1, h2⟩ => ⟨h1, after_alloc h2⟩
  have HFE : Hid (fewN [a, b] = true → few1 a = true ∧ a.ks.length + a.cs.length ≤ 9223372036854775807) := fun hh => by
    simp only [fewN, List.all_cons, List.all_nil, Bool.and_true, Bool.and_eq_true] at hh
    refine ⟨hh.1, ?_⟩
    have h1 := hh.1
    simp only [few1, Bool.and_eq_true, decide_eq_true_iff] at h1
    omega
  have HV1 := hide h1
  have HV2 := hide h2
  obtain ⟨lf, pa, np, pc, ka, nk, kc, ca, nc, cc, rfl, -⟩ := nd_open h1
  obtain ⟨lf', pa', np', pc', ka', nk', kc', ca', nc', cc', rfl, -⟩ := nd_open h2
  clear h1 h2
  obtain ⟨w1, hw1⟩ : ∃ w1, (w.alloc (.cells #[.bool lf, .slice pa np pc, .slice ka nk kc, .slice ca nc cc] 26)).alloc (.cells #[.bool lf', .slice pa' np' pc', .slice ka' nk' kc', .slice ca' nc' cc'] 26) = w1 := ⟨_, rfl⟩
  have hb1 : Below w.heap.size w w1 := by rw [← hw1]; exact ((Below.refl _ w).alloc (Nat.le_refl _) _).alloc (by simp) _
  have hA : Blk w1 w.heap.size 26 (ndc lf (.slice pa np pc) (.slice ka nk kc) (.slice ca nc cc)) := by rw [← hw1]; exact (Blk.new w _ _).alloc _
  have hB : Blk w1 (w.heap.size + 1) 26 (ndc lf' (.slice pa' np' pc') (.slice ka' nk' kc') (.slice ca' nc' cc')) := by
    rw [← hw1]
    have := Blk.new (w.alloc (.cells #[.bool lf, .slice pa np pc, .slice ka nk kc, .slice ca nc cc] 26)) 26 [.bool lf', .slice pa' np' pc', .slice ka' nk' kc', .slice ca' nc' cc']
    rw [World.size_alloc] at this
    exact this
  have HB1 := hide hb1
  have HA := hide hA
  have HBB := hide hB
  clear hb1 hA hB
  cases hfew : fewN [a, b] with
  | false =>
    rw [hfew] at HFW
    clear HFE
    go_enter Try.func3, Try.ntmps3
    go_wp2_with (first
      | (go_at_call 9; refine (HFW.out w2 HB2.out _ _ _ _ _ _ _ _ rfl rfl).mono ?_; rintro e w3 ⟨rfl, hb3⟩; have HB3 := hide (HB2.out.trans (hb3.mono HB2.out.size)); clear HFW hb3)
      | (go_at_call 8; refine (HLV.out w1).mono ?_; rintro e w2 ⟨rfl, hb2⟩; have HB2 := hide (HB1.out.trans (hb2.mono HB1.out.size)); obtain ⟨y0, y1, y2, y3⟩ := box_ndc (HA.out.below hb2 HA.out.lt); obtain ⟨t0, t1, t2, t3⟩ := box_ndc (HBB.out.below hb2 HBB.out.lt); clear hb2)
      | (go_at_call 8; refine (HLV.out w3).mono ?_; rintro e w4 ⟨rfl, hb4⟩; have HB4 := hide (HB3.out.trans (hb4.mono HB3.out.size)); clear HLV hb4))
    go_ret
    exact ⟨rfl, HB4.out⟩
  | true =>
    rw [hfew] at HFW
    obtain ⟨hf1, hq1⟩ := HFE.out hfew
    have HF1 := hide hf1
    have HQ1 := hide hq1
    clear HFE hf1 hq1
    have HRC : Hid (∀ w1, Below w.heap.size w w1 → Calls Try.prog 10 #[.agg #[.bool lf, .slice pa np pc, .slice ka nk kc, .slice ca nc cc]] w1 fun e w' => ∃ l' p' n' c' p2 n2 c2 p3 n3 c3, e = .returned (.agg #[.bool l', .slice p' n' c', .slice p2 n2 c2, .slice p3 n3 c3]) ∧ NdV w' (.agg #[.bool l', .slice p' n' c', .slice p2 n2 c2, .slice p3 n3 c3]) a ∧ Below w1.heap.size w1 w') := fun w1 hb => by
      refine (refClone_any w1 _ a (HV1.out.below hb) HF1.out).mono ?_
      rintro e w' ⟨u, rfl, hu, hb'⟩
      obtain ⟨l', p', n', c', p2, n2, c2, p3, n3, c3, rfl, -⟩ := nd_open hu.val
      exact ⟨_, _, _, _, _, _, _, _, _, _, rfl, hu.val, hb'⟩
    have HNC : Hid (∀ w1, Below w.heap.size w w1 → Calls Try.prog 11 #[.agg #[.bool lf, .slice pa np pc, .slice ka nk kc, .slice ca nc cc]] w1 fun e w' => ∃ l' p' n' c' p2 n2 c2 p3 n3 c3, e = .returned (.agg #[.bool l', .slice p' n' c', .slice p2 n2 c2, .slice p3 n3 c3]) ∧ NdN w' w1.heap.size (.agg #[.bool l', .slice p' n' c', .slice p2 n2 c2, .slice p3 n3 c3]) a ∧ Below w1.heap.size w1 w') := fun w1 hb => by
      refine (ndClone_any w1 _ a (HV1.out.below hb) HF1.out).mono ?_
      rintro e w' ⟨u, rfl, hu, hb'⟩
      obtain ⟨l', p', n', c', p2, n2, c2, p3, n3, c3, rfl, -⟩ := nd_open hu.val
      exact ⟨_, _, _, _, _, _, _, _, _, _, rfl, hu, hb'⟩
    go_enter Try.func3, Try.ntmps3
    go_wp2_with (first
      | (go_at_call 9; refine (HFW.out w2 HB2.out _ _ _ _ _ _ _ _ rfl rfl).mono ?_; rintro e w3 ⟨rfl, hb3⟩; have HB3 := hide (HB2.out.trans (hb3.mono HB2.out.size)); have HA3 := hide (HA2.out.below hb3 HA2.out.lt); have HBB3 := hide (HBB2.out.below hb3 HBB2.out.lt); clear y0 y1 y2 y3 t0 t1 t2 t3; obtain ⟨y0, y1, y2, y3⟩ := box_ndc HA3.out; clear HFW hb3 HA2 HBB2)
      | (go_at_call 8; refine (HLV.out w1).mono ?_; rintro e w2 ⟨rfl, hb2⟩; have HB2 := hide (HB1.out.trans (hb2.mono HB1.out.size)); have HA2 := hide (HA.out.below hb2 HA.out.lt); have HBB2 := hide (HBB.out.below hb2 HBB.out.lt); obtain ⟨y0, y1, y2, y3⟩ := box_ndc HA2.out; obtain ⟨t0, t1, t2, t3⟩ := box_ndc HBB2.out; clear hb2 HLV HA HBB)
      | (go_at_call 10; refine (HRC.out w3 HB3.out).mono ?_; rintro e w4 ⟨l4, p4, n4, c4, k4, nk4, kc4, q4, nq4, qc4, rfl, hN4, hb4⟩; have HN4 := hide hN4; have HB4 := hide (HB3.out.trans (hb4.mono HB3.out.size)); have HA4 := hide (HA3.out.below hb4 HA3.out.lt); have HBB4 := hide (HBB3.out.below hb4 HBB3.out.lt); obtain ⟨w5, hw5, HB5, HC5, s0, s1, s2, s3⟩ := nd_box w4 l4 (.slice p4 n4 c4) (.slice k4 nk4 kc4) (.slice q4 nq4 qc4); have HA5 := hide (HA4.out.below HB5.out HA4.out.lt); have HBB5 := hide (HBB4.out.below HB5.out HBB4.out.lt); clear y0 y1 y2 y3; obtain ⟨y0, y1, y2, y3⟩ := box_ndc HA5.out; clear HRC hb4 hN4 HA3 HBB3 HA4 HBB4)
      | (go_at_call 11; have HB45 := hide (HB4.out.trans (HB5.out.mono HB4.out.size)); refine (HNC.out w5 HB45.out).mono ?_; rintro e w6 ⟨l6, p6, n6, c6, k6, nk6, kc6, q6, nq6, qc6, rfl, hN6, hb6⟩; have HN6 := hide hN6; have HB6 := hide hb6; obtain ⟨w7, hw7, HB7, HC7, r0, r1, r2, r3⟩ := nd_box w6 l6 (.slice p6 n6 c6) (.slice k6 nk6 kc6) (.slice q6 nq6 qc6); clear y0 y1 y2 y3 s0 s1 s2 s3; clear HNC hb6 hN6))
    obtain ⟨xs, ys, hsp⟩ := sp_of (show NdN w6 w5.heap.size (ndv l6 (.slice p6 n6 c6) (.slice k6 nk6 kc6) (.slice q6 nq6 qc6)) a from HN6.out) HB6.out
    rw [hw7] at hsp
    have hn6 : a.ps.length = n6 := by obtain ⟨_, _, e⟩ := own_form' hsp.prow; simp only [Value.slice.injEq] at e; exact e.2.1.symm
    have hn7 : a.ks.length = nk6 := by obtain ⟨_, _, e⟩ := own_form' hsp.krow; simp only [Value.slice.injEq] at e; exact e.2.1.symm
    have hn8 : a.cs.length = nq6 := by obtain ⟨cs, e1, e2⟩ := hsp.kids; obtain ⟨_, _, e⟩ := e2.shape; simp only [Value.slice.injEq] at e; omega
    rw [hn6, hn7, hn8] at hsp
    have hbd : n6 ≤ 300 ∧ nk6 ≤ 300 ∧ nq6 ≤ 300 := by
      have := HF1.out
      simp only [few1, Bool.and_eq_true, decide_eq_true_iff] at this
      omega
    obtain ⟨hbd1, hbd2, hbd3⟩ := hbd
    have HSP7 := hide hsp
    clear r0 r1 r2 r3 hw1 hw5 hw7 hsp hn6 hn7 hn8
    have HB57 : Hid (Below w5.heap.size w5 w7) := HB6.out.trans (HB7.out.mono HB6.out.size)
    have HBW7 : Hid (Below w.heap.size w w7) := HB45.out.trans (HB57.out.mono HB45.out.size)
    have HA7 := hide (HA5.out.below HB57.out HA5.out.lt)
    have HBB7 := hide (HBB5.out.below HB57.out HBB5.out.lt)
    have HD7 := hide (HC5.out.below HB57.out HC5.out.lt)
    have HVA : Hid (∀ wx, Below w7.heap.size w7 wx → NdV wx (.agg #[.bool lf, .slice pa np pc, .slice ka nk kc, .slice ca nc cc]) a) := fun wx hb => HV1.out.below (HBW7.out.trans (hb.mono HBW7.out.size))
    have HVB : Hid (∀ wx, Below w7.heap.size w7 wx → NdV wx (.agg #[.bool lf', .slice pa' np' pc', .slice ka' nk' kc', .slice ca' nc' cc']) b) := fun wx hb => HV2.out.below (HBW7.out.trans (hb.mono HBW7.out.size))
    have HVC : Hid (∀ wx, Below w7.heap.size w7 wx → NdV wx (.agg #[.bool l6, .slice p6 n6 c6, .slice k6 nk6 kc6, .slice q6 nq6 qc6]) a) := fun wx hb => HN6.out.val.below (HB7.out.trans (hb.mono HB7.out.size))
    have HCK : Hid (∀ wx, Below w7.heap.size w7 wx → Calls Try.prog 12 #[.agg #[.bool lf, .slice pa np pc, .slice ka nk kc, .slice ca nc cc]] wx fun e w' => e = .returned (.int .i64 (checkN a)) ∧ Below wx.heap.size wx w') := fun wx hb => check_any wx _ a (HVA.out wx hb)
    have HRK : Hid (∀ wx, Below w7.heap.size w7 wx → Calls Try.prog 13 #[.agg #[.bool lf, .slice pa np pc, .slice ka nk kc, .slice ca nc cc]] wx fun e w' => e = .returned (.int .i64 (checkN a)) ∧ Below wx.heap.size wx w') := fun wx hb => refCheck_any wx _ a (HVA.out wx hb) HQ1.out
    have HCS : Hid (∀ wx, Below w7.heap.size w7 wx → Calls Try.prog 14 #[.agg #[.bool lf, .slice pa np pc, .slice ka nk kc, .slice ca nc cc]] wx fun e w' => e = .returned (.int .i64 (sizeN a)) ∧ Below wx.heap.size wx w') := fun wx hb => size_any wx _ a (HVA.out wx hb)
    have HRS : Hid (∀ wx, Below w7.heap.size w7 wx → Calls Try.prog 15 #[.agg #[.bool lf, .slice pa np pc, .slice ka nk kc, .slice ca nc cc]] wx fun e w' => e = .returned (.int .i64 (sizeN a)) ∧ Below wx.heap.size wx w') := fun wx hb => refSize_any wx _ a (HVA.out wx hb) HQ1.out
    have HSM : Hid (∀ wx, Below w7.heap.size w7 wx → Calls Try.prog 16 #[.agg #[.bool lf, .slice pa np pc, .slice ka nk kc, .slice ca nc cc], .agg #[.bool lf', .slice pa' np' pc', .slice ka' nk' kc', .slice ca' nc' cc']] wx fun e w' => e = .returned (.bool (sameN a b)) ∧ Below wx.heap.size wx w') := fun wx hb => ndSame_any wx _ _ a b (HVA.out wx hb) (HVB.out wx hb)
    have HRM : Hid (∀ wx, Below w7.heap.size w7 wx → Calls Try.prog 17 #[.agg #[.bool lf, .slice pa np pc, .slice ka nk kc, .slice ca nc cc], .agg #[.bool lf', .slice pa' np' pc', .slice ka' nk' kc', .slice ca' nc' cc']] wx fun e w' => e = .returned (.bool (sameN a b)) ∧ Below wx.heap.size wx w') := fun wx hb => refSame_any wx _ _ a b (HVA.out wx hb) (HVB.out wx hb)
    have HSA : Hid (∀ wx, Below w7.heap.size w7 wx → Calls Try.prog 16 #[.agg #[.bool lf, .slice pa np pc, .slice ka nk kc, .slice ca nc cc], .agg #[.bool lf, .slice pa np pc, .slice ka nk kc, .slice ca nc cc]] wx fun e w' => e = .returned (.bool true) ∧ Below wx.heap.size wx w') := fun wx hb => by rw [← sameN_self a]; exact ndSame_any wx _ _ a a (HVA.out wx hb) (HVA.out wx hb)
    have HRA : Hid (∀ wx, Below w7.heap.size w7 wx → Calls Try.prog 17 #[.agg #[.bool l6, .slice p6 n6 c6, .slice k6 nk6 kc6, .slice q6 nq6 qc6], .agg #[.bool lf, .slice pa np pc, .slice ka nk kc, .slice ca nc cc]] wx fun e w' => e = .returned (.bool true) ∧ Below wx.heap.size wx w') := fun wx hb => by rw [← sameN_self a]; exact refSame_any wx _ _ a a (HVC.out wx hb) (HVA.out wx hb)
    generalize checkN a = C at HCK HRK
    generalize sizeN a = S at HCS HRS
    generalize sameN a b = R at HSM HRM
    go_wp2
    refine wp_region_facts (FL [isV (.agg #[.bool lf, .slice pa np pc, .slice ka nk kc, .slice ca nc cc]), isV (.int .i64 C), isV (.agg #[.bool lf, .slice pa np pc, .slice ka nk kc, .slice ca nc cc]), isV (.int .i64 C), isV (.bool false), isV (.bool false), isV (.agg #[.bool lf, .slice pa np pc, .slice ka nk kc, .slice ca nc cc]), isV (.int .i64 (S : Int)), isV (.agg #[.bool lf, .slice pa np pc, .slice ka nk kc, .slice ca nc cc]), isV (.int .i64 (S : Int)), isV (.bool false), isV (.bool false), isV (.bool false), isV (.agg #[.bool lf, .slice pa np pc, .slice ka nk kc, .slice ca nc cc]), isV (.agg #[.bool lf', .slice pa' np' pc', .slice ka' nk' kc', .slice ca' nc' cc']), isV (.bool R), isV (.agg #[.bool lf, .slice pa np pc, .slice ka nk kc, .slice ca nc cc]), isV (.agg #[.bool lf', .slice pa' np' pc', .slice ka' nk' kc', .slice ca' nc' cc']), isV (.bool R), isV (.bool false), isV (.bool false), isV (.bool false), isV (.agg #[.bool lf, .slice pa np pc, .slice ka nk kc, .slice ca nc cc]), isV (.agg #[.bool lf, .slice pa np pc, .slice ka nk kc, .slice ca nc cc]), isV (.bool true), isV (.bool false), isV (.bool false), isV (.bool false), isV (.agg #[.bool l6, .slice p6 n6 c6, .slice k6 nk6 kc6, .slice q6 nq6 qc6]), isV (.agg #[.bool lf, .slice pa np pc, .slice ka nk kc, .slice ca nc cc]), isV (.bool true), isV (.bool false), isV (.bool false)]) 152 (by kernel_rfl) (by kernel_rfl) (by kernel_rfl) rfl (FL_stable _ (by repeat (first | exact trivial | refine ⟨stable_isV _, ?_⟩))) ?_ ?_
    · refine ⟨?_, ?_, ?_, ?_, ?_, ?_, ?_, ?_, ?_, ?_, ?_, ?_, ?_, ?_, ?_, ?_, ?_, ?_, ?_, ?_, ?_, ?_, ?_, ?_, ?_, ?_, ?_, ?_, ?_, ?_, ?_, ?_, ?_, trivial⟩
      · intro act wx h
        have e2 : act.eval (.tmp 2) = .pointer (some ⟨w.heap.size, 0, none⟩) := h.old 2 (by kernel_rfl)
        have hbel := h.below
        clear h
        obtain ⟨x0, x1, x2, x3⟩ := box_ndc (HA7.out.below hbel HA7.out.lt)
        refine gives_by rfl act.eval rfl ?_
        generalize act.eval = ρ at *
        intro hf hc
        go_simp
        exact ⟨Below.refl _ _, rfl⟩
      · intro act wx h
        obtain ⟨v27, e27, f27⟩ := h.val 0 27 (by kernel_rfl)
        obtain rfl : v27 = .agg #[.bool lf, .slice pa np pc, .slice ka nk kc, .slice ca nc cc] := f27
        have hbel := h.below
        clear h
        refine gives_by rfl act.eval rfl ?_
        generalize act.eval = ρ at *
        intro hf hc
        go_simp
        exact call_gives (HCK.out wx hbel) (fun _ => rfl)
      · intro act wx h
        have e2 : act.eval (.tmp 2) = .pointer (some ⟨w.heap.size, 0, none⟩) := h.old 2 (by kernel_rfl)
        have hbel := h.below
        clear h
        obtain ⟨x0, x1, x2, x3⟩ := box_ndc (HA7.out.below hbel HA7.out.lt)
        refine gives_by rfl act.eval rfl ?_
        generalize act.eval = ρ at *
        intro hf hc
        go_simp
        exact ⟨Below.refl _ _, rfl⟩
      · intro act wx h
        obtain ⟨v29, e29, f29⟩ := h.val 2 29 (by kernel_rfl)
        obtain rfl : v29 = .agg #[.bool lf, .slice pa np pc, .slice ka nk kc, .slice ca nc cc] := f29
        have hbel := h.below
        clear h
        refine gives_by rfl act.eval rfl ?_
        generalize act.eval = ρ at *
        intro hf hc
        go_simp
        exact call_gives (HRK.out wx hbel) (fun _ => rfl)
      · intro act wx h
        obtain ⟨v28, e28, f28⟩ := h.val 1 28 (by kernel_rfl)
        obtain rfl : v28 = .int .i64 C := f28
        obtain ⟨v30, e30, f30⟩ := h.val 3 30 (by kernel_rfl)
        obtain rfl : v30 = .int .i64 C := f30
        have hbel := h.below
        clear h
        refine gives_by rfl act.eval rfl ?_
        generalize act.eval = ρ at *
        intro hf hc
        go_simp
        exact ⟨Below.refl _ _, by simp [FL, isV]⟩
      · intro act wx h
        obtain ⟨v31, e31, f31⟩ := h.val 4 31 (by kernel_rfl)
        obtain rfl : v31 = .bool false := f31
        have hbel := h.below
        clear h
        refine gives_by rfl act.eval rfl ?_
        generalize act.eval = ρ at *
        intro hf hc
        go_simp
        exact ⟨Below.refl _ _, rfl⟩
      · intro act wx h
        have e2 : act.eval (.tmp 2) = .pointer (some ⟨w.heap.size, 0, none⟩) := h.old 2 (by kernel_rfl)
        have hg := h.guard 5 32 (by kernel_rfl) false (fun v hv => hv)
        have hbel := h.below
        clear h
        obtain ⟨x0, x1, x2, x3⟩ := box_ndc (HA7.out.below hbel HA7.out.lt)
        refine gives_by (by simp only [Region.wanted, hg]; rfl) act.eval rfl ?_
        generalize act.eval = ρ at *
        intro hf hc
        go_simp
        exact ⟨Below.refl _ _, rfl⟩
      · intro act wx h
        obtain ⟨v33, e33, f33⟩ := h.val 6 33 (by kernel_rfl)
        obtain rfl : v33 = .agg #[.bool lf, .slice pa np pc, .slice ka nk kc, .slice ca nc cc] := f33
        have hg := h.guard 5 32 (by kernel_rfl) false (fun v hv => hv)
        have hbel := h.below
        clear h
        refine gives_by (by simp only [Region.wanted, hg]; rfl) act.eval rfl ?_
        generalize act.eval = ρ at *
        intro hf hc
        go_simp
        exact call_gives (HCS.out wx hbel) (fun _ => rfl)
      · intro act wx h
        have e2 : act.eval (.tmp 2) = .pointer (some ⟨w.heap.size, 0, none⟩) := h.old 2 (by kernel_rfl)
        have hg := h.guard 5 32 (by kernel_rfl) false (fun v hv => hv)
        have hbel := h.below
        clear h
        obtain ⟨x0, x1, x2, x3⟩ := box_ndc (HA7.out.below hbel HA7.out.lt)
        refine gives_by (by simp only [Region.wanted, hg]; rfl) act.eval rfl ?_
        generalize act.eval = ρ at *
        intro hf hc
        go_simp
        exact ⟨Below.refl _ _, rfl⟩
      · intro act wx h
        obtain ⟨v35, e35, f35⟩ := h.val 8 35 (by kernel_rfl)
        obtain rfl : v35 = .agg #[.bool lf, .slice pa np pc, .slice ka nk kc, .slice ca nc cc] := f35
        have hg := h.guard 5 32 (by kernel_rfl) false (fun v hv => hv)
        have hbel := h.below
        clear h
        refine gives_by (by simp only [Region.wanted, hg]; rfl) act.eval rfl ?_
        generalize act.eval = ρ at *
        intro hf hc
        go_simp
        exact call_gives (HRS.out wx hbel) (fun _ => rfl)
      · intro act wx h
        obtain ⟨v34, e34, f34⟩ := h.val 7 34 (by kernel_rfl)
        obtain rfl : v34 = .int .i64 (S : Int) := f34
        obtain ⟨v36, e36, f36⟩ := h.val 9 36 (by kernel_rfl)
        obtain rfl : v36 = .int .i64 (S : Int) := f36
        have hg := h.guard 5 32 (by kernel_rfl) false (fun v hv => hv)
        have hbel := h.below
        clear h
        refine gives_by (by simp only [Region.wanted, hg]; rfl) act.eval rfl ?_
        generalize act.eval = ρ at *
        intro hf hc
        go_simp
        exact ⟨Below.refl _ _, by simp [FL, isV]⟩
      · intro act wx h
        obtain ⟨v32, e32, f32⟩ := h.val 5 32 (by kernel_rfl)
        obtain rfl : v32 = .bool false := f32
        obtain ⟨v37, e37, f37⟩ := h.val 10 37 (by kernel_rfl)
        obtain rfl : v37 = .bool false := f37
        have hbel := h.below
        clear h
        refine gives_by rfl act.eval rfl ?_
        generalize act.eval = ρ at *
        intro hf hc
        go_simp
        exact ⟨Below.refl _ _, rfl⟩
      · intro act wx h
        obtain ⟨v38, e38, f38⟩ := h.val 11 38 (by kernel_rfl)
        obtain rfl : v38 = .bool false := f38
        have hbel := h.below
        clear h
        refine gives_by rfl act.eval rfl ?_
        generalize act.eval = ρ at *
        intro hf hc
        go_simp
        exact ⟨Below.refl _ _, rfl⟩
      · intro act wx h
        have e2 : act.eval (.tmp 2) = .pointer (some ⟨w.heap.size, 0, none⟩) := h.old 2 (by kernel_rfl)
        have hg := h.guard 12 39 (by kernel_rfl) false (fun v hv => hv)
        have hbel := h.below
        clear h
        obtain ⟨x0, x1, x2, x3⟩ := box_ndc (HA7.out.below hbel HA7.out.lt)
        refine gives_by (by simp only [Region.wanted, hg]; rfl) act.eval rfl ?_
        generalize act.eval = ρ at *
        intro hf hc
        go_simp
        exact ⟨Below.refl _ _, rfl⟩
      · intro act wx h
        have e3 : act.eval (.tmp 3) = .pointer (some ⟨w.heap.size + 1, 0, none⟩) := h.old 3 (by kernel_rfl)
        have hg := h.guard 12 39 (by kernel_rfl) false (fun v hv => hv)
        have hbel := h.below
        clear h
        obtain ⟨x0, x1, x2, x3⟩ := box_ndc (HBB7.out.below hbel HBB7.out.lt)
        refine gives_by (by simp only [Region.wanted, hg]; rfl) act.eval rfl ?_
        generalize act.eval = ρ at *
        intro hf hc
        go_simp
        exact ⟨Below.refl _ _, rfl⟩
      · intro act wx h
        obtain ⟨v40, e40, f40⟩ := h.val 13 40 (by kernel_rfl)
        obtain rfl : v40 = .agg #[.bool lf, .slice pa np pc, .slice ka nk kc, .slice ca nc cc] := f40
        obtain ⟨v41, e41, f41⟩ := h.val 14 41 (by kernel_rfl)
        obtain rfl : v41 = .agg #[.bool lf', .slice pa' np' pc', .slice ka' nk' kc', .slice ca' nc' cc'] := f41
        have hg := h.guard 12 39 (by kernel_rfl) false (fun v hv => hv)
        have hbel := h.below
        clear h
        refine gives_by (by simp only [Region.wanted, hg]; rfl) act.eval rfl ?_
        generalize act.eval = ρ at *
        intro hf hc
        go_simp
        exact call_gives (HSM.out wx hbel) (fun _ => rfl)
      · intro act wx h
        have e2 : act.eval (.tmp 2) = .pointer (some ⟨w.heap.size, 0, none⟩) := h.old 2 (by kernel_rfl)
        have hg := h.guard 12 39 (by kernel_rfl) false (fun v hv => hv)
        have hbel := h.below
        clear h
        obtain ⟨x0, x1, x2, x3⟩ := box_ndc (HA7.out.below hbel HA7.out.lt)
        refine gives_by (by simp only [Region.wanted, hg]; rfl) act.eval rfl ?_
        generalize act.eval = ρ at *
        intro hf hc
        go_simp
        exact ⟨Below.refl _ _, rfl⟩
      · intro act wx h
        have e3 : act.eval (.tmp 3) = .pointer (some ⟨w.heap.size + 1, 0, none⟩) := h.old 3 (by kernel_rfl)
        have hg := h.guard 12 39 (by kernel_rfl) false (fun v hv => hv)
        have hbel := h.below
        clear h
        obtain ⟨x0, x1, x2, x3⟩ := box_ndc (HBB7.out.below hbel HBB7.out.lt)
        refine gives_by (by simp only [Region.wanted, hg]; rfl) act.eval rfl ?_
        generalize act.eval = ρ at *
        intro hf hc
        go_simp
        exact ⟨Below.refl _ _, rfl⟩
      · intro act wx h
        obtain ⟨v43, e43, f43⟩ := h.val 16 43 (by kernel_rfl)
        obtain rfl : v43 = .agg #[.bool lf, .slice pa np pc, .slice ka nk kc, .slice ca nc cc] := f43
        obtain ⟨v44, e44, f44⟩ := h.val 17 44 (by kernel_rfl)
        obtain rfl : v44 = .agg #[.bool lf', .slice pa' np' pc', .slice ka' nk' kc', .slice ca' nc' cc'] := f44
        have hg := h.guard 12 39 (by kernel_rfl) false (fun v hv => hv)
        have hbel := h.below
        clear h
        refine gives_by (by simp only [Region.wanted, hg]; rfl) act.eval rfl ?_
        generalize act.eval = ρ at *
        intro hf hc
        go_simp
        exact call_gives (HRM.out wx hbel) (fun _ => rfl)
      · intro act wx h
        obtain ⟨v42, e42, f42⟩ := h.val 15 42 (by kernel_rfl)
        obtain rfl : v42 = .bool R := f42
        obtain ⟨v45, e45, f45⟩ := h.val 18 45 (by kernel_rfl)
        obtain rfl : v45 = .bool R := f45
        have hg := h.guard 12 39 (by kernel_rfl) false (fun v hv => hv)
        have hbel := h.below
        clear h
        refine gives_by (by simp only [Region.wanted, hg]; rfl) act.eval rfl ?_
        generalize act.eval = ρ at *
        intro hf hc
        go_simp
        exact ⟨Below.refl _ _, by simp [FL, isV]⟩
      · intro act wx h
        obtain ⟨v39, e39, f39⟩ := h.val 12 39 (by kernel_rfl)
        obtain rfl : v39 = .bool false := f39
        obtain ⟨v46, e46, f46⟩ := h.val 19 46 (by kernel_rfl)
        obtain rfl : v46 = .bool false := f46
        have hbel := h.below
        clear h
        refine gives_by rfl act.eval rfl ?_
        generalize act.eval = ρ at *
        intro hf hc
        go_simp
        exact ⟨Below.refl _ _, rfl⟩
      · intro act wx h
        obtain ⟨v47, e47, f47⟩ := h.val 20 47 (by kernel_rfl)
        obtain rfl : v47 = .bool false := f47
        have hbel := h.below
        clear h
        refine gives_by rfl act.eval rfl ?_
        generalize act.eval = ρ at *
        intro hf hc
        go_simp
        exact ⟨Below.refl _ _, rfl⟩
      · intro act wx h
        have e2 : act.eval (.tmp 2) = .pointer (some ⟨w.heap.size, 0, none⟩) := h.old 2 (by kernel_rfl)
        have hg := h.guard 21 48 (by kernel_rfl) false (fun v hv => hv)
        have hbel := h.below
        clear h
        obtain ⟨x0, x1, x2, x3⟩ := box_ndc (HA7.out.below hbel HA7.out.lt)
        refine gives_by (by simp only [Region.wanted, hg]; rfl) act.eval rfl ?_
        generalize act.eval = ρ at *
        intro hf hc
        go_simp
        exact ⟨Below.refl _ _, rfl⟩
      · intro act wx h
        have e2 : act.eval (.tmp 2) = .pointer (some ⟨w.heap.size, 0, none⟩) := h.old 2 (by kernel_rfl)
        have hg := h.guard 21 48 (by kernel_rfl) false (fun v hv => hv)
        have hbel := h.below
        clear h
        obtain ⟨x0, x1, x2, x3⟩ := box_ndc (HA7.out.below hbel HA7.out.lt)
        refine gives_by (by simp only [Region.wanted, hg]; rfl) act.eval rfl ?_
        generalize act.eval = ρ at *
        intro hf hc
        go_simp
        exact ⟨Below.refl _ _, rfl⟩
      · intro act wx h
        obtain ⟨v49, e49, f49⟩ := h.val 22 49 (by kernel_rfl)
        obtain rfl : v49 = .agg #[.bool lf, .slice pa np pc, .slice ka nk kc, .slice ca nc cc] := f49
        obtain ⟨v50, e50, f50⟩ := h.val 23 50 (by kernel_rfl)
        obtain rfl : v50 = .agg #[.bool lf, .slice pa np pc, .slice ka nk kc, .slice ca nc cc] := f50
        have hg := h.guard 21 48 (by kernel_rfl) false (fun v hv => hv)
        have hbel := h.below
        clear h
        refine gives_by (by simp only [Region.wanted, hg]; rfl) act.eval rfl ?_
        generalize act.eval = ρ at *
        intro hf hc
        go_simp
        exact call_gives (HSA.out wx hbel) (fun _ => rfl)
      · intro act wx h
        obtain ⟨v51, e51, f51⟩ := h.val 24 51 (by kernel_rfl)
        obtain rfl : v51 = .bool true := f51
        have hg := h.guard 21 48 (by kernel_rfl) false (fun v hv => hv)
        have hbel := h.below
        clear h
        refine gives_by (by simp only [Region.wanted, hg]; rfl) act.eval rfl ?_
        generalize act.eval = ρ at *
        intro hf hc
        go_simp
        exact ⟨Below.refl _ _, rfl⟩
      · intro act wx h
        obtain ⟨v48, e48, f48⟩ := h.val 21 48 (by kernel_rfl)
        obtain rfl : v48 = .bool false := f48
        obtain ⟨v52, e52, f52⟩ := h.val 25 52 (by kernel_rfl)
        obtain rfl : v52 = .bool false := f52
        have hbel := h.below
        clear h
        refine gives_by rfl act.eval rfl ?_
        generalize act.eval = ρ at *
        intro hf hc
        go_simp
        exact ⟨Below.refl _ _, rfl⟩
      · intro act wx h
        obtain ⟨v53, e53, f53⟩ := h.val 26 53 (by kernel_rfl)
        obtain rfl : v53 = .bool false := f53
        have hbel := h.below
        clear h
        refine gives_by rfl act.eval rfl ?_
        generalize act.eval = ρ at *
        intro hf hc
        go_simp
        exact ⟨Below.refl _ _, rfl⟩
      · intro act wx h
        have e6 : act.eval (.tmp 6) = .pointer (some ⟨w6.heap.size, 0, none⟩) := h.old 6 (by kernel_rfl)
        have hg := h.guard 27 54 (by kernel_rfl) false (fun v hv => hv)
        have hbel := h.below
        clear h
        obtain ⟨x0, x1, x2, x3⟩ := box_ndc (HC7.out.below hbel HC7.out.lt)
        refine gives_by (by simp only [Region.wanted, hg]; rfl) act.eval rfl ?_
        generalize act.eval = ρ at *
        intro hf hc
        go_simp
        exact ⟨Below.refl _ _, rfl⟩
      · intro act wx h
        have e2 : act.eval (.tmp 2) = .pointer (some ⟨w.heap.size, 0, none⟩) := h.old 2 (by kernel_rfl)
        have hg := h.guard 27 54 (by kernel_rfl) false (fun v hv => hv)
        have hbel := h.below
        clear h
        obtain ⟨x0, x1, x2, x3⟩ := box_ndc (HA7.out.below hbel HA7.out.lt)
        refine gives_by (by simp only [Region.wanted, hg]; rfl) act.eval rfl ?_
        generalize act.eval = ρ at *
        intro hf hc
        go_simp
        exact ⟨Below.refl _ _, rfl⟩
      · intro act wx h
        obtain ⟨v55, e55, f55⟩ := h.val 28 55 (by kernel_rfl)
        obtain rfl : v55 = .agg #[.bool l6, .slice p6 n6 c6, .slice k6 nk6 kc6, .slice q6 nq6 qc6] := f55
        obtain ⟨v56, e56, f56⟩ := h.val 29 56 (by kernel_rfl)
        obtain rfl : v56 = .agg #[.bool lf, .slice pa np pc, .slice ka nk kc, .slice ca nc cc] := f56
        have hg := h.guard 27 54 (by kernel_rfl) false (fun v hv => hv)
        have hbel := h.below
        clear h
        refine gives_by (by simp only [Region.wanted, hg]; rfl) act.eval rfl ?_
        generalize act.eval = ρ at *
        intro hf hc
        go_simp
        exact call_gives (HRA.out wx hbel) (fun _ => rfl)
      · intro act wx h
        obtain ⟨v57, e57, f57⟩ := h.val 30 57 (by kernel_rfl)
        obtain rfl : v57 = .bool true := f57
        have hg := h.guard 27 54 (by kernel_rfl) false (fun v hv => hv)
        have hbel := h.below
        clear h
        refine gives_by (by simp only [Region.wanted, hg]; rfl) act.eval rfl ?_
        generalize act.eval = ρ at *
        intro hf hc
        go_simp
        exact ⟨Below.refl _ _, rfl⟩
      · intro act wx h
        obtain ⟨v54, e54, f54⟩ := h.val 27 54 (by kernel_rfl)
        obtain rfl : v54 = .bool false := f54
        obtain ⟨v58, e58, f58⟩ := h.val 31 58 (by kernel_rfl)
        obtain rfl : v58 = .bool false := f58
        have hbel := h.below
        clear h
        refine gives_by rfl act.eval rfl ?_
        generalize act.eval = ρ at *
        intro hf hc
        go_simp
        exact ⟨Below.refl _ _, rfl⟩
    · intro vals w8 hb8 hv
      have hv59 : vals 32 = .bool false := hv 32 59 (by kernel_rfl)
      clear hv
      generalize hact : putAll _ vals 0 _ = act
      have HB8 := hide hb8
      clear hb8
      subst hact
      simp only [putAll, Act.put, List.setIfInBounds_toArray, List.set_cons_zero, List.set_cons_succ, hv59, Nat.zero_add, Nat.reduceAdd]
      clear hv59
      have HSP := hide (HSP7.out.keep HB8.out)
      have z1 : w8.cell? ⟨w6.heap.size, 1, none⟩ = some (.slice p6 n6 c6) := HSP.out.box.cell 1
      have HSE : Hid (∀ wx, Below w5.heap.size w5 wx → Calls Try.prog 17 #[.agg #[.bool lf, .slice pa np pc, .slice ka nk kc, .slice ca nc cc], .agg #[.bool l4, .slice p4 n4 c4, .slice k4 nk4 kc4, .slice q4 nq4 qc4]] wx fun e w' => e = .returned (.bool true) ∧ Below wx.heap.size wx w') := fun wx hb => by rw [← sameN_self a]; exact refSame_any wx _ _ a a (HV1.out.below (HB45.out.trans (hb.mono HB45.out.size))) (HN4.out.below (HB5.out.trans (hb.mono HB5.out.size)))
      have HBX : Hid (∀ wx, Below w5.heap.size w5 wx → Blk wx w.heap.size 26 (ndc lf (.slice pa np pc) (.slice ka nk kc) (.slice ca nc cc)) ∧ Blk wx w4.heap.size 26 (ndc l4 (.slice p4 n4 c4) (.slice k4 nk4 kc4) (.slice q4 nq4 qc4))) := fun wx hb => ⟨HA5.out.below hb HA5.out.lt, HC5.out.below hb HC5.out.lt⟩
      clear HCK HRK HCS HRS HSM HRM HSA HRA HVA HVB HVC HSP7 HN4 HN6 HB1 HB2 HB3 HB4 HF1 HQ1 HV1 HV2 HA5 HBB5 HC5 HA7 HBB7 HC7 HD7
      go_wp2
      go_loopg [63] n6 (fun g i wr => ∃ m : Nat, g + m = n6 ∧ i = .int .i64 m ∧ Sp w5 w6.heap.size l6 (.slice p6 n6 c6) (.slice k6 nk6 kc6) (.slice q6 nq6 qc6) n6 nk6 nq6 xs ys lenV wr)
      case atStart => exact ⟨0, by omega, rfl, HSP.out⟩
      case round =>
        obtain ⟨m, hgm, rfl, hsp⟩ := hrel
        obtain ⟨GO, hGO⟩ : ∃ x, x = gk := ⟨_, rfl⟩
        have HGO := hide hGO
        obtain ⟨W, rfl⟩ : ∃ x, x = wr := ⟨_, rfl⟩
        clear hGO HSP z1
        have z1 : W.cell? ⟨w6.heap.size, 1, none⟩ = some (.slice p6 n6 c6) := hsp.box.cell 1
        by_cases hm : m < n6
        · have hmi : (m : Int) < (n6 : Int) := by omega
          obtain ⟨g1, rfl, c1, c2⟩ := hsp.atP m hm
          obtain ⟨t1, t2⟩ := hsp.tp m hm
          have HS := hide hsp
          obtain ⟨x, hx⟩ : ∃ x, xs.getD m nil2 = x := ⟨_, rfl⟩
          rw [hx] at c1 c2 t1 t2
          obtain ⟨u1, u2⟩ := x
          simp only at c1 c2 t1 t2
          obtain ⟨o1, e1, d1, rfl⟩ := t1.form
          obtain ⟨o2, e2, d2, rfl⟩ := t2.form
          have hle1 := t1.le
          have hle2 := t2.le
          have HX := hide hx
          have HX1 : Hid ((xs.getD m nil2).1 = .slice o1 e1 d1) := by show _ = _; rw [hx]
          have HX2 : Hid ((xs.getD m nil2).2 = .slice o2 e2 d2) := by show _ = _; rw [hx]
          clear hx hsp t1 t2
          go_wp2
          go_loopg [73] e1 (fun g i wr => ∃ k : Nat, g + k = e1 ∧ i = .int .i64 k ∧ Sp w5 w6.heap.size l6 (.slice (some ⟨g1, 0, none⟩) n6 c6) (.slice k6 nk6 kc6) (.slice q6 nq6 qc6) n6 nk6 nq6 xs ys lenV wr)
          case atStart => exact ⟨0, by omega, rfl, HS.out⟩
          case round =>
            obtain ⟨k, hgk, rfl, hsp⟩ := hrel
            obtain ⟨W2, rfl⟩ : ∃ x, x = wr := ⟨_, rfl⟩
            have HS2 := hide hsp
            clear HS z1 c1 c2
            have z1 : W2.cell? ⟨w6.heap.size, 1, none⟩ = some (.slice (some ⟨g1, 0, none⟩) n6 c6) := hsp.box.cell 1
            obtain ⟨g2, hg2, c1, c2⟩ := hsp.atP m hm
            obtain rfl : g1 = g2 := by simpa using hg2
            rw [HX.out] at c1 c2
            simp only at c1 c2
            clear hg2
            by_cases hk : k < e1
            · have hki : (k : Int) < (e1 : Int) := by omega
              have htx := (hsp.tp m hm).1
              rw [HX1.out] at htx
              obtain ⟨b, off, z, cs, hao, cz, hz, hbb, hB⟩ := htx.at k hk
              subst hao
              have fz : W2.frozen? ⟨b, off + k, none⟩ = false := hB.frozen _
              obtain ⟨y, hxy, hy1, hy2⟩ := flip_ok z hz
              have HNX : Hid (Sp w5 w6.heap.size l6 (.slice (some ⟨g1, 0, none⟩) n6 c6) (.slice k6 nk6 kc6) (.slice q6 nq6 qc6) n6 nk6 nq6 xs ys lenV (W2.setCell ⟨b, off + k, none⟩ (.int .u8 y))) := hsp.byte ⟨hy1, hy2⟩ hB hbb
              clear hsp htx hB hbb hz hy1 hy2
              go_wp2
              go_roundg (gk - 1)
              case measure => omega
              case rel => exact ⟨k + 1, by omega, by go_num, HNX.out⟩
            · clear hsp
              go_wp2
              go_loopg [95] e2 (fun g i wr => ∃ k : Nat, g + k = e2 ∧ i = .int .i64 k ∧ Sp w5 w6.heap.size l6 (.slice (some ⟨g1, 0, none⟩) n6 c6) (.slice k6 nk6 kc6) (.slice q6 nq6 qc6) n6 nk6 nq6 xs ys lenV wr)
              case atStart => exact ⟨0, by omega, rfl, HS2.out⟩
              case round =>
                obtain ⟨k, hgk, rfl, hsp⟩ := hrel
                obtain ⟨W3, rfl⟩ : ∃ x, x = wr := ⟨_, rfl⟩
                have HS3 := hide hsp
                clear HS2 z1 c1 c2
                have z1 : W3.cell? ⟨w6.heap.size, 1, none⟩ = some (.slice (some ⟨g1, 0, none⟩) n6 c6) := hsp.box.cell 1
                obtain ⟨g2, hg2, c1, c2⟩ := hsp.atP m hm
                obtain rfl : g1 = g2 := by simpa using hg2
                rw [HX.out] at c1 c2
                simp only at c1 c2
                clear hg2
                by_cases hk : k < e2
                · have hki : (k : Int) < (e2 : Int) := by omega
                  have htx := (hsp.tp m hm).2
                  rw [HX2.out] at htx
                  obtain ⟨b, off, z, cs, hao, cz, hz, hbb, hB⟩ := htx.at k hk
                  subst hao
                  have fz : W3.frozen? ⟨b, off + k, none⟩ = false := hB.frozen _
                  obtain ⟨y, hxy, hy1, hy2⟩ := flip_ok z hz
                  have HNX : Hid (Sp w5 w6.heap.size l6 (.slice (some ⟨g1, 0, none⟩) n6 c6) (.slice k6 nk6 kc6) (.slice q6 nq6 qc6) n6 nk6 nq6 xs ys lenV (W3.setCell ⟨b, off + k, none⟩ (.int .u8 y))) := hsp.byte ⟨hy1, hy2⟩ hB hbb
                  clear hsp htx hB hbb hz hy1 hy2
                  go_wp2
                  go_roundg (gk - 1)
                  case measure => omega
                  case rel => exact ⟨k + 1, by omega, by go_num, HNX.out⟩
                · clear hsp
                  go_wp2
                  go_roundg (GO - 1)
                  case measure => have := HGO.out; omega
                  case rel => exact ⟨m + 1, by have := HGO.out; omega, by go_num, HS3.out⟩
        · have HS := hide hsp
          have z2 : W.cell? ⟨w6.heap.size, 2, none⟩ = some (.slice k6 nk6 kc6) := hsp.box.cell 2
          clear hsp
          go_wp2
          go_loopg [114] nk6 (fun g i wr => ∃ j : Nat, g + j = nk6 ∧ i = .int .i64 j ∧ Sp w5 w6.heap.size l6 (.slice p6 n6 c6) (.slice k6 nk6 kc6) (.slice q6 nq6 qc6) n6 nk6 nq6 xs ys lenV wr)
          case atStart => exact ⟨0, by omega, rfl, HS.out⟩
          case round =>
            obtain ⟨j, hgj, rfl, hsp⟩ := hrel
            obtain ⟨GK, hGK⟩ : ∃ x, x = gk := ⟨_, rfl⟩
            have HGK := hide hGK
            obtain ⟨W4, rfl⟩ : ∃ x, x = wr := ⟨_, rfl⟩
            clear hGK HS z2
            have z2 : W4.cell? ⟨w6.heap.size, 2, none⟩ = some (.slice k6 nk6 kc6) := hsp.box.cell 2
            by_cases hj : j < nk6
            · have hji : (j : Int) < (nk6 : Int) := by omega
              obtain ⟨g1, rfl, c1⟩ := hsp.atK j hj
              have t1 := hsp.tk j hj
              have HS := hide hsp
              obtain ⟨x, hx⟩ : ∃ x, ys.getD j nilS = x := ⟨_, rfl⟩
              rw [hx] at c1 t1
              obtain ⟨o1, e1, d1, rfl⟩ := t1.form
              have hle1 := t1.le
              have HX := hide hx
              clear hx hsp t1
              go_wp2
              go_loopg [123] e1 (fun g i wr => ∃ k : Nat, g + k = e1 ∧ i = .int .i64 k ∧ Sp w5 w6.heap.size l6 (.slice p6 n6 c6) (.slice (some ⟨g1, 0, none⟩) nk6 kc6) (.slice q6 nq6 qc6) n6 nk6 nq6 xs ys lenV wr)
              case atStart => exact ⟨0, by omega, rfl, HS.out⟩
              case round =>
                obtain ⟨k, hgk, rfl, hsp⟩ := hrel
                obtain ⟨W5, rfl⟩ : ∃ x, x = wr := ⟨_, rfl⟩
                have HS5 := hide hsp
                clear HS z2 c1
                have z2 : W5.cell? ⟨w6.heap.size, 2, none⟩ = some (.slice (some ⟨g1, 0, none⟩) nk6 kc6) := hsp.box.cell 2
                obtain ⟨g2, hg2, c1⟩ := hsp.atK j hj
                obtain rfl : g1 = g2 := by simpa using hg2
                rw [HX.out] at c1
                clear hg2
                by_cases hk : k < e1
                · have hki : (k : Int) < (e1 : Int) := by omega
                  have htx := hsp.tk j hj
                  rw [HX.out] at htx
                  obtain ⟨b, off, z, cs, hao, cz, hz, hbb, hB⟩ := htx.at k hk
                  subst hao
                  have fz : W5.frozen? ⟨b, off + k, none⟩ = false := hB.frozen _
                  obtain ⟨y, hxy, hy1, hy2⟩ := flip_ok z hz
                  have HNX : Hid (Sp w5 w6.heap.size l6 (.slice p6 n6 c6) (.slice (some ⟨g1, 0, none⟩) nk6 kc6) (.slice q6 nq6 qc6) n6 nk6 nq6 xs ys lenV (W5.setCell ⟨b, off + k, none⟩ (.int .u8 y))) := hsp.byte ⟨hy1, hy2⟩ hB hbb
                  clear hsp htx hB hbb hz hy1 hy2
                  go_wp2
                  go_roundg (gk - 1)
                  case measure => omega
                  case rel => exact ⟨k + 1, by omega, by go_num, HNX.out⟩
                · clear hsp
                  go_wp2
                  go_roundg (GK - 1)
                  case measure => have := HGK.out; omega
                  case rel => exact ⟨j + 1, by have := HGK.out; omega, by go_num, HS5.out⟩
            · have HS := hide hsp
              have z3 : W4.cell? ⟨w6.heap.size, 3, none⟩ = some (.slice q6 nq6 qc6) := hsp.box.cell 3
              clear hsp
              go_wp2
              go_loopg [141] nq6 (fun g i wr => ∃ t : Nat, g + t = nq6 ∧ i = .int .i64 t ∧ Sp w5 w6.heap.size l6 (.slice p6 n6 c6) (.slice k6 nk6 kc6) (.slice q6 nq6 qc6) n6 nk6 nq6 xs ys lenV wr)
              case atStart => exact ⟨0, by omega, rfl, HS.out⟩
              case round =>
                obtain ⟨t, hgt, rfl, hsp⟩ := hrel
                obtain ⟨W6, rfl⟩ : ∃ x, x = wr := ⟨_, rfl⟩
                clear HS z3
                have z3 : W6.cell? ⟨w6.heap.size, 3, none⟩ = some (.slice q6 nq6 qc6) := hsp.box.cell 3
                by_cases ht : t < nq6
                · have hti : (t : Int) < (nq6 : Int) := by omega
                  obtain ⟨g1, rfl, -, ⟨u, cu⟩, fu⟩ := hsp.atC t ht
                  have HNX := hide (hsp.kid ht)
                  clear hsp
                  go_wp2
                  go_roundg (gk - 1)
                  case measure => omega
                  case rel => exact ⟨t + 1, by omega, by go_num, HNX.out⟩
                · have HBE := hide hsp.below
                  obtain ⟨hba, hbd⟩ := HBX.out W6 hsp.below
                  obtain ⟨y0, y1, y2, y3⟩ := box_ndc hba
                  obtain ⟨s0, s1, s2, s3⟩ := box_ndc hbd
                  clear hsp hba hbd
                  go_wp2_with (go_at_call 17; refine (HSE.out W6 HBE.out).mono ?_; rintro e w9 ⟨rfl, hb9⟩; have HB9 := hide hb9; clear HSE hb9)
                  go_ret
                  have hbw : Below w.heap.size w W6 := HB45.out.trans (HBE.out.mono HB45.out.size)
                  exact ⟨rfl, hbw.trans (HB9.out.mono hbw.size)⟩

end Go.Proofs.Yteadpfdopadfbaa
