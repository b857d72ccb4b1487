/- NodeBack, walked. -/
import Derived.Test.YthnppkeifhnceaaDoorNTrim
import Derived.Test.YthnppkeifhnceaaDoorNLive
import Derived.Test.YthnppkeifhnceaaDoorNSame
import Derived.Test.YthnppkeifhnceaaDoorNFew
namespace Go.Proofs.YthnppkeifhnceaaDoor
set_option maxRecDepth 20000
open Go.RowKit Go.Shelf
set_option linter.unusedVariables false
set_option linter.unusedSimpArgs false
set_option maxRecDepth 100000
attribute [local go_sem] Oper.semAt_some

theorem nds_1 {w : World} {v : Value} {n : Nd} (h : NdV w v n) {lf : Bool} {p k c : Value} (hv : v = .agg #[.bool lf, p, k, c]) : Nds (w.alloc (.cells #[.bool lf, p, k, c] 26)) w.heap.size [v] [n] := by
  refine ⟨rfl, fun i hi => ?_⟩
  obtain rfl : i = 0 := by simp at hi; omega
  refine ⟨h.alloc _, ?_⟩
  have hB := Blk.new w 26 [.bool lf, p, k, c]
  subst hv
  exact hB.range 0 _ (fun j hj => by rw [Nat.zero_add]; rfl)
theorem get_back {n : Nd} (h : checkN n = 0) : getE (putK n) (putB n) = 0 ∧ getN (putK n) (putB n) = n := by
  have hb := (back_pad h).1
  have hk : putK n = 3 ∨ putK n = 4 := by rw [check_kind h]; cases n.lf <;> simp
  have he : getE (putK n) (putB n) = 0 := by
    unfold getE
    rw [if_pos hk, hb, if_pos ⟨h, rfl⟩]
  refine ⟨he, ?_⟩
  unfold getN
  rw [if_pos he, hb]
theorem get_none {kind : Int} {zs : List Int} (h : getE kind zs ≠ 0) : getN kind zs = noNd := by unfold getN; rw [if_neg h]

set_option maxHeartbeats 8000000 in
theorem nodeBack_walk (w : World) (v : Value) (n : Nd) (kind : Int) (bv : Value) (zs : List Int) (hv : NdV w v n) (hk : (Lit.int .i64 kind).wf = true) (hb : Sl w bv zs) :
    Calls Tryd.prog 3 #[v, .int .i64 kind, bv] w fun e w' => e = .returned (.bool true) ∧ Below w.heap.size w w' := by
  have HLV := hide live_any
  have HFW : Hid (∀ w1, Below w.heap.size w w1 → ∀ lf p k c, v = .agg #[.bool lf, p, k, c] → Calls Tryd.prog 5 #[.slice (some ⟨w1.heap.size, 0, none⟩) 1 1] (w1.alloc (.cells #[.bool lf, p, k, c] 26)) fun e w' => e = .returned (.bool (fewN [n])) ∧ Below w1.heap.size w1 w') := fun w1 hb lf p k c he =>
    (few_any _ _ 1 [v] [n] (nds_1 (hv.below hb) he) (by simp)).mono fun e w' ⟨h1, h2⟩ => ⟨h1, after_alloc h2⟩
  have HPU : Hid (∀ w1, Below w.heap.size w w1 → Calls Tryd.prog 6 #[v] w1 fun e w' => ∃ a c, e = .returned (.tuple #[.int .i64 (putK n), .slice a (putB n).length c, .int .i64 (checkN n)]) ∧ ownsB w' w1.heap.size (.slice a (putB n).length c) (putB n) ∧ Below w1.heap.size w1 w') := fun w1 hb => (put_any w1 v n (hv.below hb)).mono fun e w' ⟨u, he, ho, hb'⟩ => by
    obtain ⟨a, c, rfl⟩ := own_form' ho
    exact ⟨a, c, he, ho, hb'⟩
  have HGT : Hid (zs.length ≤ 50000 → ∀ w1, Below w.heap.size w w1 → Calls Tryd.prog 7 #[.int .i64 kind, bv] w1 fun e w' => ∃ l p m c k mk kc q mq qc, e = .returned (.tuple #[.agg #[.bool l, .slice p m c, .slice k mk kc, .slice q mq qc], .int .i64 (getE kind zs)]) ∧ NdV w' (.agg #[.bool l, .slice p m c, .slice k mk kc, .slice q mq qc]) (getN kind zs) ∧ Below w1.heap.size w1 w') := fun hl w1 hb' => (get_any w1 kind bv zs (hb.below hb') hl).mono fun e w' ⟨u, he, hn, hb2⟩ => by
    obtain ⟨pa, np, pc, ka, nk, kc, ca, nc, cc, rfl⟩ := hn.form
    exact ⟨_, _, _, _, _, _, _, _, _, _, he, hn.val, hb2⟩
  have HGP : Hid (checkN n = 0 → ∀ w1 a c, Sl w1 (.slice a (putB n).length c) (putB n) → Calls Tryd.prog 7 #[.int .i64 (putK n), .slice a (putB n).length c] w1 fun e w' => ∃ l p m c k mk kc q mq qc, e = .returned (.tuple #[.agg #[.bool l, .slice p m c, .slice k mk kc, .slice q mq qc], .int .i64 0]) ∧ NdV w' (.agg #[.bool l, .slice p m c, .slice k mk kc, .slice q mq qc]) n ∧ Below w1.heap.size w1 w') := fun hc w1 a c hs => by
    refine (get_any w1 (putK n) _ (putB n) hs (by rw [(put_trim hc).1]; omega)).mono fun e w' ⟨u, he, hn, hb2⟩ => ?_
    rw [(get_back hc).1] at he
    rw [(get_back hc).2] at hn
    obtain ⟨pa, np, pc, ka, nk, kc, ca, nc, cc, rfl⟩ := hn.form
    exact ⟨_, _, _, _, _, _, _, _, _, _, he, hn.val, hb2⟩
  have HTL := hide (@get_tells kind zs)
  have HNO := hide (@get_none kind zs)
  have HV := hide hv
  have HBV := hide hb
  have HOK : Hid (ByteOk (putB n)) := putB_ok hv
  have HPT := hide (@put_trim n)
  have HEQ : Hid (∀ w1 u, Below w.heap.size w w1 → Sl w1 u zs → Calls Tryd.prog 11 #[u, bv] w1 fun e w' => e = .returned (.bool true) ∧ w' = w1) := fun w1 u hb' hs => by
    have := equal_any w1 u bv zs zs hs (hb.below hb')
    rw [decide_eq_true rfl] at this
    exact this
  have HBZ : Hid (ByteOk zs) := hb.bytes
  obtain ⟨pa, pc, ka, kc, ca, cc, xs, ys, rfl, hp1, hk1, hc1, hp2, hk2, hc2, hP, hK, hC⟩ := hv.open
  obtain ⟨a1, c1, rfl⟩ := sl_form' hb
  obtain ⟨L, hL0⟩ : ∃ L, L = zs.length := ⟨_, rfl⟩
  have HL0 := hide hL0
  rw [← hL0] at HGT HBV HEQ ⊢
  generalize fewN [n] = FW at *
  unfold ndv at HFW HPU HV ⊢
  obtain ⟨lf, hlf⟩ : ∃ l, l = n.lf := ⟨_, rfl⟩
  rw [← hlf] at HFW HPU HV ⊢
  generalize n.ps.length = np at *
  generalize n.ks.length = nk at *
  generalize n.cs.length = nc at *
  obtain ⟨w1, hw1, HB1, HBB, z0, z1, z2, z3⟩ := nd_box w lf (.slice pa np pc) (.slice ka nk kc) (.slice ca nc cc)
  have HFW1 : Hid (∀ w1, Below w.heap.size w w1 → Calls Tryd.prog 5 #[.slice (some ⟨w1.heap.size, 0, none⟩) 1 1] (w1.alloc (.cells #[.bool lf, .slice pa np pc, .slice ka nk kc, .slice ca nc cc] 26)) fun e w' => e = .returned (.bool FW) ∧ Below w1.heap.size w1 w') := fun w1 hb => HFW.out w1 hb _ _ _ _ rfl
  clear hv hb hP hK hC HFW hp1 hk1 hc1 hp2 hk2 hc2 hlf hL0
  cases FW with
  | false =>
    go_enter Tryd.func3, Tryd.ntmps3
    go_wp2_with (first
      | (go_at_call 5; refine (HFW1.out w2 HB2.out).mono ?_; rintro e w3 ⟨rfl, hb3⟩; have HB3 := hide (HB2.out.trans (hb3.mono HB2.out.size)); have HLV3 := hide (HLV.out w3); clear HFW1 hb3)
      | (go_at_call 4; refine HLV3.out.mono ?_; rintro e w4 ⟨rfl, hb4⟩; have HB4 := hide (HB3.out.trans (hb4.mono HB3.out.size)); clear HLV3 hb4)
      | (go_at_call 4; refine (HLV.out w1).mono ?_; rintro e w2 ⟨rfl, hb2⟩; have HB2 := hide (HB1.out.trans (hb2.mono HB1.out.size)); obtain ⟨y0, y1, y2, y3⟩ := box_ndc (HBB.out.below hb2 HBB.out.lt); clear hb2))
    go_ret
    exact ⟨rfl, HB4.out⟩
  | true =>
    by_cases hL : L ≤ 3000
    · have iL : ¬ (3000 : Int) < (L : Int) := by omega
      have HGT1 := hide (HGT.out (by have := HL0.out; omega))
      by_cases hC : checkN n = 0
      · rw [hC] at HPU
        have HGP1 := hide (HGP.out hC)
        obtain ⟨hpl, hpt⟩ := HPT.out hC
        rw [hpl] at HPU HGP1
        have HPT1 := hide hpt
        have HPL := hide hpl
        generalize putK n = PK at *
        clear HPT HGP HGT
        go_enter Tryd.func3, Tryd.ntmps3
        go_wp2_with (first | (go_at_call 4; refine (HLV.out w1).mono ?_; rintro e w2 ⟨rfl, hb2⟩; have HB2 := hide (HB1.out.trans (hb2.mono HB1.out.size)); have HBX2 := hide (HBB.out.below hb2 HBB.out.lt); obtain ⟨y0, y1, y2, y3⟩ := box_ndc HBX2.out; clear HLV hb2) | (go_at_call 5; refine (HFW1.out w2 HB2.out).mono ?_; rintro e w3 ⟨rfl, hb3⟩; have HB3 := hide (HB2.out.trans (hb3.mono HB2.out.size)); have HBX3 := hide (HBX2.out.below hb3 HBX2.out.lt); obtain ⟨x0, x1, x2, x3⟩ := box_ndc HBX3.out; clear HFW1 hb3) | (go_at_call 6; refine (HPU.out w3 HB3.out).mono ?_; rintro e w4 ⟨a4, c4, rfl, ho4, hb4⟩; have HO4 := hide ho4; have HB4 := hide (HB3.out.trans (hb4.mono HB3.out.size)); have HBX4 := hide (HBX3.out.below hb4 HBX3.out.lt); clear HPU hb4 ho4) | (go_at_call 7; refine (HGP1.out w4 a4 c4 (sl_of_own_len HO4.out HOK.out)).mono ?_; rintro e w5 ⟨l5, p5, n5, c5, k5, nk5, kc5, q5, nq5, qc5, rfl, hn5, hb5⟩; have HN5 := hide hn5; have HB5 := hide (HB4.out.trans (hb5.mono HB4.out.size)); have HB45 := hide hb5; have HBX5 := hide (HBX4.out.below hb5 HBX4.out.lt); obtain ⟨w6, hw6, HB6, HC6, s0, s1, s2, s3⟩ := nd_box w5 l5 (.slice p5 n5 c5) (.slice k5 nk5 kc5) (.slice q5 nq5 qc5); clear HGP1 hb5 hn5))
        have HB56 := hide (HB5.out.trans (HB6.out.mono HB5.out.size))
        have HBX6 := hide (HBX5.out.below HB6.out HBX5.out.lt)
        have HSA : Hid (∀ wx, Below w6.heap.size w6 wx → Calls Tryd.prog 8 #[.agg #[.bool l5, .slice p5 n5 c5, .slice k5 nk5 kc5, .slice q5 nq5 qc5], .agg #[.bool lf, .slice pa np pc, .slice ka nk kc, .slice ca nc cc]] wx fun e w' => e = .returned (.bool true) ∧ Below wx.heap.size wx w') := fun wx hb => by rw [← sameN_self n]; exact ndSame_any wx _ _ n n (HN5.out.below (HB6.out.trans (hb.mono HB6.out.size))) (HV.out.below (HB56.out.trans (hb.mono HB56.out.size)))
        have HSZ : Hid (∀ wx, Below w6.heap.size w6 wx → Calls Tryd.prog 10 #[.agg #[.bool lf, .slice pa np pc, .slice ka nk kc, .slice ca nc cc]] wx fun e w' => e = .returned (.int .i64 (sizeN n)) ∧ Below wx.heap.size wx w') := fun wx hb => size_any wx _ n (HV.out.below (HB56.out.trans (hb.mono HB56.out.size)))
        have HTR : Hid (∀ wx, Below w6.heap.size w6 wx → Calls Tryd.prog 9 #[.slice a4 240 c4, .string ⟨#[0]⟩] wx fun e w' => e = .returned (.slice a4 (trimN (putB n) 240) c4) ∧ w' = wx) := fun wx hb => by
          have hs := ((sl_of_own_len HO4.out HOK.out).below HB45.out).below (HB6.out.trans (hb.mono HB6.out.size))
          have := trimRight_any wx a4 c4 (putB n) (by rw [HPL.out]; exact hs) (by rw [HPL.out]; omega)
          rw [HPL.out] at this
          exact this
        generalize hTN : trimN (putB n) 240 = TN at *
        generalize hSN : sizeN n = SN at *
        have hts : ¬ (SN : Int) < (TN : Int) := by have := HPT1.out; omega
        clear hTN hSN s0 s1 s2 s3 x0 x1 x2 x3 y0 y1 y2 y3 hw1 hw6 z0 z1 z2 z3
        go_wp2
        refine wp_region_facts (FL [isV (.int .i64 (0 : Int)), isV (.bool false), isV (.bool false), isV (.agg #[.bool l5, .slice p5 n5 c5, .slice k5 nk5 kc5, .slice q5 nq5 qc5]), isV (.agg #[.bool lf, .slice pa np pc, .slice ka nk kc, .slice ca nc cc]), isV (.bool true), isV (.bool false), isV (.bool false), isV (.bool false), isV (.slice a4 240 c4), isV (.int .i64 (240 : Int)), isV (.bool false), isV (.bool false), isV (.bool false), isV (.slice a4 240 c4), isV (.slice a4 TN c4), isV (.int .i64 (TN : Int)), isV (.agg #[.bool lf, .slice pa np pc, .slice ka nk kc, .slice ca nc cc]), isV (.int .i64 (SN : Int)), isV (.bool false), isV (.bool false)]) 94 (by kernel_rfl) (by kernel_rfl) (by kernel_rfl) rfl (FL_stable _ (by repeat (first | exact trivial | refine ⟨stable_isV _, ?_⟩))) ?_ ?_
        · refine ⟨?_, ?_, ?_, ?_, ?_, ?_, ?_, ?_, ?_, ?_, ?_, ?_, ?_, ?_, ?_, ?_, ?_, ?_, ?_, ?_, ?_, trivial⟩
          · intro act wx h
            have e11 : act.eval (.tmp 11) = .int .i64 (0 : Int) := h.old 11 (by kernel_rfl)
            have hbel := h.below
            clear h
            refine gives_by rfl act.eval rfl ?_
            generalize act.eval = ρ at *
            intro hf hc
            go_simp
            exact ⟨Below.refl _ _, rfl⟩
          · intro act wx h
            obtain ⟨v44, e44, f44⟩ := h.val 0 44 (by kernel_rfl)
            obtain rfl : v44 = .int .i64 (0 : Int) := f44
            have hbel := h.below
            clear h
            refine gives_by rfl act.eval rfl ?_
            generalize act.eval = ρ at *
            intro hf hc
            go_simp
            exact ⟨Below.refl _ _, rfl⟩
          · intro act wx h
            obtain ⟨v45, e45, f45⟩ := h.val 1 45 (by kernel_rfl)
            obtain rfl : v45 = .bool false := f45
            have hbel := h.below
            clear h
            refine gives_by rfl act.eval rfl ?_
            generalize act.eval = ρ at *
            intro hf hc
            go_simp
            exact ⟨Below.refl _ _, rfl⟩
          · intro act wx h
            have e10 : act.eval (.tmp 10) = .pointer (some ⟨w5.heap.size, 0, none⟩) := h.old 10 (by kernel_rfl)
            have hg := h.guard 2 46 (by kernel_rfl) false (fun v hv => hv)
            have hbel := h.below
            clear h
            obtain ⟨x0, x1, x2, x3⟩ := box_ndc (HC6.out.below hbel HC6.out.lt)
            refine gives_by (by simp only [Region.wanted, hg]; rfl) act.eval rfl ?_
            generalize act.eval = ρ at *
            intro hf hc
            go_simp
            exact ⟨Below.refl _ _, rfl⟩
          · intro act wx h
            have e3 : act.eval (.tmp 3) = .pointer (some ⟨w.heap.size, 0, none⟩) := h.old 3 (by kernel_rfl)
            have hg := h.guard 2 46 (by kernel_rfl) false (fun v hv => hv)
            have hbel := h.below
            clear h
            obtain ⟨x0, x1, x2, x3⟩ := box_ndc (HBX6.out.below hbel HBX6.out.lt)
            refine gives_by (by simp only [Region.wanted, hg]; rfl) act.eval rfl ?_
            generalize act.eval = ρ at *
            intro hf hc
            go_simp
            exact ⟨Below.refl _ _, rfl⟩
          · intro act wx h
            obtain ⟨v47, e47, f47⟩ := h.val 3 47 (by kernel_rfl)
            obtain rfl : v47 = .agg #[.bool l5, .slice p5 n5 c5, .slice k5 nk5 kc5, .slice q5 nq5 qc5] := f47
            obtain ⟨v48, e48, f48⟩ := h.val 4 48 (by kernel_rfl)
            obtain rfl : v48 = .agg #[.bool lf, .slice pa np pc, .slice ka nk kc, .slice ca nc cc] := f48
            have hg := h.guard 2 46 (by kernel_rfl) false (fun v hv => hv)
            have hbel := h.below
            clear h
            refine gives_by (by simp only [Region.wanted, hg]; rfl) act.eval rfl ?_
            generalize act.eval = ρ at *
            intro hf hc
            go_simp
            exact call_gives (HSA.out wx hbel) (fun _ => rfl)
          · intro act wx h
            obtain ⟨v49, e49, f49⟩ := h.val 5 49 (by kernel_rfl)
            obtain rfl : v49 = .bool true := f49
            have hg := h.guard 2 46 (by kernel_rfl) false (fun v hv => hv)
            have hbel := h.below
            clear h
            refine gives_by (by simp only [Region.wanted, hg]; rfl) act.eval rfl ?_
            generalize act.eval = ρ at *
            intro hf hc
            go_simp
            exact ⟨Below.refl _ _, rfl⟩
          · intro act wx h
            obtain ⟨v46, e46, f46⟩ := h.val 2 46 (by kernel_rfl)
            obtain rfl : v46 = .bool false := f46
            obtain ⟨v50, e50, f50⟩ := h.val 6 50 (by kernel_rfl)
            obtain rfl : v50 = .bool false := f50
            have hbel := h.below
            clear h
            refine gives_by rfl act.eval rfl ?_
            generalize act.eval = ρ at *
            intro hf hc
            go_simp
            exact ⟨Below.refl _ _, rfl⟩
          · intro act wx h
            obtain ⟨v51, e51, f51⟩ := h.val 7 51 (by kernel_rfl)
            obtain rfl : v51 = .bool false := f51
            have hbel := h.below
            clear h
            refine gives_by rfl act.eval rfl ?_
            generalize act.eval = ρ at *
            intro hf hc
            go_simp
            exact ⟨Below.refl _ _, rfl⟩
          · intro act wx h
            have e8 : act.eval (.tmp 8) = .slice a4 240 c4 := h.old 8 (by kernel_rfl)
            have hg := h.guard 8 52 (by kernel_rfl) false (fun v hv => hv)
            have hbel := h.below
            clear h
            refine gives_by (by simp only [Region.wanted, hg]; rfl) act.eval rfl ?_
            generalize act.eval = ρ at *
            intro hf hc
            go_simp
            exact ⟨Below.refl _ _, rfl⟩
          · intro act wx h
            obtain ⟨v53, e53, f53⟩ := h.val 9 53 (by kernel_rfl)
            obtain rfl : v53 = .slice a4 240 c4 := f53
            have hg := h.guard 8 52 (by kernel_rfl) false (fun v hv => hv)
            have hbel := h.below
            clear h
            refine gives_by (by simp only [Region.wanted, hg]; rfl) act.eval rfl ?_
            generalize act.eval = ρ at *
            intro hf hc
            go_simp
            exact ⟨Below.refl _ _, rfl⟩
          · intro act wx h
            obtain ⟨v54, e54, f54⟩ := h.val 10 54 (by kernel_rfl)
            obtain rfl : v54 = .int .i64 (240 : Int) := f54
            have hg := h.guard 8 52 (by kernel_rfl) false (fun v hv => hv)
            have hbel := h.below
            clear h
            refine gives_by (by simp only [Region.wanted, hg]; rfl) act.eval rfl ?_
            generalize act.eval = ρ at *
            intro hf hc
            go_simp
            exact ⟨Below.refl _ _, rfl⟩
          · intro act wx h
            obtain ⟨v52, e52, f52⟩ := h.val 8 52 (by kernel_rfl)
            obtain rfl : v52 = .bool false := f52
            obtain ⟨v55, e55, f55⟩ := h.val 11 55 (by kernel_rfl)
            obtain rfl : v55 = .bool false := f55
            have hbel := h.below
            clear h
            refine gives_by rfl act.eval rfl ?_
            generalize act.eval = ρ at *
            intro hf hc
            go_simp
            exact ⟨Below.refl _ _, rfl⟩
          · intro act wx h
            obtain ⟨v56, e56, f56⟩ := h.val 12 56 (by kernel_rfl)
            obtain rfl : v56 = .bool false := f56
            have hbel := h.below
            clear h
            refine gives_by rfl act.eval rfl ?_
            generalize act.eval = ρ at *
            intro hf hc
            go_simp
            exact ⟨Below.refl _ _, rfl⟩
          · intro act wx h
            have e8 : act.eval (.tmp 8) = .slice a4 240 c4 := h.old 8 (by kernel_rfl)
            have hg := h.guard 13 57 (by kernel_rfl) false (fun v hv => hv)
            have hbel := h.below
            clear h
            refine gives_by (by simp only [Region.wanted, hg]; rfl) act.eval rfl ?_
            generalize act.eval = ρ at *
            intro hf hc
            go_simp
            exact ⟨Below.refl _ _, rfl⟩
          · intro act wx h
            obtain ⟨v58, e58, f58⟩ := h.val 14 58 (by kernel_rfl)
            obtain rfl : v58 = .slice a4 240 c4 := f58
            have hg := h.guard 13 57 (by kernel_rfl) false (fun v hv => hv)
            have hbel := h.below
            clear h
            refine gives_by (by simp only [Region.wanted, hg]; rfl) act.eval rfl ?_
            generalize act.eval = ρ at *
            intro hf hc
            go_simp
            exact call_gives ((HTR.out wx hbel).mono fun e w' ⟨h1, h2⟩ => ⟨h1, h2 ▸ Below.refl _ _⟩) (fun _ => rfl)
          · intro act wx h
            obtain ⟨v59, e59, f59⟩ := h.val 15 59 (by kernel_rfl)
            obtain rfl : v59 = .slice a4 TN c4 := f59
            have hg := h.guard 13 57 (by kernel_rfl) false (fun v hv => hv)
            have hbel := h.below
            clear h
            refine gives_by (by simp only [Region.wanted, hg]; rfl) act.eval rfl ?_
            generalize act.eval = ρ at *
            intro hf hc
            go_simp
            exact ⟨Below.refl _ _, rfl⟩
          · intro act wx h
            have e3 : act.eval (.tmp 3) = .pointer (some ⟨w.heap.size, 0, none⟩) := h.old 3 (by kernel_rfl)
            have hg := h.guard 13 57 (by kernel_rfl) false (fun v hv => hv)
            have hbel := h.below
            clear h
            obtain ⟨x0, x1, x2, x3⟩ := box_ndc (HBX6.out.below hbel HBX6.out.lt)
            refine gives_by (by simp only [Region.wanted, hg]; rfl) act.eval rfl ?_
            generalize act.eval = ρ at *
            intro hf hc
            go_simp
            exact ⟨Below.refl _ _, rfl⟩
          · intro act wx h
            obtain ⟨v61, e61, f61⟩ := h.val 17 61 (by kernel_rfl)
            obtain rfl : v61 = .agg #[.bool lf, .slice pa np pc, .slice ka nk kc, .slice ca nc cc] := f61
            have hg := h.guard 13 57 (by kernel_rfl) false (fun v hv => hv)
            have hbel := h.below
            clear h
            refine gives_by (by simp only [Region.wanted, hg]; rfl) act.eval rfl ?_
            generalize act.eval = ρ at *
            intro hf hc
            go_simp
            exact call_gives (HSZ.out wx hbel) (fun _ => rfl)
          · intro act wx h
            obtain ⟨v60, e60, f60⟩ := h.val 16 60 (by kernel_rfl)
            obtain rfl : v60 = .int .i64 (TN : Int) := f60
            obtain ⟨v62, e62, f62⟩ := h.val 18 62 (by kernel_rfl)
            obtain rfl : v62 = .int .i64 (SN : Int) := f62
            have hg := h.guard 13 57 (by kernel_rfl) false (fun v hv => hv)
            have hbel := h.below
            clear h
            refine gives_by (by simp only [Region.wanted, hg]; rfl) act.eval rfl ?_
            generalize act.eval = ρ at *
            intro hf hc
            go_simp
            exact ⟨Below.refl _ _, by rw [decide_eq_false (by omega)]; rfl⟩
          · intro act wx h
            obtain ⟨v57, e57, f57⟩ := h.val 13 57 (by kernel_rfl)
            obtain rfl : v57 = .bool false := f57
            obtain ⟨v63, e63, f63⟩ := h.val 19 63 (by kernel_rfl)
            obtain rfl : v63 = .bool false := f63
            have hbel := h.below
            clear h
            refine gives_by rfl act.eval rfl ?_
            generalize act.eval = ρ at *
            intro hf hc
            go_simp
            exact ⟨Below.refl _ _, rfl⟩
        · intro vals w8 hb8 hv
          have hv64 : vals 20 = .bool false := hv 20 64 (by kernel_rfl)
          clear hv
          generalize hact : putAll _ vals 0 _ = act
          have HB8 := hide (HB56.out.trans (hb8.mono HB56.out.size))
          clear hb8
          subst hact
          simp only [putAll, Act.put, List.setIfInBounds_toArray, List.set_cons_zero, List.set_cons_succ, hv64, Nat.zero_add, Nat.reduceAdd]
          clear hv64 HSA HSZ HTR HN5 HB45 HBX6 HC6 HO4
          have hza : ∀ wx : World, (zeroValue 26).run Tryd.prog wx = .ok (.agg #[.bool false, .slice none 0 0, .slice none 0 0, .slice none 0 0]) wx := fun wx => by kernel_rfl
          by_cases hE : getE kind zs = 0
          · have hT := HTL.out hE
            rw [hE] at HGT1
            obtain ⟨hT1, hT2, hT3, hT4⟩ := hT
            have HPU2 : Hid (∀ wx u, NdV wx u (getN kind zs) → Calls Tryd.prog 6 #[u] wx fun e w' => ∃ a c, e = .returned (.tuple #[.int .i64 kind, .slice a L c, .int .i64 0]) ∧ ownsB w' wx.heap.size (.slice a L c) zs ∧ Below wx.heap.size wx w') := fun wx u hu => (put_any wx u _ hu).mono fun e w' ⟨u', he, ho, hb'⟩ => by
              rw [hT2, hT3] at he
              rw [hT4] at ho
              obtain ⟨a, c, rfl⟩ := own_form' ho
              rw [← HL0.out] at he ho
              exact ⟨a, c, he, ho, hb'⟩
            generalize getN kind zs = G at *
            clear hT1 hT2 hT3 hT4 HTL HNO hE
            go_wp2_with (first | (go_at_call 7; refine (HGT1.out w8 HB8.out).mono ?_; rintro e w20 ⟨l9, p9, n9, c9, k9, nk9, kc9, q9, nq9, qc9, rfl, hn9, hb9⟩; have HN9 := hide hn9; have HB9 := hide (HB8.out.trans (hb9.mono HB8.out.size)); obtain ⟨w21, hw21, HB21, HC21, s0, s1, s2, s3⟩ := nd_box w20 l9 (.slice p9 n9 c9) (.slice k9 nk9 kc9) (.slice q9 nq9 qc9); have HB22 := hide (HB9.out.trans (HB21.out.mono HB9.out.size)); clear HGT1 hb9 hn9) | (go_at_call 6; refine (HPU2.out w21 _ (HN9.out.below HB21.out)).mono ?_; rintro e w22 ⟨a9, c9', rfl, ho9, hb9⟩; have HB23 := hide (HB22.out.trans (hb9.mono HB22.out.size)); have HS9 := hide (sl_of_own_len ho9 HBZ.out); clear HPU2 hb9 ho9) | (go_at_call 11; refine (HEQ.out w22 _ HB23.out HS9.out).mono ?_; rintro e w23 ⟨rfl, hw⟩; subst w23; clear HEQ))
            go_ret
            exact ⟨rfl, HB23.out⟩
          · have hN := HNO.out hE
            have hEb : (getE kind zs == 0) = false := by simpa using hE
            rw [hN] at HGT1
            have HSM : Hid (∀ wx u, NdV wx u noNd → Calls Tryd.prog 8 #[u, .agg #[.bool false, .slice none 0 0, .slice none 0 0, .slice none 0 0]] wx fun e w' => e = .returned (.bool true) ∧ Below wx.heap.size wx w') := fun wx u hu => by rw [← sameN_self noNd]; exact ndSame_any wx _ _ noNd noNd hu (NdV.none wx)
            generalize getE kind zs = E at *
            clear HTL HNO hN
            go_wp2_with (first | (go_at_call 7; refine (HGT1.out w8 HB8.out).mono ?_; rintro e w20 ⟨l9, p9, n9, c9, k9, nk9, kc9, q9, nq9, qc9, rfl, hn9, hb9⟩; have HN9 := hide hn9; have HB9 := hide (HB8.out.trans (hb9.mono HB8.out.size)); obtain ⟨w21, hw21, HB21, HC21, s0, s1, s2, s3⟩ := nd_box w20 l9 (.slice p9 n9 c9) (.slice k9 nk9 kc9) (.slice q9 nq9 qc9); have HB22 := hide (HB9.out.trans (HB21.out.mono HB9.out.size)); clear HGT1 hb9 hn9) | (go_at_call 8; refine (HSM.out w21 _ (HN9.out.below HB21.out)).mono ?_; rintro e w22 ⟨rfl, hb9⟩; have HB23 := hide (HB22.out.trans (hb9.mono HB22.out.size)); clear HSM hb9))
            go_ret
            exact ⟨rfl, HB23.out⟩
      · have hcb : (checkN n == 0) = false := by simpa using hC
        generalize putK n = PK at *
        generalize (putB n).length = PL at *
        generalize checkN n = C at *
        clear HPT HGP HGT
        by_cases hE : getE kind zs = 0
        · have hT := HTL.out hE
          rw [hE] at HGT1
          obtain ⟨hT1, hT2, hT3, hT4⟩ := hT
          have HPU2 : Hid (∀ wx u, NdV wx u (getN kind zs) → Calls Tryd.prog 6 #[u] wx fun e w' => ∃ a c, e = .returned (.tuple #[.int .i64 kind, .slice a L c, .int .i64 0]) ∧ ownsB w' wx.heap.size (.slice a L c) zs ∧ Below wx.heap.size wx w') := fun wx u hu => (put_any wx u _ hu).mono fun e w' ⟨u', he, ho, hb'⟩ => by
            rw [hT2, hT3] at he
            rw [hT4] at ho
            obtain ⟨a, c, rfl⟩ := own_form' ho
            rw [← HL0.out] at he ho
            exact ⟨a, c, he, ho, hb'⟩
          generalize getN kind zs = G at *
          clear hT1 hT2 hT3 hT4 HTL HNO hE
          have hza : ∀ wx : World, (zeroValue 26).run Tryd.prog wx = .ok (.agg #[.bool false, .slice none 0 0, .slice none 0 0, .slice none 0 0]) wx := fun wx => by kernel_rfl
          go_enter Tryd.func3, Tryd.ntmps3
          go_wp2_with (first | (go_at_call 4; refine (HLV.out w1).mono ?_; rintro e w2 ⟨rfl, hb2⟩; have HB2 := hide (HB1.out.trans (hb2.mono HB1.out.size)); have HBX2 := hide (HBB.out.below hb2 HBB.out.lt); obtain ⟨y0, y1, y2, y3⟩ := box_ndc HBX2.out; clear HLV hb2) | (go_at_call 5; refine (HFW1.out w2 HB2.out).mono ?_; rintro e w3 ⟨rfl, hb3⟩; have HB3 := hide (HB2.out.trans (hb3.mono HB2.out.size)); have HBX3 := hide (HBX2.out.below hb3 HBX2.out.lt); obtain ⟨x0, x1, x2, x3⟩ := box_ndc HBX3.out; clear HFW1 hb3) | (go_at_call 6; refine (HPU.out w3 HB3.out).mono ?_; rintro e w4 ⟨a4, c4, rfl, ho4, hb4⟩; have HO4 := hide ho4; have HB4 := hide (HB3.out.trans (hb4.mono HB3.out.size)); have HBX4 := hide (HBX3.out.below hb4 HBX3.out.lt); clear HPU hb4 ho4) | (go_at_call 7; refine (HGT1.out w4 HB4.out).mono ?_; rintro e w20 ⟨l9, p9, n9, c9, k9, nk9, kc9, q9, nq9, qc9, rfl, hn9, hb9⟩; have HN9 := hide hn9; have HB9 := hide (HB4.out.trans (hb9.mono HB4.out.size)); obtain ⟨w21, hw21, HB21, HC21, s0, s1, s2, s3⟩ := nd_box w20 l9 (.slice p9 n9 c9) (.slice k9 nk9 kc9) (.slice q9 nq9 qc9); have HB22 := hide (HB9.out.trans (HB21.out.mono HB9.out.size)); clear HGT1 hb9 hn9) | (go_at_call 6; refine (HPU2.out w21 _ (HN9.out.below HB21.out)).mono ?_; rintro e w22 ⟨a9, c9', rfl, ho9, hb9⟩; have HB23 := hide (HB22.out.trans (hb9.mono HB22.out.size)); have HS9 := hide (sl_of_own_len ho9 HBZ.out); clear HPU2 hb9 ho9) | (go_at_call 11; refine (HEQ.out w22 _ HB23.out HS9.out).mono ?_; rintro e w23 ⟨rfl, hw⟩; subst w23; clear HEQ))
          go_ret
          exact ⟨rfl, HB23.out⟩
        · have hN := HNO.out hE
          have hEb : (getE kind zs == 0) = false := by simpa using hE
          rw [hN] at HGT1
          have HSM : Hid (∀ wx u, NdV wx u noNd → Calls Tryd.prog 8 #[u, .agg #[.bool false, .slice none 0 0, .slice none 0 0, .slice none 0 0]] wx fun e w' => e = .returned (.bool true) ∧ Below wx.heap.size wx w') := fun wx u hu => by rw [← sameN_self noNd]; exact ndSame_any wx _ _ noNd noNd hu (NdV.none wx)
          generalize getE kind zs = E at *
          clear HTL HNO hN
          have hza : ∀ wx : World, (zeroValue 26).run Tryd.prog wx = .ok (.agg #[.bool false, .slice none 0 0, .slice none 0 0, .slice none 0 0]) wx := fun wx => by kernel_rfl
          go_enter Tryd.func3, Tryd.ntmps3
          go_wp2_with (first | (go_at_call 4; refine (HLV.out w1).mono ?_; rintro e w2 ⟨rfl, hb2⟩; have HB2 := hide (HB1.out.trans (hb2.mono HB1.out.size)); have HBX2 := hide (HBB.out.below hb2 HBB.out.lt); obtain ⟨y0, y1, y2, y3⟩ := box_ndc HBX2.out; clear HLV hb2) | (go_at_call 5; refine (HFW1.out w2 HB2.out).mono ?_; rintro e w3 ⟨rfl, hb3⟩; have HB3 := hide (HB2.out.trans (hb3.mono HB2.out.size)); have HBX3 := hide (HBX2.out.below hb3 HBX2.out.lt); obtain ⟨x0, x1, x2, x3⟩ := box_ndc HBX3.out; clear HFW1 hb3) | (go_at_call 6; refine (HPU.out w3 HB3.out).mono ?_; rintro e w4 ⟨a4, c4, rfl, ho4, hb4⟩; have HO4 := hide ho4; have HB4 := hide (HB3.out.trans (hb4.mono HB3.out.size)); have HBX4 := hide (HBX3.out.below hb4 HBX3.out.lt); clear HPU hb4 ho4) | (go_at_call 7; refine (HGT1.out w4 HB4.out).mono ?_; rintro e w20 ⟨l9, p9, n9, c9, k9, nk9, kc9, q9, nq9, qc9, rfl, hn9, hb9⟩; have HN9 := hide hn9; have HB9 := hide (HB4.out.trans (hb9.mono HB4.out.size)); obtain ⟨w21, hw21, HB21, HC21, s0, s1, s2, s3⟩ := nd_box w20 l9 (.slice p9 n9 c9) (.slice k9 nk9 kc9) (.slice q9 nq9 qc9); have HB22 := hide (HB9.out.trans (HB21.out.mono HB9.out.size)); clear HGT1 hb9 hn9) | (go_at_call 8; refine (HSM.out w21 _ (HN9.out.below HB21.out)).mono ?_; rintro e w22 ⟨rfl, hb9⟩; have HB23 := hide (HB22.out.trans (hb9.mono HB22.out.size)); clear HSM hb9))
          go_ret
          exact ⟨rfl, HB23.out⟩
    · have iL : (3000 : Int) < (L : Int) := by omega
      go_enter Tryd.func3, Tryd.ntmps3
      go_wp2_with (first
        | (go_at_call 5; refine (HFW1.out w2 HB2.out).mono ?_; rintro e w3 ⟨rfl, hb3⟩; have HB3 := hide (HB2.out.trans (hb3.mono HB2.out.size)); have HLV3 := hide (HLV.out w3); clear HFW1 hb3)
        | (go_at_call 4; refine HLV3.out.mono ?_; rintro e w4 ⟨rfl, hb4⟩; have HB4 := hide (HB3.out.trans (hb4.mono HB3.out.size)); clear HLV3 hb4)
        | (go_at_call 4; refine (HLV.out w1).mono ?_; rintro e w2 ⟨rfl, hb2⟩; have HB2 := hide (HB1.out.trans (hb2.mono HB1.out.size)); obtain ⟨y0, y1, y2, y3⟩ := box_ndc (HBB.out.below hb2 HBB.out.lt); clear hb2))
      go_ret
      exact ⟨rfl, HB4.out⟩

end Go.Proofs.YthnppkeifhnceaaDoor
