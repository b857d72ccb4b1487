/- The walk of the statement HeadBack. -/
import Derived.Test.YtmeiahmolmneeaaDoorHShort
namespace Go.Proofs.YtmeiahmolmneeaaDoor
set_option maxRecDepth 20000
open Go.RowKit
set_option linter.unusedVariables false

theorem parts_blk {w : World} {g : Nat} {vs : List Value} {pss : List (List Int)} (hg : Blk w g 24 vs) (hl : vs.length = pss.length) (hm : vs.length ≤ 1000) (h : ∀ i, i < vs.length → Sl w (vs.getD i (.slice none 0 0)) (pss.getD i [])) : Parts w (.slice (some ⟨g, 0, none⟩) vs.length vs.length) vs pss := by
  refine ⟨hl, some ⟨g, 0, none⟩, vs.length, rfl, Nat.le_refl _, by unfold maxLen; omega, h, fun _ => ⟨g, 0, rfl, fun i hi => ?_⟩⟩
  rw [hg.cell, Nat.zero_add, List.getElem?_eq_getElem hi]
  simp [List.getD, hi]

/-- a page at the place where it belongs, and none at the other one -/
def vsR (R : Nat) (v : Value) : List Value := if R = 0 then [v, .slice none 0 0] else [.slice none 0 0, v]
def psR (R : Nat) (zs : List Int) : List (List Int) := if R = 0 then [zs, []] else [[], zs]
theorem set_vsR (R : Nat) (v : Value) (hR : R < 2) : [Value.slice none 0 0, .slice none 0 0].set R v = vsR R v := by
  rcases (by omega : R = 0 ∨ R = 1) with rfl | rfl <;> rfl
theorem parts_R {w : World} {g R : Nat} {v : Value} {zs : List Int} (hg : Blk w g 24 (vsR R v)) (hR : R < 2) (h : Sl w v zs) : Parts w (.slice (some ⟨g, 0, none⟩) 2 2) (vsR R v) (psR R zs) := by
  rcases (by omega : R = 0 ∨ R = 1) with rfl | rfl
  · exact parts_blk (vs := [v, .slice none 0 0]) (pss := [zs, []]) hg rfl (by simp) (fun i hi => by
      match i, hi with
      | 0, _ => exact h
      | 1, _ => exact Sl.nil w)
  · exact parts_blk (vs := [.slice none 0 0, v]) (pss := [[], zs]) hg rfl (by simp) (fun i hi => by
      match i, hi with
      | 0, _ => exact Sl.nil w
      | 1, _ => exact h)

theorem choose_two (pages : Int) (a b : List Int) : chooseS pages [a, b] = stepC (stepC ⟨noHd, 0, 60⟩ 0 (atB 0 a pages) (atH 0 a pages)) 1 (atB 1 b pages) (atH 1 b pages) := rfl
theorem choose_R (h : Hd) (hm : mayB h.p h.ms h.us.length = true) (he : h.e < 18446744073709551616) : chooseS h.p (psR (h.e % 2) (layS h)) = ⟨h, ((h.e % 2 : Nat) : Int), 0⟩ := by
  have hs0 := at_short 0 [] h.p (by simp)
  have hs1 := at_short 1 [] h.p (by simp)
  rcases (by omega : h.e % 2 = 0 ∨ h.e % 2 = 1) with hR | hR
  · obtain ⟨h1, h2⟩ := at_lay h hm he 0 h.p
    rw [decide_eq_true ⟨hR, rfl⟩] at h1
    rw [hR]
    show chooseS h.p [layS h, []] = _
    rw [choose_two, h1, h2 hR rfl, stepC_yes rfl (.inl (by simp)), hs1, stepC_no (by simp)]
  · obtain ⟨h1, h2⟩ := at_lay h hm he 1 h.p
    rw [decide_eq_true ⟨hR, rfl⟩] at h1
    rw [hR]
    show chooseS h.p [[], layS h] = _
    have s0 : stepC ⟨noHd, 0, 60⟩ 0 (atB 0 [] h.p) (atH 0 [] h.p) = ⟨noHd, 0, 60⟩ := by rw [hs0]; exact stepC_no (by simp)
    rw [choose_two, s0, h1, h2 hR rfl, stepC_yes rfl (.inl (by simp))]

theorem infoSl : (Tryd.prog.info? 24).map (fun i => (i.zero, i.size, i.bytes)) = some (some (.slice none 0 0), 1, 24) := by kernel_rfl
theorem make_two (wx : World) : (Instr.makeSlice 40 (.int .i64 2) (.int .i64 2)).run Tryd.prog wx = .ok (.slice (some ⟨wx.heap.size, 0, none⟩) 2 2) (wx.alloc (.cells #[.slice none 0 0, .slice none 0 0] 24)) := by
  have := run_make_row' (P := Tryd.prog) 40 24 (.slice none 0 0) 24 Tryd.underlying40 infoSl rfl .i64 .i64 2 (by omega) (by omega) wx
  rw [show madeCells #[Value.slice none 0 0] 2 = #[.slice none 0 0, .slice none 0 0] from Array.toList_inj.1 (toList_madeCells_one _ _)] at this
  exact this

theorem and1R (R : Nat) (hR : R < 2) : bits .and .i64 (R : Int) 1 = (R : Int) := by
  rcases (by omega : R = 0 ∨ R = 1) with rfl | rfl <;> decide

/-- a head that comes in -/
def HdIn (w : World) (v : Value) (h : Hd) : Prop := HdV w v h

def isOwnN (B : Nat) (zs : List Int) : Value → World → Prop := fun v w => ∃ a c, v = .slice a zs.length c ∧ w.ownsRow B 5 1 (.slice a zs.length c) zs.length (zs.map (Value.int .u8))

set_option maxHeartbeats 4000000 in
theorem headBack_walk (w : World) (v : Value) (h : Hd) (ep : Nat) (bv : Value) (bs : List Int) (hv : HdIn w v h) (hep : ep < 18446744073709551616) (hbs : Sl w bv bs) (hT : Tab w) :
    Calls Tryd.prog 6 #[v, .int .u64 ep, bv] w fun e w' => e = .returned (.bool true) ∧ Below w.heap.size w w' := by
  obtain ⟨ma, mc, ua, uc, rfl, hI, hU, he⟩ := hv
  obtain ⟨e, p, ms, us⟩ := h
  simp only at hI hU he ⊢
  unfold hdV
  obtain ⟨M, hM⟩ : ∃ M, M = ms.length := ⟨_, rfl⟩
  obtain ⟨N, hN⟩ : ∃ N, N = us.length := ⟨_, rfl⟩
  rw [← hM] at hI ⊢
  rw [← hN] at hU ⊢
  obtain ⟨ba, bc, rfl⟩ := sl_form' hbs
  obtain ⟨cs, hcs⟩ : ∃ cs : List Value, cs = [.int .u64 e, .int .i64 p, .slice ma M mc, .slice ua N uc] := ⟨_, rfl⟩
  have HN0 : Hid (Bh w (w.alloc (.cells #[.int .u64 e, .int .i64 p, .slice ma M mc, .slice ua N uc] 26)) cs) := by show Bh _ _ _; rw [hcs]; exact Bh.new w _
  have HL := hide (live_bh w cs hT)
  have HCE : Hid (∀ w1, Bh w w1 cs → w1.cell? ⟨w.heap.size, 0, none⟩ = some (.int .u64 e) ∧ w1.cell? ⟨w.heap.size, 1, none⟩ = some (.int .i64 p) ∧ w1.cell? ⟨w.heap.size, 2, none⟩ = some (.slice ma M mc) ∧ w1.cell? ⟨w.heap.size, 3, none⟩ = some (.slice ua N uc)) := fun w1 hb => box_cells (hcs ▸ hb.2)
  have HV : Hid (∀ w1, Below w.heap.size w w1 → HdV w1 (.agg #[.int .u64 e, .int .i64 p, .slice ma M mc, .slice ua N uc]) ⟨e, p, ms, us⟩) := fun w1 hb => ⟨ma, mc, ua, uc, by rw [hM, hN]; rfl, by rw [← hM]; exact hI.below hb, by rw [← hN]; exact hU.below hb, he⟩
  have HS : Hid (∀ w1, Bh w w1 cs → Calls Tryd.prog 10 #[.slice (some ⟨w1.heap.size, 0, none⟩) 1 1] (w1.alloc (.cells #[.int .u64 e, .int .i64 p, .slice ma M mc, .slice ua N uc] 26)) fun r w2 => r = .returned (.bool (decide (M ≤ 100 ∧ N ≤ 3000))) ∧ Bh w w2 cs) := fun w1 hb => by
    refine (short_one w1 ⟨e, p, ma, M, mc, ua, N, uc⟩).mono ?_
    rintro r w2 ⟨rfl, hb2⟩
    exact ⟨rfl, hb.below hb2⟩
  have HBS : Hid (∀ w1, Below w.heap.size w w1 → Sl w1 (.slice ba bs.length bc) bs) := fun w1 hb => hbs.below hb
  have hza := zeroHeadRun
  have HMM := hide hM
  have HNN := hide hN
  clear hcs hM hN
  by_cases hsh : M ≤ 100 ∧ N ≤ 3000
  · rw [decide_eq_true hsh] at HS
    by_cases hbl : bs.length ≤ 3000
    · have hbi : decide ((3000 : Int) < (bs.length : Int)) = false := decide_eq_false (by omega)
      have HG2 : Hid (∀ w1, Below w.heap.size w w1 → Calls Tryd.prog 23 #[.int .u64 ep, .slice ba bs.length bc] w1 (GivesH w1 (getH ep bs) (getE ep bs))) := fun w1 hb => hget_any w1 ep _ bs (hbs.below hb) (by omega) hep
      have HMAY := hide (hcheckS_zero (p := p) (ms := ms) (n := us.length))
      have HY2 := fun hg => hide (getH_yes (e := ep) (zs := bs) hg)
      cases hg : getB ep bs with
      | false =>
        have hE : getE ep bs = 60 := by unfold getE; rw [hg]; rfl
        have hH : getH ep bs = noHd := by unfold getH; rw [hg]; rfl
        rw [hE, hH] at HG2
        have HSM : Hid (∀ w1 v1, HdV w1 v1 noHd → Calls Tryd.prog 17 #[v1, .agg #[.int .u64 0, .int .i64 0, .slice none 0 0, .slice none 0 0]] w1 fun r w' => r = .returned (.bool true) ∧ Below w1.heap.size w1 w') := fun w1 v1 h1 => by
          have := hsame_any w1 v1 _ noHd noHd h1 (HdV.no w1)
          rwa [sameH_self] at this
        clear HY2 hE hH hg
        cases hm : mayB p ms us.length with
        | false =>
          have HPU : Hid (∀ w1, Bh w w1 cs → Calls Tryd.prog 11 #[.agg #[.int .u64 e, .int .i64 p, .slice ma M mc, .slice ua N uc]] w1 fun r w2 => r = .returned (.tuple #[.slice none 0 0, .int .i64 60]) ∧ Bh w w2 cs) := fun w1 hb => by
            have := hput_bad w1 e p ma ua mc us.length uc ms (by rw [← HMM.out]; exact hI.below hb.1) hm
            unfold hdV at this
            rw [← HMM.out, ← HNN.out] at this
            refine this.mono ?_
            rintro r w2 ⟨rfl, hb2⟩
            exact ⟨rfl, hb.below hb2⟩
          clear hbs hI hU hT hm
          go_enter Tryd.func6, Tryd.ntmps6
          go_wp2_with (first
            | (go_at_call 9; refine (HL.out _ HN0.out).mono ?_; rintro e1 w1 ⟨rfl, b1⟩; have HS1 := hide (HS.out w1 b1); obtain ⟨c0, c1, c2, c3⟩ := HCE.out w1 b1; clear HN0 HS b1)
            | (go_at_call 10; refine HS1.out.mono ?_; rintro e1 w2 ⟨rfl, b2⟩; clear c0 c1 c2 c3; obtain ⟨c0, c1, c2, c3⟩ := HCE.out w2 b2; have HP2 := hide (HPU.out w2 b2); clear HS1 HPU b2)
            | (go_at_call 11; refine HP2.out.mono ?_; rintro e1 w3 ⟨rfl, b3⟩; clear c0 c1 c2 c3; have HG3 := hide (HG2.out w3 b3.1); have HB3 := hide b3.1; clear HP2 HG2 b3)
            | (go_at_call 23; refine HG3.out.mono ?_; rintro e1 w8 ⟨ma8, mc8, ua8, uc8, rfl, hv8, b8⟩; have HM8 := hide (HSM.out _ _ (hv8.val.alloc (.cells #[.int .u64 0, .int .i64 0, .slice ma8 0 mc8, .slice ua8 0 uc8] 26))); have hB8 := HB3.out.trans (b8.mono HB3.out.size); have HB8 := hide (hB8.alloc hB8.size (.cells #[.int .u64 0, .int .i64 0, .slice ma8 0 mc8, .slice ua8 0 uc8] 26)); unfold hdV noHd; clear HG3 HSM HB3 hv8 b8 hB8)
            | (go_at_call 17; refine HM8.out.mono ?_; rintro e1 w9 ⟨rfl, b9⟩; have HB9 := hide (HB8.out.trans (b9.mono HB8.out.size)); clear HM8 HB8 b9))
          go_ret
          exact ⟨rfl, HB9.out⟩
        | true =>
          have hbok := bearS_ok hm hU.bytes
          have hbl2 := bearS_len hm
          obtain ⟨D, hD⟩ : ∃ D, D = bearS p ms us := ⟨_, rfl⟩
          have HPU : Hid (∀ w1, Bh w w1 cs → Calls Tryd.prog 11 #[.agg #[.int .u64 e, .int .i64 p, .slice ma M mc, .slice ua N uc]] w1 fun r w2 => ∃ g, r = .returned (.tuple #[.slice (some ⟨g, 0, none⟩) 240 240, .int .i64 0]) ∧ Bh w w2 cs ∧ Sl w2 (.slice (some ⟨g, 0, none⟩) 240 240) D) := fun w1 hb => by
            refine (hput_ok w1 _ ⟨e, p, ms, us⟩ (HV.out w1 hb.1) hm).mono ?_
            rintro r w2 ⟨g, rfl, _, hk, hb2⟩
            refine ⟨g, rfl, hb.below hb2, ?_⟩
            rw [hD]
            exact sl_blk hk hbok hbl2 (by unfold maxLen; omega)
          have HGG : Hid (∀ w1 g, Sl w1 (.slice (some ⟨g, 0, none⟩) 240 240) D → Calls Tryd.prog 23 #[.int .u64 e, .slice (some ⟨g, 0, none⟩) 240 240] w1 fun r w2 => ∃ ma' mc' ua' uc', r = .returned (.tuple #[.agg #[.int .u64 e, .int .i64 p, .slice ma' M mc', .slice ua' N uc'], .int .i64 0]) ∧ HdV w2 (.agg #[.int .u64 e, .int .i64 p, .slice ma' M mc', .slice ua' N uc']) ⟨e, p, ms, us⟩ ∧ Below w1.heap.size w1 w2) := fun w1 g hs => by
            refine (hget_any w1 e _ D hs (by rw [hD, hbl2]; omega) he).mono ?_
            rintro r w2 ⟨ma', mc', ua', uc', hr, hv2, hb2⟩
            obtain ⟨q1, q2⟩ := getH_bear e p ms us hm
            rw [hD, q1, q2] at hr
            rw [hD, q1] at hv2
            refine ⟨ma', mc', ua', uc', ?_, ?_, hb2⟩
            · rw [HMM.out, HNN.out]; exact hr
            · have := hv2.val
              rw [HMM.out, HNN.out]; exact this
          have HLY : Hid (∀ w1, Below w.heap.size w w1 → Calls Tryd.prog 27 #[.agg #[.int .u64 e, .int .i64 p, .slice ma M mc, .slice ua N uc]] w1 fun r w2 => ∃ u, r = .returned u ∧ isOwnN w1.heap.size (layS ⟨e, p, ms, us⟩) u w2 ∧ Below w1.heap.size w1 w2) := fun w1 hb => by
            refine (lay_any w1 _ ⟨e, p, ms, us⟩ (HV.out w1 hb) hm (hT.below hb)).mono ?_
            rintro r w2 ⟨a, c, rfl, ho, hb2⟩
            exact ⟨_, rfl, ⟨a, c, by rw [layS_len], by rw [layS_len]; exact ho⟩, hb2⟩
          have hlok : ByteOk (layS ⟨e, p, ms, us⟩) := layS_ok hm hU.bytes
          have hcho := choose_R ⟨e, p, ms, us⟩ hm he
          simp only at hcho
          obtain ⟨R, hR⟩ : ∃ R, R = e % 2 := ⟨_, rfl⟩
          rw [← hR] at hcho
          have hR2 : R < 2 := by omega
          have HCO : Hid (∀ w1 C u, Blk w1 C 24 (vsR R u) → Sl w1 u (layS ⟨e, p, ms, us⟩) → Below w.heap.size w w1 → Calls Tryd.prog 25 #[.int .i64 p, .slice (some ⟨C, 0, none⟩) 2 2] w1 fun r w2 => ∃ ma' mc' ua' uc', r = .returned (.tuple #[.agg #[.int .u64 e, .int .i64 p, .slice ma' M mc', .slice ua' N uc'], .int .i64 (R : Int), .int .i64 0]) ∧ HdV w2 (.agg #[.int .u64 e, .int .i64 p, .slice ma' M mc', .slice ua' N uc']) ⟨e, p, ms, us⟩ ∧ Below w1.heap.size w1 w2) := fun w1 C u h1 h2 hb => by
            refine (choose_any w1 p _ _ _ (parts_R h1 hR2 h2) (hT.below hb)).mono ?_
            rintro r w2 ⟨ma', mc', ua', uc', hr, hv2, hb2⟩
            rw [hcho] at hr hv2
            refine ⟨ma', mc', ua', uc', ?_, ?_, hb2⟩
            · rw [HMM.out, HNN.out]; exact hr
            · have := hv2.val
              rw [HMM.out, HNN.out]; exact this
          have HSA : Hid (∀ w1 v1, HdV w1 v1 ⟨e, p, ms, us⟩ → Below w.heap.size w w1 → Calls Tryd.prog 17 #[v1, .agg #[.int .u64 e, .int .i64 p, .slice ma M mc, .slice ua N uc]] w1 fun r w2 => r = .returned (.bool true) ∧ Below w1.heap.size w1 w2) := fun w1 v1 h1 hb => by
            have := hsame_any w1 v1 _ _ _ h1 (HV.out w1 hb)
            rwa [sameH_self] at this
          have HPG := hide (fun wx => hpage_any wx e)
          rw [← hR] at HPG
          have hRi : (e : Int) % 2 = (R : Int) := by omega
          have HAN := hide (and1R R hR2)
          have HOK := hide hlok
          have HRI := hide hRi
          obtain ⟨LY, hLY⟩ : ∃ L, L = layS ⟨e, p, ms, us⟩ := ⟨_, rfl⟩
          rw [← hLY] at HLY HCO HOK
          have hmk := make_two
          clear hbs hI hU hT hm hbok hbl2 hD hlok hcho hR hRi hLY
          go_enter Tryd.func6, Tryd.ntmps6
          go_wp2_with (first
            | (go_at_call 9; refine (HL.out _ HN0.out).mono ?_; rintro e1 w1 ⟨rfl, b1⟩; have HS1 := hide (HS.out w1 b1); obtain ⟨c0, c1, c2, c3⟩ := HCE.out w1 b1; clear HN0 HS b1)
            | (go_at_call 10; refine HS1.out.mono ?_; rintro e1 w2 ⟨rfl, b2⟩; clear c0 c1 c2 c3; obtain ⟨c0, c1, c2, c3⟩ := HCE.out w2 b2; have HP2 := hide (HPU.out w2 b2); clear HS1 HPU b2)
            | (go_at_call 11; refine HP2.out.mono ?_; rintro e1 w3 ⟨g3, rfl, b3, s3⟩; clear c0 c1 c2 c3; obtain ⟨c0, c1, c2, c3⟩ := HCE.out w3 b3; have HG3' := hide (HGG.out w3 g3 s3); have HB3' := hide b3; clear HP2 HGG b3 s3)
            | (go_at_call 23; refine HG3'.out.mono ?_; rintro e1 w4 ⟨ma4, mc4, ua4, uc4, rfl, hv4, b4⟩; clear c0 c1 c2 c3; have hb4 := HB3'.out.below b4; have hsz4 := hb4.2.lt; have HB5 := hide ((hb4.alloc (.cells #[.int .u64 e, .int .i64 p, .slice ma4 M mc4, .slice ua4 N uc4] 26)).alloc (.cells #[.slice none 0 0, .slice none 0 0] 24)); have HV4 := hide hv4; have HY5 := hide ((Blk.new w4 26 [.int .u64 e, .int .i64 p, .slice ma4 M mc4, .slice ua4 N uc4]).alloc (.cells #[.slice none 0 0, .slice none 0 0] 24)); have HC5 := hide (Blk.new (w4.alloc (.cells #[.int .u64 e, .int .i64 p, .slice ma4 M mc4, .slice ua4 N uc4] 26)) 24 [.slice none 0 0, .slice none 0 0]); have HB45 := hide ((((Below.refl _ w4).alloc (Nat.le_refl _) (.cells #[.int .u64 e, .int .i64 p, .slice ma4 M mc4, .slice ua4 N uc4] 26))).alloc (by simp) (.cells #[.slice none 0 0, .slice none 0 0] 24)); clear HG3' HB3' hv4 b4 hb4))
          rw [World.size_alloc] at HC5
          obtain ⟨W5, hW5⟩ : ∃ W, W = (w4.alloc (.cells #[.int .u64 e, .int .i64 p, .slice ma4 M mc4, .slice ua4 N uc4] 26)).alloc (.cells #[.slice none 0 0, .slice none 0 0] 24) := ⟨_, rfl⟩
          rw [← hW5] at HB5 HY5 HC5 HB45
          rw [← hW5]
          clear hW5
          refine wp_region_only (fun _ => False) [isV (.slice (some ⟨w4.heap.size + 1, 0, none⟩) 2 2), isV (.pointer (some ⟨w.heap.size, 0, none⟩)), isV (.int .u64 (e : Int)), isV (.int .i64 (R : Int)), isV (.int .i64 (R : Int)), isV (.agg #[.int .u64 e, .int .i64 p, .slice ma M mc, .slice ua N uc]), isOwnN W5.heap.size LY, isV (.pointer (some ⟨w4.heap.size + 1, R, none⟩))] 99 112 8 (by kernel_rfl) (by kernel_rfl) (by kernel_rfl) (by kernel_rfl) rfl ?_ ?_ ?_
          · repeat (first | exact trivial | refine allStL_isV ?_ | refine ⟨fun v w1 w2 ho ⟨x, y, h1, h2⟩ => ⟨x, y, h1, ownsRow_only h2 ho (fun k hk hh => hh)⟩, fun _ v w1 w2 ho ⟨x, y, h1, h2⟩ => ⟨x, y, h1, ownsRow_only h2 ho (fun k hk hh => hh)⟩, ?_⟩)
          · refine ⟨?_, ?_, ?_, ?_, ?_, ?_, ?_, ?_, trivial⟩
            · intro act wx h
              have e11 : act.eval (.tmp 11) = .slice (some ⟨w4.heap.size + 1, 0, none⟩) 2 2 := h.old 11 (by kernel_rfl)
              have hrel := h.rel
              clear h
              refine gives_by rfl act.eval rfl ?_
              generalize act.eval = ρ at *
              intro hf hc
              go_simp
              exact ⟨relM_quiet (by decide) (Only.refl _ _), rfl⟩
            · intro act wx h
              have e3 : act.eval (.tmp 3) = .pointer (some ⟨w.heap.size, 0, none⟩) := h.old 3 (by kernel_rfl)
              have hrel := h.rel
              clear h
              refine gives_by rfl act.eval rfl ?_
              generalize act.eval = ρ at *
              intro hf hc
              go_simp
              exact ⟨relM_quiet (by decide) (Only.refl _ _), rfl⟩
            · intro act wx h
              obtain ⟨v48, e48, f48⟩ := h.val 1 48 (by kernel_rfl)
              obtain rfl : v48 = .pointer (some ⟨w.heap.size, 0, none⟩) := f48
              have hrel := h.rel
              clear h
              obtain ⟨x0, x1, x2, x3⟩ := HCE.out wx (HB5.out.only hrel (fun k hk => hk.elim))
              refine gives_by rfl act.eval rfl ?_
              generalize act.eval = ρ at *
              intro hf hc
              go_simp
              exact ⟨relM_quiet (by decide) (Only.refl _ _), rfl⟩
            · intro act wx h
              obtain ⟨v49, e49, f49⟩ := h.val 2 49 (by kernel_rfl)
              obtain rfl : v49 = .int .u64 (e : Int) := f49
              have hrel := h.rel
              clear h
              refine gives_by rfl act.eval rfl ?_
              generalize act.eval = ρ at *
              intro hf hc
              go_simp
              refine (HPG.out wx).mono ?_
              rintro r wy ⟨rfl, rfl⟩
              exact ⟨_, rfl, relM_quiet (by decide) (Only.refl _ _), rfl⟩
            · intro act wx h
              obtain ⟨v50, e50, f50⟩ := h.val 3 50 (by kernel_rfl)
              obtain rfl : v50 = .int .i64 (R : Int) := f50
              have hrel := h.rel
              clear h
              refine gives_by rfl act.eval rfl ?_
              generalize act.eval = ρ at *
              intro hf hc
              go_simp
              rw [HAN.out]
              exact ⟨relM_quiet (by decide) (Only.refl _ _), rfl⟩
            · intro act wx h
              have e3 : act.eval (.tmp 3) = .pointer (some ⟨w.heap.size, 0, none⟩) := h.old 3 (by kernel_rfl)
              have hrel := h.rel
              clear h
              obtain ⟨x0, x1, x2, x3⟩ := HCE.out wx (HB5.out.only hrel (fun k hk => hk.elim))
              refine gives_by rfl act.eval rfl ?_
              generalize act.eval = ρ at *
              intro hf hc
              go_simp
              exact ⟨relM_quiet (by decide) (Only.refl _ _), rfl⟩
            · intro act wx h
              obtain ⟨v52, e52, f52⟩ := h.val 5 52 (by kernel_rfl)
              obtain rfl : v52 = .agg #[.int .u64 e, .int .i64 p, .slice ma M mc, .slice ua N uc] := f52
              have hrel := h.rel
              clear h
              refine gives_by rfl act.eval rfl ?_
              generalize act.eval = ρ at *
              intro hf hc
              go_simp
              refine (HLY.out wx (HB5.out.only hrel (fun k hk => hk.elim)).1).mono ?_
              rintro r wy ⟨u, rfl, ⟨a, c, h1, h2⟩, hb⟩
              exact ⟨_, rfl, relM_quiet (by decide) (Only.of_below _ hb), a, c, h1, own_of_le h2 hrel.size⟩
            · intro act wx h
              obtain ⟨v47, e47, f47⟩ := h.val 0 47 (by kernel_rfl)
              obtain rfl : v47 = .slice (some ⟨w4.heap.size + 1, 0, none⟩) 2 2 := f47
              obtain ⟨v51, e51, f51⟩ := h.val 4 51 (by kernel_rfl)
              obtain rfl : v51 = .int .i64 (R : Int) := f51
              have hrel := h.rel
              clear h
              have hr1 : (R : Int) < 2 := by omega
              refine gives_by rfl act.eval rfl ?_
              generalize act.eval = ρ at *
              intro hf hc
              go_simp
              exact ⟨relM_quiet (by decide) (Only.refl _ _), rfl⟩
          · intro oL hoL vals w6 ho6 hvv
            simp only [List.getElem?_toArray, List.getElem?_cons_succ, List.getElem?_cons_zero, Option.some.injEq] at hoL
            subst hoL
            generalize hact : putAll _ vals 0 _ = act
            obtain ⟨a6, c6, hv6, O6⟩ : isOwnN W5.heap.size LY (vals 6) w6 := hvv 6 53 (by decide) (by kernel_rfl)
            have hv7 : vals 7 = .pointer (some ⟨w4.heap.size + 1, R, none⟩) := hvv 7 54 (by decide) (by kernel_rfl)
            clear hvv
            have b6 := HB5.out.only ho6 (fun k hk => hk.elim)
            have C6 := HC5.out.only ho6 (fun hk => hk)
            have Y6 := HY5.out.only ho6 (fun hk => hk)
            have hlt6 := HC5.out.lt
            have oS : Only (fun k => k = w4.heap.size + 1) w6 (w6.setCell ⟨w4.heap.size + 1, R, none⟩ (.slice a6 LY.length c6)) := (Only.refl _ w6).setCell ⟨w4.heap.size + 1, R, none⟩ _ (fun _ => rfl)
            have C7 := C6.set R (.slice a6 LY.length c6)
            rw [set_vsR R _ hR2] at C7
            have b7 := b6.only oS (fun k hk => by omega)
            have Y7 := Y6.only oS (fun hk => by omega)
            have S7 := (sl_of_own_len O6 HOK.out).only oS (fun k hk hh => by have := (O6.lt k hk).1; omega)
            have hB46 : Below w4.heap.size w4 w6 := HB45.out.trans (ho6.below (by omega) (fun _ _ h => h))
            have hB47 : Below w4.heap.size w4 (w6.setCell ⟨w4.heap.size + 1, R, none⟩ (.slice a6 LY.length c6)) := hB46.trans (oS.below hB46.size (fun k hk h => by omega))
            have HV7 := hide (HV4.out.below hB47)
            have HC7 := hide (HCO.out _ _ _ C7 S7 b7.1)
            have HB7 := hide b7
            have HY7 := hide Y7
            have q0 : w6.cell? ⟨w4.heap.size + 1, R, none⟩ = some (.slice none 0 0) := by
              rw [C6.cell]
              rcases (by omega : R = 0 ∨ R = 1) with h | h <;> rw [h] <;> rfl
            have q1 := C6.frozen R
            obtain ⟨c0, c1, c2, c3⟩ := HCE.out _ b7
            clear O6 b6 C6 Y6 oS C7 b7 Y7 S7 hB46 hB47 ho6 HCO HLY HC5 HB5 HY5 HB45 HV4
            subst hact
            simp only [List.dropLast, putAll, Act.put, List.setIfInBounds_toArray, List.set_cons_zero, List.set_cons_succ, hv6, hv7, Nat.zero_add, Nat.reduceAdd]
            refine gives_by rfl _ rfl ?_
            intro hf hc
            go_simp
            simp only [gUpon]
            go_wp2_with (first
              | (go_at_call 25; refine HC7.out.mono ?_; rintro e1 wz ⟨maz, mcz, uaz, ucz, rfl, hvz, bz⟩; clear c0 c1 c2 c3; have hbz := (HB7.out.below bz).alloc (.cells #[.int .u64 e, .int .i64 p, .slice maz M mcz, .slice uaz N ucz] 26); obtain ⟨c0, c1, c2, c3⟩ := HCE.out _ hbz; have HVZ := hide (hvz.alloc (.cells #[.int .u64 e, .int .i64 p, .slice maz M mcz, .slice uaz N ucz] 26)); have HYZ := hide (HV7.out.below bz |>.alloc (.cells #[.int .u64 e, .int .i64 p, .slice maz M mcz, .slice uaz N ucz] 26)); obtain ⟨y0, y1, y2, y3⟩ := box_cells ((HY7.out.below bz HY7.out.lt).alloc (.cells #[.int .u64 e, .int .i64 p, .slice maz M mcz, .slice uaz N ucz] 26)); have HSZ1 := hide (HSA.out _ _ HYZ.out hbz.1); have HKZ := hide (Blk.new wz 26 [.int .u64 e, .int .i64 p, .slice maz M mcz, .slice uaz N ucz]); have HBZ := hide hbz; clear HC7 HV7 HB7 HY7 HYZ hvz bz hbz)
              | (go_at_call 17; refine HSZ1.out.mono ?_; rintro e1 wy ⟨rfl, by1⟩; have hby := HBZ.out.below by1; clear c0 c1 c2 c3; obtain ⟨c0, c1, c2, c3⟩ := HCE.out _ hby; obtain ⟨y4, y5, y6, y7⟩ := box_cells (HKZ.out.below by1 HKZ.out.lt); have HSZ2 := hide (HSA.out _ _ (HVZ.out.below by1) hby.1); have HBY := hide hby; clear HSZ1 HBZ HKZ HVZ HSA by1 hby)
              | (go_at_call 17; refine HSZ2.out.mono ?_; rintro e1 wx1 ⟨rfl, bx1⟩; have hbx := HBY.out.below bx1; clear c0 c1 c2 c3; obtain ⟨c0, c1, c2, c3⟩ := HCE.out _ hbx; have hRi := HRI.out; have HG3 := hide (HG2.out wx1 hbx.1); have HB3 := hide hbx.1; clear HSZ2 HBY HG2 bx1 hbx)
              | (go_at_call 23; refine HG3.out.mono ?_; rintro e1 w8 ⟨ma8, mc8, ua8, uc8, rfl, hv8, b8⟩; have HM8 := hide (HSM.out _ _ (hv8.val.alloc (.cells #[.int .u64 0, .int .i64 0, .slice ma8 0 mc8, .slice ua8 0 uc8] 26))); have hB8 := HB3.out.trans (b8.mono HB3.out.size); have HB8 := hide (hB8.alloc hB8.size (.cells #[.int .u64 0, .int .i64 0, .slice ma8 0 mc8, .slice ua8 0 uc8] 26)); unfold hdV noHd; clear HG3 HSM HB3 hv8 b8 hB8)
              | (go_at_call 17; refine HM8.out.mono ?_; rintro e1 w9 ⟨rfl, b9⟩; have HB9 := hide (HB8.out.trans (b9.mono HB8.out.size)); clear HM8 HB8 b9))
            go_ret
            exact ⟨rfl, HB9.out⟩
      | true =>
        have hE : getE ep bs = 0 := by unfold getE; rw [hg]; rfl
        obtain ⟨hy1, hy2, hy3⟩ := (HY2 hg).out
        rw [hE] at HG2
        obtain ⟨G, hG⟩ : ∃ G, G = getH ep bs := ⟨_, rfl⟩
        rw [← hG] at HG2 hy1 hy2 hy3
        obtain ⟨ge, gp, gms, gus⟩ := G
        simp only at hy1 hy2 hy3
        have HPY : Hid (∀ w1 ma' mc' ua' uc', HdV w1 (hdV ge gp ma' gms.length mc' ua' gus.length uc') ⟨ge, gp, gms, gus⟩ → Below w.heap.size w w1 → Calls Tryd.prog 11 #[.agg #[.int .u64 ge, .int .i64 gp, .slice ma' gms.length mc', .slice ua' gus.length uc']] w1 fun r w' => ∃ g, r = .returned (.tuple #[.slice (some ⟨g, 0, none⟩) 240 240, .int .i64 0]) ∧ Below w.heap.size w w' ∧ Sl w' (.slice (some ⟨g, 0, none⟩) 240 240) bs) := by
          intro w1 ma' mc' ua' uc' hv1 hb1
          refine (hput_ok w1 _ ⟨ge, gp, gms, gus⟩ hv1 hy1).mono ?_
          rintro r w' ⟨g, rfl, hg1, hk, hb⟩
          simp only at hk
          have hu : ByteOk gus := by obtain ⟨_, _, _, _, _, _, hS, _⟩ := hv1; exact hS.bytes
          refine ⟨g, rfl, hb1.trans (hb.mono hb1.size), ?_⟩
          have := sl_blk hk (bearS_ok hy1 hu) (bearS_len hy1) (by unfold maxLen; omega)
          rwa [hy2] at this
        have HEQ : Hid (∀ w1 g, Sl w1 (.slice (some ⟨g, 0, none⟩) 240 240) bs → Below w.heap.size w w1 → Calls Tryd.prog 19 #[.slice (some ⟨g, 0, none⟩) 240 240, .slice ba bs.length bc] w1 fun r w' => r = .returned (.bool true) ∧ w' = w1) := fun w1 g h1 hb => by
          have := equal_any w1 _ _ bs bs h1 (hbs.below hb)
          rwa [decide_eq_true rfl] at this
        clear HY2 hE hG hg hy1 hy2 hy3
        cases hm : mayB p ms us.length with
        | false =>
          have HPU : Hid (∀ w1, Bh w w1 cs → Calls Tryd.prog 11 #[.agg #[.int .u64 e, .int .i64 p, .slice ma M mc, .slice ua N uc]] w1 fun r w2 => r = .returned (.tuple #[.slice none 0 0, .int .i64 60]) ∧ Bh w w2 cs) := fun w1 hb => by
            have := hput_bad w1 e p ma ua mc us.length uc ms (by rw [← HMM.out]; exact hI.below hb.1) hm
            unfold hdV at this
            rw [← HMM.out, ← HNN.out] at this
            refine this.mono ?_
            rintro r w2 ⟨rfl, hb2⟩
            exact ⟨rfl, hb.below hb2⟩
          clear hbs hI hU hT hm
          go_enter Tryd.func6, Tryd.ntmps6
          go_wp2_with (first
            | (go_at_call 9; refine (HL.out _ HN0.out).mono ?_; rintro e1 w1 ⟨rfl, b1⟩; have HS1 := hide (HS.out w1 b1); obtain ⟨c0, c1, c2, c3⟩ := HCE.out w1 b1; clear HN0 HS b1)
            | (go_at_call 10; refine HS1.out.mono ?_; rintro e1 w2 ⟨rfl, b2⟩; clear c0 c1 c2 c3; obtain ⟨c0, c1, c2, c3⟩ := HCE.out w2 b2; have HP2 := hide (HPU.out w2 b2); clear HS1 HPU b2)
            | (go_at_call 11; refine HP8.out.mono ?_; rintro e1 w9 ⟨g9, rfl, hb9, s9⟩; have HE9 := hide (HEQ.out w9 g9 s9 hb9); have HB9 := hide hb9; clear HP8 HEQ hb9 s9)
            | (go_at_call 11; refine HP2.out.mono ?_; rintro e1 w3 ⟨rfl, b3⟩; clear c0 c1 c2 c3; have HG3 := hide (HG2.out w3 b3.1); have HB3 := hide b3.1; clear HP2 HG2 b3)
            | (go_at_call 23; refine HG3.out.mono ?_; rintro e1 w8 ⟨ma8, mc8, ua8, uc8, rfl, hv8, b8⟩; have hB8 := HB3.out.trans (b8.mono HB3.out.size); have HP8 := hide (HPY.out _ ma8 mc8 ua8 uc8 (hv8.val.alloc (.cells #[.int .u64 ge, .int .i64 gp, .slice ma8 gms.length mc8, .slice ua8 gus.length uc8] 26)) (hB8.alloc hB8.size (.cells #[.int .u64 ge, .int .i64 gp, .slice ma8 gms.length mc8, .slice ua8 gus.length uc8] 26))); unfold hdV; clear HG3 HPY HB3 hv8 b8 hB8)
            | (go_at_call 19; refine HE9.out.mono ?_; rintro e1 w10 ⟨rfl, hw⟩; subst w10; clear HE9))
          go_ret
          exact ⟨rfl, HB9.out⟩
        | true =>
          have hbok := bearS_ok hm hU.bytes
          have hbl2 := bearS_len hm
          obtain ⟨D, hD⟩ : ∃ D, D = bearS p ms us := ⟨_, rfl⟩
          have HPU : Hid (∀ w1, Bh w w1 cs → Calls Tryd.prog 11 #[.agg #[.int .u64 e, .int .i64 p, .slice ma M mc, .slice ua N uc]] w1 fun r w2 => ∃ g, r = .returned (.tuple #[.slice (some ⟨g, 0, none⟩) 240 240, .int .i64 0]) ∧ Bh w w2 cs ∧ Sl w2 (.slice (some ⟨g, 0, none⟩) 240 240) D) := fun w1 hb => by
            refine (hput_ok w1 _ ⟨e, p, ms, us⟩ (HV.out w1 hb.1) hm).mono ?_
            rintro r w2 ⟨g, rfl, _, hk, hb2⟩
            refine ⟨g, rfl, hb.below hb2, ?_⟩
            rw [hD]
            exact sl_blk hk hbok hbl2 (by unfold maxLen; omega)
          have HGG : Hid (∀ w1 g, Sl w1 (.slice (some ⟨g, 0, none⟩) 240 240) D → Calls Tryd.prog 23 #[.int .u64 e, .slice (some ⟨g, 0, none⟩) 240 240] w1 fun r w2 => ∃ ma' mc' ua' uc', r = .returned (.tuple #[.agg #[.int .u64 e, .int .i64 p, .slice ma' M mc', .slice ua' N uc'], .int .i64 0]) ∧ HdV w2 (.agg #[.int .u64 e, .int .i64 p, .slice ma' M mc', .slice ua' N uc']) ⟨e, p, ms, us⟩ ∧ Below w1.heap.size w1 w2) := fun w1 g hs => by
            refine (hget_any w1 e _ D hs (by rw [hD, hbl2]; omega) he).mono ?_
            rintro r w2 ⟨ma', mc', ua', uc', hr, hv2, hb2⟩
            obtain ⟨q1, q2⟩ := getH_bear e p ms us hm
            rw [hD, q1, q2] at hr
            rw [hD, q1] at hv2
            refine ⟨ma', mc', ua', uc', ?_, ?_, hb2⟩
            · rw [HMM.out, HNN.out]; exact hr
            · have := hv2.val
              rw [HMM.out, HNN.out]; exact this
          have HLY : Hid (∀ w1, Below w.heap.size w w1 → Calls Tryd.prog 27 #[.agg #[.int .u64 e, .int .i64 p, .slice ma M mc, .slice ua N uc]] w1 fun r w2 => ∃ u, r = .returned u ∧ isOwnN w1.heap.size (layS ⟨e, p, ms, us⟩) u w2 ∧ Below w1.heap.size w1 w2) := fun w1 hb => by
            refine (lay_any w1 _ ⟨e, p, ms, us⟩ (HV.out w1 hb) hm (hT.below hb)).mono ?_
            rintro r w2 ⟨a, c, rfl, ho, hb2⟩
            exact ⟨_, rfl, ⟨a, c, by rw [layS_len], by rw [layS_len]; exact ho⟩, hb2⟩
          have hlok : ByteOk (layS ⟨e, p, ms, us⟩) := layS_ok hm hU.bytes
          have hcho := choose_R ⟨e, p, ms, us⟩ hm he
          simp only at hcho
          obtain ⟨R, hR⟩ : ∃ R, R = e % 2 := ⟨_, rfl⟩
          rw [← hR] at hcho
          have hR2 : R < 2 := by omega
          have HCO : Hid (∀ w1 C u, Blk w1 C 24 (vsR R u) → Sl w1 u (layS ⟨e, p, ms, us⟩) → Below w.heap.size w w1 → Calls Tryd.prog 25 #[.int .i64 p, .slice (some ⟨C, 0, none⟩) 2 2] w1 fun r w2 => ∃ ma' mc' ua' uc', r = .returned (.tuple #[.agg #[.int .u64 e, .int .i64 p, .slice ma' M mc', .slice ua' N uc'], .int .i64 (R : Int), .int .i64 0]) ∧ HdV w2 (.agg #[.int .u64 e, .int .i64 p, .slice ma' M mc', .slice ua' N uc']) ⟨e, p, ms, us⟩ ∧ Below w1.heap.size w1 w2) := fun w1 C u h1 h2 hb => by
            refine (choose_any w1 p _ _ _ (parts_R h1 hR2 h2) (hT.below hb)).mono ?_
            rintro r w2 ⟨ma', mc', ua', uc', hr, hv2, hb2⟩
            rw [hcho] at hr hv2
            refine ⟨ma', mc', ua', uc', ?_, ?_, hb2⟩
            · rw [HMM.out, HNN.out]; exact hr
            · have := hv2.val
              rw [HMM.out, HNN.out]; exact this
          have HSA : Hid (∀ w1 v1, HdV w1 v1 ⟨e, p, ms, us⟩ → Below w.heap.size w w1 → Calls Tryd.prog 17 #[v1, .agg #[.int .u64 e, .int .i64 p, .slice ma M mc, .slice ua N uc]] w1 fun r w2 => r = .returned (.bool true) ∧ Below w1.heap.size w1 w2) := fun w1 v1 h1 hb => by
            have := hsame_any w1 v1 _ _ _ h1 (HV.out w1 hb)
            rwa [sameH_self] at this
          have HPG := hide (fun wx => hpage_any wx e)
          rw [← hR] at HPG
          have hRi : (e : Int) % 2 = (R : Int) := by omega
          have HAN := hide (and1R R hR2)
          have HOK := hide hlok
          have HRI := hide hRi
          obtain ⟨LY, hLY⟩ : ∃ L, L = layS ⟨e, p, ms, us⟩ := ⟨_, rfl⟩
          rw [← hLY] at HLY HCO HOK
          have hmk := make_two
          clear hbs hI hU hT hm hbok hbl2 hD hlok hcho hR hRi hLY
          go_enter Tryd.func6, Tryd.ntmps6
          go_wp2_with (first
            | (go_at_call 9; refine (HL.out _ HN0.out).mono ?_; rintro e1 w1 ⟨rfl, b1⟩; have HS1 := hide (HS.out w1 b1); obtain ⟨c0, c1, c2, c3⟩ := HCE.out w1 b1; clear HN0 HS b1)
            | (go_at_call 10; refine HS1.out.mono ?_; rintro e1 w2 ⟨rfl, b2⟩; clear c0 c1 c2 c3; obtain ⟨c0, c1, c2, c3⟩ := HCE.out w2 b2; have HP2 := hide (HPU.out w2 b2); clear HS1 HPU b2)
            | (go_at_call 11; refine HP2.out.mono ?_; rintro e1 w3 ⟨g3, rfl, b3, s3⟩; clear c0 c1 c2 c3; obtain ⟨c0, c1, c2, c3⟩ := HCE.out w3 b3; have HG3' := hide (HGG.out w3 g3 s3); have HB3' := hide b3; clear HP2 HGG b3 s3)
            | (go_at_call 23; refine HG3'.out.mono ?_; rintro e1 w4 ⟨ma4, mc4, ua4, uc4, rfl, hv4, b4⟩; clear c0 c1 c2 c3; have hb4 := HB3'.out.below b4; have hsz4 := hb4.2.lt; have HB5 := hide ((hb4.alloc (.cells #[.int .u64 e, .int .i64 p, .slice ma4 M mc4, .slice ua4 N uc4] 26)).alloc (.cells #[.slice none 0 0, .slice none 0 0] 24)); have HV4 := hide hv4; have HY5 := hide ((Blk.new w4 26 [.int .u64 e, .int .i64 p, .slice ma4 M mc4, .slice ua4 N uc4]).alloc (.cells #[.slice none 0 0, .slice none 0 0] 24)); have HC5 := hide (Blk.new (w4.alloc (.cells #[.int .u64 e, .int .i64 p, .slice ma4 M mc4, .slice ua4 N uc4] 26)) 24 [.slice none 0 0, .slice none 0 0]); have HB45 := hide ((((Below.refl _ w4).alloc (Nat.le_refl _) (.cells #[.int .u64 e, .int .i64 p, .slice ma4 M mc4, .slice ua4 N uc4] 26))).alloc (by simp) (.cells #[.slice none 0 0, .slice none 0 0] 24)); clear HG3' HB3' hv4 b4 hb4))
          rw [World.size_alloc] at HC5
          obtain ⟨W5, hW5⟩ : ∃ W, W = (w4.alloc (.cells #[.int .u64 e, .int .i64 p, .slice ma4 M mc4, .slice ua4 N uc4] 26)).alloc (.cells #[.slice none 0 0, .slice none 0 0] 24) := ⟨_, rfl⟩
          rw [← hW5] at HB5 HY5 HC5 HB45
          rw [← hW5]
          clear hW5
          refine wp_region_only (fun _ => False) [isV (.slice (some ⟨w4.heap.size + 1, 0, none⟩) 2 2), isV (.pointer (some ⟨w.heap.size, 0, none⟩)), isV (.int .u64 (e : Int)), isV (.int .i64 (R : Int)), isV (.int .i64 (R : Int)), isV (.agg #[.int .u64 e, .int .i64 p, .slice ma M mc, .slice ua N uc]), isOwnN W5.heap.size LY, isV (.pointer (some ⟨w4.heap.size + 1, R, none⟩))] 99 112 8 (by kernel_rfl) (by kernel_rfl) (by kernel_rfl) (by kernel_rfl) rfl ?_ ?_ ?_
          · repeat (first | exact trivial | refine allStL_isV ?_ | refine ⟨fun v w1 w2 ho ⟨x, y, h1, h2⟩ => ⟨x, y, h1, ownsRow_only h2 ho (fun k hk hh => hh)⟩, fun _ v w1 w2 ho ⟨x, y, h1, h2⟩ => ⟨x, y, h1, ownsRow_only h2 ho (fun k hk hh => hh)⟩, ?_⟩)
          · refine ⟨?_, ?_, ?_, ?_, ?_, ?_, ?_, ?_, trivial⟩
            · intro act wx h
              have e11 : act.eval (.tmp 11) = .slice (some ⟨w4.heap.size + 1, 0, none⟩) 2 2 := h.old 11 (by kernel_rfl)
              have hrel := h.rel
              clear h
              refine gives_by rfl act.eval rfl ?_
              generalize act.eval = ρ at *
              intro hf hc
              go_simp
              exact ⟨relM_quiet (by decide) (Only.refl _ _), rfl⟩
            · intro act wx h
              have e3 : act.eval (.tmp 3) = .pointer (some ⟨w.heap.size, 0, none⟩) := h.old 3 (by kernel_rfl)
              have hrel := h.rel
              clear h
              refine gives_by rfl act.eval rfl ?_
              generalize act.eval = ρ at *
              intro hf hc
              go_simp
              exact ⟨relM_quiet (by decide) (Only.refl _ _), rfl⟩
            · intro act wx h
              obtain ⟨v48, e48, f48⟩ := h.val 1 48 (by kernel_rfl)
              obtain rfl : v48 = .pointer (some ⟨w.heap.size, 0, none⟩) := f48
              have hrel := h.rel
              clear h
              obtain ⟨x0, x1, x2, x3⟩ := HCE.out wx (HB5.out.only hrel (fun k hk => hk.elim))
              refine gives_by rfl act.eval rfl ?_
              generalize act.eval = ρ at *
              intro hf hc
              go_simp
              exact ⟨relM_quiet (by decide) (Only.refl _ _), rfl⟩
            · intro act wx h
              obtain ⟨v49, e49, f49⟩ := h.val 2 49 (by kernel_rfl)
              obtain rfl : v49 = .int .u64 (e : Int) := f49
              have hrel := h.rel
              clear h
              refine gives_by rfl act.eval rfl ?_
              generalize act.eval = ρ at *
              intro hf hc
              go_simp
              refine (HPG.out wx).mono ?_
              rintro r wy ⟨rfl, rfl⟩
              exact ⟨_, rfl, relM_quiet (by decide) (Only.refl _ _), rfl⟩
            · intro act wx h
              obtain ⟨v50, e50, f50⟩ := h.val 3 50 (by kernel_rfl)
              obtain rfl : v50 = .int .i64 (R : Int) := f50
              have hrel := h.rel
              clear h
              refine gives_by rfl act.eval rfl ?_
              generalize act.eval = ρ at *
              intro hf hc
              go_simp
              rw [HAN.out]
              exact ⟨relM_quiet (by decide) (Only.refl _ _), rfl⟩
            · intro act wx h
              have e3 : act.eval (.tmp 3) = .pointer (some ⟨w.heap.size, 0, none⟩) := h.old 3 (by kernel_rfl)
              have hrel := h.rel
              clear h
              obtain ⟨x0, x1, x2, x3⟩ := HCE.out wx (HB5.out.only hrel (fun k hk => hk.elim))
              refine gives_by rfl act.eval rfl ?_
              generalize act.eval = ρ at *
              intro hf hc
              go_simp
              exact ⟨relM_quiet (by decide) (Only.refl _ _), rfl⟩
            · intro act wx h
              obtain ⟨v52, e52, f52⟩ := h.val 5 52 (by kernel_rfl)
              obtain rfl : v52 = .agg #[.int .u64 e, .int .i64 p, .slice ma M mc, .slice ua N uc] := f52
              have hrel := h.rel
              clear h
              refine gives_by rfl act.eval rfl ?_
              generalize act.eval = ρ at *
              intro hf hc
              go_simp
              refine (HLY.out wx (HB5.out.only hrel (fun k hk => hk.elim)).1).mono ?_
              rintro r wy ⟨u, rfl, ⟨a, c, h1, h2⟩, hb⟩
              exact ⟨_, rfl, relM_quiet (by decide) (Only.of_below _ hb), a, c, h1, own_of_le h2 hrel.size⟩
            · intro act wx h
              obtain ⟨v47, e47, f47⟩ := h.val 0 47 (by kernel_rfl)
              obtain rfl : v47 = .slice (some ⟨w4.heap.size + 1, 0, none⟩) 2 2 := f47
              obtain ⟨v51, e51, f51⟩ := h.val 4 51 (by kernel_rfl)
              obtain rfl : v51 = .int .i64 (R : Int) := f51
              have hrel := h.rel
              clear h
              have hr1 : (R : Int) < 2 := by omega
              refine gives_by rfl act.eval rfl ?_
              generalize act.eval = ρ at *
              intro hf hc
              go_simp
              exact ⟨relM_quiet (by decide) (Only.refl _ _), rfl⟩
          · intro oL hoL vals w6 ho6 hvv
            simp only [List.getElem?_toArray, List.getElem?_cons_succ, List.getElem?_cons_zero, Option.some.injEq] at hoL
            subst hoL
            generalize hact : putAll _ vals 0 _ = act
            obtain ⟨a6, c6, hv6, O6⟩ : isOwnN W5.heap.size LY (vals 6) w6 := hvv 6 53 (by decide) (by kernel_rfl)
            have hv7 : vals 7 = .pointer (some ⟨w4.heap.size + 1, R, none⟩) := hvv 7 54 (by decide) (by kernel_rfl)
            clear hvv
            have b6 := HB5.out.only ho6 (fun k hk => hk.elim)
            have C6 := HC5.out.only ho6 (fun hk => hk)
            have Y6 := HY5.out.only ho6 (fun hk => hk)
            have hlt6 := HC5.out.lt
            have oS : Only (fun k => k = w4.heap.size + 1) w6 (w6.setCell ⟨w4.heap.size + 1, R, none⟩ (.slice a6 LY.length c6)) := (Only.refl _ w6).setCell ⟨w4.heap.size + 1, R, none⟩ _ (fun _ => rfl)
            have C7 := C6.set R (.slice a6 LY.length c6)
            rw [set_vsR R _ hR2] at C7
            have b7 := b6.only oS (fun k hk => by omega)
            have Y7 := Y6.only oS (fun hk => by omega)
            have S7 := (sl_of_own_len O6 HOK.out).only oS (fun k hk hh => by have := (O6.lt k hk).1; omega)
            have hB46 : Below w4.heap.size w4 w6 := HB45.out.trans (ho6.below (by omega) (fun _ _ h => h))
            have hB47 : Below w4.heap.size w4 (w6.setCell ⟨w4.heap.size + 1, R, none⟩ (.slice a6 LY.length c6)) := hB46.trans (oS.below hB46.size (fun k hk h => by omega))
            have HV7 := hide (HV4.out.below hB47)
            have HC7 := hide (HCO.out _ _ _ C7 S7 b7.1)
            have HB7 := hide b7
            have HY7 := hide Y7
            have q0 : w6.cell? ⟨w4.heap.size + 1, R, none⟩ = some (.slice none 0 0) := by
              rw [C6.cell]
              rcases (by omega : R = 0 ∨ R = 1) with h | h <;> rw [h] <;> rfl
            have q1 := C6.frozen R
            obtain ⟨c0, c1, c2, c3⟩ := HCE.out _ b7
            clear O6 b6 C6 Y6 oS C7 b7 Y7 S7 hB46 hB47 ho6 HCO HLY HC5 HB5 HY5 HB45 HV4
            subst hact
            simp only [List.dropLast, putAll, Act.put, List.setIfInBounds_toArray, List.set_cons_zero, List.set_cons_succ, hv6, hv7, Nat.zero_add, Nat.reduceAdd]
            refine gives_by rfl _ rfl ?_
            intro hf hc
            go_simp
            simp only [gUpon]
            go_wp2_with (first
              | (go_at_call 25; refine HC7.out.mono ?_; rintro e1 wz ⟨maz, mcz, uaz, ucz, rfl, hvz, bz⟩; clear c0 c1 c2 c3; have hbz := (HB7.out.below bz).alloc (.cells #[.int .u64 e, .int .i64 p, .slice maz M mcz, .slice uaz N ucz] 26); obtain ⟨c0, c1, c2, c3⟩ := HCE.out _ hbz; have HVZ := hide (hvz.alloc (.cells #[.int .u64 e, .int .i64 p, .slice maz M mcz, .slice uaz N ucz] 26)); have HYZ := hide (HV7.out.below bz |>.alloc (.cells #[.int .u64 e, .int .i64 p, .slice maz M mcz, .slice uaz N ucz] 26)); obtain ⟨y0, y1, y2, y3⟩ := box_cells ((HY7.out.below bz HY7.out.lt).alloc (.cells #[.int .u64 e, .int .i64 p, .slice maz M mcz, .slice uaz N ucz] 26)); have HSZ1 := hide (HSA.out _ _ HYZ.out hbz.1); have HKZ := hide (Blk.new wz 26 [.int .u64 e, .int .i64 p, .slice maz M mcz, .slice uaz N ucz]); have HBZ := hide hbz; clear HC7 HV7 HB7 HY7 HYZ hvz bz hbz)
              | (go_at_call 17; refine HSZ1.out.mono ?_; rintro e1 wy ⟨rfl, by1⟩; have hby := HBZ.out.below by1; clear c0 c1 c2 c3; obtain ⟨c0, c1, c2, c3⟩ := HCE.out _ hby; obtain ⟨y4, y5, y6, y7⟩ := box_cells (HKZ.out.below by1 HKZ.out.lt); have HSZ2 := hide (HSA.out _ _ (HVZ.out.below by1) hby.1); have HBY := hide hby; clear HSZ1 HBZ HKZ HVZ HSA by1 hby)
              | (go_at_call 17; refine HSZ2.out.mono ?_; rintro e1 wx1 ⟨rfl, bx1⟩; have hbx := HBY.out.below bx1; clear c0 c1 c2 c3; obtain ⟨c0, c1, c2, c3⟩ := HCE.out _ hbx; have hRi := HRI.out; have HG3 := hide (HG2.out wx1 hbx.1); have HB3 := hide hbx.1; clear HSZ2 HBY HG2 bx1 hbx)
              | (go_at_call 11; refine HP8.out.mono ?_; rintro e1 w9 ⟨g9, rfl, hb9, s9⟩; have HE9 := hide (HEQ.out w9 g9 s9 hb9); have HB9 := hide hb9; clear HP8 HEQ hb9 s9)
              | (go_at_call 23; refine HG3.out.mono ?_; rintro e1 w8 ⟨ma8, mc8, ua8, uc8, rfl, hv8, b8⟩; have hB8 := HB3.out.trans (b8.mono HB3.out.size); have HP8 := hide (HPY.out _ ma8 mc8 ua8 uc8 (hv8.val.alloc (.cells #[.int .u64 ge, .int .i64 gp, .slice ma8 gms.length mc8, .slice ua8 gus.length uc8] 26)) (hB8.alloc hB8.size (.cells #[.int .u64 ge, .int .i64 gp, .slice ma8 gms.length mc8, .slice ua8 gus.length uc8] 26))); unfold hdV; clear HG3 HPY HB3 hv8 b8 hB8)
              | (go_at_call 19; refine HE9.out.mono ?_; rintro e1 w10 ⟨rfl, hw⟩; subst w10; clear HE9))
            go_ret
            exact ⟨rfl, HB9.out⟩
    · have hbi : (3000 : Int) < (bs.length : Int) := by omega
      clear hbs hI hU hT
      go_enter Tryd.func6, Tryd.ntmps6
      go_wp2_with (first
        | (go_at_call 9; refine (HL.out _ HN0.out).mono ?_; rintro e1 w1 ⟨rfl, b1⟩; have HS1 := hide (HS.out w1 b1); obtain ⟨c0, c1, c2, c3⟩ := HCE.out w1 b1; clear HN0 HS b1)
        | (go_at_call 10; refine HS1.out.mono ?_; rintro e1 w2 ⟨rfl, b2⟩; have HB2 := hide b2; clear HS1 b2 c0 c1 c2 c3)
        | (go_at_call 9; refine (HL.out _ HB2.out).mono ?_; rintro e1 w3 ⟨rfl, b3⟩; clear HB2))
      go_ret
      exact ⟨rfl, b3.1⟩
  · rw [decide_eq_false hsh] at HS
    clear hbs hI hU hT
    go_enter Tryd.func6, Tryd.ntmps6
    go_wp2_with (first
      | (go_at_call 9; refine (HL.out _ HN0.out).mono ?_; rintro e1 w1 ⟨rfl, b1⟩; have HS1 := hide (HS.out w1 b1); obtain ⟨c0, c1, c2, c3⟩ := HCE.out w1 b1; clear HN0 HS b1)
      | (go_at_call 10; refine HS1.out.mono ?_; rintro e1 w2 ⟨rfl, b2⟩; have HB2 := hide b2; clear HS1 b2 c0 c1 c2 c3)
      | (go_at_call 9; refine (HL.out _ HB2.out).mono ?_; rintro e1 w3 ⟨rfl, b3⟩; clear HB2))
    go_ret
    exact ⟨rfl, b3.1⟩

end Go.Proofs.YtmeiahmolmneeaaDoor
