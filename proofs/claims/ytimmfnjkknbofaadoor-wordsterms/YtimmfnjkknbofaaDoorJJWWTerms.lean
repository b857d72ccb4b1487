/- Walk: incipitlaw14.WordsTerms. -/
import Derived.Test.YtimmfnjkknbofaaDoorJJWdAll
import Derived.Test.YtimmfnjkknbofaaDoorJWdFew
import Derived.Test.YtimmfnjkknbofaaDoorJJWdOwnF
import Derived.Test.YtimmfnjkknbofaaDoorJJWdTm
import Derived.Test.YtimmfnjkknbofaaDoorJJWdTd
import Derived.Test.YtimmfnjkknbofaaDoorJJWdDo
import Derived.Test.YtimmfnjkknbofaaDoorJWdEq
namespace Go.Proofs.YtimmfnjkknbofaaDoor
set_option maxRecDepth 20000
open Go.RowKit
set_option linter.unusedVariables false
set_option linter.unusedSimpArgs false
set_option maxRecDepth 100000

def isSt (T : List (List Int)) : Value → World → Prop := fun v w => Strs w v T ∧ True
theorem stable_isSt (T : List (List Int)) : ∀ v w w', Below w.heap.size w w' → isSt T v w → isSt T v w' := fun v w w' hb h => ⟨h.1.below hb, trivial⟩

set_option maxHeartbeats 2000000 in
theorem wordsTerms_walk (w : World) (vc : Value) (C : Cn) (hc : CnfI w vc C) (vt : Value) (zs : List Int) (hz : Sl w vt zs) (vz : Value) (zt : List Int) (hvz : vz = .string (strOfNums zt) ∧ ByteOk zt) (hL : Let w) :
    Calls Tryd.prog 4 #[vc, vt, vz] w fun e w' => e = .returned (.bool true) ∧ Below w.heap.size w w' := by
  obtain ⟨rfl, hzt⟩ := hvz
  obtain ⟨hcv, hK1, hK2⟩ := hc
  have HLV : Hid (∀ W, Below w.heap.size w W → Calls Tryd.prog 6 #[] W fun e w' => e = .returned (.bool true) ∧ Below W.heap.size W w') := fun W h => liveW_any W (hL.below h)
  obtain ⟨fo, fc, so, sc, w1, rfl, hw1, hb1, hB, hT, hS⟩ := box_cnf w vc C hcv
  have HFW : Hid (∀ W b, Below w.heap.size w W → Blk W b 25 [.slice fo C.fs.length fc, .slice so C.ss.length sc, .int .i64 C.cap] → Calls Tryd.prog 7 #[.slice (some ⟨b, 0, none⟩) 1 1] W fun e w' => e = .returned (.bool (fewC C)) ∧ Below W.heap.size W w') := fun W b hb hx => by
    have := few_any W b [C] (cfs_one hx (hcv.below hb)) (by simp)
    simpa using this
  have HTM0 : Hid (fewC C = true → zs.length ≤ 2000 → ∀ W, Below w.heap.size w W → Calls Tryd.prog 20 #[.agg #[.slice fo C.fs.length fc, .slice so C.ss.length sc, .int .i64 C.cap], vt] W fun e w' => ∃ u, e = .returned u ∧ Below W.heap.size W w' ∧ isSt ((insA ((tokC C (rs zs)).map fun x => uB x.1)).map nU) u w') := fun hf hl W hb => by
    refine (terms_any W _ C (hcv.below hb) (fewC_ok hf hK1 hK2) vt zs (hz.below hb) (by omega) (hL.below hb)).mono ?_
    rintro e w' ⟨u, rfl, ht, hbb⟩
    exact ⟨u, rfl, hbb, ht.read, trivial⟩
  have HTD0 : Hid (fewC C = true → zs.length ≤ 2000 → ∀ W, Below w.heap.size w W → Calls Tryd.prog 21 #[.agg #[.slice fo C.fs.length fc, .slice so C.ss.length sc, .int .i64 C.cap], vt] W fun e w' => ∃ u, e = .returned u ∧ Below W.heap.size W w' ∧ isSt ((insA ((tokC C (rs zs)).map fun x => uB x.1)).map nU) u w') := fun hf hl W hb => by
    refine (termsD_any W _ C (hcv.below hb) (fewC_ok hf hK1 hK2) vt zs (hz.below hb) (by omega)).mono ?_
    rintro e w' ⟨u, rfl, ht, hbb⟩
    exact ⟨u, rfl, hbb, ht.read, trivial⟩
  have HON0 : Hid (fewC C = true → zs.length ≤ 2000 → ∀ W, Below w.heap.size w W → Calls Tryd.prog 17 #[.agg #[.slice fo C.fs.length fc, .slice so C.ss.length sc, .int .i64 C.cap], vt] W fun e w' => e = .returned (.tuple #[.string (strOfNums (oneC C (rs zs)).1), .int .i64 (oneC C (rs zs)).2]) ∧ Below W.heap.size W w') := fun hf hl W hb => one_any W _ C (hcv.below hb) (fewC_ok hf hK1 hK2) vt zs (hz.below hb) (by omega) (hL.below hb)
  have HOD0 : Hid (fewC C = true → zs.length ≤ 2000 → ∀ W, Below w.heap.size w W → Calls Tryd.prog 18 #[.agg #[.slice fo C.fs.length fc, .slice so C.ss.length sc, .int .i64 C.cap], vt] W fun e w' => e = .returned (.tuple #[.string (strOfNums (oneC C (rs zs)).1), .int .i64 (oneC C (rs zs)).2]) ∧ Below W.heap.size W w') := fun hf hl W hb => oneD_any W _ C (hcv.below hb) (fewC_ok hf hK1 hK2) vt zs (hz.below hb) (by omega)
  have HST0 : Hid (fewC C = true → ∀ W, Below w.heap.size w W → Calls Tryd.prog 22 #[.agg #[.slice fo C.fs.length fc, .slice so C.ss.length sc, .int .i64 C.cap], .string (strOfNums zt)] W fun e w' => e = .returned (.bool (mayC C && decide (zt ∈ C.ss))) ∧ Below W.heap.size W w') := fun hf W hb => stop_any W _ C (hcv.below hb) (fewC_ok hf hK1 hK2) zt hzt (hL.below hb)
  have HSD0 : Hid (fewC C = true → ∀ W, Below w.heap.size w W → Calls Tryd.prog 23 #[.agg #[.slice fo C.fs.length fc, .slice so C.ss.length sc, .int .i64 C.cap], .string (strOfNums zt)] W fun e w' => e = .returned (.bool (mayC C && decide (zt ∈ C.ss))) ∧ Below W.heap.size W w') := fun hf W hb => stopD_any W _ C (hcv.below hb) (fewC_ok hf hK1 hK2) zt hzt
  obtain ⟨to, tn, tc, rfl⟩ := sl_form hz
  have htn := sl_len hz
  have HB1 := hide hb1
  have HBX := hide hB
  have c0 : w1.cell? ⟨w.heap.size, 0, none⟩ = some (.slice fo C.fs.length fc) := hB.cell 0
  have c1 : w1.cell? ⟨w.heap.size, 1, none⟩ = some (.slice so C.ss.length sc) := hB.cell 1
  have c2 : w1.cell? ⟨w.heap.size, 2, none⟩ = some (.int .i64 C.cap) := hB.cell 2
  generalize ((insA ((tokC C (rs zs)).map fun x => uB x.1)).map nU) = T at *
  generalize (oneC C (rs zs)).1 = o1 at *
  generalize (oneC C (rs zs)).2 = oe at *
  generalize (mayC C && decide (zt ∈ C.ss)) = st at *
  generalize strOfNums o1 = os at *
  generalize strOfNums zt = ts at *
  obtain ⟨fn, hfn⟩ : ∃ n, C.fs.length = n := ⟨_, rfl⟩
  obtain ⟨sn, hsn⟩ : ∃ n, C.ss.length = n := ⟨_, rfl⟩
  obtain ⟨K, hK⟩ : ∃ n, C.cap = n := ⟨_, rfl⟩
  rw [hfn] at hw1 c0 HFW HTM0 HTD0 HON0 HOD0 HST0 HSD0 HBX ⊢
  rw [hsn] at hw1 c1 HFW HTM0 HTD0 HON0 HOD0 HST0 HSD0 HBX ⊢
  rw [hK] at hw1 c2 HFW HTM0 HTD0 HON0 HOD0 HST0 HSD0 HBX ⊢
  rw [← htn] at HTM0 HTD0 HON0 HOD0
  have HW1 := hide hw1
  clear hcv hK1 hK2 hb1 hB hT hS hz hL hfn hsn hK htn c0 c1 c2 hw1
  have HCELL : Hid (∀ W, Below w1.heap.size w1 W → W.cell? ⟨w.heap.size, 0, none⟩ = some (.slice fo fn fc) ∧ W.cell? ⟨w.heap.size, 1, none⟩ = some (.slice so sn sc) ∧ W.cell? ⟨w.heap.size, 2, none⟩ = some (.int .i64 K)) := fun W hb => by
    have hx := HBX.out.below hb HBX.out.lt
    exact ⟨hx.cell 0, hx.cell 1, hx.cell 2⟩
  have HF1 : Hid (∀ W, Below w1.heap.size w1 W → Calls Tryd.prog 7 #[.slice (some ⟨W.heap.size, 0, none⟩) 1 1] (W.alloc (.cells #[.slice fo fn fc, .slice so sn sc, .int .i64 K] 25)) fun e w' => e = .returned (.bool (fewC C)) ∧ Below w1.heap.size w1 w') := fun W hb => by
    have h1 : Below w1.heap.size w1 (W.alloc (.cells #[.slice fo fn fc, .slice so sn sc, .int .i64 K] 25)) := hb.alloc hb.size _
    exact (HFW.out _ W.heap.size (HB1.out.trans (h1.mono HB1.out.size)) (Blk.new W _ _)).mono fun e w' ⟨e1, e2⟩ => ⟨e1, h1.trans (e2.mono (by have := hb.size; rw [World.size_alloc]; omega))⟩
  have HL1 : Hid (∀ W, Below w1.heap.size w1 W → Calls Tryd.prog 6 #[] W fun e w' => e = .returned (.bool true) ∧ Below w1.heap.size w1 w') := fun W hb => (HLV.out W (HB1.out.trans (hb.mono HB1.out.size))).mono fun e w' ⟨e1, e2⟩ => ⟨e1, hb.trans (e2.mono hb.size)⟩
  clear HFW HLV
  cases hF : fewC C with
  | false =>
    rw [hF] at HF1
    clear hF HTM0 HTD0 HON0 HOD0 HST0 HSD0
    go_enter Tryd.func4, Tryd.ntmps4
    go_wp2_with (first
      | (go_at_call 6; rw [HW1.out]; refine (HL1.out w1 (Below.refl _ w1)).mono ?_; rintro e w2 ⟨rfl, hb⟩; have HB2 := hide hb; obtain ⟨c0, c1, c2⟩ := HCELL.out w2 hb; clear hb HW1)
      | (go_at_call 7; refine (HF1.out w2 HB2.out).mono ?_; rintro e w3 ⟨rfl, hb⟩; have HB3 := hide hb; clear HF1 hb)
      | (go_at_call 6; refine (HL1.out w3 HB3.out).mono ?_; rintro e w4 ⟨rfl, hb⟩; have HB4 := hide hb; clear HL1 hb))
    go_ret
    exact ⟨rfl, HB1.out.trans (HB4.out.mono HB1.out.size)⟩
  | true =>
    rw [hF] at HF1
    by_cases h2 : 2000 < tn
    · have h2i : (2000 : Int) < (tn : Int) := by omega
      clear hF HTM0 HTD0 HON0 HOD0 HST0 HSD0
      go_enter Tryd.func4, Tryd.ntmps4
      go_wp2_with (first
        | (go_at_call 6; rw [HW1.out]; refine (HL1.out w1 (Below.refl _ w1)).mono ?_; rintro e w2 ⟨rfl, hb⟩; have HB2 := hide hb; obtain ⟨c0, c1, c2⟩ := HCELL.out w2 hb; clear hb HW1)
        | (go_at_call 7; refine (HF1.out w2 HB2.out).mono ?_; rintro e w3 ⟨rfl, hb⟩; have HB3 := hide hb; clear HF1 hb)
        | (go_at_call 6; refine (HL1.out w3 HB3.out).mono ?_; rintro e w4 ⟨rfl, hb⟩; have HB4 := hide hb; clear HL1 hb))
      go_ret
      exact ⟨rfl, HB1.out.trans (HB4.out.mono HB1.out.size)⟩
    have h2i : ¬ (2000 : Int) < (tn : Int) := by omega
    by_cases h3 : 1000 < ts.size
    · have h3i : (1000 : Int) < (ts.size : Int) := by omega
      clear hF HTM0 HTD0 HON0 HOD0 HST0 HSD0
      go_enter Tryd.func4, Tryd.ntmps4
      go_wp2_with (first
        | (go_at_call 6; rw [HW1.out]; refine (HL1.out w1 (Below.refl _ w1)).mono ?_; rintro e w2 ⟨rfl, hb⟩; have HB2 := hide hb; obtain ⟨c0, c1, c2⟩ := HCELL.out w2 hb; clear hb HW1)
        | (go_at_call 7; refine (HF1.out w2 HB2.out).mono ?_; rintro e w3 ⟨rfl, hb⟩; have HB3 := hide hb; clear HF1 hb)
        | (go_at_call 6; refine (HL1.out w3 HB3.out).mono ?_; rintro e w4 ⟨rfl, hb⟩; have HB4 := hide hb; clear HL1 hb))
      go_ret
      exact ⟨rfl, HB1.out.trans (HB4.out.mono HB1.out.size)⟩
    have h3i : ¬ (1000 : Int) < (ts.size : Int) := by omega
    have HWB : Hid (∀ W, Below w1.heap.size w1 W → Below w.heap.size w W) := fun W hb => HB1.out.trans (hb.mono HB1.out.size)
    have HTM1 := hide (HTM0.out hF (by omega))
    have HTD1 := hide (HTD0.out hF (by omega))
    have HON1 := hide (HON0.out hF (by omega))
    have HOD1 := hide (HOD0.out hF (by omega))
    have HST1 := hide (HST0.out hF)
    have HSD1 := hide (HSD0.out hF)
    clear hF HTM0 HTD0 HON0 HOD0 HST0 HSD0 h2 h3
    go_enter Tryd.func4, Tryd.ntmps4
    go_wp2_with (first
      | (go_at_call 6; rw [HW1.out]; refine (HL1.out w1 (Below.refl _ w1)).mono ?_; rintro e w2 ⟨rfl, hb⟩; have HB2 := hide hb; obtain ⟨c0, c1, c2⟩ := HCELL.out w2 hb; clear hb HW1 HL1)
      | (go_at_call 7; refine (HF1.out w2 HB2.out).mono ?_; rintro e w3 ⟨rfl, hb⟩; have HB3 := hide hb; clear c0 c1 c2; obtain ⟨c0, c1, c2⟩ := HCELL.out w3 hb; clear HF1 hb)
      | (go_at_call 17; refine (HON1.out w3 (HWB.out w3 HB3.out)).mono ?_; rintro e w5 ⟨rfl, hb⟩; have HB5 := hide (HB3.out.trans (hb.mono HB3.out.size)); clear c0 c1 c2; obtain ⟨c0, c1, c2⟩ := HCELL.out w5 HB5.out; clear HON1 hb)
      | (go_at_call 18; refine (HOD1.out w5 (HWB.out w5 HB5.out)).mono ?_; rintro e w4 ⟨rfl, hb⟩; have HB4 := hide (HB5.out.trans (hb.mono HB5.out.size)); clear c0 c1 c2; clear HOD1 hb))
    have HWX : Hid (∀ wx, Below w4.heap.size w4 wx → Below w.heap.size w wx) := fun wx h => HWB.out wx (HB4.out.trans (h.mono HB4.out.size))
    have HTM : Hid (∀ wx, Below w4.heap.size w4 wx → Calls Tryd.prog 20 #[.agg #[.slice fo fn fc, .slice so sn sc, .int .i64 K], .slice to tn tc] wx fun e w' => ∃ u, e = .returned u ∧ Below wx.heap.size wx w' ∧ isSt T u w') := fun wx h => HTM1.out wx (HWX.out wx h)
    have HTD : Hid (∀ wx, Below w4.heap.size w4 wx → Calls Tryd.prog 21 #[.agg #[.slice fo fn fc, .slice so sn sc, .int .i64 K], .slice to tn tc] wx fun e w' => ∃ u, e = .returned u ∧ Below wx.heap.size wx w' ∧ isSt T u w') := fun wx h => HTD1.out wx (HWX.out wx h)
    have HST : Hid (∀ wx, Below w4.heap.size w4 wx → Calls Tryd.prog 22 #[.agg #[.slice fo fn fc, .slice so sn sc, .int .i64 K], .string ts] wx fun e w' => e = .returned (.bool st) ∧ Below wx.heap.size wx w') := fun wx h => HST1.out wx (HWX.out wx h)
    have HSD : Hid (∀ wx, Below w4.heap.size w4 wx → Calls Tryd.prog 23 #[.agg #[.slice fo fn fc, .slice so sn sc, .int .i64 K], .string ts] wx fun e w' => e = .returned (.bool st) ∧ Below wx.heap.size wx w') := fun wx h => HSD1.out wx (HWX.out wx h)
    have HE1 : Hid (∀ wx v u, Strs wx v T → Strs wx u T → Calls Tryd.prog 19 #[v, u] wx fun e w' => e = .returned (.bool true) ∧ Below wx.heap.size wx w') := fun wx v u hv hu => by
      have := equalS_any wx v u T T hv hu
      rwa [decide_eq_true rfl] at this
    clear HTM1 HTD1 HST1 HSD1
    refine wp_region_facts (FL [isV (.agg #[.slice fo fn fc, .slice so sn sc, .int .i64 K]), isV (.slice to tn tc), isSt T, isV (.agg #[.slice fo fn fc, .slice so sn sc, .int .i64 K]), isV (.slice to tn tc), isSt T, isV (.bool true), isV (.bool true), isV (.string os), isV (.string os), isV (.bool true), isV (.bool true), isV (.bool true), isV (.int .i64 (oe : Int)), isV (.int .i64 (oe : Int)), isV (.bool true), isV (.bool true), isV (.bool true), isV (.agg #[.slice fo fn fc, .slice so sn sc, .int .i64 K]), isV (.string ts), isV (.bool st), isV (.agg #[.slice fo fn fc, .slice so sn sc, .int .i64 K]), isV (.string ts), isV (.bool st), isV (.bool true), isV (.bool true), isV (.bool true)]) 68 (by kernel_rfl) (by kernel_rfl) (by kernel_rfl) rfl (FL_stable _ (by repeat (first | exact trivial | refine ⟨stable_isV _, ?_⟩ | refine ⟨stable_isSt _, ?_⟩))) ?_ ?_
    · refine ⟨?_, ?_, ?_, ?_, ?_, ?_, ?_, ?_, ?_, ?_, ?_, ?_, ?_, ?_, ?_, ?_, ?_, ?_, ?_, ?_, ?_, ?_, ?_, ?_, ?_, ?_, ?_, trivial⟩
      · intro act wx h
        have e3 : act.eval (.tmp 3) = .pointer (some ⟨w.heap.size, 0, none⟩) := h.old 3 (by kernel_rfl)
        have hbel := h.below
        clear h
        obtain ⟨c0, c1, c2⟩ := HCELL.out wx (HB4.out.trans (hbel.mono HB4.out.size))
        refine gives_by rfl act.eval rfl ?_
        generalize act.eval = ρ at *
        intro hf hc
        go_simp
        exact ⟨Below.refl _ _, rfl⟩
      · intro act wx h
        have e1 : act.eval (.tmp 1) = .slice to tn tc := h.old 1 (by kernel_rfl)
        have hbel := h.below
        clear h
        refine gives_by rfl act.eval rfl ?_
        generalize act.eval = ρ at *
        intro hf hc
        go_simp
        exact ⟨Below.refl _ _, rfl⟩
      · intro act wx h
        obtain ⟨v42, e42, f42⟩ := h.val 0 42 (by kernel_rfl)
        obtain rfl : v42 = .agg #[.slice fo fn fc, .slice so sn sc, .int .i64 K] := f42
        obtain ⟨v43, e43, f43⟩ := h.val 1 43 (by kernel_rfl)
        obtain rfl : v43 = .slice to tn tc := f43
        have hbel := h.below
        clear h
        refine gives_by rfl act.eval rfl ?_
        generalize act.eval = ρ at *
        intro hf hc
        go_simp
        exact HTM.out wx hbel
      · intro act wx h
        have e3 : act.eval (.tmp 3) = .pointer (some ⟨w.heap.size, 0, none⟩) := h.old 3 (by kernel_rfl)
        have hbel := h.below
        clear h
        obtain ⟨c0, c1, c2⟩ := HCELL.out wx (HB4.out.trans (hbel.mono HB4.out.size))
        refine gives_by rfl act.eval rfl ?_
        generalize act.eval = ρ at *
        intro hf hc
        go_simp
        exact ⟨Below.refl _ _, rfl⟩
      · intro act wx h
        have e1 : act.eval (.tmp 1) = .slice to tn tc := h.old 1 (by kernel_rfl)
        have hbel := h.below
        clear h
        refine gives_by rfl act.eval rfl ?_
        generalize act.eval = ρ at *
        intro hf hc
        go_simp
        exact ⟨Below.refl _ _, rfl⟩
      · intro act wx h
        obtain ⟨v45, e45, f45⟩ := h.val 3 45 (by kernel_rfl)
        obtain rfl : v45 = .agg #[.slice fo fn fc, .slice so sn sc, .int .i64 K] := f45
        obtain ⟨v46, e46, f46⟩ := h.val 4 46 (by kernel_rfl)
        obtain rfl : v46 = .slice to tn tc := f46
        have hbel := h.below
        clear h
        refine gives_by rfl act.eval rfl ?_
        generalize act.eval = ρ at *
        intro hf hc
        go_simp
        exact HTD.out wx hbel
      · intro act wx h
        obtain ⟨v44, e44, f44⟩ := h.val 2 44 (by kernel_rfl)
        obtain ⟨ht44, _⟩ := f44
        obtain ⟨v47, e47, f47⟩ := h.val 5 47 (by kernel_rfl)
        obtain ⟨ht47, _⟩ := f47
        have hbel := h.below
        clear h
        refine gives_by rfl act.eval rfl ?_
        generalize act.eval = ρ at *
        intro hf hc
        go_simp
        exact call_gives (HE1.out wx v44 v47 ht44 ht47) (fun _ => rfl)
      · intro act wx h
        obtain ⟨v48, e48, f48⟩ := h.val 6 48 (by kernel_rfl)
        obtain rfl : v48 = .bool true := f48
        have hbel := h.below
        clear h
        refine gives_by rfl act.eval rfl ?_
        generalize act.eval = ρ at *
        intro hf hc
        go_simp
        exact ⟨Below.refl _ _, rfl⟩
      · intro act wx h
        have e7 : act.eval (.tmp 7) = .string os := h.old 7 (by kernel_rfl)
        have hg := h.guard 7 49 (by kernel_rfl) true (fun v hv => hv)
        have hbel := h.below
        clear h
        refine gives_by (by simp only [Region.wanted, hg]; rfl) act.eval rfl ?_
        generalize act.eval = ρ at *
        intro hf hc
        go_simp
        exact ⟨Below.refl _ _, rfl⟩
      · intro act wx h
        have e9 : act.eval (.tmp 9) = .string os := h.old 9 (by kernel_rfl)
        have hg := h.guard 7 49 (by kernel_rfl) true (fun v hv => hv)
        have hbel := h.below
        clear h
        refine gives_by (by simp only [Region.wanted, hg]; rfl) act.eval rfl ?_
        generalize act.eval = ρ at *
        intro hf hc
        go_simp
        exact ⟨Below.refl _ _, rfl⟩
      · intro act wx h
        obtain ⟨v50, e50, f50⟩ := h.val 8 50 (by kernel_rfl)
        obtain rfl : v50 = .string os := f50
        obtain ⟨v51, e51, f51⟩ := h.val 9 51 (by kernel_rfl)
        obtain rfl : v51 = .string os := f51
        have hg := h.guard 7 49 (by kernel_rfl) true (fun v hv => hv)
        have hbel := h.below
        clear h
        refine gives_by (by simp only [Region.wanted, hg]; rfl) act.eval rfl ?_
        generalize act.eval = ρ at *
        intro hf hc
        go_simp
        exact ⟨Below.refl _ _, rfl⟩
      · intro act wx h
        obtain ⟨v49, e49, f49⟩ := h.val 7 49 (by kernel_rfl)
        obtain rfl : v49 = .bool true := f49
        obtain ⟨v52, e52, f52⟩ := h.val 10 52 (by kernel_rfl)
        obtain rfl : v52 = .bool true := f52
        have hbel := h.below
        clear h
        refine gives_by rfl act.eval rfl ?_
        generalize act.eval = ρ at *
        intro hf hc
        go_simp
        exact ⟨Below.refl _ _, rfl⟩
      · intro act wx h
        obtain ⟨v53, e53, f53⟩ := h.val 11 53 (by kernel_rfl)
        obtain rfl : v53 = .bool true := f53
        have hbel := h.below
        clear h
        refine gives_by rfl act.eval rfl ?_
        generalize act.eval = ρ at *
        intro hf hc
        go_simp
        exact ⟨Below.refl _ _, rfl⟩
      · intro act wx h
        have e8 : act.eval (.tmp 8) = .int .i64 (oe : Int) := h.old 8 (by kernel_rfl)
        have hg := h.guard 12 54 (by kernel_rfl) true (fun v hv => hv)
        have hbel := h.below
        clear h
        refine gives_by (by simp only [Region.wanted, hg]; rfl) act.eval rfl ?_
        generalize act.eval = ρ at *
        intro hf hc
        go_simp
        exact ⟨Below.refl _ _, rfl⟩
      · intro act wx h
        have e10 : act.eval (.tmp 10) = .int .i64 (oe : Int) := h.old 10 (by kernel_rfl)
        have hg := h.guard 12 54 (by kernel_rfl) true (fun v hv => hv)
        have hbel := h.below
        clear h
        refine gives_by (by simp only [Region.wanted, hg]; rfl) act.eval rfl ?_
        generalize act.eval = ρ at *
        intro hf hc
        go_simp
        exact ⟨Below.refl _ _, rfl⟩
      · intro act wx h
        obtain ⟨v55, e55, f55⟩ := h.val 13 55 (by kernel_rfl)
        obtain rfl : v55 = .int .i64 (oe : Int) := f55
        obtain ⟨v56, e56, f56⟩ := h.val 14 56 (by kernel_rfl)
        obtain rfl : v56 = .int .i64 (oe : Int) := f56
        have hg := h.guard 12 54 (by kernel_rfl) true (fun v hv => hv)
        have hbel := h.below
        clear h
        refine gives_by (by simp only [Region.wanted, hg]; rfl) act.eval rfl ?_
        generalize act.eval = ρ at *
        intro hf hc
        go_simp
        exact ⟨Below.refl _ _, rfl⟩
      · intro act wx h
        obtain ⟨v54, e54, f54⟩ := h.val 12 54 (by kernel_rfl)
        obtain rfl : v54 = .bool true := f54
        obtain ⟨v57, e57, f57⟩ := h.val 15 57 (by kernel_rfl)
        obtain rfl : v57 = .bool true := f57
        have hbel := h.below
        clear h
        refine gives_by rfl act.eval rfl ?_
        generalize act.eval = ρ at *
        intro hf hc
        go_simp
        exact ⟨Below.refl _ _, rfl⟩
      · intro act wx h
        obtain ⟨v58, e58, f58⟩ := h.val 16 58 (by kernel_rfl)
        obtain rfl : v58 = .bool true := f58
        have hbel := h.below
        clear h
        refine gives_by rfl act.eval rfl ?_
        generalize act.eval = ρ at *
        intro hf hc
        go_simp
        exact ⟨Below.refl _ _, rfl⟩
      · intro act wx h
        have e3 : act.eval (.tmp 3) = .pointer (some ⟨w.heap.size, 0, none⟩) := h.old 3 (by kernel_rfl)
        have hg := h.guard 17 59 (by kernel_rfl) true (fun v hv => hv)
        have hbel := h.below
        clear h
        obtain ⟨c0, c1, c2⟩ := HCELL.out wx (HB4.out.trans (hbel.mono HB4.out.size))
        refine gives_by (by simp only [Region.wanted, hg]; rfl) act.eval rfl ?_
        generalize act.eval = ρ at *
        intro hf hc
        go_simp
        exact ⟨Below.refl _ _, rfl⟩
      · intro act wx h
        have e2 : act.eval (.tmp 2) = .string ts := h.old 2 (by kernel_rfl)
        have hg := h.guard 17 59 (by kernel_rfl) true (fun v hv => hv)
        have hbel := h.below
        clear h
        refine gives_by (by simp only [Region.wanted, hg]; rfl) act.eval rfl ?_
        generalize act.eval = ρ at *
        intro hf hc
        go_simp
        exact ⟨Below.refl _ _, rfl⟩
      · intro act wx h
        obtain ⟨v60, e60, f60⟩ := h.val 18 60 (by kernel_rfl)
        obtain rfl : v60 = .agg #[.slice fo fn fc, .slice so sn sc, .int .i64 K] := f60
        obtain ⟨v61, e61, f61⟩ := h.val 19 61 (by kernel_rfl)
        obtain rfl : v61 = .string ts := f61
        have hg := h.guard 17 59 (by kernel_rfl) true (fun v hv => hv)
        have hbel := h.below
        clear h
        refine gives_by (by simp only [Region.wanted, hg]; rfl) act.eval rfl ?_
        generalize act.eval = ρ at *
        intro hf hc
        go_simp
        exact call_gives (HST.out wx hbel) (fun _ => rfl)
      · intro act wx h
        have e3 : act.eval (.tmp 3) = .pointer (some ⟨w.heap.size, 0, none⟩) := h.old 3 (by kernel_rfl)
        have hg := h.guard 17 59 (by kernel_rfl) true (fun v hv => hv)
        have hbel := h.below
        clear h
        obtain ⟨c0, c1, c2⟩ := HCELL.out wx (HB4.out.trans (hbel.mono HB4.out.size))
        refine gives_by (by simp only [Region.wanted, hg]; rfl) act.eval rfl ?_
        generalize act.eval = ρ at *
        intro hf hc
        go_simp
        exact ⟨Below.refl _ _, rfl⟩
      · intro act wx h
        have e2 : act.eval (.tmp 2) = .string ts := h.old 2 (by kernel_rfl)
        have hg := h.guard 17 59 (by kernel_rfl) true (fun v hv => hv)
        have hbel := h.below
        clear h
        refine gives_by (by simp only [Region.wanted, hg]; rfl) act.eval rfl ?_
        generalize act.eval = ρ at *
        intro hf hc
        go_simp
        exact ⟨Below.refl _ _, rfl⟩
      · intro act wx h
        obtain ⟨v63, e63, f63⟩ := h.val 21 63 (by kernel_rfl)
        obtain rfl : v63 = .agg #[.slice fo fn fc, .slice so sn sc, .int .i64 K] := f63
        obtain ⟨v64, e64, f64⟩ := h.val 22 64 (by kernel_rfl)
        obtain rfl : v64 = .string ts := f64
        have hg := h.guard 17 59 (by kernel_rfl) true (fun v hv => hv)
        have hbel := h.below
        clear h
        refine gives_by (by simp only [Region.wanted, hg]; rfl) act.eval rfl ?_
        generalize act.eval = ρ at *
        intro hf hc
        go_simp
        exact call_gives (HSD.out wx hbel) (fun _ => rfl)
      · intro act wx h
        obtain ⟨v62, e62, f62⟩ := h.val 20 62 (by kernel_rfl)
        obtain rfl : v62 = .bool st := f62
        obtain ⟨v65, e65, f65⟩ := h.val 23 65 (by kernel_rfl)
        obtain rfl : v65 = .bool st := f65
        have hg := h.guard 17 59 (by kernel_rfl) true (fun v hv => hv)
        have hbel := h.below
        clear h
        refine gives_by (by simp only [Region.wanted, hg]; rfl) act.eval rfl ?_
        generalize act.eval = ρ at *
        intro hf hc
        go_simp
        exact ⟨Below.refl _ _, rfl⟩
      · intro act wx h
        obtain ⟨v59, e59, f59⟩ := h.val 17 59 (by kernel_rfl)
        obtain rfl : v59 = .bool true := f59
        obtain ⟨v66, e66, f66⟩ := h.val 24 66 (by kernel_rfl)
        obtain rfl : v66 = .bool true := f66
        have hbel := h.below
        clear h
        refine gives_by rfl act.eval rfl ?_
        generalize act.eval = ρ at *
        intro hf hc
        go_simp
        exact ⟨Below.refl _ _, rfl⟩
      · intro act wx h
        obtain ⟨v67, e67, f67⟩ := h.val 25 67 (by kernel_rfl)
        obtain rfl : v67 = .bool true := f67
        have hbel := h.below
        clear h
        refine gives_by rfl act.eval rfl ?_
        generalize act.eval = ρ at *
        intro hf hc
        go_simp
        exact ⟨Below.refl _ _, rfl⟩
    · intro vals w8 hb8 hv
      have hv6 : vals 26 = .bool true := hv 26 6 (by kernel_rfl)
      clear hv
      generalize hact : putAll _ vals 0 _ = act
      have HB8 := hide (HWX.out _ hb8)
      clear hb8
      subst hact
      simp only [putAll, Act.put, List.setIfInBounds_toArray, List.set_cons_zero, List.set_cons_succ, hv6, Nat.zero_add, Nat.reduceAdd]
      clear hv6
      go_wp2
      go_ret
      exact ⟨rfl, HB8.out⟩

end Go.Proofs.YtimmfnjkknbofaaDoor
