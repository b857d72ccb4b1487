/- Walk: incipitlaw14.WordsMay. (Written by mkwwmay.py.) -/
import Derived.Test.YtimmfnjkknbofaaDoorJWdToks
import Derived.Test.YtimmfnjkknbofaaDoorJFdOpen
import Derived.Test.YtimmfnjkknbofaaDoorJWdStop
import Derived.Test.YtimmfnjkknbofaaDoorJWdSamD
import Derived.Test.YtimmfnjkknbofaaDoorJWdRz
import Derived.Test.YtimmfnjkknbofaaDoorRegion
namespace Go.Proofs.YtimmfnjkknbofaaDoor
set_option maxRecDepth 20000
open Go.RowKit
set_option linter.unusedVariables false
set_option linter.unusedSimpArgs false
set_option maxRecDepth 100000

theorem sl_lenK {w : World} {ao : Option Addr} {n cap : Nat} {zs : List Int} (h : Sl w (.slice ao n cap) zs) : n = zs.length := by
  obtain ⟨_, ao', cap', he, _⟩ := h
  simp at he
  exact he.2.1
theorem sameC_self (C : Cn) : sameC C C = true := (sameC_eq C C).2 rfl
theorem CnfV.open {w : World} {v : Value} {C : Cn} (h : CnfV w v C) : ∃ fo fc so sc, v = .agg #[.slice fo C.fs.length fc, .slice so C.ss.length sc, .int .i64 C.cap] := by
  obtain ⟨fo, fc, so, sc, h1, _⟩ := h
  exact ⟨fo, fc, so, sc, h1⟩
theorem cfs_two {w : World} {b : Nat} {fo so go to : Option Addr} {fn fc sn sc gn gc tn tc : Nat} {K M : Int} {C D : Cn} (hB : Blk w b 25 [.slice fo fn fc, .slice so sn sc, .int .i64 K, .slice go gn gc, .slice to tn tc, .int .i64 M]) (h : CnfV w (.agg #[.slice fo fn fc, .slice so sn sc, .int .i64 K]) C) (h' : CnfV w (.agg #[.slice go gn gc, .slice to tn tc, .int .i64 M]) D) : Cfs w b [C, D] := fun j hj => by
  obtain ⟨fo', fc', so', sc', he, h1, h2⟩ := h
  simp at he
  obtain ⟨⟨rfl, rfl, rfl⟩, ⟨rfl, rfl, rfl⟩, rfl⟩ := he
  obtain ⟨go', gc', to', tc', he, h3, h4⟩ := h'
  simp at he
  obtain ⟨⟨rfl, rfl, rfl⟩, ⟨rfl, rfl, rfl⟩, rfl⟩ := he
  match j, hj with
  | 0, _ => exact ⟨fo, fc, so, sc, hB.cell 0, hB.cell 1, hB.cell 2, h1, h2⟩
  | 1, _ => exact ⟨go, gc, to, tc, hB.cell 3, hB.cell 4, hB.cell 5, h3, h4⟩

set_option maxHeartbeats 4000000 in
theorem wordsMay_walk (w : World) (va : Value) (A : Cn) (ha : CnfI w va A) (vb : Value) (C : Cn) (hc : CnfI w vb C) (vt : Value) (zs : List Int) (hz : Sl w vt zs) (hL : Let w) :
    Calls Tryd.prog 3 #[va, vb, vt] w fun e w' => e = .returned (.bool true) ∧ Below w.heap.size w w' := by
  obtain ⟨hav, hA1, hA2⟩ := ha
  obtain ⟨hcv, hK1, hK2⟩ := hc
  have HLV : Hid (∀ W, Below w.heap.size w W → Calls Tryd.prog 6 #[] W fun e w' => e = .returned (.bool true) ∧ Below W.heap.size W w') := fun W h => liveW_any W (hL.below h)
  obtain ⟨fo, fc, so, sc, w1, rfl, hw1, hb1, hB1, _, _⟩ := box_cnf w va A hav
  have hcv1 := hcv.below hb1
  obtain ⟨go, gc, ho, hcp, w2, rfl, hw2, hb2, hB2, _, _⟩ := box_cnf w1 vb C hcv1
  have hs1 : w1.heap.size = w.heap.size + 1 := by rw [← hw1]; simp
  rw [hs1] at hB2
  have hb12 : Below w.heap.size w w2 := hb1.trans (hb2.mono hb1.size)
  have HVA : Hid (∀ W, Below w.heap.size w W → CnfV W (.agg #[.slice fo A.fs.length fc, .slice so A.ss.length sc, .int .i64 A.cap]) A) := fun W hb => hav.below hb
  have HVC : Hid (∀ W, Below w.heap.size w W → CnfV W (.agg #[.slice go C.fs.length gc, .slice ho C.ss.length hcp, .int .i64 C.cap]) C) := fun W hb => hcv.below hb
  have HFW : Hid (∀ W b, Below w.heap.size w W → Blk W b 25 [.slice fo A.fs.length fc, .slice so A.ss.length sc, .int .i64 A.cap, .slice go C.fs.length gc, .slice ho C.ss.length hcp, .int .i64 C.cap] → Calls Tryd.prog 7 #[.slice (some ⟨b, 0, none⟩) 2 2] W fun e w' => e = .returned (.bool (fewC A && fewC C)) ∧ Below W.heap.size W w') := fun W b hb hx => by
    have := few_any W b [A, C] (cfs_two hx (hav.below hb) (hcv.below hb)) (by simp)
    simpa using this
  have hcx : ∀ W, Below w2.heap.size w2 W → (W.cell? ⟨w.heap.size, 0, none⟩ = some (.slice fo A.fs.length fc) ∧ W.cell? ⟨w.heap.size, 1, none⟩ = some (.slice so A.ss.length sc) ∧ W.cell? ⟨w.heap.size, 2, none⟩ = some (.int .i64 A.cap)) ∧ W.cell? ⟨w.heap.size + 1, 0, none⟩ = some (.slice go C.fs.length gc) ∧ W.cell? ⟨w.heap.size + 1, 1, none⟩ = some (.slice ho C.ss.length hcp) ∧ W.cell? ⟨w.heap.size + 1, 2, none⟩ = some (.int .i64 C.cap) := fun W hb => by
    have hx1 := hB1.below (hb2.trans (hb.mono hb2.size)) hB1.lt
    have hx2 := hB2.below hb hB2.lt
    exact ⟨⟨hx1.cell 0, hx1.cell 1, hx1.cell 2⟩, hx2.cell 0, hx2.cell 1, hx2.cell 2⟩
  have HCELL := hide hcx
  have HAOK : Hid (fewC A = true → CnOk A) := fun h => fewC_ok h hA1 hA2
  have HBA : Hid (fewC A = true → ∀ W, Below w.heap.size w W → Calls Tryd.prog 8 #[.agg #[.slice fo A.fs.length fc, .slice so A.ss.length sc, .int .i64 A.cap]] W fun e w' => ∃ a c, e = .returned (.tuple #[.slice a (bytL A).length c, .int .i64 (bytE A)]) ∧ Sl w' (.slice a (bytL A).length c) (bytL A) ∧ Below W.heap.size W w') := fun hf W hb => by
    refine (bytes_any W _ A (hav.below hb) (fewC_ok hf hA1 hA2) (hL.below hb)).mono ?_
    rintro e w' ⟨u, rfl, hob, hbb⟩
    obtain ⟨a, c, rfl⟩ := hob.shape
    exact ⟨a, c, rfl, hob.sl, hbb⟩
  have HRA : Hid (fewC A = true → ∀ W, Below w.heap.size w W → Calls Tryd.prog 9 #[.agg #[.slice fo A.fs.length fc, .slice so A.ss.length sc, .int .i64 A.cap]] W fun e w' => ∃ a c, e = .returned (.tuple #[.slice a (bytL A).length c, .int .i64 (bytE A)]) ∧ Sl w' (.slice a (bytL A).length c) (bytL A) ∧ Below W.heap.size W w') := fun hf W hb => by
    refine (refBytes_any W _ A (hav.below hb) (fewC_ok hf hA1 hA2)).mono ?_
    rintro e w' ⟨u, rfl, hob, hbb⟩
    obtain ⟨a, c, rfl⟩ := hob.shape
    exact ⟨a, c, rfl, hob.sl, hbb⟩
  have HPA : Hid (zs.length ≤ 10000 → ∀ W, Below w.heap.size w W → Calls Tryd.prog 10 #[vt] W fun e w' => ∃ fo' fc' so' sc', e = .returned (.tuple #[.agg #[.slice fo' (prsR zs).fs.length fc', .slice so' (prsR zs).ss.length sc', .int .i64 (prsR zs).cap], .int .i64 (prsE zs)]) ∧ CnfV w' (.agg #[.slice fo' (prsR zs).fs.length fc', .slice so' (prsR zs).ss.length sc', .int .i64 (prsR zs).cap]) (prsR zs) ∧ Below W.heap.size W w') := fun hl W hb => by
    refine (parse_any W _ zs (hz.below hb) (by omega) (hL.below hb)).mono ?_
    rintro e w' ⟨u, rfl, hv, hbb⟩
    obtain ⟨a1, a2, a3, a4, rfl⟩ := hv.open
    exact ⟨a1, a2, a3, a4, rfl, hv, hbb⟩
  have HPR : Hid (zs.length ≤ 10000 → ∀ W, Below w.heap.size w W → Calls Tryd.prog 11 #[vt] W fun e w' => ∃ fo' fc' so' sc', e = .returned (.tuple #[.agg #[.slice fo' (prsR zs).fs.length fc', .slice so' (prsR zs).ss.length sc', .int .i64 (prsR zs).cap], .int .i64 (prsE zs)]) ∧ CnfV w' (.agg #[.slice fo' (prsR zs).fs.length fc', .slice so' (prsR zs).ss.length sc', .int .i64 (prsR zs).cap]) (prsR zs) ∧ Below W.heap.size W w') := fun hl W hb => by
    refine (refParse_any W _ zs (hz.below hb) (by omega)).mono ?_
    rintro e w' ⟨u, rfl, hv, hbb⟩
    obtain ⟨a1, a2, a3, a4, rfl⟩ := hv.open
    exact ⟨a1, a2, a3, a4, rfl, hv, hbb⟩
  have HCK0 : Hid (fewC A = true → ∀ W, Below w.heap.size w W → Calls Tryd.prog 12 #[.agg #[.slice fo A.fs.length fc, .slice so A.ss.length sc, .int .i64 A.cap]] W fun e w' => e = .returned (.int .i64 (mayE A)) ∧ Below W.heap.size W w') := fun hf W hb => checkC_any W _ A (hav.below hb) (fewC_ok hf hA1 hA2) (hL.below hb)
  have HCD0 : Hid (fewC A = true → ∀ W, Below w.heap.size w W → Calls Tryd.prog 13 #[.agg #[.slice fo A.fs.length fc, .slice so A.ss.length sc, .int .i64 A.cap]] W fun e w' => e = .returned (.int .i64 (mayE A)) ∧ Below W.heap.size W w') := fun hf W hb => checkD_any W _ A (hav.below hb) (fewC_ok hf hA1 hA2)
  have HSM0 : Hid (∀ W, Below w.heap.size w W → Calls Tryd.prog 14 #[.agg #[.slice fo A.fs.length fc, .slice so A.ss.length sc, .int .i64 A.cap], .agg #[.slice go C.fs.length gc, .slice ho C.ss.length hcp, .int .i64 C.cap]] W fun e w' => e = .returned (.bool (sameC A C)) ∧ Below W.heap.size W w') := fun W hb => same_any W _ _ A C (hav.below hb) (hcv.below hb)
  have HSS0 : Hid (∀ W, Below w.heap.size w W → Calls Tryd.prog 14 #[.agg #[.slice fo A.fs.length fc, .slice so A.ss.length sc, .int .i64 A.cap], .agg #[.slice fo A.fs.length fc, .slice so A.ss.length sc, .int .i64 A.cap]] W fun e w' => e = .returned (.bool true) ∧ Below W.heap.size W w') := fun W hb => by
    have := same_any W _ _ A A (hav.below hb) (hav.below hb)
    rwa [sameC_self] at this
  have HSD0 : Hid (fewC A = true → fewC C = true → ∀ W, Below w.heap.size w W → Calls Tryd.prog 15 #[.agg #[.slice fo A.fs.length fc, .slice so A.ss.length sc, .int .i64 A.cap], .agg #[.slice go C.fs.length gc, .slice ho C.ss.length hcp, .int .i64 C.cap]] W fun e w' => e = .returned (.bool (sameC A C)) ∧ Below W.heap.size W w') := fun hf hg W hb => sameD_any W _ _ A C (hav.below hb) (hcv.below hb)
  obtain ⟨to, tn, tc, rfl⟩ := sl_form hz
  have htn := sl_lenK hz
  have HB1 := hide hb12
  obtain ⟨fn, hfn⟩ : ∃ n, A.fs.length = n := ⟨_, rfl⟩
  obtain ⟨sn, hsn⟩ : ∃ n, A.ss.length = n := ⟨_, rfl⟩
  obtain ⟨K, hK⟩ : ∃ n, A.cap = n := ⟨_, rfl⟩
  obtain ⟨gn, hgn⟩ : ∃ n, C.fs.length = n := ⟨_, rfl⟩
  obtain ⟨hn, hhn⟩ : ∃ n, C.ss.length = n := ⟨_, rfl⟩
  obtain ⟨M, hM⟩ : ∃ n, C.cap = n := ⟨_, rfl⟩
  rw [hfn, hsn, hK] at hw1 HFW HBA HRA HCK0 HCD0 HSM0 HSS0 HSD0 HCELL ⊢
  rw [hgn, hhn, hM] at hw2 HFW HSM0 HSD0 HCELL ⊢
  have HW1 := hide hw1
  have HW2 := hide hw2
  have HWB : Hid (∀ W, Below w2.heap.size w2 W → Below w.heap.size w W) := fun W hb => HB1.out.trans (hb.mono HB1.out.size)
  have HTN := hide htn
  clear hs1 hav hcv hcv1 hA1 hA2 hK1 hK2 hb1 hb2 hb12 hB1 hB2 hz hL hfn hsn hK hgn hhn hM htn hw1 hw2 hcx HVA HVC HAOK
  have HF1 : Hid (∀ W, Below w2.heap.size w2 W → Calls Tryd.prog 7 #[.slice (some ⟨W.heap.size, 0, none⟩) 2 2] (W.alloc (.cells #[.slice fo fn fc, .slice so sn sc, .int .i64 K, .slice go gn gc, .slice ho hn hcp, .int .i64 M] 25)) fun e w' => e = .returned (.bool (fewC A && fewC C)) ∧ Below w2.heap.size w2 w') := fun W hb => by
    have h1 : Below w2.heap.size w2 (W.alloc (.cells #[.slice fo fn fc, .slice so sn sc, .int .i64 K, .slice go gn gc, .slice ho hn hcp, .int .i64 M] 25)) := hb.alloc hb.size _
    exact (HFW.out _ W.heap.size (HWB.out _ h1) (Blk.new W _ _)).mono fun e w' ⟨e1, e2⟩ => ⟨e1, h1.trans (e2.mono (by have := hb.size; rw [World.size_alloc]; omega))⟩
  have HL1 : Hid (∀ W, Below w2.heap.size w2 W → Calls Tryd.prog 6 #[] W fun e w' => e = .returned (.bool true) ∧ Below w2.heap.size w2 w') := fun W hb => (HLV.out W (HWB.out W hb)).mono fun e w' ⟨e1, e2⟩ => ⟨e1, hb.trans (e2.mono hb.size)⟩
  clear HFW HLV
  cases hF : (fewC A && fewC C) with
  | false =>
    rw [hF] at HF1
    clear hF HBA HRA HPA HPR HCK0 HCD0 HSM0 HSS0 HSD0
    go_enter Tryd.func3, Tryd.ntmps3
    go_wp2_with (first
      | (go_at_call 6; rw [HW1.out, HW2.out]; refine (HL1.out w2 (Below.refl _ w2)).mono ?_; rintro e w3 ⟨rfl, hb⟩; have HB3 := hide hb; obtain ⟨⟨c0, c1, c2⟩, k0, k1, k2⟩ := HCELL.out w3 hb; clear hb HW1)
      | (go_at_call 7; refine (HF1.out w3 HB3.out).mono ?_; rintro e w4 ⟨rfl, hb⟩; have HB4 := hide hb; clear HF1 hb)
      | (go_at_call 6; refine (HL1.out w4 HB4.out).mono ?_; rintro e w5 ⟨rfl, hb⟩; have HB5 := hide hb; clear HL1 hb))
    go_ret
    exact ⟨rfl, HWB.out _ HB5.out⟩
  | true =>
    rw [hF] at HF1
    rw [Bool.and_eq_true] at hF
    by_cases h2 : 1000 < tn
    · have h2i : (1000 : Int) < (tn : Int) := by omega
      clear hF HBA HRA HPA HPR HCK0 HCD0 HSM0 HSS0 HSD0
      go_enter Tryd.func3, Tryd.ntmps3
      go_wp2_with (first
        | (go_at_call 6; rw [HW1.out, HW2.out]; refine (HL1.out w2 (Below.refl _ w2)).mono ?_; rintro e w3 ⟨rfl, hb⟩; have HB3 := hide hb; obtain ⟨⟨c0, c1, c2⟩, k0, k1, k2⟩ := HCELL.out w3 hb; clear hb HW1)
        | (go_at_call 7; refine (HF1.out w3 HB3.out).mono ?_; rintro e w4 ⟨rfl, hb⟩; have HB4 := hide hb; clear HF1 hb)
        | (go_at_call 6; refine (HL1.out w4 HB4.out).mono ?_; rintro e w5 ⟨rfl, hb⟩; have HB5 := hide hb; clear HL1 hb))
      go_ret
      exact ⟨rfl, HWB.out _ HB5.out⟩
    have h2i : ¬ (1000 : Int) < (tn : Int) := by omega
    have HBA1 := hide (HBA.out hF.1)
    have HRA1 := hide (HRA.out hF.1)
    have HPA1 := hide (HPA.out (by have := HTN.out; omega))
    have HPR1 := hide (HPR.out (by have := HTN.out; omega))
    have HCK1 := hide (HCK0.out hF.1)
    have HCD1 := hide (HCD0.out hF.1)
    have HSD1 := hide (HSD0.out hF.1 hF.2)
    obtain ⟨X, hX⟩ : ∃ X, bytL A = X := ⟨_, rfl⟩
    obtain ⟨xn, hxn⟩ : ∃ x, X.length = x := ⟨_, rfl⟩
    obtain ⟨E, hE⟩ : ∃ x, bytE A = x := ⟨_, rfl⟩
    obtain ⟨Y, hY⟩ : ∃ x, prsR zs = x := ⟨_, rfl⟩
    obtain ⟨E2, hE2⟩ : ∃ x, prsE zs = x := ⟨_, rfl⟩
    obtain ⟨E3, hE3⟩ : ∃ x, mayE A = x := ⟨_, rfl⟩
    obtain ⟨sab, hsab⟩ : ∃ x, sameC A C = x := ⟨_, rfl⟩
    obtain ⟨yf, hyf⟩ : ∃ y, Y.fs.length = y := ⟨_, rfl⟩
    obtain ⟨ys, hys⟩ : ∃ y, Y.ss.length = y := ⟨_, rfl⟩
    obtain ⟨yk, hyk⟩ : ∃ y, Y.cap = y := ⟨_, rfl⟩
    rw [hX, hE, hxn] at HBA1 HRA1
    rw [hY, hE2, hyf, hys, hyk] at HPA1 HPR1
    rw [hE3] at HCK1 HCD1
    rw [hsab] at HSM0 HSD1
    clear hF h2 HBA HRA HPA HPR HCK0 HCD0 HSD0 hX hxn hE hY hE2 hE3 hsab hyf hys hyk
    go_enter Tryd.func3, Tryd.ntmps3
    go_wp2_with (first
      | (go_at_call 6; rw [HW1.out, HW2.out]; refine (HL1.out w2 (Below.refl _ w2)).mono ?_; rintro e w3 ⟨rfl, hb⟩; have HB3 := hide hb; obtain ⟨⟨c0, c1, c2⟩, k0, k1, k2⟩ := HCELL.out w3 hb; clear hb HW1 HL1)
      | (go_at_call 7; refine (HF1.out w3 HB3.out).mono ?_; rintro e w4 ⟨rfl, hb⟩; have HB4 := hide hb; clear c0 c1 c2 k0 k1 k2; obtain ⟨⟨c0, c1, c2⟩, k0, k1, k2⟩ := HCELL.out w4 hb; clear HF1 hb)
      | (go_at_call 8; refine (HBA1.out w4 (HWB.out w4 HB4.out)).mono ?_; rintro e w5 ⟨xa, xc, rfl, hsx, hb⟩; have HB5 := hide (HB4.out.trans (hb.mono HB4.out.size)); have HSX := hide hsx; clear c0 c1 c2 k0 k1 k2; obtain ⟨⟨c0, c1, c2⟩, k0, k1, k2⟩ := HCELL.out w5 HB5.out; clear HBA1 hb hsx)
      | (go_at_call 9; refine (HRA1.out w5 (HWB.out w5 HB5.out)).mono ?_; rintro e w6 ⟨ya, yc, rfl, hsy, hb⟩; have HB6 := hide (HB5.out.trans (hb.mono HB5.out.size)); have HSXY := hide (And.intro (HSX.out.below hb) hsy); clear c0 c1 c2 k0 k1 k2; clear HRA1 hb hsy)
      | (go_at_call 10; refine (HPA1.out w6 (HWB.out w6 HB6.out)).mono ?_; rintro e w7 ⟨f7, g7, s7, t7, rfl, hv7, hb⟩; obtain ⟨W8, hW8⟩ : ∃ W8, w7.alloc (.cells #[.slice f7 yf g7, .slice s7 ys t7, .int .i64 yk] 25) = W8 := ⟨_, rfl⟩; have hb8 : Below w7.heap.size w7 W8 := (by rw [← hW8]; exact (Below.refl _ w7).alloc (Nat.le_refl _) _); have HX8 : Hid (Blk W8 w7.heap.size 25 [.slice f7 yf g7, .slice s7 ys t7, .int .i64 yk]) := (by rw [← hW8]; exact Blk.new w7 _ _); have HV8 := hide (hv7.below hb8); have hb68 := hb.trans (hb8.mono hb.size); have HB8 := hide (HB6.out.trans (hb68.mono HB6.out.size)); have HS8 := hide (And.intro (HSXY.out.1.below hb68) (HSXY.out.2.below hb68)); clear HPA1 hb hb8 hb68 hv7)
      | (go_at_call 11; refine (HPR1.out W8 (HWB.out W8 HB8.out)).mono ?_; rintro e w9 ⟨f9, g9, s9, t9, rfl, hv9, hb⟩; obtain ⟨WZ, hWZ⟩ : ∃ WZ, w9.alloc (.cells #[.slice f9 yf g9, .slice s9 ys t9, .int .i64 yk] 25) = WZ := ⟨_, rfl⟩; have hbz : Below w9.heap.size w9 WZ := (by rw [← hWZ]; exact (Below.refl _ w9).alloc (Nat.le_refl _) _); have HXZ : Hid (Blk WZ w9.heap.size 25 [.slice f9 yf g9, .slice s9 ys t9, .int .i64 yk]) := (by rw [← hWZ]; exact Blk.new w9 _ _); have hb8z := hb.trans (hbz.mono hb.size); have HVZ := hide (And.intro (HV8.out.below hb8z) (hv9.below hbz)); have HBZ := hide (HB8.out.trans (hb8z.mono HB8.out.size)); have HSZ := hide (And.intro (HS8.out.1.below hb8z) (HS8.out.2.below hb8z)); have HX8Z := hide (HX8.out.below hb8z HX8.out.lt); clear HPR1 hb hbz hb8z hv9))
    clear hW8 hWZ
    have HWX2 : Hid (∀ wx, Below WZ.heap.size WZ wx → Below w2.heap.size w2 wx) := fun wx h => HBZ.out.trans (h.mono HBZ.out.size)
    have HWX : Hid (∀ wx, Below WZ.heap.size WZ wx → Below w.heap.size w wx) := fun wx h => HWB.out wx (HWX2.out wx h)
    have HYC : Hid (∀ wx, Below WZ.heap.size WZ wx → (wx.cell? ⟨w7.heap.size, 0, none⟩ = some (.slice f7 yf g7) ∧ wx.cell? ⟨w7.heap.size, 1, none⟩ = some (.slice s7 ys t7) ∧ wx.cell? ⟨w7.heap.size, 2, none⟩ = some (.int .i64 yk)) ∧ wx.cell? ⟨w9.heap.size, 0, none⟩ = some (.slice f9 yf g9) ∧ wx.cell? ⟨w9.heap.size, 1, none⟩ = some (.slice s9 ys t9) ∧ wx.cell? ⟨w9.heap.size, 2, none⟩ = some (.int .i64 yk)) := fun wx h => by
      have hx1 := HX8Z.out.below h HX8Z.out.lt
      have hx2 := HXZ.out.below h HXZ.out.lt
      exact ⟨⟨hx1.cell 0, hx1.cell 1, hx1.cell 2⟩, hx2.cell 0, hx2.cell 1, hx2.cell 2⟩
    have HCK : Hid (∀ wx, Below WZ.heap.size WZ wx → Calls Tryd.prog 12 #[.agg #[.slice fo fn fc, .slice so sn sc, .int .i64 K]] wx fun e w' => e = .returned (.int .i64 E3) ∧ Below wx.heap.size wx w') := fun wx h => HCK1.out wx (HWX.out wx h)
    have HCD : Hid (∀ wx, Below WZ.heap.size WZ wx → Calls Tryd.prog 13 #[.agg #[.slice fo fn fc, .slice so sn sc, .int .i64 K]] wx fun e w' => e = .returned (.int .i64 E3) ∧ Below wx.heap.size wx w') := fun wx h => HCD1.out wx (HWX.out wx h)
    have HSM : Hid (∀ wx, Below WZ.heap.size WZ wx → Calls Tryd.prog 14 #[.agg #[.slice fo fn fc, .slice so sn sc, .int .i64 K], .agg #[.slice go gn gc, .slice ho hn hcp, .int .i64 M]] wx fun e w' => e = .returned (.bool sab) ∧ Below wx.heap.size wx w') := fun wx h => HSM0.out wx (HWX.out wx h)
    have HSS : Hid (∀ wx, Below WZ.heap.size WZ wx → Calls Tryd.prog 14 #[.agg #[.slice fo fn fc, .slice so sn sc, .int .i64 K], .agg #[.slice fo fn fc, .slice so sn sc, .int .i64 K]] wx fun e w' => e = .returned (.bool true) ∧ Below wx.heap.size wx w') := fun wx h => HSS0.out wx (HWX.out wx h)
    have HSD : Hid (∀ wx, Below WZ.heap.size WZ wx → Calls Tryd.prog 15 #[.agg #[.slice fo fn fc, .slice so sn sc, .int .i64 K], .agg #[.slice go gn gc, .slice ho hn hcp, .int .i64 M]] wx fun e w' => e = .returned (.bool sab) ∧ Below wx.heap.size wx w') := fun wx h => HSD1.out wx (HWX.out wx h)
    have HEQ : Hid (∀ wx, Below WZ.heap.size WZ wx → Calls Tryd.prog 16 #[.slice xa xn xc, .slice ya xn yc] wx fun e w' => e = .returned (.bool true) ∧ Below wx.heap.size wx w') := fun wx h => (equal_any wx _ _ X X (HSZ.out.1.below h) (HSZ.out.2.below h)).mono fun e w' ⟨he, hw⟩ => ⟨by rw [he]; simp, by subst hw; exact Below.refl _ _⟩
    have HSY : Hid (∀ wx, Below WZ.heap.size WZ wx → Calls Tryd.prog 15 #[.agg #[.slice f7 yf g7, .slice s7 ys t7, .int .i64 yk], .agg #[.slice f9 yf g9, .slice s9 ys t9, .int .i64 yk]] wx fun e w' => e = .returned (.bool true) ∧ Below wx.heap.size wx w') := fun wx h => by
      have := sameD_any wx _ _ Y Y (HVZ.out.1.below h) (HVZ.out.2.below h)
      rwa [sameC_self] at this
    clear HCK1 HCD1 HSM0 HSS0 HSD1
    refine wp_region_facts (FL [isV (.agg #[.slice fo fn fc, .slice so sn sc, .int .i64 K]), isV (.int .i64 (E3 : Int)), isV (.agg #[.slice fo fn fc, .slice so sn sc, .int .i64 K]), isV (.int .i64 (E3 : Int)), isV (.bool true), isV (.bool true), isV (.agg #[.slice fo fn fc, .slice so sn sc, .int .i64 K]), isV (.agg #[.slice go gn gc, .slice ho hn hcp, .int .i64 M]), isV (.bool sab), isV (.agg #[.slice fo fn fc, .slice so sn sc, .int .i64 K]), isV (.agg #[.slice go gn gc, .slice ho hn hcp, .int .i64 M]), isV (.bool sab), isV (.bool true), isV (.bool true), isV (.bool true), isV (.agg #[.slice fo fn fc, .slice so sn sc, .int .i64 K]), isV (.agg #[.slice fo fn fc, .slice so sn sc, .int .i64 K]), isV (.bool true), isV (.bool true), isV (.bool true), isV (.slice xa xn xc), isV (.slice ya xn yc), isV (.bool true), isV (.bool true), isV (.bool true), isV (.int .i64 (E : Int)), isV (.int .i64 (E : Int)), isV (.bool true), isV (.bool true), isV (.bool true), isV (.agg #[.slice f7 yf g7, .slice s7 ys t7, .int .i64 yk]), isV (.agg #[.slice f9 yf g9, .slice s9 ys t9, .int .i64 yk]), isV (.bool true), isV (.bool true), isV (.bool true), isV (.int .i64 (E2 : Int)), isV (.int .i64 (E2 : Int)), isV (.bool true), isV (.bool true), isV (.bool true)]) 89 (by kernel_rfl) (by kernel_rfl) (by kernel_rfl) rfl (FL_stable _ (by repeat (first | exact trivial | refine ⟨stable_isV _, ?_⟩))) ?_ ?_
    · refine ⟨?_, ?_, ?_, ?_, ?_, ?_, ?_, ?_, ?_, ?_, ?_, ?_, ?_, ?_, ?_, ?_, ?_, ?_, ?_, ?_, ?_, ?_, ?_, ?_, ?_, ?_, ?_, ?_, ?_, ?_, ?_, ?_, ?_, ?_, ?_, ?_, ?_, ?_, ?_, ?_, trivial⟩
      · intro act wx h
        have e3 : act.eval (.tmp 3) = .pointer (some ⟨w.heap.size, 0, none⟩) := h.old 3 (by kernel_rfl)
        have hbel := h.below
        clear h
        obtain ⟨⟨c0, c1, c2⟩, k0, k1, k2⟩ := HCELL.out wx (HWX2.out wx hbel)
        refine gives_by rfl act.eval rfl ?_
        generalize act.eval = ρ at *
        intro hf hc
        go_simp
        exact ⟨Below.refl _ _, rfl⟩
      · intro act wx h
        obtain ⟨v50, e50, f50⟩ := h.val 0 50 (by kernel_rfl)
        obtain rfl : v50 = .agg #[.slice fo fn fc, .slice so sn sc, .int .i64 K] := f50
        have hbel := h.below
        clear h
        refine gives_by rfl act.eval rfl ?_
        generalize act.eval = ρ at *
        intro hf hc
        go_simp
        exact call_gives (HCK.out wx hbel) (fun _ => rfl)
      · intro act wx h
        have e3 : act.eval (.tmp 3) = .pointer (some ⟨w.heap.size, 0, none⟩) := h.old 3 (by kernel_rfl)
        have hbel := h.below
        clear h
        obtain ⟨⟨c0, c1, c2⟩, k0, k1, k2⟩ := HCELL.out wx (HWX2.out wx hbel)
        refine gives_by rfl act.eval rfl ?_
        generalize act.eval = ρ at *
        intro hf hc
        go_simp
        exact ⟨Below.refl _ _, rfl⟩
      · intro act wx h
        obtain ⟨v52, e52, f52⟩ := h.val 2 52 (by kernel_rfl)
        obtain rfl : v52 = .agg #[.slice fo fn fc, .slice so sn sc, .int .i64 K] := f52
        have hbel := h.below
        clear h
        refine gives_by rfl act.eval rfl ?_
        generalize act.eval = ρ at *
        intro hf hc
        go_simp
        exact call_gives (HCD.out wx hbel) (fun _ => rfl)
      · intro act wx h
        obtain ⟨v51, e51, f51⟩ := h.val 1 51 (by kernel_rfl)
        obtain rfl : v51 = .int .i64 (E3 : Int) := f51
        obtain ⟨v53, e53, f53⟩ := h.val 3 53 (by kernel_rfl)
        obtain rfl : v53 = .int .i64 (E3 : Int) := f53
        have hbel := h.below
        clear h
        refine gives_by rfl act.eval rfl ?_
        generalize act.eval = ρ at *
        intro hf hc
        go_simp
        exact ⟨Below.refl _ _, rfl⟩
      · intro act wx h
        obtain ⟨v54, e54, f54⟩ := h.val 4 54 (by kernel_rfl)
        obtain rfl : v54 = .bool true := f54
        have hbel := h.below
        clear h
        refine gives_by rfl act.eval rfl ?_
        generalize act.eval = ρ at *
        intro hf hc
        go_simp
        exact ⟨Below.refl _ _, rfl⟩
      · intro act wx h
        have e3 : act.eval (.tmp 3) = .pointer (some ⟨w.heap.size, 0, none⟩) := h.old 3 (by kernel_rfl)
        have hg := h.guard 5 55 (by kernel_rfl) true (fun v hv => hv)
        have hbel := h.below
        clear h
        obtain ⟨⟨c0, c1, c2⟩, k0, k1, k2⟩ := HCELL.out wx (HWX2.out wx hbel)
        refine gives_by (by simp only [Region.wanted, hg]; rfl) act.eval rfl ?_
        generalize act.eval = ρ at *
        intro hf hc
        go_simp
        exact ⟨Below.refl _ _, rfl⟩
      · intro act wx h
        have e4 : act.eval (.tmp 4) = .pointer (some ⟨w.heap.size + 1, 0, none⟩) := h.old 4 (by kernel_rfl)
        have hg := h.guard 5 55 (by kernel_rfl) true (fun v hv => hv)
        have hbel := h.below
        clear h
        obtain ⟨⟨c0, c1, c2⟩, k0, k1, k2⟩ := HCELL.out wx (HWX2.out wx hbel)
        refine gives_by (by simp only [Region.wanted, hg]; rfl) act.eval rfl ?_
        generalize act.eval = ρ at *
        intro hf hc
        go_simp
        exact ⟨Below.refl _ _, rfl⟩
      · intro act wx h
        obtain ⟨v56, e56, f56⟩ := h.val 6 56 (by kernel_rfl)
        obtain rfl : v56 = .agg #[.slice fo fn fc, .slice so sn sc, .int .i64 K] := f56
        obtain ⟨v57, e57, f57⟩ := h.val 7 57 (by kernel_rfl)
        obtain rfl : v57 = .agg #[.slice go gn gc, .slice ho hn hcp, .int .i64 M] := f57
        have hg := h.guard 5 55 (by kernel_rfl) true (fun v hv => hv)
        have hbel := h.below
        clear h
        refine gives_by (by simp only [Region.wanted, hg]; rfl) act.eval rfl ?_
        generalize act.eval = ρ at *
        intro hf hc
        go_simp
        exact call_gives (HSM.out wx hbel) (fun _ => rfl)
      · intro act wx h
        have e3 : act.eval (.tmp 3) = .pointer (some ⟨w.heap.size, 0, none⟩) := h.old 3 (by kernel_rfl)
        have hg := h.guard 5 55 (by kernel_rfl) true (fun v hv => hv)
        have hbel := h.below
        clear h
        obtain ⟨⟨c0, c1, c2⟩, k0, k1, k2⟩ := HCELL.out wx (HWX2.out wx hbel)
        refine gives_by (by simp only [Region.wanted, hg]; rfl) act.eval rfl ?_
        generalize act.eval = ρ at *
        intro hf hc
        go_simp
        exact ⟨Below.refl _ _, rfl⟩
      · intro act wx h
        have e4 : act.eval (.tmp 4) = .pointer (some ⟨w.heap.size + 1, 0, none⟩) := h.old 4 (by kernel_rfl)
        have hg := h.guard 5 55 (by kernel_rfl) true (fun v hv => hv)
        have hbel := h.below
        clear h
        obtain ⟨⟨c0, c1, c2⟩, k0, k1, k2⟩ := HCELL.out wx (HWX2.out wx hbel)
        refine gives_by (by simp only [Region.wanted, hg]; rfl) act.eval rfl ?_
        generalize act.eval = ρ at *
        intro hf hc
        go_simp
        exact ⟨Below.refl _ _, rfl⟩
      · intro act wx h
        obtain ⟨v59, e59, f59⟩ := h.val 9 59 (by kernel_rfl)
        obtain rfl : v59 = .agg #[.slice fo fn fc, .slice so sn sc, .int .i64 K] := f59
        obtain ⟨v60, e60, f60⟩ := h.val 10 60 (by kernel_rfl)
        obtain rfl : v60 = .agg #[.slice go gn gc, .slice ho hn hcp, .int .i64 M] := f60
        have hg := h.guard 5 55 (by kernel_rfl) true (fun v hv => hv)
        have hbel := h.below
        clear h
        refine gives_by (by simp only [Region.wanted, hg]; rfl) act.eval rfl ?_
        generalize act.eval = ρ at *
        intro hf hc
        go_simp
        exact call_gives (HSD.out wx hbel) (fun _ => rfl)
      · intro act wx h
        obtain ⟨v58, e58, f58⟩ := h.val 8 58 (by kernel_rfl)
        obtain rfl : v58 = .bool sab := f58
        obtain ⟨v61, e61, f61⟩ := h.val 11 61 (by kernel_rfl)
        obtain rfl : v61 = .bool sab := f61
        have hg := h.guard 5 55 (by kernel_rfl) true (fun v hv => hv)
        have hbel := h.below
        clear h
        refine gives_by (by simp only [Region.wanted, hg]; rfl) act.eval rfl ?_
        generalize act.eval = ρ at *
        intro hf hc
        go_simp
        exact ⟨Below.refl _ _, rfl⟩
      · intro act wx h
        obtain ⟨v55, e55, f55⟩ := h.val 5 55 (by kernel_rfl)
        obtain rfl : v55 = .bool true := f55
        obtain ⟨v62, e62, f62⟩ := h.val 12 62 (by kernel_rfl)
        obtain rfl : v62 = .bool true := f62
        have hbel := h.below
        clear h
        refine gives_by rfl act.eval rfl ?_
        generalize act.eval = ρ at *
        intro hf hc
        go_simp
        exact ⟨Below.refl _ _, rfl⟩
      · intro act wx h
        obtain ⟨v63, e63, f63⟩ := h.val 13 63 (by kernel_rfl)
        obtain rfl : v63 = .bool true := f63
        have hbel := h.below
        clear h
        refine gives_by rfl act.eval rfl ?_
        generalize act.eval = ρ at *
        intro hf hc
        go_simp
        exact ⟨Below.refl _ _, rfl⟩
      · intro act wx h
        have e3 : act.eval (.tmp 3) = .pointer (some ⟨w.heap.size, 0, none⟩) := h.old 3 (by kernel_rfl)
        have hg := h.guard 14 64 (by kernel_rfl) true (fun v hv => hv)
        have hbel := h.below
        clear h
        obtain ⟨⟨c0, c1, c2⟩, k0, k1, k2⟩ := HCELL.out wx (HWX2.out wx hbel)
        refine gives_by (by simp only [Region.wanted, hg]; rfl) act.eval rfl ?_
        generalize act.eval = ρ at *
        intro hf hc
        go_simp
        exact ⟨Below.refl _ _, rfl⟩
      · intro act wx h
        have e3 : act.eval (.tmp 3) = .pointer (some ⟨w.heap.size, 0, none⟩) := h.old 3 (by kernel_rfl)
        have hg := h.guard 14 64 (by kernel_rfl) true (fun v hv => hv)
        have hbel := h.below
        clear h
        obtain ⟨⟨c0, c1, c2⟩, k0, k1, k2⟩ := HCELL.out wx (HWX2.out wx hbel)
        refine gives_by (by simp only [Region.wanted, hg]; rfl) act.eval rfl ?_
        generalize act.eval = ρ at *
        intro hf hc
        go_simp
        exact ⟨Below.refl _ _, rfl⟩
      · intro act wx h
        obtain ⟨v65, e65, f65⟩ := h.val 15 65 (by kernel_rfl)
        obtain rfl : v65 = .agg #[.slice fo fn fc, .slice so sn sc, .int .i64 K] := f65
        obtain ⟨v66, e66, f66⟩ := h.val 16 66 (by kernel_rfl)
        obtain rfl : v66 = .agg #[.slice fo fn fc, .slice so sn sc, .int .i64 K] := f66
        have hg := h.guard 14 64 (by kernel_rfl) true (fun v hv => hv)
        have hbel := h.below
        clear h
        refine gives_by (by simp only [Region.wanted, hg]; rfl) act.eval rfl ?_
        generalize act.eval = ρ at *
        intro hf hc
        go_simp
        exact call_gives (HSS.out wx hbel) (fun _ => rfl)
      · intro act wx h
        obtain ⟨v64, e64, f64⟩ := h.val 14 64 (by kernel_rfl)
        obtain rfl : v64 = .bool true := f64
        obtain ⟨v67, e67, f67⟩ := h.val 17 67 (by kernel_rfl)
        obtain rfl : v67 = .bool true := f67
        have hbel := h.below
        clear h
        refine gives_by rfl act.eval rfl ?_
        generalize act.eval = ρ at *
        intro hf hc
        go_simp
        exact ⟨Below.refl _ _, rfl⟩
      · intro act wx h
        obtain ⟨v68, e68, f68⟩ := h.val 18 68 (by kernel_rfl)
        obtain rfl : v68 = .bool true := f68
        have hbel := h.below
        clear h
        refine gives_by rfl act.eval rfl ?_
        generalize act.eval = ρ at *
        intro hf hc
        go_simp
        exact ⟨Below.refl _ _, rfl⟩
      · intro act wx h
        have e7 : act.eval (.tmp 7) = .slice xa xn xc := h.old 7 (by kernel_rfl)
        have hg := h.guard 19 69 (by kernel_rfl) true (fun v hv => hv)
        have hbel := h.below
        clear h
        refine gives_by (by simp only [Region.wanted, hg]; rfl) act.eval rfl ?_
        generalize act.eval = ρ at *
        intro hf hc
        go_simp
        exact ⟨Below.refl _ _, rfl⟩
      · intro act wx h
        have e9 : act.eval (.tmp 9) = .slice ya xn yc := h.old 9 (by kernel_rfl)
        have hg := h.guard 19 69 (by kernel_rfl) true (fun v hv => hv)
        have hbel := h.below
        clear h
        refine gives_by (by simp only [Region.wanted, hg]; rfl) act.eval rfl ?_
        generalize act.eval = ρ at *
        intro hf hc
        go_simp
        exact ⟨Below.refl _ _, rfl⟩
      · intro act wx h
        obtain ⟨v70, e70, f70⟩ := h.val 20 70 (by kernel_rfl)
        obtain rfl : v70 = .slice xa xn xc := f70
        obtain ⟨v71, e71, f71⟩ := h.val 21 71 (by kernel_rfl)
        obtain rfl : v71 = .slice ya xn yc := f71
        have hg := h.guard 19 69 (by kernel_rfl) true (fun v hv => hv)
        have hbel := h.below
        clear h
        refine gives_by (by simp only [Region.wanted, hg]; rfl) act.eval rfl ?_
        generalize act.eval = ρ at *
        intro hf hc
        go_simp
        exact call_gives (HEQ.out wx hbel) (fun _ => rfl)
      · intro act wx h
        obtain ⟨v69, e69, f69⟩ := h.val 19 69 (by kernel_rfl)
        obtain rfl : v69 = .bool true := f69
        obtain ⟨v72, e72, f72⟩ := h.val 22 72 (by kernel_rfl)
        obtain rfl : v72 = .bool true := f72
        have hbel := h.below
        clear h
        refine gives_by rfl act.eval rfl ?_
        generalize act.eval = ρ at *
        intro hf hc
        go_simp
        exact ⟨Below.refl _ _, rfl⟩
      · intro act wx h
        obtain ⟨v73, e73, f73⟩ := h.val 23 73 (by kernel_rfl)
        obtain rfl : v73 = .bool true := f73
        have hbel := h.below
        clear h
        refine gives_by rfl act.eval rfl ?_
        generalize act.eval = ρ at *
        intro hf hc
        go_simp
        exact ⟨Below.refl _ _, rfl⟩
      · intro act wx h
        have e8 : act.eval (.tmp 8) = .int .i64 (E : Int) := h.old 8 (by kernel_rfl)
        have hg := h.guard 24 74 (by kernel_rfl) true (fun v hv => hv)
        have hbel := h.below
        clear h
        refine gives_by (by simp only [Region.wanted, hg]; rfl) act.eval rfl ?_
        generalize act.eval = ρ at *
        intro hf hc
        go_simp
        exact ⟨Below.refl _ _, rfl⟩
      · intro act wx h
        have e10 : act.eval (.tmp 10) = .int .i64 (E : Int) := h.old 10 (by kernel_rfl)
        have hg := h.guard 24 74 (by kernel_rfl) true (fun v hv => hv)
        have hbel := h.below
        clear h
        refine gives_by (by simp only [Region.wanted, hg]; rfl) act.eval rfl ?_
        generalize act.eval = ρ at *
        intro hf hc
        go_simp
        exact ⟨Below.refl _ _, rfl⟩
      · intro act wx h
        obtain ⟨v75, e75, f75⟩ := h.val 25 75 (by kernel_rfl)
        obtain rfl : v75 = .int .i64 (E : Int) := f75
        obtain ⟨v76, e76, f76⟩ := h.val 26 76 (by kernel_rfl)
        obtain rfl : v76 = .int .i64 (E : Int) := f76
        have hg := h.guard 24 74 (by kernel_rfl) true (fun v hv => hv)
        have hbel := h.below
        clear h
        refine gives_by (by simp only [Region.wanted, hg]; rfl) act.eval rfl ?_
        generalize act.eval = ρ at *
        intro hf hc
        go_simp
        exact ⟨Below.refl _ _, rfl⟩
      · intro act wx h
        obtain ⟨v74, e74, f74⟩ := h.val 24 74 (by kernel_rfl)
        obtain rfl : v74 = .bool true := f74
        obtain ⟨v77, e77, f77⟩ := h.val 27 77 (by kernel_rfl)
        obtain rfl : v77 = .bool true := f77
        have hbel := h.below
        clear h
        refine gives_by rfl act.eval rfl ?_
        generalize act.eval = ρ at *
        intro hf hc
        go_simp
        exact ⟨Below.refl _ _, rfl⟩
      · intro act wx h
        obtain ⟨v78, e78, f78⟩ := h.val 28 78 (by kernel_rfl)
        obtain rfl : v78 = .bool true := f78
        have hbel := h.below
        clear h
        refine gives_by rfl act.eval rfl ?_
        generalize act.eval = ρ at *
        intro hf hc
        go_simp
        exact ⟨Below.refl _ _, rfl⟩
      · intro act wx h
        have e11 : act.eval (.tmp 11) = .pointer (some ⟨w7.heap.size, 0, none⟩) := h.old 11 (by kernel_rfl)
        have hg := h.guard 29 79 (by kernel_rfl) true (fun v hv => hv)
        have hbel := h.below
        clear h
        obtain ⟨⟨c0, c1, c2⟩, k0, k1, k2⟩ := HYC.out wx hbel
        refine gives_by (by simp only [Region.wanted, hg]; rfl) act.eval rfl ?_
        generalize act.eval = ρ at *
        intro hf hc
        go_simp
        exact ⟨Below.refl _ _, rfl⟩
      · intro act wx h
        have e13 : act.eval (.tmp 13) = .pointer (some ⟨w9.heap.size, 0, none⟩) := h.old 13 (by kernel_rfl)
        have hg := h.guard 29 79 (by kernel_rfl) true (fun v hv => hv)
        have hbel := h.below
        clear h
        obtain ⟨⟨c0, c1, c2⟩, k0, k1, k2⟩ := HYC.out wx hbel
        refine gives_by (by simp only [Region.wanted, hg]; rfl) act.eval rfl ?_
        generalize act.eval = ρ at *
        intro hf hc
        go_simp
        exact ⟨Below.refl _ _, rfl⟩
      · intro act wx h
        obtain ⟨v80, e80, f80⟩ := h.val 30 80 (by kernel_rfl)
        obtain rfl : v80 = .agg #[.slice f7 yf g7, .slice s7 ys t7, .int .i64 yk] := f80
        obtain ⟨v81, e81, f81⟩ := h.val 31 81 (by kernel_rfl)
        obtain rfl : v81 = .agg #[.slice f9 yf g9, .slice s9 ys t9, .int .i64 yk] := f81
        have hg := h.guard 29 79 (by kernel_rfl) true (fun v hv => hv)
        have hbel := h.below
        clear h
        refine gives_by (by simp only [Region.wanted, hg]; rfl) act.eval rfl ?_
        generalize act.eval = ρ at *
        intro hf hc
        go_simp
        exact call_gives (HSY.out wx hbel) (fun _ => rfl)
      · intro act wx h
        obtain ⟨v79, e79, f79⟩ := h.val 29 79 (by kernel_rfl)
        obtain rfl : v79 = .bool true := f79
        obtain ⟨v82, e82, f82⟩ := h.val 32 82 (by kernel_rfl)
        obtain rfl : v82 = .bool true := f82
        have hbel := h.below
        clear h
        refine gives_by rfl act.eval rfl ?_
        generalize act.eval = ρ at *
        intro hf hc
        go_simp
        exact ⟨Below.refl _ _, rfl⟩
      · intro act wx h
        obtain ⟨v83, e83, f83⟩ := h.val 33 83 (by kernel_rfl)
        obtain rfl : v83 = .bool true := f83
        have hbel := h.below
        clear h
        refine gives_by rfl act.eval rfl ?_
        generalize act.eval = ρ at *
        intro hf hc
        go_simp
        exact ⟨Below.refl _ _, rfl⟩
      · intro act wx h
        have e12 : act.eval (.tmp 12) = .int .i64 (E2 : Int) := h.old 12 (by kernel_rfl)
        have hg := h.guard 34 84 (by kernel_rfl) true (fun v hv => hv)
        have hbel := h.below
        clear h
        refine gives_by (by simp only [Region.wanted, hg]; rfl) act.eval rfl ?_
        generalize act.eval = ρ at *
        intro hf hc
        go_simp
        exact ⟨Below.refl _ _, rfl⟩
      · intro act wx h
        have e14 : act.eval (.tmp 14) = .int .i64 (E2 : Int) := h.old 14 (by kernel_rfl)
        have hg := h.guard 34 84 (by kernel_rfl) true (fun v hv => hv)
        have hbel := h.below
        clear h
        refine gives_by (by simp only [Region.wanted, hg]; rfl) act.eval rfl ?_
        generalize act.eval = ρ at *
        intro hf hc
        go_simp
        exact ⟨Below.refl _ _, rfl⟩
      · intro act wx h
        obtain ⟨v85, e85, f85⟩ := h.val 35 85 (by kernel_rfl)
        obtain rfl : v85 = .int .i64 (E2 : Int) := f85
        obtain ⟨v86, e86, f86⟩ := h.val 36 86 (by kernel_rfl)
        obtain rfl : v86 = .int .i64 (E2 : Int) := f86
        have hg := h.guard 34 84 (by kernel_rfl) true (fun v hv => hv)
        have hbel := h.below
        clear h
        refine gives_by (by simp only [Region.wanted, hg]; rfl) act.eval rfl ?_
        generalize act.eval = ρ at *
        intro hf hc
        go_simp
        exact ⟨Below.refl _ _, rfl⟩
      · intro act wx h
        obtain ⟨v84, e84, f84⟩ := h.val 34 84 (by kernel_rfl)
        obtain rfl : v84 = .bool true := f84
        obtain ⟨v87, e87, f87⟩ := h.val 37 87 (by kernel_rfl)
        obtain rfl : v87 = .bool true := f87
        have hbel := h.below
        clear h
        refine gives_by rfl act.eval rfl ?_
        generalize act.eval = ρ at *
        intro hf hc
        go_simp
        exact ⟨Below.refl _ _, rfl⟩
      · intro act wx h
        obtain ⟨v88, e88, f88⟩ := h.val 38 88 (by kernel_rfl)
        obtain rfl : v88 = .bool true := f88
        have hbel := h.below
        clear h
        refine gives_by rfl act.eval rfl ?_
        generalize act.eval = ρ at *
        intro hf hc
        go_simp
        exact ⟨Below.refl _ _, rfl⟩
    · intro vals w8 hb8 hv
      have hv6 : vals 39 = .bool true := hv 39 6 (by kernel_rfl)
      clear hv
      generalize hact : putAll _ vals 0 _ = act
      have HBE := hide (HWX.out _ hb8)
      clear hb8
      subst hact
      simp only [putAll, Act.put, List.setIfInBounds_toArray, List.set_cons_zero, List.set_cons_succ, hv6, Nat.zero_add, Nat.reduceAdd]
      clear hv6
      go_wp2
      go_ret
      exact ⟨rfl, HBE.out⟩

end Go.Proofs.YtimmfnjkknbofaaDoor
