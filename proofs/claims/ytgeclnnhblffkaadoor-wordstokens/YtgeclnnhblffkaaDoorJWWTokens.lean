/- Walk: incipitlaw14.WordsTokens. -/
import Derived.Test.YtgeclnnhblffkaaDoorJWdAll
import Derived.Test.YtgeclnnhblffkaaDoorJWdFew
import Derived.Test.YtgeclnnhblffkaaDoorWdCount
import Derived.Test.YtgeclnnhblffkaaDoorJWdTk
import Derived.Test.YtgeclnnhblffkaaDoorJWdCd
import Derived.Test.YtgeclnnhblffkaaDoorJFMarks
namespace Go.Proofs.YtgeclnnhblffkaaDoor
set_option maxRecDepth 20000
open Go.RowKit
set_option linter.unusedVariables false
set_option linter.unusedSimpArgs false
set_option maxRecDepth 100000

def isTs (T : List Tk) : Value → World → Prop := fun v w => Tks w v T ∧ True
theorem stable_isTs (T : List Tk) : ∀ v w w', Below w.heap.size w w' → isTs T v w → isTs T v w' := fun v w w' hb h => ⟨h.1.below hb, trivial⟩
/-- an iterator over tokens, at this world and at all behind it -/
def ItF (T : List Tk) (gf : Nat) (lb : Array Value) (W : World) : Prop :=
  (∀ args w, (callFunc gf args).run Tryd.prog w = .ok (.enter gf args) w) ∧ ∃ V, Iter2 Tryd.prog gf lb encT T V ∧ ∀ W', Below W.heap.size W W' → ∀ k W'', Only (fun _ => False) W' W'' → V k W''
def isIt (T : List Tk) : Value → World → Prop := fun v w => ∃ gf lb, v = .func (.func gf) #[] lb ∧ ItF T gf lb w
theorem stable_isIt (T : List Tk) : ∀ v w w', Below w.heap.size w w' → isIt T v w → isIt T v w' := fun v w w' hb ⟨gf, lb, e, eg, V, hi, hV⟩ => ⟨gf, lb, e, eg, V, hi, fun W' h => hV W' (hb.trans (h.mono hb.size))⟩
theorem Tks.take {w : World} {ao : Option Addr} {n cap : Nat} {xs : List Tk} (h : Tks w (.slice ao n cap) xs) (m : Nat) (hm : m ≤ n) : Tks w (.slice ao m cap) (xs.take m) := by
  obtain ⟨ao', cap', he, h1, h2, h4, h3⟩ := h
  obtain ⟨rfl, rfl, rfl⟩ : ao = ao' ∧ n = xs.length ∧ cap = cap' := by simpa using he
  have hl : (xs.take m).length = m := by simp; omega
  refine ⟨ao, cap, by rw [hl], by omega, by omega, h4, fun hx => ?_⟩
  obtain ⟨b, off, rfl, hc⟩ := h3 (by intro e; rw [e] at hx; simp at hx)
  refine ⟨b, off, rfl, fun i hi => ?_⟩
  rw [hl] at hi
  have := hc i (by omega)
  rwa [show (xs.take m).getD i ([], 0) = xs.getD i ([], 0) by simp [List.getD, hi]]

set_option maxHeartbeats 2000000 in
theorem wordsTokens_walk (w : World) (vc : Value) (C : Cn) (hc : CnfI w vc C) (vt : Value) (zs : List Int) (hz : Sl w vt zs) (M0 : Int) (hM0 : 0 ≤ M0 ∧ M0 ≤ 255) (hL : Let w) :
    Calls Tryd.prog 4 #[vc, vt, .int .u8 M0] w fun e w' => e = .returned (.bool true) ∧ Below w.heap.size w w' := by
  obtain ⟨M, rfl⟩ : ∃ M : Nat, M0 = (M : Int) := ⟨M0.toNat, by omega⟩
  have hMi : (M : Int) ≤ 255 := hM0.2
  obtain ⟨hcv, hK1, hK2⟩ := hc
  have HLV : Hid (∀ W, Below w.heap.size w W → Calls Tryd.prog 9 #[] W fun e w' => e = .returned (.bool true) ∧ Below W.heap.size W w') := fun W h => liveW_any W (hL.below h)
  obtain ⟨fo, fc, so, sc, w1, rfl, hw1, hb1, hB, hT, hS⟩ := box_cnf w vc C hcv
  have HFW : Hid (∀ W b, Below w.heap.size w W → Blk W b 25 [.slice fo C.fs.length fc, .slice so C.ss.length sc, .int .i64 C.cap] → Calls Tryd.prog 10 #[.slice (some ⟨b, 0, none⟩) 1 1] W fun e w' => e = .returned (.bool (fewC C)) ∧ Below W.heap.size W w') := fun W b hb hx => by
    have := few_any W b [C] (cfs_one hx (hcv.below hb)) (by simp)
    simpa using this
  have HNL : Hid ((tokC C (rs zs)).length ≤ zs.length) := Nat.le_trans (tokC_len _ _) (rs_len zs)
  have HTK0 : Hid (fewC C = true → zs.length ≤ 2000 → ∀ W, Below w.heap.size w W → Calls Tryd.prog 22 #[.agg #[.slice fo C.fs.length fc, .slice so C.ss.length sc, .int .i64 C.cap], vt] W fun e w' => ∃ u, e = .returned u ∧ Below W.heap.size W w' ∧ isTs (tokC C (rs zs)) u w') := fun hf hl W hb => by
    refine (tokens_any W _ C (hcv.below hb) (fewC_ok hf hK1 hK2) vt zs (hz.below hb) (by omega) (hL.below hb)).mono ?_
    rintro e w' ⟨u, rfl, ht, hbb⟩
    exact ⟨u, rfl, hbb, ht.read (by have := HNL.out; omega), trivial⟩
  have HTD0 : Hid (fewC C = true → zs.length ≤ 2000 → ∀ W, Below w.heap.size w W → Calls Tryd.prog 20 #[.agg #[.slice fo C.fs.length fc, .slice so C.ss.length sc, .int .i64 C.cap], vt] W fun e w' => ∃ u, e = .returned u ∧ Below W.heap.size W w' ∧ Tks w' u (tokC C (rs zs))) := fun hf hl W hb => by
    refine (tokensD_any W _ C (hcv.below hb) (fewC_ok hf hK1 hK2) vt zs (hz.below hb) (by omega)).mono ?_
    rintro e w' ⟨u, rfl, ht, hbb⟩
    exact ⟨u, rfl, hbb, ht.read (by have := HNL.out; omega)⟩
  have HAL0 : Hid (fewC C = true → zs.length ≤ 2000 → ∀ W, Below w.heap.size w W → Calls Tryd.prog 24 #[.agg #[.slice fo C.fs.length fc, .slice so C.ss.length sc, .int .i64 C.cap], vt] W fun e w' => ∃ u, e = .returned u ∧ Below W.heap.size W w' ∧ isIt (tokC C (rs zs)) u w') := fun hf hl W hb => by
    refine (all_any W _ C (hcv.below hb) (fewC_ok hf hK1 hK2) vt zs (hz.below hb) (hL.below hb)).mono ?_
    rintro e w' ⟨u, rfl, hu, hbb⟩
    obtain ⟨gf, lb, V, e1, e2, hi, hV⟩ := allR_iter (fewC_ok hf hK1 hK2) zs hz.1 (by omega) hu (hL.below (hb.trans (hbb.mono hb.size)))
    exact ⟨u, rfl, hbb, gf, lb, e1, e2, V, hi, hV⟩
  have HTO0 : Hid (zs.length ≤ 2000 → ∀ W gf lb (m : Nat), m ≤ 2000000 → ItF (tokC C (rs zs)) gf lb W → Calls Tryd.prog 23 #[.func (.func gf) #[] lb, .int .i64 (m : Int)] W fun e w' => ∃ u, e = .returned u ∧ Below W.heap.size W w' ∧ isTs ((tokC C (rs zs)).take m) u w') := fun hl W gf lb m hm ⟨eg, V, hi, hV⟩ => by
    refine (toldT_any W gf lb _ V eg hi (hV W (Below.refl _ W)) (by have := HNL.out; omega) m hm).mono ?_
    rintro e w' ⟨u, rfl, ht, hbb⟩
    exact ⟨u, rfl, hbb, ht.read (by have := HNL.out; simp; omega), trivial⟩
  have HTZ : Hid (∀ x ∈ tokC C (rs zs), ByteOk x.1) := tokC_ok C (rs zs)
  have HCO0 : Hid (zs.length ≤ 2000 → ∀ W, Below w.heap.size w W → Calls Tryd.prog 25 #[vt] W fun e w' => e = .returned (.int .i64 ((wds (rs zs)).length : Nat)) ∧ Below W.heap.size W w') := fun hl W hb => countW_any W vt zs (hz.below hb) (by omega) (hL.below hb)
  have HCD0 : Hid (zs.length ≤ 2000 → ∀ W, Below w.heap.size w W → Calls Tryd.prog 26 #[vt] W fun e w' => e = .returned (.int .i64 ((wds (rs zs)).length : Nat)) ∧ Below W.heap.size W w') := fun hl W hb => countD_any W vt zs (hz.below hb) (by omega)
  obtain ⟨to, tn, tc, rfl⟩ := sl_form hz
  have htn := sl_len hz
  have HB1 := hide hb1
  have HBX := hide hB
  have c0 : w1.cell? ⟨w.heap.size, 0, none⟩ = some (.slice fo C.fs.length fc) := hB.cell 0
  have c1 : w1.cell? ⟨w.heap.size, 1, none⟩ = some (.slice so C.ss.length sc) := hB.cell 1
  have c2 : w1.cell? ⟨w.heap.size, 2, none⟩ = some (.int .i64 C.cap) := hB.cell 2
  generalize tokC C (rs zs) = T at *
  generalize (wds (rs zs)).length = NC at *
  obtain ⟨fn, hfn⟩ : ∃ n, C.fs.length = n := ⟨_, rfl⟩
  obtain ⟨sn, hsn⟩ : ∃ n, C.ss.length = n := ⟨_, rfl⟩
  obtain ⟨K, hK⟩ : ∃ n, C.cap = n := ⟨_, rfl⟩
  rw [hfn] at hw1 c0 HFW HTK0 HTD0 HAL0 HBX ⊢
  rw [hsn] at hw1 c1 HFW HTK0 HTD0 HAL0 HBX ⊢
  rw [hK] at hw1 c2 HFW HTK0 HTD0 HAL0 HBX ⊢
  rw [← htn] at HTK0 HTD0 HAL0 HTO0 HCO0 HCD0 HNL
  have HW1 := hide hw1
  clear hcv hK1 hK2 hb1 hB hT hS hz hL hfn hsn hK htn c0 c1 c2 hw1 hM0
  have HCELL : Hid (∀ W, Below w1.heap.size w1 W → W.cell? ⟨w.heap.size, 0, none⟩ = some (.slice fo fn fc) ∧ W.cell? ⟨w.heap.size, 1, none⟩ = some (.slice so sn sc) ∧ W.cell? ⟨w.heap.size, 2, none⟩ = some (.int .i64 K)) := fun W hb => by
    have hx := HBX.out.below hb HBX.out.lt
    exact ⟨hx.cell 0, hx.cell 1, hx.cell 2⟩
  have HF1 : Hid (∀ W, Below w1.heap.size w1 W → Calls Tryd.prog 10 #[.slice (some ⟨W.heap.size, 0, none⟩) 1 1] (W.alloc (.cells #[.slice fo fn fc, .slice so sn sc, .int .i64 K] 25)) fun e w' => e = .returned (.bool (fewC C)) ∧ Below w1.heap.size w1 w') := fun W hb => by
    have h1 : Below w1.heap.size w1 (W.alloc (.cells #[.slice fo fn fc, .slice so sn sc, .int .i64 K] 25)) := hb.alloc hb.size _
    exact (HFW.out _ W.heap.size (HB1.out.trans (h1.mono HB1.out.size)) (Blk.new W _ _)).mono fun e w' ⟨e1, e2⟩ => ⟨e1, h1.trans (e2.mono (by have := hb.size; rw [World.size_alloc]; omega))⟩
  have HL1 : Hid (∀ W, Below w1.heap.size w1 W → Calls Tryd.prog 9 #[] W fun e w' => e = .returned (.bool true) ∧ Below w1.heap.size w1 w') := fun W hb => (HLV.out W (HB1.out.trans (hb.mono HB1.out.size))).mono fun e w' ⟨e1, e2⟩ => ⟨e1, hb.trans (e2.mono hb.size)⟩
  clear HFW HLV
  cases hF : fewC C with
  | false =>
    rw [hF] at HF1
    clear hF HTK0 HTD0 HAL0 HTO0 HCO0 HCD0 HNL HTZ
    go_enter Tryd.func4, Tryd.ntmps4
    go_wp2_with (first
      | (go_at_call 9; rw [HW1.out]; refine (HL1.out w1 (Below.refl _ w1)).mono ?_; rintro e w2 ⟨rfl, hb⟩; have HB2 := hide hb; obtain ⟨c0, c1, c2⟩ := HCELL.out w2 hb; clear hb HW1)
      | (go_at_call 10; refine (HF1.out w2 HB2.out).mono ?_; rintro e w3 ⟨rfl, hb⟩; have HB3 := hide hb; clear HF1 hb)
      | (go_at_call 9; refine (HL1.out w3 HB3.out).mono ?_; rintro e w4 ⟨rfl, hb⟩; have HB4 := hide hb; clear HL1 hb))
    go_ret
    exact ⟨rfl, HB1.out.trans (HB4.out.mono HB1.out.size)⟩
  | true =>
    rw [hF] at HF1
    by_cases h2 : 2000 < tn
    · have h2i : (2000 : Int) < (tn : Int) := by omega
      clear hF HTK0 HTD0 HAL0 HTO0 HCO0 HCD0 HNL HTZ
      go_enter Tryd.func4, Tryd.ntmps4
      go_wp2_with (first
        | (go_at_call 9; rw [HW1.out]; refine (HL1.out w1 (Below.refl _ w1)).mono ?_; rintro e w2 ⟨rfl, hb⟩; have HB2 := hide hb; obtain ⟨c0, c1, c2⟩ := HCELL.out w2 hb; clear hb HW1)
        | (go_at_call 10; refine (HF1.out w2 HB2.out).mono ?_; rintro e w3 ⟨rfl, hb⟩; have HB3 := hide hb; clear HF1 hb)
        | (go_at_call 9; refine (HL1.out w3 HB3.out).mono ?_; rintro e w4 ⟨rfl, hb⟩; have HB4 := hide hb; clear HL1 hb))
      go_ret
      exact ⟨rfl, HB1.out.trans (HB4.out.mono HB1.out.size)⟩
    have h2i : ¬ (2000 : Int) < (tn : Int) := by omega
    have HWB : Hid (∀ W, Below w1.heap.size w1 W → Below w.heap.size w W) := fun W hb => HB1.out.trans (hb.mono HB1.out.size)
    have HTK1 := hide (HTK0.out hF (by omega))
    have HTD1 := hide (HTD0.out hF (by omega))
    have HAL1 := hide (HAL0.out hF (by omega))
    have HTO := hide (HTO0.out (by omega))
    have HCO1 := hide (HCO0.out (by omega))
    have HCD1 := hide (HCD0.out (by omega))
    obtain ⟨kn, hkn⟩ : ∃ k, T.length = k := ⟨_, rfl⟩
    have HKN := hide hkn
    have hkl : kn ≤ 2000 := by have := HNL.out; omega
    clear hF HTK0 HTD0 HAL0 HTO0 HCO0 HCD0 HNL hkn h2
    go_enter Tryd.func4, Tryd.ntmps4
    go_wp2_with (first
      | (go_at_call 9; rw [HW1.out]; refine (HL1.out w1 (Below.refl _ w1)).mono ?_; rintro e w2 ⟨rfl, hb⟩; have HB2 := hide hb; obtain ⟨c0, c1, c2⟩ := HCELL.out w2 hb; clear hb HW1 HL1)
      | (go_at_call 10; refine (HF1.out w2 HB2.out).mono ?_; rintro e w3 ⟨rfl, hb⟩; have HB3 := hide hb; obtain ⟨c0, c1, c2⟩ := HCELL.out w3 hb; clear HF1 hb)
      | (go_at_call 20; refine (HTD1.out w3 (HWB.out w3 HB3.out)).mono ?_; rintro e w4 ⟨u, rfl, hb, hu⟩; have HB4 := hide (HB3.out.trans (hb.mono HB3.out.size)); obtain ⟨al, cl, rfl⟩ := hu.len; rw [HKN.out] at hu ⊢; have HU := hide hu; clear HTD1 hb hu))
    clear c0 c1 c2
    have hcap : kn ≤ cl ∧ cl ≤ maxLen := by
      obtain ⟨ao', cap', he, _, h2, h3, _⟩ := HU.out
      have := HKN.out
      simp at he
      omega
    obtain ⟨mn, hmn⟩ : ∃ m, (if M < kn then M else kn) = m := ⟨_, rfl⟩
    have hmnk : mn ≤ kn ∧ mn ≤ M := by rw [← hmn]; split <;> omega
    have HMI : Hid (∀ wx, ∀ (ts : Array TypeId) (t : TypeId), (Builtin.min_ ts t #[.int .i64 (kn : Int), .int .i64 (M : Int)]).run Tryd.prog wx = .ok (.int .i64 (mn : Int)) wx) := fun wx ts t => by
      rw [run_min_int2]
      rw [← hmn]
      by_cases h : M < kn
      · rw [if_pos h]; simp; omega
      · rw [if_neg h]; simp; omega
    have HCT : Hid (∀ wx, (Instr.slice 38 (.slice al kn cl) none (some (.int .i64 (mn : Int))) none).run Tryd.prog wx = .ok (.slice al mn cl) wx) := fun wx => cut_head 38 42 2 Tryd.underlying38 (by kernel_rfl) al kn cl mn (by omega) hcap.2 wx
    have HWX : Hid (∀ wx, Below w4.heap.size w4 wx → Below w.heap.size w wx) := fun wx h => HWB.out wx (HB4.out.trans (h.mono HB4.out.size))
    have HTK : Hid (∀ wx, Below w4.heap.size w4 wx → Calls Tryd.prog 22 #[.agg #[.slice fo fn fc, .slice so sn sc, .int .i64 K], .slice to tn tc] wx fun e w' => ∃ u, e = .returned u ∧ Below wx.heap.size wx w' ∧ isTs T u w') := fun wx h => HTK1.out wx (HWX.out wx h)
    have HAL : Hid (∀ wx, Below w4.heap.size w4 wx → Calls Tryd.prog 24 #[.agg #[.slice fo fn fc, .slice so sn sc, .int .i64 K], .slice to tn tc] wx fun e w' => ∃ u, e = .returned u ∧ Below wx.heap.size wx w' ∧ isIt T u w') := fun wx h => HAL1.out wx (HWX.out wx h)
    have HCO : Hid (∀ wx, Below w4.heap.size w4 wx → Calls Tryd.prog 25 #[.slice to tn tc] wx fun e w' => e = .returned (.int .i64 (NC : Int)) ∧ Below wx.heap.size wx w') := fun wx h => HCO1.out wx (HWX.out wx h)
    have HCD : Hid (∀ wx, Below w4.heap.size w4 wx → Calls Tryd.prog 26 #[.slice to tn tc] wx fun e w' => e = .returned (.int .i64 (NC : Int)) ∧ Below wx.heap.size wx w') := fun wx h => HCD1.out wx (HWX.out wx h)
    have HTO1 : Hid (∀ wx, Below w4.heap.size w4 wx → ∀ gf lb, ItF T gf lb wx → Calls Tryd.prog 23 #[.func (.func gf) #[] lb, .int .i64 1048576] wx fun e w' => ∃ v, e = .returned v ∧ Below wx.heap.size wx w' ∧ isTs T v w') := fun wx h gf lb hi => by
      have := HTO.out wx gf lb 1048576 (by omega) hi
      rwa [List.take_of_length_le (by have := HKN.out; omega)] at this
    have HTO2 : Hid (∀ wx, Below w4.heap.size w4 wx → ∀ gf lb, ItF T gf lb wx → Calls Tryd.prog 23 #[.func (.func gf) #[] lb, .int .i64 (M : Int)] wx fun e w' => ∃ v, e = .returned v ∧ Below wx.heap.size wx w' ∧ isTs (T.take M) v w') := fun wx h gf lb hi => HTO.out wx gf lb M (by omega) hi
    have HE1 : Hid (∀ wx, Below w4.heap.size w4 wx → ∀ v, Tks wx v T → Calls Tryd.prog 21 #[v, .slice al kn cl] wx fun e w' => e = .returned (.bool true) ∧ Below wx.heap.size wx w') := fun wx h v hv => by
      have := equalT_any wx v _ T T hv (HU.out.below h) HTZ.out HTZ.out
      rwa [decide_eq_true rfl] at this
    have HE2 : Hid (∀ wx, Below w4.heap.size w4 wx → ∀ v, Tks wx v (T.take M) → Calls Tryd.prog 21 #[v, .slice al mn cl] wx fun e w' => e = .returned (.bool true) ∧ Below wx.heap.size wx w') := fun wx h v hv => by
      have he : T.take mn = T.take M := by
        rw [← hmn]
        by_cases h : M < kn
        · rw [if_pos h]
        · rw [if_neg h, List.take_of_length_le (by have := HKN.out; omega), List.take_of_length_le (by have := HKN.out; omega)]
      have hok : ∀ x ∈ T.take M, ByteOk x.1 := fun x hx => HTZ.out x (List.mem_of_mem_take hx)
      have := equalT_any wx v _ (T.take M) (T.take M) hv (by rw [← he]; exact (HU.out.below h).take mn hmnk.1) hok hok
      rwa [decide_eq_true rfl] at this
    clear hmn hmnk hcap HTO HTK1 HAL1 HCO1 HCD1
    refine wp_region_facts (FL [isV (.agg #[.slice fo fn fc, .slice so sn sc, .int .i64 K]), isV (.slice to tn tc), isTs (T), isV (.slice al kn cl), isV (.bool true), isV (.bool true), isV (.agg #[.slice fo fn fc, .slice so sn sc, .int .i64 K]), isV (.slice to tn tc), isIt T, isTs (T), isV (.slice al kn cl), isV (.bool true), isV (.bool true), isV (.bool true), isV (.agg #[.slice fo fn fc, .slice so sn sc, .int .i64 K]), isV (.slice to tn tc), isIt T, isV (.int .u8 (M : Int)), isV (.int .i64 (M : Int)), isTs (T.take M), isV (.slice al kn cl), isV (.slice al kn cl), isV (.int .i64 (kn : Int)), isV (.int .u8 (M : Int)), isV (.int .i64 (M : Int)), isV (.int .i64 (mn : Int)), isV (.slice al mn cl), isV (.bool true), isV (.bool true), isV (.bool true), isV (.slice to tn tc), isV (.int .i64 (NC : Int)), isV (.slice to tn tc), isV (.int .i64 (NC : Int)), isV (.bool true), isV (.bool true), isV (.bool true)]) 61 (by kernel_rfl) (by kernel_rfl) (by kernel_rfl) rfl (FL_stable _ (by repeat (first | exact trivial | refine ⟨stable_isV _, ?_⟩ | refine ⟨stable_isTs _, ?_⟩ | refine ⟨stable_isIt _, ?_⟩))) ?_ ?_
    · refine ⟨?_, ?_, ?_, ?_, ?_, ?_, ?_, ?_, ?_, ?_, ?_, ?_, ?_, ?_, ?_, ?_, ?_, ?_, ?_, ?_, ?_, ?_, ?_, ?_, ?_, ?_, ?_, ?_, ?_, ?_, ?_, ?_, ?_, ?_, ?_, ?_, ?_, trivial⟩
      · intro act wx h
        have e3 : act.eval (.tmp 3) = .pointer (some ⟨w.heap.size, 0, none⟩) := h.old 3 (by kernel_rfl)
        have hbel := h.below
        clear h
        obtain ⟨c0, c1, c2⟩ := HCELL.out wx (HB4.out.trans (hbel.mono HB4.out.size))
        refine gives_by rfl act.eval rfl ?_
        generalize act.eval = ρ at *
        intro hf hc
        go_simp
        exact ⟨Below.refl _ _, rfl⟩
      · intro act wx h
        have e1 : act.eval (.tmp 1) = .slice to tn tc := h.old 1 (by kernel_rfl)
        have hbel := h.below
        clear h
        refine gives_by rfl act.eval rfl ?_
        generalize act.eval = ρ at *
        intro hf hc
        go_simp
        exact ⟨Below.refl _ _, rfl⟩
      · intro act wx h
        obtain ⟨v25, e25, f25⟩ := h.val 0 25 (by kernel_rfl)
        obtain rfl : v25 = .agg #[.slice fo fn fc, .slice so sn sc, .int .i64 K] := f25
        obtain ⟨v26, e26, f26⟩ := h.val 1 26 (by kernel_rfl)
        obtain rfl : v26 = .slice to tn tc := f26
        have hbel := h.below
        clear h
        refine gives_by rfl act.eval rfl ?_
        generalize act.eval = ρ at *
        intro hf hc
        go_simp
        exact HTK.out wx hbel
      · intro act wx h
        have e7 : act.eval (.tmp 7) = .slice al kn cl := h.old 7 (by kernel_rfl)
        have hbel := h.below
        clear h
        refine gives_by rfl act.eval rfl ?_
        generalize act.eval = ρ at *
        intro hf hc
        go_simp
        exact ⟨Below.refl _ _, rfl⟩
      · intro act wx h
        obtain ⟨v27, e27, f27⟩ := h.val 2 27 (by kernel_rfl)
        obtain ⟨ht27, _⟩ := f27
        obtain ⟨v28, e28, f28⟩ := h.val 3 28 (by kernel_rfl)
        obtain rfl : v28 = .slice al kn cl := f28
        have hbel := h.below
        clear h
        refine gives_by rfl act.eval rfl ?_
        generalize act.eval = ρ at *
        intro hf hc
        go_simp
        exact call_gives (HE1.out wx hbel v27 ht27) (fun _ => rfl)
      · intro act wx h
        obtain ⟨v29, e29, f29⟩ := h.val 4 29 (by kernel_rfl)
        obtain rfl : v29 = .bool true := f29
        have hbel := h.below
        clear h
        refine gives_by rfl act.eval rfl ?_
        generalize act.eval = ρ at *
        intro hf hc
        go_simp
        exact ⟨Below.refl _ _, rfl⟩
      · intro act wx h
        have e3 : act.eval (.tmp 3) = .pointer (some ⟨w.heap.size, 0, none⟩) := h.old 3 (by kernel_rfl)
        have hg := h.guard 5 30 (by kernel_rfl) true (fun v hv => hv)
        have hbel := h.below
        clear h
        obtain ⟨c0, c1, c2⟩ := HCELL.out wx (HB4.out.trans (hbel.mono HB4.out.size))
        refine gives_by (by simp only [Region.wanted, hg]; rfl) act.eval rfl ?_
        generalize act.eval = ρ at *
        intro hf hc
        go_simp
        exact ⟨Below.refl _ _, rfl⟩
      · intro act wx h
        have e1 : act.eval (.tmp 1) = .slice to tn tc := h.old 1 (by kernel_rfl)
        have hg := h.guard 5 30 (by kernel_rfl) true (fun v hv => hv)
        have hbel := h.below
        clear h
        refine gives_by (by simp only [Region.wanted, hg]; rfl) act.eval rfl ?_
        generalize act.eval = ρ at *
        intro hf hc
        go_simp
        exact ⟨Below.refl _ _, rfl⟩
      · intro act wx h
        obtain ⟨v31, e31, f31⟩ := h.val 6 31 (by kernel_rfl)
        obtain rfl : v31 = .agg #[.slice fo fn fc, .slice so sn sc, .int .i64 K] := f31
        obtain ⟨v32, e32, f32⟩ := h.val 7 32 (by kernel_rfl)
        obtain rfl : v32 = .slice to tn tc := f32
        have hg := h.guard 5 30 (by kernel_rfl) true (fun v hv => hv)
        have hbel := h.below
        clear h
        refine gives_by (by simp only [Region.wanted, hg]; rfl) act.eval rfl ?_
        generalize act.eval = ρ at *
        intro hf hc
        go_simp
        exact HAL.out wx hbel
      · intro act wx h
        obtain ⟨v33, e33, f33⟩ := h.val 8 33 (by kernel_rfl)
        obtain ⟨gf33, lb33, rfl, hi33⟩ := f33
        have hg := h.guard 5 30 (by kernel_rfl) true (fun v hv => hv)
        have hbel := h.below
        clear h
        refine gives_by (by simp only [Region.wanted, hg]; rfl) act.eval rfl ?_
        generalize act.eval = ρ at *
        intro hf hc
        go_simp
        exact HTO1.out wx hbel gf33 lb33 hi33
      · intro act wx h
        have e7 : act.eval (.tmp 7) = .slice al kn cl := h.old 7 (by kernel_rfl)
        have hg := h.guard 5 30 (by kernel_rfl) true (fun v hv => hv)
        have hbel := h.below
        clear h
        refine gives_by (by simp only [Region.wanted, hg]; rfl) act.eval rfl ?_
        generalize act.eval = ρ at *
        intro hf hc
        go_simp
        exact ⟨Below.refl _ _, rfl⟩
      · intro act wx h
        obtain ⟨v34, e34, f34⟩ := h.val 9 34 (by kernel_rfl)
        obtain ⟨ht34, _⟩ := f34
        obtain ⟨v35, e35, f35⟩ := h.val 10 35 (by kernel_rfl)
        obtain rfl : v35 = .slice al kn cl := f35
        have hg := h.guard 5 30 (by kernel_rfl) true (fun v hv => hv)
        have hbel := h.below
        clear h
        refine gives_by (by simp only [Region.wanted, hg]; rfl) act.eval rfl ?_
        generalize act.eval = ρ at *
        intro hf hc
        go_simp
        exact call_gives (HE1.out wx hbel v34 ht34) (fun _ => rfl)
      · intro act wx h
        obtain ⟨v30, e30, f30⟩ := h.val 5 30 (by kernel_rfl)
        obtain rfl : v30 = .bool true := f30
        obtain ⟨v36, e36, f36⟩ := h.val 11 36 (by kernel_rfl)
        obtain rfl : v36 = .bool true := f36
        have hbel := h.below
        clear h
        refine gives_by rfl act.eval rfl ?_
        generalize act.eval = ρ at *
        intro hf hc
        go_simp
        exact ⟨Below.refl _ _, rfl⟩
      · intro act wx h
        obtain ⟨v37, e37, f37⟩ := h.val 12 37 (by kernel_rfl)
        obtain rfl : v37 = .bool true := f37
        have hbel := h.below
        clear h
        refine gives_by rfl act.eval rfl ?_
        generalize act.eval = ρ at *
        intro hf hc
        go_simp
        exact ⟨Below.refl _ _, rfl⟩
      · intro act wx h
        have e3 : act.eval (.tmp 3) = .pointer (some ⟨w.heap.size, 0, none⟩) := h.old 3 (by kernel_rfl)
        have hg := h.guard 13 38 (by kernel_rfl) true (fun v hv => hv)
        have hbel := h.below
        clear h
        obtain ⟨c0, c1, c2⟩ := HCELL.out wx (HB4.out.trans (hbel.mono HB4.out.size))
        refine gives_by (by simp only [Region.wanted, hg]; rfl) act.eval rfl ?_
        generalize act.eval = ρ at *
        intro hf hc
        go_simp
        exact ⟨Below.refl _ _, rfl⟩
      · intro act wx h
        have e1 : act.eval (.tmp 1) = .slice to tn tc := h.old 1 (by kernel_rfl)
        have hg := h.guard 13 38 (by kernel_rfl) true (fun v hv => hv)
        have hbel := h.below
        clear h
        refine gives_by (by simp only [Region.wanted, hg]; rfl) act.eval rfl ?_
        generalize act.eval = ρ at *
        intro hf hc
        go_simp
        exact ⟨Below.refl _ _, rfl⟩
      · intro act wx h
        obtain ⟨v39, e39, f39⟩ := h.val 14 39 (by kernel_rfl)
        obtain rfl : v39 = .agg #[.slice fo fn fc, .slice so sn sc, .int .i64 K] := f39
        obtain ⟨v40, e40, f40⟩ := h.val 15 40 (by kernel_rfl)
        obtain rfl : v40 = .slice to tn tc := f40
        have hg := h.guard 13 38 (by kernel_rfl) true (fun v hv => hv)
        have hbel := h.below
        clear h
        refine gives_by (by simp only [Region.wanted, hg]; rfl) act.eval rfl ?_
        generalize act.eval = ρ at *
        intro hf hc
        go_simp
        exact HAL.out wx hbel
      · intro act wx h
        have e2 : act.eval (.tmp 2) = .int .u8 (M : Int) := h.old 2 (by kernel_rfl)
        have hg := h.guard 13 38 (by kernel_rfl) true (fun v hv => hv)
        have hbel := h.below
        clear h
        refine gives_by (by simp only [Region.wanted, hg]; rfl) act.eval rfl ?_
        generalize act.eval = ρ at *
        intro hf hc
        go_simp
        exact ⟨Below.refl _ _, rfl⟩
      · intro act wx h
        obtain ⟨v42, e42, f42⟩ := h.val 17 42 (by kernel_rfl)
        obtain rfl : v42 = .int .u8 (M : Int) := f42
        have hg := h.guard 13 38 (by kernel_rfl) true (fun v hv => hv)
        have hbel := h.below
        clear h
        have hwm : IntKind.i64.wrap (M : Int) = (M : Int) := IntWalk.i64_in _ ⟨by omega, by omega⟩
        refine gives_by (by simp only [Region.wanted, hg]; rfl) act.eval rfl ?_
        generalize act.eval = ρ at *
        intro hf hc
        go_simp
        exact ⟨Below.refl _ _, rfl⟩
      · intro act wx h
        obtain ⟨v41, e41, f41⟩ := h.val 16 41 (by kernel_rfl)
        obtain ⟨gf41, lb41, rfl, hi41⟩ := f41
        obtain ⟨v43, e43, f43⟩ := h.val 18 43 (by kernel_rfl)
        obtain rfl : v43 = .int .i64 (M : Int) := f43
        have hg := h.guard 13 38 (by kernel_rfl) true (fun v hv => hv)
        have hbel := h.below
        clear h
        refine gives_by (by simp only [Region.wanted, hg]; rfl) act.eval rfl ?_
        generalize act.eval = ρ at *
        intro hf hc
        go_simp
        exact HTO2.out wx hbel gf41 lb41 hi41
      · intro act wx h
        have e7 : act.eval (.tmp 7) = .slice al kn cl := h.old 7 (by kernel_rfl)
        have hg := h.guard 13 38 (by kernel_rfl) true (fun v hv => hv)
        have hbel := h.below
        clear h
        refine gives_by (by simp only [Region.wanted, hg]; rfl) act.eval rfl ?_
        generalize act.eval = ρ at *
        intro hf hc
        go_simp
        exact ⟨Below.refl _ _, rfl⟩
      · intro act wx h
        have e7 : act.eval (.tmp 7) = .slice al kn cl := h.old 7 (by kernel_rfl)
        have hg := h.guard 13 38 (by kernel_rfl) true (fun v hv => hv)
        have hbel := h.below
        clear h
        refine gives_by (by simp only [Region.wanted, hg]; rfl) act.eval rfl ?_
        generalize act.eval = ρ at *
        intro hf hc
        go_simp
        exact ⟨Below.refl _ _, rfl⟩
      · intro act wx h
        obtain ⟨v46, e46, f46⟩ := h.val 21 46 (by kernel_rfl)
        obtain rfl : v46 = .slice al kn cl := f46
        have hg := h.guard 13 38 (by kernel_rfl) true (fun v hv => hv)
        have hbel := h.below
        clear h
        refine gives_by (by simp only [Region.wanted, hg]; rfl) act.eval rfl ?_
        generalize act.eval = ρ at *
        intro hf hc
        go_simp
        exact ⟨Below.refl _ _, rfl⟩
      · intro act wx h
        have e2 : act.eval (.tmp 2) = .int .u8 (M : Int) := h.old 2 (by kernel_rfl)
        have hg := h.guard 13 38 (by kernel_rfl) true (fun v hv => hv)
        have hbel := h.below
        clear h
        refine gives_by (by simp only [Region.wanted, hg]; rfl) act.eval rfl ?_
        generalize act.eval = ρ at *
        intro hf hc
        go_simp
        exact ⟨Below.refl _ _, rfl⟩
      · intro act wx h
        obtain ⟨v48, e48, f48⟩ := h.val 23 48 (by kernel_rfl)
        obtain rfl : v48 = .int .u8 (M : Int) := f48
        have hg := h.guard 13 38 (by kernel_rfl) true (fun v hv => hv)
        have hbel := h.below
        clear h
        have hwm : IntKind.i64.wrap (M : Int) = (M : Int) := IntWalk.i64_in _ ⟨by omega, by omega⟩
        refine gives_by (by simp only [Region.wanted, hg]; rfl) act.eval rfl ?_
        generalize act.eval = ρ at *
        intro hf hc
        go_simp
        exact ⟨Below.refl _ _, rfl⟩
      · intro act wx h
        obtain ⟨v47, e47, f47⟩ := h.val 22 47 (by kernel_rfl)
        obtain rfl : v47 = .int .i64 (kn : Int) := f47
        obtain ⟨v49, e49, f49⟩ := h.val 24 49 (by kernel_rfl)
        obtain rfl : v49 = .int .i64 (M : Int) := f49
        have hg := h.guard 13 38 (by kernel_rfl) true (fun v hv => hv)
        have hbel := h.below
        clear h
        have hmi := HMI.out wx
        refine gives_by (by simp only [Region.wanted, hg]; rfl) act.eval rfl ?_
        generalize act.eval = ρ at *
        intro hf hc
        go_simp
        exact ⟨Below.refl _ _, rfl⟩
      · intro act wx h
        obtain ⟨v45, e45, f45⟩ := h.val 20 45 (by kernel_rfl)
        obtain rfl : v45 = .slice al kn cl := f45
        obtain ⟨v50, e50, f50⟩ := h.val 25 50 (by kernel_rfl)
        obtain rfl : v50 = .int .i64 (mn : Int) := f50
        have hg := h.guard 13 38 (by kernel_rfl) true (fun v hv => hv)
        have hbel := h.below
        clear h
        have hct := HCT.out wx
        refine gives_by (by simp only [Region.wanted, hg]; rfl) act.eval rfl ?_
        generalize act.eval = ρ at *
        intro hf hc
        go_simp
        exact ⟨Below.refl _ _, rfl⟩
      · intro act wx h
        obtain ⟨v44, e44, f44⟩ := h.val 19 44 (by kernel_rfl)
        obtain ⟨ht44, _⟩ := f44
        obtain ⟨v51, e51, f51⟩ := h.val 26 51 (by kernel_rfl)
        obtain rfl : v51 = .slice al mn cl := f51
        have hg := h.guard 13 38 (by kernel_rfl) true (fun v hv => hv)
        have hbel := h.below
        clear h
        refine gives_by (by simp only [Region.wanted, hg]; rfl) act.eval rfl ?_
        generalize act.eval = ρ at *
        intro hf hc
        go_simp
        exact call_gives (HE2.out wx hbel v44 ht44) (fun _ => rfl)
      · intro act wx h
        obtain ⟨v38, e38, f38⟩ := h.val 13 38 (by kernel_rfl)
        obtain rfl : v38 = .bool true := f38
        obtain ⟨v52, e52, f52⟩ := h.val 27 52 (by kernel_rfl)
        obtain rfl : v52 = .bool true := f52
        have hbel := h.below
        clear h
        refine gives_by rfl act.eval rfl ?_
        generalize act.eval = ρ at *
        intro hf hc
        go_simp
        exact ⟨Below.refl _ _, rfl⟩
      · intro act wx h
        obtain ⟨v53, e53, f53⟩ := h.val 28 53 (by kernel_rfl)
        obtain rfl : v53 = .bool true := f53
        have hbel := h.below
        clear h
        refine gives_by rfl act.eval rfl ?_
        generalize act.eval = ρ at *
        intro hf hc
        go_simp
        exact ⟨Below.refl _ _, rfl⟩
      · intro act wx h
        have e1 : act.eval (.tmp 1) = .slice to tn tc := h.old 1 (by kernel_rfl)
        have hg := h.guard 29 54 (by kernel_rfl) true (fun v hv => hv)
        have hbel := h.below
        clear h
        refine gives_by (by simp only [Region.wanted, hg]; rfl) act.eval rfl ?_
        generalize act.eval = ρ at *
        intro hf hc
        go_simp
        exact ⟨Below.refl _ _, rfl⟩
      · intro act wx h
        obtain ⟨v55, e55, f55⟩ := h.val 30 55 (by kernel_rfl)
        obtain rfl : v55 = .slice to tn tc := f55
        have hg := h.guard 29 54 (by kernel_rfl) true (fun v hv => hv)
        have hbel := h.below
        clear h
        refine gives_by (by simp only [Region.wanted, hg]; rfl) act.eval rfl ?_
        generalize act.eval = ρ at *
        intro hf hc
        go_simp
        exact call_gives (HCO.out wx hbel) (fun _ => rfl)
      · intro act wx h
        have e1 : act.eval (.tmp 1) = .slice to tn tc := h.old 1 (by kernel_rfl)
        have hg := h.guard 29 54 (by kernel_rfl) true (fun v hv => hv)
        have hbel := h.below
        clear h
        refine gives_by (by simp only [Region.wanted, hg]; rfl) act.eval rfl ?_
        generalize act.eval = ρ at *
        intro hf hc
        go_simp
        exact ⟨Below.refl _ _, rfl⟩
      · intro act wx h
        obtain ⟨v57, e57, f57⟩ := h.val 32 57 (by kernel_rfl)
        obtain rfl : v57 = .slice to tn tc := f57
        have hg := h.guard 29 54 (by kernel_rfl) true (fun v hv => hv)
        have hbel := h.below
        clear h
        refine gives_by (by simp only [Region.wanted, hg]; rfl) act.eval rfl ?_
        generalize act.eval = ρ at *
        intro hf hc
        go_simp
        exact call_gives (HCD.out wx hbel) (fun _ => rfl)
      · intro act wx h
        obtain ⟨v56, e56, f56⟩ := h.val 31 56 (by kernel_rfl)
        obtain rfl : v56 = .int .i64 (NC : Int) := f56
        obtain ⟨v58, e58, f58⟩ := h.val 33 58 (by kernel_rfl)
        obtain rfl : v58 = .int .i64 (NC : Int) := f58
        have hg := h.guard 29 54 (by kernel_rfl) true (fun v hv => hv)
        have hbel := h.below
        clear h
        refine gives_by (by simp only [Region.wanted, hg]; rfl) act.eval rfl ?_
        generalize act.eval = ρ at *
        intro hf hc
        go_simp
        exact ⟨Below.refl _ _, rfl⟩
      · intro act wx h
        obtain ⟨v54, e54, f54⟩ := h.val 29 54 (by kernel_rfl)
        obtain rfl : v54 = .bool true := f54
        obtain ⟨v59, e59, f59⟩ := h.val 34 59 (by kernel_rfl)
        obtain rfl : v59 = .bool true := f59
        have hbel := h.below
        clear h
        refine gives_by rfl act.eval rfl ?_
        generalize act.eval = ρ at *
        intro hf hc
        go_simp
        exact ⟨Below.refl _ _, rfl⟩
      · intro act wx h
        obtain ⟨v60, e60, f60⟩ := h.val 35 60 (by kernel_rfl)
        obtain rfl : v60 = .bool true := f60
        have hbel := h.below
        clear h
        refine gives_by rfl act.eval rfl ?_
        generalize act.eval = ρ at *
        intro hf hc
        go_simp
        exact ⟨Below.refl _ _, rfl⟩
    · intro vals w8 hb8 hv
      have hv6 : vals 36 = .bool true := hv 36 6 (by kernel_rfl)
      clear hv
      generalize hact : putAll _ vals 0 _ = act
      have HB8 := hide (HWX.out _ hb8)
      clear hb8
      subst hact
      simp only [putAll, Act.put, List.setIfInBounds_toArray, List.set_cons_zero, List.set_cons_succ, hv6, Nat.zero_add, Nat.reduceAdd]
      clear hv6
      go_wp2
      go_ret
      exact ⟨rfl, HB8.out⟩

end Go.Proofs.YtgeclnnhblffkaaDoor
