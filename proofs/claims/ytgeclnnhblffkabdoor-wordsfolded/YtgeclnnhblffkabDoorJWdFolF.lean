/- Tokens of a text that was folded (pure). -/
import Derived.Test.YtgeclnnhblffkabDoorJWdAll
import Derived.Test.YtgeclnnhblffkabDoorJWdFew
import Derived.Test.YtgeclnnhblffkabDoorWdCount
import Derived.Test.YtgeclnnhblffkabDoorJFRt
namespace Go.Proofs.YtgeclnnhblffkabDoor
set_option maxRecDepth 20000
open Go.RowKit
set_option linter.unusedVariables false
set_option linter.unusedSimpArgs false
set_option maxRecDepth 100000

theorem rs_valid {zs : List Int} (hb : ByteOk zs) : ∀ r ∈ rs zs, runeB (r : Int) = true := by
  intro r hr
  obtain ⟨p, hp, rfl⟩ := List.mem_map.1 hr
  exact runesN_valid hb p hp
theorem rs_folded (xs : List Fd) {zs : List Int} (hb : ByteOk zs) : rs (foldZ (useL xs) (runesN zs)) = (rs zs).map (foldN (useL xs)) := by
  unfold rs
  rw [runes_folded xs hb, foldR_snd]
  rfl
def fold2 (us : List Fd) (r : Nat) : Nat := if runeB (r : Int) = true then foldN us r else r
theorem fold2_let (xs : List Fd) (r : Nat) : letN (fold2 (useL xs) r) = letN r := by
  unfold fold2
  split
  · rename_i h; exact foldN_let xs h
  · rfl
theorem fold2_map (xs : List Fd) {l : List Nat} (h : ∀ r ∈ l, runeB (r : Int) = true) : l.map (foldN (useL xs)) = l.map (fold2 (useL xs)) := by
  apply List.map_congr_left
  intro r hr
  unfold fold2
  rw [if_pos (h r hr)]
theorem zip_map {α β : Type} (f : α → β) : ∀ (l : List α) (k : Nat), (l.map f).zipIdx k = (l.zipIdx k).map fun p => (f p.1, p.2)
  | [], _ => rfl
  | a :: l, k => by
    rw [List.map_cons, List.zipIdx_cons, List.zipIdx_cons, List.map_cons, zip_map f l (k + 1)]
theorem term_folded (xs : List Fd) (m : Nat) {l : List Nat} (h : ∀ r ∈ l, letN r = true) : termZ (useL xs) m (l.map (fold2 (useL xs))) = termZ (useL xs) m l := by
  rw [← fold2_map xs (fun r hr => letN_rune (h r hr))]
  unfold termZ termR
  rw [← List.map_take, List.map_map]
  congr 1
  apply List.map_congr_left
  intro r hr
  exact foldN_twice xs (letN_rune (h r (List.mem_of_mem_take hr)))
theorem tok_folded (C : Cn) {zs : List Int} (hb : ByteOk zs) : tokC C (rs (foldZ (useL C.fs) (runesN zs))) = tokC C (rs zs) ∧ (wds (rs (foldZ (useL C.fs) (runesN zs)))).length = (wds (rs zs)).length := by
  rw [rs_folded C.fs hb, fold2_map C.fs (rs_valid hb)]
  have hw := wds_map (fold2 (useL C.fs)) (fold2_let C.fs) (rs zs)
  refine ⟨?_, by rw [hw, List.length_map]⟩
  unfold tokC
  split
  · unfold tokL wdsN
    rw [hw, zip_map, List.filter_map, List.map_map]
    have hin : ∀ p ∈ (wds (rs zs)).zipIdx, ∀ r ∈ p.1, letN r = true := by
      intro p hp
      obtain ⟨i, hi, e⟩ := List.mem_iff_getElem.1 hp
      have hp1 : p.1 ∈ wds (rs zs) := by
        rw [← e, List.getElem_zipIdx]
        exact List.getElem_mem _
      exact (wds_in _ _ hp1).2
    have hf : (wds (rs zs)).zipIdx.filter (toldB (useL C.fs) C.cap.toNat C.ss ∘ fun p => (p.1.map (fold2 (useL C.fs)), p.2)) = (wds (rs zs)).zipIdx.filter (toldB (useL C.fs) C.cap.toNat C.ss) := by
      apply List.filter_congr
      intro p hp
      simp only [Function.comp, toldB]
      rw [term_folded C.fs _ (hin p hp)]
    rw [hf]
    apply List.map_congr_left
    intro p hp
    simp only [Function.comp, tkOf]
    rw [term_folded C.fs _ (hin p (List.mem_filter.1 hp).1)]
  · rfl

end Go.Proofs.YtgeclnnhblffkabDoor
/- Walk: incipitlaw14.WordsFolded. -/
namespace Go.Proofs.YtgeclnnhblffkabDoor
set_option maxRecDepth 20000
open Go.RowKit
set_option linter.unusedVariables false
set_option linter.unusedSimpArgs false
set_option maxRecDepth 100000

def isTks (T : List Tk) : Value → World → Prop := fun v w => Tks w v T ∧ True
theorem stable_isTks (T : List Tk) : ∀ v w w', Below w.heap.size w w' → isTks T v w → isTks T v w' := fun v w w' hb h => ⟨h.1.below hb, trivial⟩

set_option maxHeartbeats 2000000 in
theorem wordsFolded_walk (w : World) (vc : Value) (C : Cn) (hc : CnfI w vc C) (vt : Value) (zs : List Int) (hz : Sl w vt zs) (hL : Let w) :
    Calls Tryd.prog 3 #[vc, vt] w fun e w' => e = .returned (.bool true) ∧ Below w.heap.size w w' := by
  obtain ⟨hcv, hK1, hK2⟩ := hc
  have HLV : Hid (∀ W, Below w.heap.size w W → Calls Tryd.prog 4 #[] W fun e w' => e = .returned (.bool true) ∧ Below W.heap.size W w') := fun W h => liveW_any W (hL.below h)
  obtain ⟨fo, fc, so, sc, w1, rfl, hw1, hb1, hB, hT, hS⟩ := box_cnf w vc C hcv
  have HFW : Hid (∀ W b, Below w.heap.size w W → Blk W b 25 [.slice fo C.fs.length fc, .slice so C.ss.length sc, .int .i64 C.cap] → Calls Tryd.prog 5 #[.slice (some ⟨b, 0, none⟩) 1 1] W fun e w' => e = .returned (.bool (fewC C)) ∧ Below W.heap.size W w') := fun W b hb hx => by
    have := few_any W b [C] (cfs_one hx (hcv.below hb)) (by simp)
    simpa using this
  have HTK : Hid (fewC C = true → ∀ W u z, Below w.heap.size w W → Sl W u z → z.length ≤ 10000 → Calls Tryd.prog 8 #[.agg #[.slice fo C.fs.length fc, .slice so C.ss.length sc, .int .i64 C.cap], u] W fun e w' => ∃ v, e = .returned v ∧ Below W.heap.size W w' ∧ isTks (tokC C (rs z)) v w') := fun hf W u z hb hu hl => by
    refine (tokens_any W _ C (hcv.below hb) (fewC_ok hf hK1 hK2) u z hu (by omega) (hL.below hb)).mono ?_
    rintro e w' ⟨v, rfl, ht, hbb⟩
    exact ⟨v, rfl, hbb, ht.read (by have := tokC_len C (rs z); have := rs_len z; omega), trivial⟩
  have HCO : Hid (∀ W u z, Below w.heap.size w W → Sl W u z → z.length ≤ 10000 → Calls Tryd.prog 9 #[u] W fun e w' => e = .returned (.int .i64 ((wds (rs z)).length : Nat)) ∧ Below W.heap.size W w') := fun W u z hb hu hl => countW_any W u z hu (by omega) (hL.below hb)
  have HXT : Hid (∀ W, Below w.heap.size w W → Sl W vt zs) := fun W hb => hz.below hb
  have HRT : Hid (zs.length ≤ 1500 → ∀ W, Below w.heap.size w W → Calls Tryd.prog 6 #[.slice fo C.fs.length fc, vt] W fun e w' => e = .returned (.string (strOfNums (foldZ (useL C.fs) (runesN zs)))) ∧ Below W.heap.size W w') := fun hl W hb => refText_any W _ C.fs (hT.below hb) vt zs (hz.below hb) (by omega)
  obtain ⟨hf1, hf2⟩ := tok_folded C hz.1
  have hfl := foldZ_len C.fs (runesN zs)
  have HFL : Hid ((foldZ (useL C.fs) (runesN zs)).length ≤ 4 * zs.length) := by
    have h1 := foldZ_len (useL C.fs) (runesN zs)
    have h2 := runesN_len zs
    show _ ≤ _
    omega
  have HFO := hide (foldZ_ok C.fs (runesN zs))
  have HTOK := hide (tokC_ok C (rs zs))
  obtain ⟨F, hF0⟩ : ∃ F, foldZ (useL C.fs) (runesN zs) = F := ⟨_, rfl⟩
  rw [hF0] at hf1 hf2 HRT HFL HFO
  have HF1 := hide hf1
  have HF2 := hide hf2
  obtain ⟨to, tn, tc, rfl⟩ := sl_form hz
  have htn : tn = zs.length := by
    obtain ⟨_, ao', cap', he, _⟩ := hz
    simp at he
    exact he.2.1
  have HB1 := hide hb1
  have HBX := hide hB
  obtain ⟨fn, hfn⟩ : ∃ n, C.fs.length = n := ⟨_, rfl⟩
  obtain ⟨sn, hsn⟩ : ∃ n, C.ss.length = n := ⟨_, rfl⟩
  obtain ⟨K, hK⟩ : ∃ n, C.cap = n := ⟨_, rfl⟩
  rw [hfn] at hw1 HFW HTK HRT HBX ⊢
  rw [hsn] at hw1 HFW HTK HBX ⊢
  rw [hK] at hw1 HFW HTK HBX ⊢
  have HW1 := hide hw1
  have HTN := hide htn
  clear hcv hK1 hK2 hb1 hB hT hS hz hL hfn hsn hK hw1 htn hf1 hf2 hfl hF0
  have HCELL : Hid (∀ W, Below w1.heap.size w1 W → W.cell? ⟨w.heap.size, 0, none⟩ = some (.slice fo fn fc) ∧ W.cell? ⟨w.heap.size, 1, none⟩ = some (.slice so sn sc) ∧ W.cell? ⟨w.heap.size, 2, none⟩ = some (.int .i64 K)) := fun W hb => by
    have hx := HBX.out.below hb HBX.out.lt
    exact ⟨hx.cell 0, hx.cell 1, hx.cell 2⟩
  have HF1' : Hid (∀ W, Below w1.heap.size w1 W → Calls Tryd.prog 5 #[.slice (some ⟨W.heap.size, 0, none⟩) 1 1] (W.alloc (.cells #[.slice fo fn fc, .slice so sn sc, .int .i64 K] 25)) fun e w' => e = .returned (.bool (fewC C)) ∧ Below w1.heap.size w1 w') := fun W hb => by
    have h1 : Below w1.heap.size w1 (W.alloc (.cells #[.slice fo fn fc, .slice so sn sc, .int .i64 K] 25)) := hb.alloc hb.size _
    exact (HFW.out _ W.heap.size (HB1.out.trans (h1.mono HB1.out.size)) (Blk.new W _ _)).mono fun e w' ⟨e1, e2⟩ => ⟨e1, h1.trans (e2.mono (by have := hb.size; rw [World.size_alloc]; omega))⟩
  have HL1 : Hid (∀ W, Below w1.heap.size w1 W → Calls Tryd.prog 4 #[] W fun e w' => e = .returned (.bool true) ∧ Below w1.heap.size w1 w') := fun W hb => (HLV.out W (HB1.out.trans (hb.mono HB1.out.size))).mono fun e w' ⟨e1, e2⟩ => ⟨e1, hb.trans (e2.mono hb.size)⟩
  have HWB : Hid (∀ W, Below w1.heap.size w1 W → Below w.heap.size w W) := fun W hb => HB1.out.trans (hb.mono HB1.out.size)
  clear HFW HLV
  cases hF : fewC C with
  | false =>
    rw [hF] at HF1'
    have HF1 := HF1'
    clear hF HTK HCO HXT HRT HFL HFO HTOK HF2 HF1'
    go_enter Tryd.func3, Tryd.ntmps3
    go_wp2_with (first
      | (go_at_call 4; rw [HW1.out]; refine (HL1.out w1 (Below.refl _ w1)).mono ?_; rintro e w2 ⟨rfl, hb⟩; have HB2 := hide hb; obtain ⟨c0, c1, c2⟩ := HCELL.out w2 hb; clear hb HW1)
      | (go_at_call 5; refine (HF1.out w2 HB2.out).mono ?_; rintro e w3 ⟨rfl, hb⟩; have HB3 := hide hb; clear HF1 hb)
      | (go_at_call 4; refine (HL1.out w3 HB3.out).mono ?_; rintro e w4 ⟨rfl, hb⟩; have HB4 := hide hb; clear HL1 hb))
    go_ret
    exact ⟨rfl, HWB.out _ HB4.out⟩
  | true =>
    rw [hF] at HF1'
    have HTK2 := hide (HTK.out hF)
    clear hF HTK
    by_cases h1 : 1500 < tn
    · have h1i : (1500 : Int) < (tn : Int) := by omega
      have HF1 := HF1'
      clear HTK2 HCO HXT HRT HFL HFO HTOK HF2 HF1'
      go_enter Tryd.func3, Tryd.ntmps3
      go_wp2_with (first
        | (go_at_call 4; rw [HW1.out]; refine (HL1.out w1 (Below.refl _ w1)).mono ?_; rintro e w2 ⟨rfl, hb⟩; have HB2 := hide hb; obtain ⟨c0, c1, c2⟩ := HCELL.out w2 hb; clear hb HW1)
        | (go_at_call 5; refine (HF1.out w2 HB2.out).mono ?_; rintro e w3 ⟨rfl, hb⟩; have HB3 := hide hb; clear HF1 hb)
        | (go_at_call 4; refine (HL1.out w3 HB3.out).mono ?_; rintro e w4 ⟨rfl, hb⟩; have HB4 := hide hb; clear HL1 hb))
      go_ret
      exact ⟨rfl, HWB.out _ HB4.out⟩
    have h1i : ¬ (1500 : Int) < (tn : Int) := by omega
    have hzl : zs.length ≤ 1500 := by have := HTN.out; omega
    have hFl : F.length ≤ 6000 := by have := HFL.out; omega
    have HRT2 := hide (HRT.out hzl)
    have HT1 : Hid (∀ W, Below w1.heap.size w1 W → Calls Tryd.prog 8 #[.agg #[.slice fo fn fc, .slice so sn sc, .int .i64 K], .slice to tn tc] W fun e w' => ∃ v, e = .returned v ∧ Below W.heap.size W w' ∧ isTks (tokC C (rs zs)) v w') := fun W hb => HTK2.out W _ zs (HWB.out W hb) (HXT.out W (HWB.out W hb)) (by omega)
    have HT2 : Hid (∀ W u, Below w1.heap.size w1 W → Sl W u F → Calls Tryd.prog 8 #[.agg #[.slice fo fn fc, .slice so sn sc, .int .i64 K], u] W fun e w' => ∃ v, e = .returned v ∧ Below W.heap.size W w' ∧ isTks (tokC C (rs zs)) v w') := fun W u hb hu => by
      have := HTK2.out W u F (HWB.out W hb) hu (by omega)
      rwa [HF1.out] at this
    have HC1 : Hid (∀ W, Below w1.heap.size w1 W → Calls Tryd.prog 9 #[.slice to tn tc] W fun e w' => e = .returned (.int .i64 ((wds (rs zs)).length : Nat)) ∧ Below W.heap.size W w') := fun W hb => HCO.out W _ zs (HWB.out W hb) (HXT.out W (HWB.out W hb)) (by omega)
    have HC2 : Hid (∀ W u, Below w1.heap.size w1 W → Sl W u F → Calls Tryd.prog 9 #[u] W fun e w' => e = .returned (.int .i64 ((wds (rs zs)).length : Nat)) ∧ Below W.heap.size W w') := fun W u hb hu => by
      have := HCO.out W u F (HWB.out W hb) hu (by omega)
      rwa [HF2.out] at this
    have HCV : Hid (∀ W, ∃ c w', (convert 9 26 (.string (strOfNums F))).run Tryd.prog W = .ok (.slice (some ⟨W.heap.size, 0, none⟩) F.length c) w' ∧ Sl w' (.slice (some ⟨W.heap.size, 0, none⟩) F.length c) F ∧ Below W.heap.size W w') := fun W => conv_sl W F HFO.out (by omega)
    have HEQ : Hid (∀ W v u, Tks W v (tokC C (rs zs)) → Tks W u (tokC C (rs zs)) → Calls Tryd.prog 7 #[v, u] W fun e w' => e = .returned (.bool true) ∧ Below W.heap.size W w') := fun W v u h1 h2 => by
      have := equalT_any W v u _ _ h1 h2 HTOK.out HTOK.out
      rwa [decide_eq_true rfl] at this
    generalize tokC C (rs zs) = T at *
    generalize (wds (rs zs)).length = N at *
    obtain ⟨S, hS⟩ : ∃ S, strOfNums F = S := ⟨_, rfl⟩
    rw [hS] at HRT2 HCV
    generalize F.length = FL1 at *
    clear HTK2 HCO HXT HRT HFL HFO HTOK hS hzl hFl h1 HF1 HF2 HTN
    go_enter Tryd.func3, Tryd.ntmps3
    go_wp2_with (first
      | (go_at_call 4; rw [HW1.out]; refine (HL1.out w1 (Below.refl _ w1)).mono ?_; rintro e w2 ⟨rfl, hb⟩; have HB2 := hide hb; obtain ⟨c0, c1, c2⟩ := HCELL.out w2 hb; clear hb HW1)
      | (go_at_call 5; refine (HF1'.out w2 HB2.out).mono ?_; rintro e w3 ⟨rfl, hb⟩; have HB3 := hide hb; obtain ⟨c0, c1, c2⟩ := HCELL.out w3 hb; clear HF1' hb)
      | (go_at_call 6; refine (HRT2.out w3 (HWB.out w3 HB3.out)).mono ?_; rintro e w4 ⟨rfl, hb⟩; have HB4 := hide (HB3.out.trans (hb.mono HB3.out.size)); clear HRT2 hb))
    clear c0 c1 c2
    refine wp_region_facts (FL [isV (.agg #[.slice fo fn fc, .slice so sn sc, .int .i64 K]), isV (.slice to tn tc), isTks T, isV (.agg #[.slice fo fn fc, .slice so sn sc, .int .i64 K]), isV (.string S), isSlz F, isTks T, isV (.bool true), isV (.bool true), isV (.slice to tn tc), isV (.int .i64 (N : Int)), isV (.string S), isSlz F, isV (.int .i64 (N : Int)), isV (.bool true), isV (.bool true), isV (.bool true)]) 40 (by kernel_rfl) (by kernel_rfl) (by kernel_rfl) rfl (FL_stable _ (by repeat (first | exact trivial | refine ⟨stable_isV _, ?_⟩ | refine ⟨stable_isTks _, ?_⟩ | refine ⟨stable_isSlz _, ?_⟩))) ?_ ?_
    · refine ⟨?_, ?_, ?_, ?_, ?_, ?_, ?_, ?_, ?_, ?_, ?_, ?_, ?_, ?_, ?_, ?_, ?_, trivial⟩
      · intro act wx h
        have e2 : act.eval (.tmp 2) = .pointer (some ⟨w.heap.size, 0, none⟩) := h.old 2 (by kernel_rfl)
        have hbel := h.below
        clear h
        obtain ⟨c0, c1, c2⟩ := HCELL.out wx (HB4.out.trans (hbel.mono HB4.out.size))
        refine gives_by rfl act.eval rfl ?_
        generalize act.eval = ρ at *
        intro hf hc
        go_simp
        exact ⟨Below.refl _ _, rfl⟩
      · intro act wx h
        have e1 : act.eval (.tmp 1) = .slice to tn tc := h.old 1 (by kernel_rfl)
        have hbel := h.below
        clear h
        refine gives_by rfl act.eval rfl ?_
        generalize act.eval = ρ at *
        intro hf hc
        go_simp
        exact ⟨Below.refl _ _, rfl⟩
      · intro act wx h
        obtain ⟨v24, e24, f24⟩ := h.val 0 24 (by kernel_rfl)
        obtain rfl : v24 = .agg #[.slice fo fn fc, .slice so sn sc, .int .i64 K] := f24
        obtain ⟨v25, e25, f25⟩ := h.val 1 25 (by kernel_rfl)
        obtain rfl : v25 = .slice to tn tc := f25
        have hbel := h.below
        clear h
        refine gives_by rfl act.eval rfl ?_
        generalize act.eval = ρ at *
        intro hf hc
        go_simp
        exact HT1.out wx (HB4.out.trans (hbel.mono HB4.out.size))
      · intro act wx h
        have e2 : act.eval (.tmp 2) = .pointer (some ⟨w.heap.size, 0, none⟩) := h.old 2 (by kernel_rfl)
        have hbel := h.below
        clear h
        obtain ⟨c0, c1, c2⟩ := HCELL.out wx (HB4.out.trans (hbel.mono HB4.out.size))
        refine gives_by rfl act.eval rfl ?_
        generalize act.eval = ρ at *
        intro hf hc
        go_simp
        exact ⟨Below.refl _ _, rfl⟩
      · intro act wx h
        have e5 : act.eval (.tmp 5) = .string S := h.old 5 (by kernel_rfl)
        have hbel := h.below
        clear h
        refine gives_by rfl act.eval rfl ?_
        generalize act.eval = ρ at *
        intro hf hc
        go_simp
        exact ⟨Below.refl _ _, rfl⟩
      · intro act wx h
        obtain ⟨v28, e28, f28⟩ := h.val 4 28 (by kernel_rfl)
        obtain rfl : v28 = .string S := f28
        have hbel := h.below
        clear h
        obtain ⟨c, wy, hrc, hsc, hbc⟩ := HCV.out wx
        refine gives_by rfl act.eval rfl ?_
        generalize act.eval = ρ at *
        intro hf hc
        go_simp
        exact ⟨hbc, hsc⟩
      · intro act wx h
        obtain ⟨v27, e27, f27⟩ := h.val 3 27 (by kernel_rfl)
        obtain rfl : v27 = .agg #[.slice fo fn fc, .slice so sn sc, .int .i64 K] := f27
        obtain ⟨v29, e29, f29⟩ := h.val 5 29 (by kernel_rfl)
        obtain h : Hid (Sl wx v29 F) := f29
        have hbel := h.below
        clear h
        refine gives_by rfl act.eval rfl ?_
        generalize act.eval = ρ at *
        intro hf hc
        go_simp
        exact HT2.out wx v29 (HB4.out.trans (hbel.mono HB4.out.size)) f29.out
      · intro act wx h
        obtain ⟨v26, e26, f26⟩ := h.val 2 26 (by kernel_rfl)
        obtain ⟨ht26, _⟩ := f26
        obtain ⟨v30, e30, f30⟩ := h.val 6 30 (by kernel_rfl)
        obtain ⟨ht30, _⟩ := f30
        have hbel := h.below
        clear h
        refine gives_by rfl act.eval rfl ?_
        generalize act.eval = ρ at *
        intro hf hc
        go_simp
        exact call_gives (HEQ.out wx v26 v30 ht26 ht30) (fun _ => rfl)
      · intro act wx h
        obtain ⟨v31, e31, f31⟩ := h.val 7 31 (by kernel_rfl)
        obtain rfl : v31 = .bool true := f31
        have hbel := h.below
        clear h
        refine gives_by rfl act.eval rfl ?_
        generalize act.eval = ρ at *
        intro hf hc
        go_simp
        exact ⟨Below.refl _ _, rfl⟩
      · intro act wx h
        have e1 : act.eval (.tmp 1) = .slice to tn tc := h.old 1 (by kernel_rfl)
        have hg := h.guard 8 32 (by kernel_rfl) true (fun v hv => hv)
        have hbel := h.below
        clear h
        refine gives_by (by simp only [Region.wanted, hg]; rfl) act.eval rfl ?_
        generalize act.eval = ρ at *
        intro hf hc
        go_simp
        exact ⟨Below.refl _ _, rfl⟩
      · intro act wx h
        obtain ⟨v33, e33, f33⟩ := h.val 9 33 (by kernel_rfl)
        obtain rfl : v33 = .slice to tn tc := f33
        have hg := h.guard 8 32 (by kernel_rfl) true (fun v hv => hv)
        have hbel := h.below
        clear h
        refine gives_by (by simp only [Region.wanted, hg]; rfl) act.eval rfl ?_
        generalize act.eval = ρ at *
        intro hf hc
        go_simp
        exact call_gives (HC1.out wx (HB4.out.trans (hbel.mono HB4.out.size))) (fun _ => rfl)
      · intro act wx h
        have e5 : act.eval (.tmp 5) = .string S := h.old 5 (by kernel_rfl)
        have hg := h.guard 8 32 (by kernel_rfl) true (fun v hv => hv)
        have hbel := h.below
        clear h
        refine gives_by (by simp only [Region.wanted, hg]; rfl) act.eval rfl ?_
        generalize act.eval = ρ at *
        intro hf hc
        go_simp
        exact ⟨Below.refl _ _, rfl⟩
      · intro act wx h
        obtain ⟨v35, e35, f35⟩ := h.val 11 35 (by kernel_rfl)
        obtain rfl : v35 = .string S := f35
        have hg := h.guard 8 32 (by kernel_rfl) true (fun v hv => hv)
        have hbel := h.below
        clear h
        obtain ⟨c, wy, hrc, hsc, hbc⟩ := HCV.out wx
        refine gives_by (by simp only [Region.wanted, hg]; rfl) act.eval rfl ?_
        generalize act.eval = ρ at *
        intro hf hc
        go_simp
        exact ⟨hbc, hsc⟩
      · intro act wx h
        obtain ⟨v36, e36, f36⟩ := h.val 12 36 (by kernel_rfl)
        obtain h : Hid (Sl wx v36 F) := f36
        have hg := h.guard 8 32 (by kernel_rfl) true (fun v hv => hv)
        have hbel := h.below
        clear h
        refine gives_by (by simp only [Region.wanted, hg]; rfl) act.eval rfl ?_
        generalize act.eval = ρ at *
        intro hf hc
        go_simp
        exact call_gives (HC2.out wx v36 (HB4.out.trans (hbel.mono HB4.out.size)) f36.out) (fun _ => rfl)
      · intro act wx h
        obtain ⟨v34, e34, f34⟩ := h.val 10 34 (by kernel_rfl)
        obtain rfl : v34 = .int .i64 (N : Int) := f34
        obtain ⟨v37, e37, f37⟩ := h.val 13 37 (by kernel_rfl)
        obtain rfl : v37 = .int .i64 (N : Int) := f37
        have hg := h.guard 8 32 (by kernel_rfl) true (fun v hv => hv)
        have hbel := h.below
        clear h
        refine gives_by (by simp only [Region.wanted, hg]; rfl) act.eval rfl ?_
        generalize act.eval = ρ at *
        intro hf hc
        go_simp
        exact ⟨Below.refl _ _, rfl⟩
      · intro act wx h
        obtain ⟨v32, e32, f32⟩ := h.val 8 32 (by kernel_rfl)
        obtain rfl : v32 = .bool true := f32
        obtain ⟨v38, e38, f38⟩ := h.val 14 38 (by kernel_rfl)
        obtain rfl : v38 = .bool true := f38
        have hbel := h.below
        clear h
        refine gives_by rfl act.eval rfl ?_
        generalize act.eval = ρ at *
        intro hf hc
        go_simp
        exact ⟨Below.refl _ _, rfl⟩
      · intro act wx h
        obtain ⟨v39, e39, f39⟩ := h.val 15 39 (by kernel_rfl)
        obtain rfl : v39 = .bool true := f39
        have hbel := h.below
        clear h
        refine gives_by rfl act.eval rfl ?_
        generalize act.eval = ρ at *
        intro hf hc
        go_simp
        exact ⟨Below.refl _ _, rfl⟩
    · intro vals w8 hb8 hv
      have hv4 : vals 16 = .bool true := hv 16 4 (by kernel_rfl)
      clear hv
      generalize hact : putAll _ vals 0 _ = act
      have HB8 := hide hb8
      clear hb8
      subst hact
      simp only [putAll, Act.put, List.setIfInBounds_toArray, List.set_cons_zero, List.set_cons_succ, hv4, Nat.zero_add, Nat.reduceAdd]
      clear hv4
      go_wp2
      go_ret
      exact ⟨rfl, HWB.out _ (HB4.out.trans (HB8.out.mono HB4.out.size))⟩

end Go.Proofs.YtgeclnnhblffkabDoor
