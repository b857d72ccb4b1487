/- Tokens' own facts (pure): each is its own term, no stop word, not too long; places rise. []rune of a text; package words' Stop. -/
import Derived.Test.YtgeclnnhblffkaaDoorWdOne
import Derived.Test.YtgeclnnhblffkaaDoorWdChk2
import Derived.Test.YtgeclnnhblffkaaDoorJWdToks
import Derived.Test.YtgeclnnhblffkaaDoorJWdFew
import Derived.Test.YtgeclnnhblffkaaDoorWdCount
namespace Go.Proofs.YtgeclnnhblffkaaDoor
set_option maxRecDepth 20000
open Go.RowKit
set_option linter.unusedVariables false
set_option linter.unusedSimpArgs false
set_option maxRecDepth 100000

theorem runesFrom_size (z : List Int) : ∀ (n i : Nat) (acc : Array Value), (Conv.runesFrom (strOfNums z) n i acc).size = acc.size + (rnL n i (z.drop i)).length
  | 0, i, acc => by simp [Conv.runesFrom, rnL]
  | n + 1, i, acc => by
    unfold Conv.runesFrom
    rw [strOfNums_size]
    by_cases h : i < z.length
    · have hne : z.drop i ≠ [] := by
        intro e
        have := congrArg List.length e
        simp at this
        omega
      rw [if_pos h, dec_at, rnL_on n i hne]
      simp only
      rw [runesFrom_size z n, Array.size_push, List.length_cons, List.drop_drop]
      omega
    · rw [if_neg h, List.drop_eq_nil_of_le (by omega), rnL_nil]
      simp
theorem conv_runes (W : World) (z : List Int) (hl : z.length ≤ 1000000) : ∃ c w', (convert 9 56 (.string (strOfNums z))).run Tryd.prog W = .ok (.slice (some ⟨W.heap.size, 0, none⟩) (rs z).length c) w' ∧ Below W.heap.size W w' := by
  have hs := runesFrom_size z (strOfNums z).size 0 #[]
  rw [strOfNums_size] at hs
  have hn : (Conv.runesFrom (strOfNums z) (strOfNums z).size 0 #[]).size = (rs z).length := by
    rw [strOfNums_size, hs]
    simp [rs, runesN]
  have h1 := rs_len z
  have hr := run_runes_of_string (P := Tryd.prog) W 9 56 21 (strOfNums z) Tryd.underlying9 Tryd.underlying56 Tryd.underlying21 (by rw [hn]; omega)
  rw [hn] at hr
  exact ⟨_, _, hr, ((Below.refl _ W).drew).alloc (Nat.le_refl _) _⟩

set_option maxHeartbeats 1000000 in
theorem stop_any (w : World) (v : Value) (C : Cn) (h : CnfV w v C) (hok : CnOk C) (z : List Int) (hz : ByteOk z) (hL : Let w) :
    Calls Tryd.prog 32 #[v, .string (strOfNums z)] w fun e w' => e = .returned (.bool (mayC C && decide (z ∈ C.ss))) ∧ Below w.heap.size w w' := by
  obtain ⟨fo, fc, so, sc, w1, rfl, hw1, hb1, hB, hT, hS⟩ := box_cnf w v C h
  have HCK := hide (checkC_any w1 _ C (h.below hb1) hok (hL.below hb1))
  have HIS : Hid (∀ W, Below w1.heap.size w1 W → Calls Tryd.prog 60 #[.agg #[.slice fo C.fs.length fc, .slice so C.ss.length sc, .int .i64 C.cap], .string (strOfNums z)] W fun e w' => e = .returned (.bool (decide (z ∈ C.ss))) ∧ Below W.heap.size W w') := fun W hb => isStop_any W _ C (h.below (hb1.trans (hb.mono hb1.size))) z hz
  have HB1 := hide hb1
  have HBX := hide hB
  have c0 : w1.cell? ⟨w.heap.size, 0, none⟩ = some (.slice fo C.fs.length fc) := hB.cell 0
  have c1 : w1.cell? ⟨w.heap.size, 1, none⟩ = some (.slice so C.ss.length sc) := hB.cell 1
  have c2 : w1.cell? ⟨w.heap.size, 2, none⟩ = some (.int .i64 C.cap) := hB.cell 2
  have HE : Hid (mayE C = if mayC C = true then 0 else 140) := rfl
  generalize strOfNums z = s at *
  generalize decide (z ∈ C.ss) = A at *
  generalize mayE C = E at *
  generalize mayC C = M at *
  generalize C.fs.length = fn at *
  generalize C.ss.length = sn at *
  generalize C.cap = K at *
  clear h hT hS hB hb1 hok hL hz
  cases M with
  | false =>
    have he := HE.out
    rw [if_neg (by simp)] at he
    subst he
    clear HE HIS
    go_enter Tryd.func32, Tryd.ntmps32
    go_wp2_with (go_at_call 15; refine HCK.out.mono ?_; rintro e w2 ⟨rfl, hb⟩; have HB2 := hide (HB1.out.trans (hb.mono HB1.out.size)); clear HCK hb)
    go_ret
    exact ⟨rfl, HB2.out⟩
  | true =>
    have he := HE.out
    rw [if_pos rfl] at he
    subst he
    clear HE
    go_enter Tryd.func32, Tryd.ntmps32
    go_wp2_with (first
      | (go_at_call 15; refine HCK.out.mono ?_; rintro e w2 ⟨rfl, hb⟩; have hx := HBX.out.below hb HBX.out.lt; have c0 := hx.cell 0; have c1 := hx.cell 1; have c2 := hx.cell 2; have HM := hide hb; have HB2 := hide (HB1.out.trans (hb.mono HB1.out.size)); clear HCK hb hx)
      | (go_at_call 60; refine (HIS.out w2 HM.out).mono ?_; rintro e w3 ⟨rfl, hb⟩; have HB3 := hide (HB2.out.trans (hb.mono HB2.out.size)); clear HIS hb))
    go_ret
    exact ⟨ret_bool (Bool.true_and A).symm, HB3.out⟩

/-- what holds of each token that is told -/
structure TkF (C : Cn) (m N : Nat) (x : Tk) : Prop where
  ok : ByteOk x.1
  one : oneC C (rs x.1) = (x.1, 0)
  no : ¬ x.1 ∈ C.ss
  bytes : x.1.length ≤ 2 * m
  runes : (rs x.1).length ≤ m
  lt : x.2 < N
theorem tok_facts (C : Cn) (m : Nat) (hmay : mayC C = true) (hm : C.cap.toNat = m) (hm1 : 1 ≤ m) (l : List Nat) : ∀ x ∈ tokC C l, TkF C m (wds l).length x := by
  intro x hx
  rw [show tokC C l = tokL (useL C.fs) C.cap.toNat C.ss l from if_pos hmay, hm] at hx
  obtain ⟨p, hp, rfl⟩ := List.mem_map.1 hx
  obtain ⟨hp1, hp2⟩ := List.mem_filter.1 hp
  obtain ⟨i, hi, e⟩ := List.mem_iff_getElem.1 hp1
  rw [wdsN_at l i hi] at e
  have hi2 : i < (wds l).length := by rw [wdsN_len] at hi; exact hi
  have e1 : p.1 = (wds l)[i] := by rw [← e]
  have e2 : p.2 = i := by rw [← e]
  obtain ⟨hne, hlt⟩ := wds_in l p.1 (by rw [e1]; exact List.getElem_mem _)
  have hlet := termR_let C.fs m hlt
  have hrs : rs (termZ (useL C.fs) m p.1) = termR (useL C.fs) m p.1 := rs_fmLet _ hlet
  have hlen : (termR (useL C.fs) m p.1).length ≤ m := by unfold termR; simp; omega
  have hne2 : termR (useL C.fs) m p.1 ≠ [] := by
    intro e
    have := congrArg List.length e
    unfold termR at this
    simp at this
    rcases this with h | h
    · omega
    · exact hne h
  refine ⟨fmL_ok _, ?_, ?_, ?_, ?_, by simp only [tkOf]; omega⟩
  · show oneC C (rs (termZ (useL C.fs) m p.1)) = (termZ (useL C.fs) m p.1, 0)
    rw [hrs, show oneC C (termR (useL C.fs) m p.1) = oneL (useL C.fs) C.cap.toNat (wds (termR (useL C.fs) m p.1)) from if_pos hmay, hm, wds_one hne2 hlet]
    show (termZ (useL C.fs) m (termR (useL C.fs) m p.1), (0 : Int)) = _
    unfold termZ
    rw [termR_twice C.fs m hlt]
  · unfold toldB at hp2
    simpa [tkOf] using hp2
  · have := (fmL_len2 _ hlet).2
    show (termZ (useL C.fs) m p.1).length ≤ _
    unfold termZ
    omega
  · show (rs (termZ (useL C.fs) m p.1)).length ≤ m
    rw [hrs]
    exact hlen
theorem zip_pair {α : Type} : ∀ (l : List α) (n : Nat), (l.zipIdx n).Pairwise fun x y => x.2 < y.2
  | [], _ => List.Pairwise.nil
  | a :: l, n => by
    rw [List.zipIdx_cons]
    refine List.Pairwise.cons (fun y hy => ?_) (zip_pair l (n + 1))
    have := List.le_snd_of_mem_zipIdx hy
    simp only
    omega
theorem tok_rise (C : Cn) (l : List Nat) : (tokC C l).Pairwise fun x y => x.2 < y.2 := by
  unfold tokC
  split
  · unfold tokL
    rw [List.pairwise_map]
    exact (zip_pair (wds l) 0).filter _
  · exact List.Pairwise.nil

end Go.Proofs.YtgeclnnhblffkaaDoor
/- Walk: incipitlaw14.WordsOwn. -/
namespace Go.Proofs.YtgeclnnhblffkaaDoor
set_option maxRecDepth 20000
open Go.RowKit
set_option linter.unusedVariables false
set_option linter.unusedSimpArgs false
set_option maxRecDepth 100000

theorem sl_lenK {w : World} {ao : Option Addr} {n cap : Nat} {zs : List Int} (h : Sl w (.slice ao n cap) zs) : n = zs.length := by
  obtain ⟨_, ao', cap', he, _⟩ := h
  simp at he
  exact he.2.1

set_option maxHeartbeats 2000000 in
theorem wordsOwn_walk (w : World) (vc : Value) (C : Cn) (hc : CnfI w vc C) (vt : Value) (zs : List Int) (hz : Sl w vt zs) (hL : Let w) :
    Calls Tryd.prog 7 #[vc, vt] w fun e w' => e = .returned (.bool true) ∧ Below w.heap.size w w' := by
  obtain ⟨hcv, hK1, hK2⟩ := hc
  have HLV : Hid (∀ W, Below w.heap.size w W → Calls Tryd.prog 9 #[] W fun e w' => e = .returned (.bool true) ∧ Below W.heap.size W w') := fun W h => liveW_any W (hL.below h)
  obtain ⟨fo, fc, so, sc, w1, rfl, hw1, hb1, hB, hT, hS⟩ := box_cnf w vc C hcv
  have HFW : Hid (∀ W b, Below w.heap.size w W → Blk W b 25 [.slice fo C.fs.length fc, .slice so C.ss.length sc, .int .i64 C.cap] → Calls Tryd.prog 10 #[.slice (some ⟨b, 0, none⟩) 1 1] W fun e w' => e = .returned (.bool (fewC C)) ∧ Below W.heap.size W w') := fun W b hb hx => by
    have := few_any W b [C] (cfs_one hx (hcv.below hb)) (by simp)
    simpa using this
  have HCK : Hid (fewC C = true → ∀ W, Below w.heap.size w W → Calls Tryd.prog 15 #[.agg #[.slice fo C.fs.length fc, .slice so C.ss.length sc, .int .i64 C.cap]] W fun e w' => e = .returned (.int .i64 (mayE C)) ∧ Below W.heap.size W w') := fun hf W hb => checkC_any W _ C (hcv.below hb) (fewC_ok hf hK1 hK2) (hL.below hb)
  have HE : Hid (mayE C = if mayC C = true then 0 else 140) := rfl
  have HTK : Hid (fewC C = true → zs.length ≤ 2000 → ∀ W, Below w.heap.size w W → Calls Tryd.prog 22 #[.agg #[.slice fo C.fs.length fc, .slice so C.ss.length sc, .int .i64 C.cap], vt] W fun e w' => ∃ u, e = .returned u ∧ Tks w' u (tokC C (rs zs)) ∧ Below W.heap.size W w') := fun hf hl W hb => by
    refine (tokens_any W _ C (hcv.below hb) (fewC_ok hf hK1 hK2) vt zs (hz.below hb) (by omega) (hL.below hb)).mono ?_
    rintro e w' ⟨u, rfl, ht, hbb⟩
    exact ⟨u, rfl, ht.read (by have := tokC_len C (rs zs); have := rs_len zs; omega), hbb⟩
  have HON : Hid (fewC C = true → ∀ W u z, Below w.heap.size w W → Sl W u z → z.length ≤ 1000 → Calls Tryd.prog 27 #[.agg #[.slice fo C.fs.length fc, .slice so C.ss.length sc, .int .i64 C.cap], u] W fun e w' => e = .returned (.tuple #[.string (strOfNums (oneC C (rs z)).1), .int .i64 (oneC C (rs z)).2]) ∧ Below W.heap.size W w') := fun hf W u z hb hu hzl => one_any W _ C (hcv.below hb) (fewC_ok hf hK1 hK2) u z hu (by omega) (hL.below hb)
  have HSP : Hid (fewC C = true → ∀ W z, Below w.heap.size w W → ByteOk z → Calls Tryd.prog 32 #[.agg #[.slice fo C.fs.length fc, .slice so C.ss.length sc, .int .i64 C.cap], .string (strOfNums z)] W fun e w' => e = .returned (.bool (mayC C && decide (z ∈ C.ss))) ∧ Below W.heap.size W w') := fun hf W z hb hzo => stop_any W _ C (hcv.below hb) (fewC_ok hf hK1 hK2) z hzo (hL.below hb)
  have HCO : Hid (zs.length ≤ 2000 → ∀ W, Below w.heap.size w W → Calls Tryd.prog 25 #[vt] W fun e w' => e = .returned (.int .i64 ((wds (rs zs)).length : Nat)) ∧ Below W.heap.size W w') := fun hl W hb => countW_any W vt zs (hz.below hb) (by omega) (hL.below hb)
  have HFA : Hid (mayC C = true → ∃ m : Nat, C.cap = (m : Int) ∧ 1 ≤ m ∧ m ≤ 12 ∧ ∀ x ∈ tokC C (rs zs), TkF C m (wds (rs zs)).length x) := fun hm => by
    obtain ⟨m, h1, _, h3, h4, h5⟩ := mayC_cap hm
    exact ⟨m, h1, h4, h5, tok_facts C m hm h3 h4 (rs zs)⟩
  have HRI := hide (tok_rise C (rs zs))
  have HNL : Hid ((tokC C (rs zs)).length ≤ zs.length) := Nat.le_trans (tokC_len _ _) (rs_len zs)
  obtain ⟨to, tn, tc, rfl⟩ := sl_form hz
  have htn := sl_lenK hz
  have HB1 := hide hb1
  have HBX := hide hB
  have c0 : w1.cell? ⟨w.heap.size, 0, none⟩ = some (.slice fo C.fs.length fc) := hB.cell 0
  have c1 : w1.cell? ⟨w.heap.size, 1, none⟩ = some (.slice so C.ss.length sc) := hB.cell 1
  have c2 : w1.cell? ⟨w.heap.size, 2, none⟩ = some (.int .i64 C.cap) := hB.cell 2
  generalize tokC C (rs zs) = T at *
  generalize (wds (rs zs)).length = N at *
  obtain ⟨fn, hfn⟩ : ∃ n, C.fs.length = n := ⟨_, rfl⟩
  obtain ⟨sn, hsn⟩ : ∃ n, C.ss.length = n := ⟨_, rfl⟩
  obtain ⟨K, hK⟩ : ∃ n, C.cap = n := ⟨_, rfl⟩
  rw [hfn] at hw1 c0 HFW HCK HTK HON HSP HBX ⊢
  rw [hsn] at hw1 c1 HFW HCK HTK HON HSP HBX ⊢
  rw [hK] at hw1 c2 HFW HCK HTK HON HSP HFA HBX ⊢
  rw [← htn] at HTK HCO HNL
  have HW1 := hide hw1
  clear hcv hK1 hK2 hb1 hB hT hS hz hL hfn hsn hK htn c0 c1 c2 hw1
  -- the beginning: live, few
  have HCELL : Hid (∀ W, Below w1.heap.size w1 W → W.cell? ⟨w.heap.size, 0, none⟩ = some (.slice fo fn fc) ∧ W.cell? ⟨w.heap.size, 1, none⟩ = some (.slice so sn sc) ∧ W.cell? ⟨w.heap.size, 2, none⟩ = some (.int .i64 K)) := fun W hb => by
    have hx := HBX.out.below hb HBX.out.lt
    exact ⟨hx.cell 0, hx.cell 1, hx.cell 2⟩
  have HF1 : Hid (∀ W, Below w1.heap.size w1 W → Calls Tryd.prog 10 #[.slice (some ⟨W.heap.size, 0, none⟩) 1 1] (W.alloc (.cells #[.slice fo fn fc, .slice so sn sc, .int .i64 K] 25)) fun e w' => e = .returned (.bool (fewC C)) ∧ Below w1.heap.size w1 w') := fun W hb => by
    have h1 : Below w1.heap.size w1 (W.alloc (.cells #[.slice fo fn fc, .slice so sn sc, .int .i64 K] 25)) := hb.alloc hb.size _
    exact (HFW.out _ W.heap.size (HB1.out.trans (h1.mono HB1.out.size)) (Blk.new W _ _)).mono fun e w' ⟨e1, e2⟩ => ⟨e1, h1.trans (e2.mono (by have := hb.size; rw [World.size_alloc]; omega))⟩
  have HL1 : Hid (∀ W, Below w1.heap.size w1 W → Calls Tryd.prog 9 #[] W fun e w' => e = .returned (.bool true) ∧ Below w1.heap.size w1 w') := fun W hb => (HLV.out W (HB1.out.trans (hb.mono HB1.out.size))).mono fun e w' ⟨e1, e2⟩ => ⟨e1, hb.trans (e2.mono hb.size)⟩
  clear HFW HLV
  cases hF : fewC C with
  | false =>
    rw [hF] at HF1
    clear hF HCK HTK HON HSP HCO HFA HRI HNL HE
    go_enter Tryd.func7, Tryd.ntmps7
    go_wp2_with (first
      | (go_at_call 9; rw [HW1.out]; refine (HL1.out w1 (Below.refl _ w1)).mono ?_; rintro e w2 ⟨rfl, hb⟩; have HB2 := hide hb; obtain ⟨c0, c1, c2⟩ := HCELL.out w2 hb; clear hb HW1)
      | (go_at_call 10; refine (HF1.out w2 HB2.out).mono ?_; rintro e w3 ⟨rfl, hb⟩; have HB3 := hide hb; clear HF1 hb)
      | (go_at_call 9; refine (HL1.out w3 HB3.out).mono ?_; rintro e w4 ⟨rfl, hb⟩; have HB4 := hide hb; clear HL1 hb))
    go_ret
    exact ⟨rfl, HB1.out.trans (HB4.out.mono HB1.out.size)⟩
  | true =>
    rw [hF] at HF1
    have HCK2 := hide (HCK.out hF)
    have HTK2 := hide (HTK.out hF)
    have HON2 := hide (HON.out hF)
    have HSP2 := hide (HSP.out hF)
    clear hF HCK HTK HON HSP
    by_cases h2 : 2000 < tn
    · have h2i : (2000 : Int) < (tn : Int) := by omega
      clear HCK2 HTK2 HON2 HSP2 HCO HFA HRI HNL HE
      go_enter Tryd.func7, Tryd.ntmps7
      go_wp2_with (first
        | (go_at_call 9; rw [HW1.out]; refine (HL1.out w1 (Below.refl _ w1)).mono ?_; rintro e w2 ⟨rfl, hb⟩; have HB2 := hide hb; obtain ⟨c0, c1, c2⟩ := HCELL.out w2 hb; clear hb HW1)
        | (go_at_call 10; refine (HF1.out w2 HB2.out).mono ?_; rintro e w3 ⟨rfl, hb⟩; have HB3 := hide hb; clear HF1 hb)
        | (go_at_call 9; refine (HL1.out w3 HB3.out).mono ?_; rintro e w4 ⟨rfl, hb⟩; have HB4 := hide hb; clear HL1 hb))
      go_ret
      exact ⟨rfl, HB1.out.trans (HB4.out.mono HB1.out.size)⟩
    have h2i : ¬ (2000 : Int) < (tn : Int) := by omega
    have HWB : Hid (∀ W, Below w1.heap.size w1 W → Below w.heap.size w W) := fun W hb => HB1.out.trans (hb.mono HB1.out.size)
    have HTK3 := hide (HTK2.out (by omega))
    have HCO2 := hide (HCO.out (by omega))
    clear HTK2 HCO
    cases hM : mayC C with
    | false =>
      rw [HE.out, hM, if_neg (by simp)] at HCK2
      clear hM HTK3 HON2 HSP2 HCO2 HFA HRI HNL HE
      go_enter Tryd.func7, Tryd.ntmps7
      go_wp2_with (first
        | (go_at_call 9; rw [HW1.out]; refine (HL1.out w1 (Below.refl _ w1)).mono ?_; rintro e w2 ⟨rfl, hb⟩; have HB2 := hide hb; obtain ⟨c0, c1, c2⟩ := HCELL.out w2 hb; clear hb HW1)
        | (go_at_call 10; refine (HF1.out w2 HB2.out).mono ?_; rintro e w3 ⟨rfl, hb⟩; have HB3 := hide hb; obtain ⟨c0, c1, c2⟩ := HCELL.out w3 hb; clear HF1 hb)
        | (go_at_call 15; refine (HCK2.out w3 (HWB.out w3 HB3.out)).mono ?_; rintro e w4 ⟨rfl, hb⟩; have HB4 := hide (HB3.out.trans (hb.mono HB3.out.size)); clear HCK2 hb)
        | (go_at_call 9; refine (HL1.out w4 HB4.out).mono ?_; rintro e w5 ⟨rfl, hb⟩; have HB5 := hide hb; clear HL1 hb))
      go_ret
      exact ⟨rfl, HWB.out _ HB5.out⟩
    | true =>
      rw [HE.out, hM, if_pos rfl] at HCK2
      rw [hM] at HSP2
      obtain ⟨m, rfl, hm1, hm2, hfa⟩ := HFA.out hM
      have HFX := hide hfa
      clear hM HFA hfa HE
      go_enter Tryd.func7, Tryd.ntmps7
      go_wp2_with (first
        | (go_at_call 9; rw [HW1.out]; refine (HL1.out w1 (Below.refl _ w1)).mono ?_; rintro e w2 ⟨rfl, hb⟩; have HB2 := hide hb; obtain ⟨c0, c1, c2⟩ := HCELL.out w2 hb; clear hb HW1 HL1)
        | (go_at_call 10; refine (HF1.out w2 HB2.out).mono ?_; rintro e w3 ⟨rfl, hb⟩; have HB3 := hide hb; obtain ⟨c0, c1, c2⟩ := HCELL.out w3 hb; clear HF1 hb)
        | (go_at_call 15; refine (HCK2.out w3 (HWB.out w3 HB3.out)).mono ?_; rintro e w4 ⟨rfl, hb⟩; have HB4 := hide (HB3.out.trans (hb.mono HB3.out.size)); obtain ⟨c0, c1, c2⟩ := HCELL.out w4 HB4.out; clear HCK2 hb)
        | (go_at_call 22; refine (HTK3.out w4 (HWB.out w4 HB4.out)).mono ?_; rintro e w5 ⟨u, rfl, ht, hb⟩; have HB5 := hide (HB4.out.trans (hb.mono HB4.out.size)); obtain ⟨ua, uc, rfl⟩ := ht.len; have HTS := hide ht; clear HTK3 hb ht))
      obtain ⟨n, hn⟩ : ∃ n, T.length = n := ⟨_, rfl⟩
      have HN := hide hn
      have hni : (n : Int) ≤ 2000 := by have := HNL.out; omega
      rw [hn] at HTS ⊢
      clear hn c0 c1 c2
      go_loopg [5, 33] n (fun k la i wr => ∃ (j : Nat) (l : Int), k + j = n ∧ i = .int .i64 (j : Int) ∧ la = .int .i64 l ∧ (∀ q, T[j]? = some q → l < (q.2 : Int)) ∧ -1 ≤ l ∧ l < (N : Int) ∧ Below w5.heap.size w5 wr)
      case atStart =>
        refine ⟨0, -1, rfl, rfl, rfl, fun q _ => by omega, by omega, by omega, Below.refl _ w5⟩
      case round =>
        obtain ⟨j, la, hk, rfl, rfl, hlq, hl1, hl2, hbw⟩ := hrel
        have HB := hide hbw
        have HLQ := hide hlq
        have HLN := hide hl2
        have HL1 := hide hl1
        clear hlq hl2 hbw hl1
        have HBW : Hid (Below w1.heap.size w1 wr) := HB5.out.trans (HB.out.mono HB5.out.size)
        cases gk with
        | zero =>
          obtain rfl : j = n := by omega
          have hlt : ¬ (j : Int) < (j : Int) := by omega
          have hll : la < (N : Int) := HLN.out
          go_wp2_with (go_at_call 25; refine (HCO2.out wr (HWB.out wr HBW.out)).mono ?_; rintro e w6 ⟨rfl, hb⟩; have HB6 := hide (HBW.out.trans (hb.mono HBW.out.size)); clear HCO2 hb)
          go_ret
          exact ⟨rfl, HWB.out _ HB6.out⟩
        | succ k =>
          have hj : (j : Int) < (n : Int) := by omega
          have hjl : j < T.length := by rw [HN.out]; omega
          obtain ⟨b, off, ⟨z, p⟩, rfl, hx, q0, q1⟩ := (HTS.out.below HB.out).at j hjl
          simp only at q0 q1
          have hf := HFX.out _ (List.mem_of_getElem? hx)
          have hlp := HLQ.out _ hx
          simp only at hlp
          obtain ⟨hzo, hone, hno, hby, hru, hpl⟩ := hf
          simp only at hzo hone hno hby hru hpl
          have HNX : Hid (∀ q, T[j + 1]? = some q → (p : Int) < (q.2 : Int)) := fun q hq => by
            have h1 := HRI.out
            rw [List.pairwise_iff_getElem] at h1
            obtain ⟨i1, e1⟩ := List.getElem?_eq_some_iff.1 hx
            obtain ⟨i2, e2⟩ := List.getElem?_eq_some_iff.1 hq
            have := h1 j (j + 1) i1 i2 (by omega)
            rw [e1, e2] at this
            simp only at this
            omega
          obtain ⟨W1, hW1⟩ : ∃ W1, wr.alloc (.cells #[.string (strOfNums z), .int .i64 (p : Int)] 42) = W1 := ⟨_, rfl⟩
          have hbW1 : Below wr.heap.size wr W1 := by rw [← hW1]; exact (Below.refl _ wr).alloc (Nat.le_refl _) _
          have hBT : Blk W1 wr.heap.size 42 [.string (strOfNums z), .int .i64 (p : Int)] := by rw [← hW1]; exact Blk.new wr _ _
          have HTC : Hid (∀ W, Below W1.heap.size W1 W → W.cell? ⟨wr.heap.size, 0, none⟩ = some (.string (strOfNums z)) ∧ W.cell? ⟨wr.heap.size, 1, none⟩ = some (.int .i64 (p : Int))) := fun W hb => ⟨(hBT.below hb hBT.lt).cell 0, (hBT.below hb hBT.lt).cell 1⟩
          have HBW1 : Hid (Below w1.heap.size w1 W1) := HBW.out.trans (hbW1.mono HBW.out.size)
          obtain ⟨t0, t1⟩ := HTC.out W1 (Below.refl _ _)
          obtain ⟨c0, c1, c2⟩ := HCELL.out W1 HBW1.out
          obtain ⟨cc, W2, hcv, hsl, hbc⟩ := conv_sl W1 z hzo (by omega)
          have HON4 := hide (HON2.out W2 _ z (HWB.out W2 (HBW1.out.trans (hbc.mono HBW1.out.size))) hsl (by omega))
          rw [hone] at HON4
          simp only at HON4
          have HBC := hide hbc
          have HSP4 : Hid (∀ W, Below w1.heap.size w1 W → Calls Tryd.prog 32 #[.agg #[.slice fo fn fc, .slice so sn sc, .int .i64 (m : Int)], .string (strOfNums z)] W fun e w' => e = .returned (.bool false) ∧ Below W.heap.size W w') := fun W hb => by
            have := HSP2.out W z (HWB.out W hb) hzo
            rwa [decide_eq_false hno, Bool.true_and] at this
          have HRN : Hid (∀ W, ∃ c w', (convert 9 56 (.string (strOfNums z))).run Tryd.prog W = .ok (.slice (some ⟨W.heap.size, 0, none⟩) (rs z).length c) w' ∧ Below W.heap.size W w') := fun W => conv_runes W z (by omega)
          have hsz : (strOfNums z).size = z.length := strOfNums_size z
          have HW1' := hide hW1
          have HPN : Hid ((p : Int) < (N : Int)) := by show _ < _; omega
          obtain ⟨S, hS⟩ : ∃ S, strOfNums z = S := ⟨_, rfl⟩
          rw [hS] at q0 HTC t0 hcv HON4 HSP4 HRN hsz HW1'
          generalize (rs z).length = rl at *
          generalize z.length = zl at *
          have hm2' : IntKind.i64.wrap (2 * (m : Int)) = 2 * (m : Int) := IntWalk.i64_in _ ⟨by omega, by omega⟩
          have hzi : ¬ (2 * (m : Int)) < (zl : Int) := by omega
          have hri : ¬ (m : Int) < (rl : Int) := by omega
          have hpi : ¬ (p : Int) ≤ la := by omega
          have hz1 : W1.heap.size = wr.heap.size + 1 := by rw [← HW1'.out]; simp
          rw [hz1] at hcv HON4
          rw [← HW1'.out] at c0 c1 c2 t0 t1 hcv
          have HBWR := hide hbW1
          have HLK : Hid (j + 1 + k = n) := by show _ = _; omega
          clear hz1 hx hone hno hzo hbW1 hBT hsl hbc hS hW1 hpl hby hru
          go_wp2_with (first
            | (go_at_call 27; refine HON4.out.mono ?_; rintro e W3 ⟨rfl, hb⟩; have HB13 := hide (HBC.out.trans (hb.mono HBC.out.size)); have HB3 := hide (HBW1.out.trans (HB13.out.mono HBW1.out.size)); obtain ⟨t0, t1⟩ := HTC.out W3 HB13.out; obtain ⟨c0, c1, c2⟩ := HCELL.out W3 HB3.out; clear HON4 hb)
            | (go_at_call 32; refine (HSP4.out W3 HB3.out).mono ?_; rintro e W4 ⟨rfl, hb⟩; have HB14 := hide (HB13.out.trans (hb.mono HB13.out.size)); have HB4 := hide (HBW1.out.trans (HB14.out.mono HBW1.out.size)); obtain ⟨t0, t1⟩ := HTC.out W4 HB14.out; obtain ⟨c0, c1, c2⟩ := HCELL.out W4 HB4.out; obtain ⟨rc, W5, hrn, hb5⟩ := HRN.out W4; have HB15 := hide (HB14.out.trans (hb5.mono HB14.out.size)); have HB5 := hide (HBW1.out.trans (HB15.out.mono HBW1.out.size)); obtain ⟨y0, y1⟩ := HTC.out W5 HB15.out; obtain ⟨d0, d1, d2⟩ := HCELL.out W5 HB5.out; clear HSP4 hb hb5 HRN))
          go_roundg k
          case measure => omega
          case rel => exact ⟨j + 1, p, by have := HLK.out; omega, by go_num, rfl, HNX.out, by omega, HPN.out, HB.out.trans ((HBWR.out.trans (HB15.out.mono HBWR.out.size)).mono HB.out.size)⟩

end Go.Proofs.YtgeclnnhblffkaaDoor
