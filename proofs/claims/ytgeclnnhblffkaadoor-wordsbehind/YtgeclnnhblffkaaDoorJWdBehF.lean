/- Tokens of two texts, one behind the other (pure). -/
import Derived.Test.YtgeclnnhblffkaaDoorJWdToks
import Derived.Test.YtgeclnnhblffkaaDoorJWdFew
import Derived.Test.YtgeclnnhblffkaaDoorWdCount
import Derived.Test.YtgeclnnhblffkaaDoorJFMarks
namespace Go.Proofs.YtgeclnnhblffkaaDoor
set_option maxRecDepth 20000
open Go.RowKit
set_option linter.unusedVariables false
set_option linter.unusedSimpArgs false
set_option maxRecDepth 100000

def shiftT (n : Nat) (x : Tk) : Tk := (x.1, x.2 + n)
theorem zip_shift {α : Type} : ∀ (l : List α) (k n : Nat), l.zipIdx (k + n) = (l.zipIdx k).map fun p => (p.1, p.2 + n)
  | [], _, _ => rfl
  | a :: l, k, n => by
    rw [List.zipIdx_cons, List.zipIdx_cons, List.map_cons, show k + n + 1 = k + 1 + n by omega, zip_shift l (k + 1) n]
theorem zip_app {α : Type} : ∀ (a b : List α) (k : Nat), (a ++ b).zipIdx k = a.zipIdx k ++ b.zipIdx (k + a.length)
  | [], b, k => by simp
  | x :: a, b, k => by
    rw [List.cons_append, List.zipIdx_cons, List.zipIdx_cons, List.cons_append, zip_app a b (k + 1), List.length_cons, show k + 1 + a.length = k + (a.length + 1) by omega]
theorem wdsN_app {c : Nat} (hc : letN c = false) (a b : List Nat) : wdsN (a ++ c :: b) = wdsN a ++ (wdsN b).map fun p => (p.1, p.2 + (wds a).length) := by
  unfold wdsN
  rw [wds_app hc, zip_app, zip_shift]
theorem tok_app (C : Cn) {c : Nat} (hc : letN c = false) (a b : List Nat) : tokC C (a ++ c :: b) = tokC C a ++ (tokC C b).map (shiftT (wds a).length) := by
  unfold tokC
  split
  · unfold tokL
    rw [wdsN_app hc, List.filter_append, List.map_append, List.filter_map, List.map_map, List.map_map]
    rfl
  · rfl
theorem rs_blank (b : List Int) (hb : ByteOk b) : rs (32 :: b) = 32 :: rs b := by
  have hf : formL ((32 : Nat) : Int) = [32] := by decide
  have hok : ByteOk (32 :: b) := by
    intro z hz
    rcases List.mem_cons.1 hz with rfl | h
    · omega
    · exact hb z h
  have hd : decN (32 :: b) = (32, 1) := by
    have := dec_form (b := 32 :: b) hok (r := 32) (by decide) (by rw [hf]; exact ⟨b, rfl⟩)
    rw [hf] at this
    exact this
  rw [rs_on (by simp), hd]
  rfl
theorem rs_app {a b : List Int} (ha : ByteOk a) (hb : ByteOk b) (hc : noOn b) : rs (a ++ b) = rs a ++ rs b := by
  unfold rs
  rw [runes_app ha hb hc, List.map_append, List.map_map]
  rfl
theorem rs_both {a b : List Int} (ha : ByteOk a) (hb : ByteOk b) : rs (a ++ 32 :: b) = rs a ++ 32 :: rs b := by
  have hok : ByteOk (32 :: b) := by
    intro z hz
    rcases List.mem_cons.1 hz with rfl | h
    · omega
    · exact hb z h
  rw [rs_app ha hok (by intro z hz; simp at hz; omega), rs_blank b hb]
theorem let_blank : letN 32 = false := by decide
theorem tok_both (C : Cn) {a b : List Int} (ha : ByteOk a) (hb : ByteOk b) : tokC C (rs (a ++ 32 :: b)) = tokC C (rs a) ++ (tokC C (rs b)).map (shiftT (wds (rs a)).length) := by
  rw [rs_both ha hb, tok_app C let_blank]
theorem count_both {a b : List Int} (ha : ByteOk a) (hb : ByteOk b) : (wds (rs (a ++ 32 :: b))).length = (wds (rs a)).length + (wds (rs b)).length := by
  rw [rs_both ha hb, wds_app let_blank, List.length_append]

end Go.Proofs.YtgeclnnhblffkaaDoor
/- Walk: incipitlaw14.WordsBehind. -/
namespace Go.Proofs.YtgeclnnhblffkaaDoor
set_option maxRecDepth 20000
open Go.RowKit
set_option linter.unusedVariables false
set_option linter.unusedSimpArgs false
set_option maxRecDepth 100000

theorem sl_lenB {w : World} {ao : Option Addr} {n cap : Nat} {zs : List Int} (h : Sl w (.slice ao n cap) zs) : n = zs.length := by
  obtain ⟨_, ao', cap', he, _⟩ := h
  simp at he
  exact he.2.1
theorem cvB (w : World) : (convert 26 26 (.slice (some ⟨w.heap.size, 0, none⟩) 1 1)).run Tryd.prog (w.alloc (.cells #[.int .u8 32] 5)) = .ok (.slice (some ⟨w.heap.size, 0, none⟩) 1 1) (w.alloc (.cells #[.int .u8 32] 5 (1, 2))) :=
  Lib.run_convert_bytes_const (P := Tryd.prog) w 26 5 #[.int .u8 32] 1 1 Tryd.underlying26 Tryd.underlying5
theorem sl_blank (w : World) : Sl (w.alloc (.cells #[.int .u8 32] 5 (1, 2))) (.slice (some ⟨w.heap.size, 0, none⟩) 1 1) [32] := sl_markK w 5 (1, 2) [32] (by intro z hz; simp at hz; omega) (by simp [maxLen])
/-- a text, a blank, another text, one behind the other -/
theorem concat3_any (W : World) (va vs vb : Value) (xa xb : List Int) (ha : Sl W va xa) (hs : Sl W vs [32]) (hb : Sl W vb xb) (la : xa.length ≤ 1500) (lb : xb.length ≤ 1500) :
    Calls Tryd.prog 34 #[.slice (some ⟨W.heap.size, 0, none⟩) 3 3] (W.alloc (.cells #[va, vs, vb] 26)) fun e w' => ∃ u, e = .returned u ∧ Sl w' u (xa ++ 32 :: xb) ∧ Below W.heap.size W w' := by
  have hbl : Below W.heap.size W (W.alloc (.cells #[va, vs, vb] 26)) := (Below.refl _ W).alloc (Nat.le_refl _) _
  have r1 := (RowR.of_sl ha (by omega)).below hbl
  have r2 := (RowR.of_sl hs (by simp)).below hbl
  have r3 := (RowR.of_sl hb (by omega)).below hbl
  refine (concatB_any _ W.heap.size [va, vs, vb] [xa.map (Value.int .u8), [32].map (Value.int .u8), xb.map (Value.int .u8)] rfl (by simp) (Blk.new W _ _) (fun i hi => ?_)).mono ?_
  · rcases (show i = 0 ∨ i = 1 ∨ i = 2 by simp at hi; omega) with rfl | rfl | rfl
    · exact r1
    · exact r2
    · exact r3
  · rintro e w' ⟨a, N, c, rfl, ho, hb2⟩
    have hok : ByteOk (xa ++ 32 :: xb) := by
      intro z hz
      rcases List.mem_append.1 hz with h | h
      · exact ha.1 z h
      · rcases List.mem_cons.1 h with rfl | h
        · omega
        · exact hb.1 z h
    have hN : N = (xa ++ 32 :: xb).length := by
      have := ho.1
      simp at this
      simp
      omega
    subst hN
    exact ⟨_, rfl, sl_of_own ho hok (by simp), hbl.trans (hb2.mono (by simp))⟩

set_option maxHeartbeats 2000000 in
theorem wordsBehind_walk (w : World) (vc : Value) (C : Cn) (hc : CnfI w vc C) (va : Value) (xa : List Int) (hxa : Sl w va xa) (vb : Value) (xb : List Int) (hxb : Sl w vb xb) (hL : Let w) :
    Calls Tryd.prog 8 #[vc, va, vb] w fun e w' => e = .returned (.bool true) ∧ Below w.heap.size w w' := by
  obtain ⟨hcv, hK1, hK2⟩ := hc
  have HLV : Hid (∀ W, Below w.heap.size w W → Calls Tryd.prog 9 #[] W fun e w' => e = .returned (.bool true) ∧ Below W.heap.size W w') := fun W h => liveW_any W (hL.below h)
  obtain ⟨fo, fc, so, sc, w1, rfl, hw1, hb1, hB, hT, hS⟩ := box_cnf w vc C hcv
  have HFW : Hid (∀ W b, Below w.heap.size w W → Blk W b 25 [.slice fo C.fs.length fc, .slice so C.ss.length sc, .int .i64 C.cap] → Calls Tryd.prog 10 #[.slice (some ⟨b, 0, none⟩) 1 1] W fun e w' => e = .returned (.bool (fewC C)) ∧ Below W.heap.size W w') := fun W b hb hx => by
    have := few_any W b [C] (cfs_one hx (hcv.below hb)) (by simp)
    simpa using this
  have HTK : Hid (fewC C = true → ∀ W u z, Below w.heap.size w W → Sl W u z → z.length ≤ 10000 → Calls Tryd.prog 22 #[.agg #[.slice fo C.fs.length fc, .slice so C.ss.length sc, .int .i64 C.cap], u] W fun e w' => ∃ v, e = .returned v ∧ TkO w' W.heap.size v (tokC C (rs z)) ∧ Below W.heap.size W w') := fun hf W u z hb hu hl =>
    tokens_any W _ C (hcv.below hb) (fewC_ok hf hK1 hK2) u z hu (by omega) (hL.below hb)
  have HCO : Hid (∀ W u z, Below w.heap.size w W → Sl W u z → z.length ≤ 10000 → Calls Tryd.prog 25 #[u] W fun e w' => e = .returned (.int .i64 ((wds (rs z)).length : Nat)) ∧ Below W.heap.size W w') := fun W u z hb hu hl => countW_any W u z hu (by omega) (hL.below hb)
  have HXA : Hid (∀ W, Below w.heap.size w W → Sl W va xa) := fun W hb => hxa.below hb
  have HXB : Hid (∀ W, Below w.heap.size w W → Sl W vb xb) := fun W hb => hxb.below hb
  have HTB := hide (tok_both C hxa.1 hxb.1)
  have HCB := hide (count_both hxa.1 hxb.1)
  have HTL : Hid (∀ z, (tokC C (rs z)).length ≤ z.length ∧ (wds (rs z)).length ≤ z.length ∧ ∀ x ∈ tokC C (rs z), ByteOk x.1) := fun z => ⟨Nat.le_trans (tokC_len _ _) (rs_len z), Nat.le_trans (wds_len _) (rs_len z), tokC_ok _ _⟩
  obtain ⟨ao, an, ac, rfl⟩ := sl_form hxa
  obtain ⟨bo, bn, bc, rfl⟩ := sl_form hxb
  have han := sl_lenB hxa
  have hbn := sl_lenB hxb
  have HB1 := hide hb1
  have HBX := hide hB
  obtain ⟨fn, hfn⟩ : ∃ n, C.fs.length = n := ⟨_, rfl⟩
  obtain ⟨sn, hsn⟩ : ∃ n, C.ss.length = n := ⟨_, rfl⟩
  obtain ⟨K, hK⟩ : ∃ n, C.cap = n := ⟨_, rfl⟩
  rw [hfn] at hw1 HFW HTK HBX ⊢
  rw [hsn] at hw1 HFW HTK HBX ⊢
  rw [hK] at hw1 HFW HTK HBX ⊢
  have HW1 := hide hw1
  have HAN := hide han
  have HBN := hide hbn
  clear hcv hK1 hK2 hb1 hB hT hS hxa hxb hL hfn hsn hK hw1 han hbn
  have HCELL : Hid (∀ W, Below w1.heap.size w1 W → W.cell? ⟨w.heap.size, 0, none⟩ = some (.slice fo fn fc) ∧ W.cell? ⟨w.heap.size, 1, none⟩ = some (.slice so sn sc) ∧ W.cell? ⟨w.heap.size, 2, none⟩ = some (.int .i64 K)) := fun W hb => by
    have hx := HBX.out.below hb HBX.out.lt
    exact ⟨hx.cell 0, hx.cell 1, hx.cell 2⟩
  have HF1 : Hid (∀ W, Below w1.heap.size w1 W → Calls Tryd.prog 10 #[.slice (some ⟨W.heap.size, 0, none⟩) 1 1] (W.alloc (.cells #[.slice fo fn fc, .slice so sn sc, .int .i64 K] 25)) fun e w' => e = .returned (.bool (fewC C)) ∧ Below w1.heap.size w1 w') := fun W hb => by
    have h1 : Below w1.heap.size w1 (W.alloc (.cells #[.slice fo fn fc, .slice so sn sc, .int .i64 K] 25)) := hb.alloc hb.size _
    exact (HFW.out _ W.heap.size (HB1.out.trans (h1.mono HB1.out.size)) (Blk.new W _ _)).mono fun e w' ⟨e1, e2⟩ => ⟨e1, h1.trans (e2.mono (by have := hb.size; rw [World.size_alloc]; omega))⟩
  have HL1 : Hid (∀ W, Below w1.heap.size w1 W → Calls Tryd.prog 9 #[] W fun e w' => e = .returned (.bool true) ∧ Below w1.heap.size w1 w') := fun W hb => (HLV.out W (HB1.out.trans (hb.mono HB1.out.size))).mono fun e w' ⟨e1, e2⟩ => ⟨e1, hb.trans (e2.mono hb.size)⟩
  have HWB : Hid (∀ W, Below w1.heap.size w1 W → Below w.heap.size w W) := fun W hb => HB1.out.trans (hb.mono HB1.out.size)
  clear HFW HLV
  cases hF : fewC C with
  | false =>
    rw [hF] at HF1
    clear hF HTK HCO HXA HXB HTB HCB HTL
    go_enter Tryd.func8, Tryd.ntmps8
    go_wp2_with (first
      | (go_at_call 9; rw [HW1.out]; refine (HL1.out w1 (Below.refl _ w1)).mono ?_; rintro e w2 ⟨rfl, hb⟩; have HB2 := hide hb; obtain ⟨c0, c1, c2⟩ := HCELL.out w2 hb; clear hb HW1)
      | (go_at_call 10; refine (HF1.out w2 HB2.out).mono ?_; rintro e w3 ⟨rfl, hb⟩; have HB3 := hide hb; clear HF1 hb)
      | (go_at_call 9; refine (HL1.out w3 HB3.out).mono ?_; rintro e w4 ⟨rfl, hb⟩; have HB4 := hide hb; clear HL1 hb))
    go_ret
    exact ⟨rfl, HWB.out _ HB4.out⟩
  | true =>
    rw [hF] at HF1
    have HTK2 := hide (HTK.out hF)
    clear hF HTK
    by_cases h1 : 1500 < an
    · have h1i : (1500 : Int) < (an : Int) := by omega
      clear HTK2 HCO HXA HXB HTB HCB HTL
      go_enter Tryd.func8, Tryd.ntmps8
      go_wp2_with (first
        | (go_at_call 9; rw [HW1.out]; refine (HL1.out w1 (Below.refl _ w1)).mono ?_; rintro e w2 ⟨rfl, hb⟩; have HB2 := hide hb; obtain ⟨c0, c1, c2⟩ := HCELL.out w2 hb; clear hb HW1)
        | (go_at_call 10; refine (HF1.out w2 HB2.out).mono ?_; rintro e w3 ⟨rfl, hb⟩; have HB3 := hide hb; clear HF1 hb)
        | (go_at_call 9; refine (HL1.out w3 HB3.out).mono ?_; rintro e w4 ⟨rfl, hb⟩; have HB4 := hide hb; clear HL1 hb))
      go_ret
      exact ⟨rfl, HWB.out _ HB4.out⟩
    have h1i : ¬ (1500 : Int) < (an : Int) := by omega
    by_cases h2 : 1500 < bn
    · have h2i : (1500 : Int) < (bn : Int) := by omega
      clear HTK2 HCO HXA HXB HTB HCB HTL
      go_enter Tryd.func8, Tryd.ntmps8
      go_wp2_with (first
        | (go_at_call 9; rw [HW1.out]; refine (HL1.out w1 (Below.refl _ w1)).mono ?_; rintro e w2 ⟨rfl, hb⟩; have HB2 := hide hb; obtain ⟨c0, c1, c2⟩ := HCELL.out w2 hb; clear hb HW1)
        | (go_at_call 10; refine (HF1.out w2 HB2.out).mono ?_; rintro e w3 ⟨rfl, hb⟩; have HB3 := hide hb; clear HF1 hb)
        | (go_at_call 9; refine (HL1.out w3 HB3.out).mono ?_; rintro e w4 ⟨rfl, hb⟩; have HB4 := hide hb; clear HL1 hb))
      go_ret
      exact ⟨rfl, HWB.out _ HB4.out⟩
    have h2i : ¬ (1500 : Int) < (bn : Int) := by omega
    have hla : xa.length ≤ 1500 := by have := HAN.out; omega
    have hlb : xb.length ≤ 1500 := by have := HBN.out; omega
    have hlab : (xa ++ 32 :: xb).length ≤ 3001 := by rw [List.length_append, List.length_cons]; omega
    have HCC : Hid (∀ W, Below w1.heap.size w1 W → Calls Tryd.prog 34 #[.slice (some ⟨W.heap.size + 1, 0, none⟩) 3 3] ((W.alloc (.cells #[.int .u8 32] 5 (1, 2))).alloc (.cells #[.slice ao an ac, .slice (some ⟨W.heap.size, 0, none⟩) 1 1, .slice bo bn bc] 26)) fun e w' => ∃ u, e = .returned u ∧ Sl w' u (xa ++ 32 :: xb) ∧ Below w1.heap.size w1 w') := fun W hb => by
      have hW : Below w1.heap.size w1 (W.alloc (.cells #[.int .u8 32] 5 (1, 2))) := hb.alloc hb.size _
      have := concat3_any (W.alloc (.cells #[.int .u8 32] 5 (1, 2))) _ _ _ xa xb (HXA.out _ (HWB.out _ hW)) (sl_blank W) (HXB.out _ (HWB.out _ hW)) hla hlb
      rw [World.size_alloc] at this
      exact this.mono fun e w' ⟨u, e1, e2, e3⟩ => ⟨u, e1, e2, hW.trans (e3.mono (by have := hb.size; omega))⟩
    have HCA : Hid (∀ W, Below w1.heap.size w1 W → Calls Tryd.prog 25 #[.slice ao an ac] W fun e w' => e = .returned (.int .i64 ((wds (rs xa)).length : Nat)) ∧ Below W.heap.size W w') := fun W hb => HCO.out W _ xa (HWB.out W hb) (HXA.out W (HWB.out W hb)) (by omega)
    have HTA : Hid (∀ W, Below w1.heap.size w1 W → Calls Tryd.prog 22 #[.agg #[.slice fo fn fc, .slice so sn sc, .int .i64 K], .slice ao an ac] W fun e w' => ∃ v, e = .returned v ∧ TkO w' W.heap.size v (tokC C (rs xa)) ∧ Below W.heap.size W w') := fun W hb => HTK2.out W _ xa (HWB.out W hb) (HXA.out W (HWB.out W hb)) (by omega)
    have HTBB : Hid (∀ W, Below w1.heap.size w1 W → Calls Tryd.prog 22 #[.agg #[.slice fo fn fc, .slice so sn sc, .int .i64 K], .slice bo bn bc] W fun e w' => ∃ v, e = .returned v ∧ TkO w' W.heap.size v (tokC C (rs xb)) ∧ Below W.heap.size W w') := fun W hb => HTK2.out W _ xb (HWB.out W hb) (HXB.out W (HWB.out W hb)) (by omega)
    have HCBB : Hid (∀ W, Below w1.heap.size w1 W → Calls Tryd.prog 25 #[.slice bo bn bc] W fun e w' => e = .returned (.int .i64 ((wds (rs xb)).length : Nat)) ∧ Below W.heap.size W w') := fun W hb => HCO.out W _ xb (HWB.out W hb) (HXB.out W (HWB.out W hb)) (by omega)
    obtain ⟨la1, la2, la3⟩ := HTL.out xa
    obtain ⟨lb1, lb2, lb3⟩ := HTL.out xb
    have HTX : Hid (∀ W u, Below w1.heap.size w1 W → Sl W u (xa ++ 32 :: xb) → Calls Tryd.prog 22 #[.agg #[.slice fo fn fc, .slice so sn sc, .int .i64 K], u] W fun e w' => ∃ v, e = .returned v ∧ Tks w' v (tokC C (rs xa) ++ (tokC C (rs xb)).map (shiftT (wds (rs xa)).length)) ∧ Below W.heap.size W w') := fun W u hb hu => by
      refine (HTK2.out W u _ (HWB.out W hb) hu (by omega)).mono ?_
      rintro e w' ⟨v, rfl, ht, hbb⟩
      rw [HTB.out] at ht
      exact ⟨v, rfl, ht.read (by rw [List.length_append, List.length_map]; omega), hbb⟩
    have HCX : Hid (∀ W u, Below w1.heap.size w1 W → Sl W u (xa ++ 32 :: xb) → Calls Tryd.prog 25 #[u] W fun e w' => e = .returned (.int .i64 (((wds (rs xa)).length + (wds (rs xb)).length : Nat) : Int)) ∧ Below W.heap.size W w') := fun W u hb hu => by
      have := HCO.out W u _ (HWB.out W hb) hu (by omega)
      rwa [HCB.out] at this
    have HTOK : Hid (∀ x ∈ tokC C (rs xa) ++ (tokC C (rs xb)).map (shiftT (wds (rs xa)).length), ByteOk x.1) := fun x hx => by
      rcases List.mem_append.1 hx with h | h
      · exact la3 x h
      · obtain ⟨y, hy, rfl⟩ := List.mem_map.1 h
        exact lb3 y hy
    have HLA : Hid ((tokC C (rs xa)).length ≤ 1500 ∧ (tokC C (rs xb)).length ≤ 1500) := ⟨by omega, by omega⟩
    have hna : ((wds (rs xa)).length : Int) ≤ 1500 := by omega
    have hnb : ((wds (rs xb)).length : Int) ≤ 1500 := by omega
    have HPB : Hid (∀ x ∈ tokC C (rs xb), x.2 ≤ 1500) := fun x hx => by
      unfold tokC at hx
      split at hx
      · obtain ⟨p, hp, rfl⟩ := List.mem_map.1 hx
        obtain ⟨hp1, _⟩ := List.mem_filter.1 hp
        obtain ⟨i, hi, e⟩ := List.mem_iff_getElem.1 hp1
        rw [wdsN_at _ i hi] at e
        rw [wdsN_len] at hi
        show p.2 ≤ _
        rw [← e]
        simp only
        omega
      · cases hx
    generalize tokC C (rs xa) = TA at *
    generalize tokC C (rs xb) = TB at *
    generalize (wds (rs xa)).length = NA at *
    generalize (wds (rs xb)).length = NB at *
    clear HTK2 HCO HXA HXB HTB HCB HTL la1 la2 la3 lb1 lb2 lb3 hla hlb hlab h1 h2
    have hcvb := cvB
    go_enter Tryd.func8, Tryd.ntmps8
    go_wp2_with (first
      | (go_at_call 9; rw [HW1.out]; refine (HL1.out w1 (Below.refl _ w1)).mono ?_; rintro e w2 ⟨rfl, hb⟩; have HB2 := hide hb; obtain ⟨c0, c1, c2⟩ := HCELL.out w2 hb; clear hb HW1 HL1)
      | (go_at_call 10; refine (HF1.out w2 HB2.out).mono ?_; rintro e w3 ⟨rfl, hb⟩; have HB3 := hide hb; clear HF1 hb)
      | (go_at_call 34; refine (HCC.out w3 HB3.out).mono ?_; rintro e w4 ⟨ub, rfl, hub, hb⟩; obtain ⟨uo, un, uc, rfl⟩ := sl_form hub; have HUB := hide hub; have HB4 := hide hb; clear HCC hb hub)
      | (go_at_call 25; refine (HCA.out w4 HB4.out).mono ?_; rintro e w5 ⟨rfl, hb⟩; have HB45 := hide hb; have HB5 := hide (HB4.out.trans (hb.mono HB4.out.size)); obtain ⟨c0, c1, c2⟩ := HCELL.out w5 HB5.out; clear HCA hb)
      | (go_at_call 22; refine (HTA.out w5 HB5.out).mono ?_; rintro e w6 ⟨ta, rfl, hta, hb⟩; have HTA6 := hide hta; have HB56 := hide hb; have HB6 := hide (HB5.out.trans (hb.mono HB5.out.size)); obtain ⟨c0, c1, c2⟩ := HCELL.out w6 HB6.out; clear HTA hta hb)
      | (go_at_call 22; refine (HTBB.out w6 HB6.out).mono ?_; rintro e w7 ⟨tb, rfl, htb, hb⟩; obtain ⟨tbo, tbc, rfl⟩ := htb.shape; have HTB7 := hide htb; have HB67 := hide hb; have HB7 := hide (HB6.out.trans (hb.mono HB6.out.size)); clear HTBB htb hb))
    obtain ⟨n, hn⟩ : ∃ n, TB.length = n := ⟨_, rfl⟩
    have HN := hide hn
    have hni : (n : Int) ≤ 1500 := by have := HLA.out; omega
    have HTA7 : Hid (TkO w7 w5.heap.size ta TA) := HTA6.out.only (Only.of_below (fun _ => False) HB67.out) (fun _ _ h => h)
    have HAP : Hid (∀ q, ta.ownBlock = some q → (Value.slice tbo n tbc).ownBlock ≠ some q) := fun q hq e => by
      have h1 := HTA6.out.lt q hq
      have h2 := HTB7.out.lt q (by rw [hn]; exact e)
      omega
    have HTS : Hid (∀ W, TkO W w6.heap.size (.slice tbo n tbc) TB → Tks W (.slice tbo n tbc) TB) := fun W h => h.read (by rw [hn]; omega)
    rw [hn] at HTB7 ⊢
    obtain ⟨tao, tac, hta⟩ := HTA6.out.shape
    subst hta
    have HD0 : Hid (w1.heap.size ≤ w5.heap.size ∧ w4.heap.size ≤ w5.heap.size ∧ w5.heap.size ≤ w7.heap.size) := ⟨HB5.out.size, HB45.out.size, by have := HB56.out.size; have := HB67.out.size; omega⟩
    have HUBW : Hid (∀ W, Below w5.heap.size w7 W → Sl W (.slice uo un uc) (xa ++ 32 :: xb)) := fun W h => by
      have h1 : Below w4.heap.size w4 w7 := (HB45.out.trans (HB56.out.mono HB45.out.size)).trans (HB67.out.mono (by have := HB56.out.size; have := HD0.out; omega))
      exact HUB.out.below (h1.trans (h.mono HD0.out.2.1))
    have HBW : Hid (∀ W, Below w5.heap.size w7 W → Below w1.heap.size w1 W) := fun W h => HB7.out.trans (h.mono HD0.out.1)
    obtain ⟨la, hla⟩ : ∃ la, TA.length = la := ⟨_, rfl⟩
    have HLL : Hid (∀ j, j ≤ n → (TA ++ (TB.take j).map (shiftT NA)).length = la + j) := fun j hj => by rw [List.length_append, List.length_map, List.length_take, hla]; omega
    rw [hla] at HTA7 HAP ⊢
    have HLI : Hid (la ≤ 1500) := by have := HLA.out; show _ ≤ _; omega
    clear c0 c1 c2 hn hla HTA6 HUB HB45 HB56 HB67
    go_loopg [9, 46] n (fun k v i wr => ∃ (j : Nat) (a : Option Addr) (c : Nat), k + j = n ∧ i = .int .i64 (j : Int) ∧ v = .slice a (la + j) c ∧ TkO wr w5.heap.size (.slice a (la + j) c) (TA ++ (TB.take j).map (shiftT NA)) ∧ Below w5.heap.size w7 wr ∧ TkO wr w6.heap.size (.slice tbo n tbc) TB ∧ ∀ q, (Value.slice a (la + j) c).ownBlock = some q → (Value.slice tbo n tbc).ownBlock ≠ some q)
    case atStart => exact ⟨0, tao, tac, rfl, rfl, rfl, by simpa using HTA7.out, ⟨rfl, rfl, rfl, Nat.le_refl _, fun _ _ => rfl⟩, HTB7.out, HAP.out⟩
    case round =>
      clear HTA7 HAP HTB7
      obtain ⟨j, a, c, hk, rfl, rfl, ho, hbw, htb, hap⟩ := hrel
      have HO := hide ho
      have HB := hide hbw
      have HT := hide htb
      have HA := hide hap
      have HBR := hide (HBW.out wr hbw)
      clear ho hbw htb hap
      cases gk with
      | zero =>
        obtain rfl : j = n := by omega
        have hlt : ¬ (j : Int) < (j : Int) := by omega
        have HFUL : Hid (TA ++ (TB.take j).map (shiftT NA) = TA ++ TB.map (shiftT NA)) := by show _ = _; rw [List.take_of_length_le (by rw [HN.out]; exact Nat.le_refl _)]
        obtain ⟨c0, c1, c2⟩ := HCELL.out wr HBR.out
        have HT8 := hide (HTX.out wr _ HBR.out (HUBW.out wr HB.out))
        have HEQ : Hid (∀ W v1, Below wr.heap.size wr W → Tks W v1 (TA ++ TB.map (shiftT NA)) → Calls Tryd.prog 21 #[v1, .slice a (la + j) c] W fun e w' => e = .returned (.bool true) ∧ Below W.heap.size W w') := fun W v1 hb h1 => by
          have h2 : Tks W (.slice a (la + j) c) (TA ++ TB.map (shiftT NA)) := by
            have := HO.out
            rw [HFUL.out] at this
            exact (this.read (by have := HLA.out; rw [List.length_append, List.length_map]; omega)).below hb
          have := equalT_any W v1 _ _ _ h1 h2 HTOK.out HTOK.out
          rwa [decide_eq_true rfl] at this
        have HUBX : Hid (∀ W, Below wr.heap.size wr W → Sl W (.slice uo un uc) (xa ++ 32 :: xb)) := fun W h => (HUBW.out wr HB.out).below h
        go_wp2_with (first
          | (go_at_call 22; refine HT8.out.mono ?_; rintro e w8 ⟨v8, rfl, ht8, hb⟩; have HB8 := hide hb; have HE8 := hide (HEQ.out w8 v8 hb ht8); clear HT8 hb ht8 HEQ)
          | (go_at_call 21; refine HE8.out.mono ?_; rintro e w9 ⟨rfl, hb⟩; have HB9 := hide (HB8.out.trans (hb.mono HB8.out.size)); clear HE8 hb)
          | (go_at_call 25; refine (HCX.out w9 _ (HBR.out.trans (HB9.out.mono HBR.out.size)) (HUBX.out w9 HB9.out)).mono ?_; rintro e w10 ⟨rfl, hb⟩; have HB10 := hide (HB9.out.trans (hb.mono HB9.out.size)); clear HCX hb)
          | (go_at_call 25; refine (HCBB.out w10 (HBR.out.trans (HB10.out.mono HBR.out.size))).mono ?_; rintro e w11 ⟨rfl, hb⟩; have HB11 := hide (HB10.out.trans (hb.mono HB10.out.size)); clear HCBB hb))
        go_ret
        exact ⟨rfl, HWB.out _ (HBR.out.trans (HB11.out.mono HBR.out.size))⟩
      | succ k =>
        have hj : (j : Int) < (n : Int) := by omega
        have hjl : j < TB.length := by rw [HN.out]; omega
        obtain ⟨b, off, ⟨z, p⟩, hbo, hx, q0, q1⟩ := (HTS.out wr HT.out).at j hjl
        simp only at q0 q1
        have hp15 : p ≤ 1500 := HPB.out _ (List.mem_of_getElem? hx)
        have HSN : Hid (TA ++ (TB.take (j + 1)).map (shiftT NA) = (TA ++ (TB.take j).map (shiftT NA)) ++ [(z, p + NA)]) := by
          obtain ⟨i1, e1⟩ := List.getElem?_eq_some_iff.1 hx
          show _ = _
          rw [List.take_succ_eq_append_getElem hjl, e1, List.map_append, List.append_assoc]
          rfl
        have hlj := HLL.out j (by omega)
        obtain ⟨W1, hW1⟩ : ∃ W1, wr.alloc (.cells #[.string (strOfNums z), .int .i64 (p : Int)] 42) = W1 := ⟨_, rfl⟩
        have hoW1 : Only (fun _ => False) wr W1 := by rw [← hW1]; exact (Only.refl _ wr).alloc _
        have hz1 : W1.heap.size = wr.heap.size + 1 := by rw [← hW1]; simp
        have hBT : Blk W1 wr.heap.size 42 [.string (strOfNums z), .int .i64 (p : Int)] := by rw [← hW1]; exact Blk.new wr _ _
        have t0 : W1.cell? ⟨wr.heap.size, 0, none⟩ = some (.string (strOfNums z)) := hBT.cell 0
        have t1 : W1.cell? ⟨wr.heap.size, 1, none⟩ = some (.int .i64 (p : Int)) := hBT.cell 1
        have hbs := HB.out.size
        have hd0 := HD0.out.2.2
        obtain ⟨v2, w3', hr, hi2, hg2, hv2, a2, c2, rfl⟩ := push_tok W1 w5.heap.size _ _ (HO.out.only hoW1 (fun _ _ h => h)) (z, p + NA) (by rw [hlj]; have := HLI.out; omega) (by omega)
        rw [hlj] at hr hi2 hv2
        obtain ⟨W2, hW2⟩ : ∃ W2, W1.alloc (.cells #[.string (strOfNums z), .int .i64 ((p + NA : Nat) : Int)] 42) = W2 := ⟨_, rfl⟩
        have hoW2 : Only (fun _ => False) W1 W2 := by rw [← hW2]; exact (Only.refl _ W1).alloc _
        have hoA : Only (fun q => (Value.slice a (la + j) c).ownBlock = some q) wr w3' := by
          have h1 := (hoW1.trans hoW2 (fun _ _ h => h)).mono (T := fun q => (Value.slice a (la + j) c).ownBlock = some q) (fun _ _ h => h.elim)
          refine h1.grown ?_ (fun q e _ => e)
          rw [← hW2]
          exact hg2
        have HI2 := hide hi2
        have HV2 := hide hv2
        have HOA := hide hoA
        have HZ1 := hide hz1
        rw [← hW1] at t0 t1
        have hr2 : (Builtin.append_ #[38, 38] 38 #[.slice a (la + j) c, .slice (some ⟨wr.heap.size + 1, 0, none⟩) 1 1]).run Tryd.prog ((wr.alloc (.cells #[.string (strOfNums z), .int .i64 (p : Int)] 42)).alloc (.cells #[.string (strOfNums z), .int .i64 ((p : Int) + (NA : Int))] 42)) = .ok (.slice a2 (la + j + 1) c2) w3' := by
          have := hr
          simp only at this
          rw [hz1, ← hW1, Int.natCast_add] at this
          exact this
        have HR := hide hr2
        generalize strOfNums z = S at *
        subst hbo
        have HK : Hid (k + (j + 1) = n) := by show _ = _; omega
        clear hr hr2 hi2 hg2 hv2 hW1 hoW1 hz1 hBT hW2 hoW2 hoA hx hlj hbs hd0
        go_wp2_with (at_builtin; (with_reducible refine wpList_append_run _ rfl (.tmp 50) (.tmp 58) 38 rfl _ _ ?_ ?_ _ _ HR.out ?_); exact rfl; exact rfl; clear HR)
        go_roundg k
        case measure => omega
        case rel =>
          have hge : ∀ q, (Value.slice a (la + j) c).ownBlock = some q → w5.heap.size ≤ q := fun q hq => (HO.out.lt q hq).1
          refine ⟨j + 1, a2, c2, HK.out, by go_num, rfl, by rw [HSN.out]; exact HI2.out, HB.out.trans (HOA.out.below (by have := HB.out.size; have := HD0.out; omega) (fun q hq e => by have := hge q e; omega)), HT.out.only HOA.out (fun q hq e => HA.out q e hq), fun q hq e => ?_⟩
          rcases HV2.out with h | h
          · exact HA.out q (h ▸ hq) e
          · have h1 := Option.some.inj (h.symm.trans hq)
            have h2 := HT.out.lt q e
            have := HZ1.out
            omega

end Go.Proofs.YtgeclnnhblffkaaDoor
