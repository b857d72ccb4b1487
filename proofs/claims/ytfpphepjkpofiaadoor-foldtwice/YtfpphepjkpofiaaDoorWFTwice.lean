/- Walk: incipitlaw13.FoldTwice. -/
import Derived.Test.YtfpphepjkpofiaaDoorFdLive
import Derived.Test.YtfpphepjkpofiaaDoorFTwo
namespace Go.Proofs.YtfpphepjkpofiaaDoor
set_option maxRecDepth 20000
open Go.RowKit
set_option linter.unusedVariables false
set_option linter.unusedSimpArgs false
set_option maxRecDepth 100000

theorem sl_len {w : World} {ao : Option Addr} {n cap : Nat} {zs : List Int} (h : Sl w (.slice ao n cap) zs) : n = zs.length := by
  obtain ⟨_, ao', cap', he, _⟩ := h
  simp at he
  exact he.2.1

set_option maxHeartbeats 2000000 in
theorem foldTwice_walk (w : World) (vt : Value) (xs : List Fd) (ht : Tbl w vt xs) (r : Int) (hr : I32 r) (vb : Value) (zs : List Int) (hz : Sl w vb zs) (hL : Let w) :
    Calls Tryd.prog 6 #[vt, .int .i32 r, vb] w fun e w' => e = .returned (.bool true) ∧ Below w.heap.size w w' := by
  have HLV : Hid (∀ W, Below w.heap.size w W → Calls Tryd.prog 8 #[] W fun e w' => e = .returned (.bool true) ∧ Below W.heap.size W w') := fun W h => live_any W (hL.below h)
  obtain ⟨ao, ac, rfl⟩ := ht.len
  obtain ⟨bo, bn, bc, rfl⟩ := sl_form hz
  have hbl := sl_len hz
  by_cases h1 : 100 < xs.length
  · have h1i : (100 : Int) < (xs.length : Int) := by omega
    generalize xs.length = n at *
    clear hL ht hz hr hbl
    go_enter Tryd.func6, Tryd.ntmps6
    go_wp2_with (first
      | (go_at_call 8; refine (HLV.out w (Below.refl _ w)).mono ?_; rintro e w1 ⟨rfl, hb⟩; have HB1 := hide hb; clear hb)
      | (go_at_call 8; refine (HLV.out w1 HB1.out).mono ?_; rintro e w2 ⟨rfl, hb⟩; have HB2 := hide (HB1.out.trans (hb.mono HB1.out.size)); clear hb))
    go_ret
    exact ⟨rfl, HB2.out⟩
  have h1i : ¬ (100 : Int) < (xs.length : Int) := by omega
  by_cases h2 : 500 < bn
  · have h2i : (500 : Int) < (bn : Int) := by omega
    generalize xs.length = n at *
    clear hL ht hz hr hbl
    go_enter Tryd.func6, Tryd.ntmps6
    go_wp2_with (first
      | (go_at_call 8; refine (HLV.out w (Below.refl _ w)).mono ?_; rintro e w1 ⟨rfl, hb⟩; have HB1 := hide hb; clear hb)
      | (go_at_call 8; refine (HLV.out w1 HB1.out).mono ?_; rintro e w2 ⟨rfl, hb⟩; have HB2 := hide (HB1.out.trans (hb.mono HB1.out.size)); clear hb))
    go_ret
    exact ⟨rfl, HB2.out⟩
  have h2i : ¬ (500 : Int) < (bn : Int) := by omega
  have hok := hz.1
  have hrl := runesN_len zs
  have hF32 := foldL_i32 (useL xs) (useL_ok xs) r hr
  have htw := fold_twice xs r
  have hlt := fold_letter xs r
  have htx := text_twice xs hok
  have hct := count_folded xs hok
  have hzl := foldZ_len xs (runesN zs)
  have hzok := foldZ_ok xs (runesN zs)
  have HRU : Hid (∀ W, Below w.heap.size w W → Calls Tryd.prog 21 #[.slice ao xs.length ac, .int .i32 r] W fun e w' => e = .returned (.int .i32 (foldL (useL xs) r)) ∧ Below W.heap.size W w') := fun W h => rune_any W _ xs r (ht.below h) hr (hL.below h)
  have HRV : Hid (∀ W, Below w.heap.size w W → Calls Tryd.prog 21 #[.slice ao xs.length ac, .int .i32 (foldL (useL xs) r)] W fun e w' => e = .returned (.int .i32 (foldL (useL xs) r)) ∧ Below W.heap.size W w') := fun W h => by
    have := rune_any W _ xs _ (ht.below h) hF32 (hL.below h)
    rwa [htw] at this
  have HLA : Hid (∀ W, Below w.heap.size w W → Calls Tryd.prog 14 #[.int .i32 (foldL (useL xs) r)] W fun e w' => e = .returned (.bool (letB r)) ∧ Below W.heap.size W w') := fun W h => by
    have := letter_any W _ hF32 (hL.below h)
    rwa [hlt] at this
  have HLB : Hid (∀ W, Below w.heap.size w W → Calls Tryd.prog 14 #[.int .i32 r] W fun e w' => e = .returned (.bool (letB r)) ∧ Below W.heap.size W w') := fun W h => letter_any W r hr (hL.below h)
  have HTX : Hid (∀ W, Below w.heap.size w W → Calls Tryd.prog 23 #[.slice ao xs.length ac, .slice bo bn bc] W fun e w' => e = .returned (.string (strOfNums (foldZ (useL xs) (runesN zs)))) ∧ Below W.heap.size W w') := fun W h => text_any W _ xs (ht.below h) _ zs (hz.below h) (by omega) (hL.below h)
  have HTY : Hid (∀ W v, Below w.heap.size w W → Sl W v (foldZ (useL xs) (runesN zs)) → Calls Tryd.prog 23 #[.slice ao xs.length ac, v] W fun e w' => e = .returned (.string (strOfNums (foldZ (useL xs) (runesN zs)))) ∧ Below W.heap.size W w') := fun W v h hs => by
    have := text_any W _ xs (ht.below h) _ _ hs (by omega) (hL.below h)
    rwa [htx] at this
  have HCX : Hid (∀ W, Below w.heap.size w W → Calls Tryd.prog 13 #[.slice bo bn bc] W fun e w' => e = .returned (.int .i64 ((runesN zs).length : Nat)) ∧ Below W.heap.size W w') := fun W h => count_any W _ zs (hz.below h) (by omega)
  have HCY : Hid (∀ W v, Sl W v (foldZ (useL xs) (runesN zs)) → Calls Tryd.prog 13 #[v] W fun e w' => e = .returned (.int .i64 ((runesN zs).length : Nat)) ∧ Below W.heap.size W w') := fun W v hs => by
    have := count_any W v _ hs (by omega)
    rwa [hct] at this
  have HCV : Hid (∀ W, ∃ c w', (convert 9 22 (.string (strOfNums (foldZ (useL xs) (runesN zs))))).run Tryd.prog W = .ok (.slice (some ⟨W.heap.size, 0, none⟩) (foldZ (useL xs) (runesN zs)).length c) w' ∧ Sl w' (.slice (some ⟨W.heap.size, 0, none⟩) (foldZ (useL xs) (runesN zs)).length c) (foldZ (useL xs) (runesN zs)) ∧ Below W.heap.size W w') := fun W => conv_sl W _ hzok (by omega)
  generalize foldZ (useL xs) (runesN zs) = Z at *
  generalize (runesN zs).length = C at *
  generalize foldL (useL xs) r = F at *
  generalize letB r = A at *
  generalize strOfNums Z = S at *
  generalize xs.length = n at *
  obtain ⟨zl, hzl2⟩ : ∃ m, Z.length = m := ⟨_, rfl⟩
  rw [hzl2] at HCV
  obtain ⟨f1, f2⟩ := hF32
  obtain ⟨r1, r2⟩ := hr
  clear hL ht hz hbl hok hrl htw hlt htx hct hzl hzok hzl2 h1 h2
  go_enter Tryd.func6, Tryd.ntmps6
  go_wp2_with (first
    | (go_at_call 8; refine (HLV.out w (Below.refl _ w)).mono ?_; rintro e w1 ⟨rfl, hb⟩; have HB1 := hide hb; clear HLV hb)
    | (go_at_call 21; refine (HRU.out w1 HB1.out).mono ?_; rintro e w2 ⟨rfl, hb⟩; have HB2 := hide (HB1.out.trans (hb.mono HB1.out.size)); clear HRU hb)
    | (go_at_call 23; refine (HTX.out w2 HB2.out).mono ?_; rintro e w3 ⟨rfl, hb⟩; have HB3 := hide (HB2.out.trans (hb.mono HB2.out.size)); clear HTX hb)
    | (go_at_call 21; refine (HRV.out w3 HB3.out).mono ?_; rintro e w4 ⟨rfl, hb⟩; have HB4 := hide (HB3.out.trans (hb.mono HB3.out.size)); clear HRV hb)
    | (go_at_call 14; refine (HLA.out w4 HB4.out).mono ?_; rintro e w5 ⟨rfl, hb⟩; have HB5 := hide (HB4.out.trans (hb.mono HB4.out.size)); clear HLA hb)
    | (go_at_call 14; refine (HLB.out w5 HB5.out).mono ?_; rintro e w6 ⟨rfl, hb⟩; have HB6 := hide (HB5.out.trans (hb.mono HB5.out.size)); obtain ⟨c6, wc, hcv, hs6, hb6⟩ := HCV.out w6; have HS6 := hide hs6; have HBC := hide (HB6.out.trans (hb6.mono HB6.out.size)); clear HLB hb hs6 hb6)
    | (go_at_call 23; refine (HTY.out wc _ HBC.out HS6.out).mono ?_; rintro e w7 ⟨rfl, hb⟩; have HB7 := hide (HBC.out.trans (hb.mono HBC.out.size)); obtain ⟨c7, wd, hcw, hs7, hb7⟩ := HCV.out w7; have HS7 := hide hs7; have HBD := hide (HB7.out.trans (hb7.mono HB7.out.size)); clear HTY hb hs7 hb7 hcv)
    | (go_at_call 13; refine (HCY.out wd _ HS7.out).mono ?_; rintro e w8 ⟨rfl, hb⟩; have HB8 := hide (HBD.out.trans (hb.mono HBD.out.size)); clear HCY hb hcw)
    | (go_at_call 13; refine (HCX.out w8 HB8.out).mono ?_; rintro e w9 ⟨rfl, hb⟩; have HB9 := hide (HB8.out.trans (hb.mono HB8.out.size)); clear HCX hb))
  go_ret
  exact ⟨rfl, HB9.out⟩

end Go.Proofs.YtfpphepjkpofiaaDoor
