/- Walk: incipitlaw13.FoldTables. -/
import Derived.Test.YtfpphepjkpofiaaDoorFdLive
import Derived.Test.YtfpphepjkpofiaaDoorFRt
import Derived.Test.YtfpphepjkpofiaaDoorFTg
namespace Go.Proofs.YtfpphepjkpofiaaDoor
set_option maxRecDepth 20000
open Go.RowKit Go.Shelf
set_option linter.unusedVariables false
set_option linter.unusedSimpArgs false
set_option maxRecDepth 100000
attribute [local go_sem] Oper.semAt_some

theorem eqlF3 (gf : Nat) (lb : Array Value) (w : World) : (binOp .eql 49 (.func (.func gf) #[] lb) .nilFunc).run Tryd.prog w = .ok (.bool false) w := by kernel_rfl
theorem sl_lenT {w : World} {ao : Option Addr} {n cap : Nat} {zs : List Int} (h : Sl w (.slice ao n cap) zs) : n = zs.length := by
  obtain ⟨_, ao', cap', he, _⟩ := h
  simp at he
  exact he.2.1
/-- how far what Letters tells is collected: the box's block is w's next one -/
structure GtI (w : World) (xs : List (Int × Int)) (Y : Nat → Prop) (k : Nat) (W : World) : Prop where
  box : ∃ v, Blk W w.heap.size 47 [v] ∧ RnO W w.heap.size v (flatL (xs.take k)) ∧ ∀ j, v.ownBlock = some j → w.heap.size + 3 ≤ j ∧ ¬ Y j
  below : Below w.heap.size w W
  size : w.heap.size + 3 ≤ W.heap.size
  ys : ∀ j, Y j → w.heap.size + 3 ≤ j ∧ j < W.heap.size
theorem GtI.keep {w : World} {xs : List (Int × Int)} {Y : Nat → Prop} {k : Nat} {W W' : World} (h : GtI w xs Y k W) (ho : Only (fun j => j = w.heap.size + 1 ∨ j = w.heap.size + 1 + 1) W W') : GtI w xs Y k W' := by
  obtain ⟨v, h1, h2, h3⟩ := h.box
  exact ⟨⟨v, h1.only ho (by omega), h2.only ho (fun j hj e => by have := (h3 j hj).1; omega), h3⟩, h.below.trans (ho.below h.below.size (fun j hj e => by omega)), Nat.le_trans h.size ho.size, fun j hj => ⟨(h.ys j hj).1, Nat.lt_of_lt_of_le (h.ys j hj).2 ho.size⟩⟩
theorem GtI.grow {w : World} {xs : List (Int × Int)} {Y : Nat → Prop} {k : Nat} {W W' : World} (h : GtI w xs Y k W) (ho : Only Y W W') : GtI w xs (more Y W W') k W' := by
  obtain ⟨v, h1, h2, h3⟩ := h.box
  have hs := h.size
  have hy := h.ys
  refine ⟨⟨v, h1.only ho (fun e => by have := (hy _ e).1; omega), h2.only ho (fun j hj e => (h3 j hj).2 e), fun j hj => ⟨(h3 j hj).1, fun hy => hy.elim (h3 j hj).2 (fun hy => by have := (h2.lt j hj).2; omega)⟩⟩, h.below.trans (ho.below h.below.size (fun j hj e => by have := (hy _ e).1; omega)), Nat.le_trans hs ho.size, fun j hj => ?_⟩
  rcases hj with hj | hj
  · exact ⟨(h.ys j hj).1, Nat.lt_of_lt_of_le (h.ys j hj).2 ho.size⟩
  · exact ⟨by omega, hj.2⟩
/-- what is built of two runes -/
def isB2 (A : Nat) (a b : Int) : Value → World → Prop := fun v w => ∃ q, v = .slice (some ⟨q, 0, none⟩) 2 2 ∧ A ≤ q ∧ Blk w q 21 [.int .i32 a, .int .i32 b]
theorem stS_isB2 (S : Nat → Prop) (A : Nat) (a b : Int) (hS : ∀ j, S j → j < A) : StS S (isB2 A a b) := fun v w w' ho ⟨q, h1, h2, h3⟩ => ⟨q, h1, h2, h3.only ho (fun e => by have := hS _ e; omega)⟩
def isRnO (B : Nat) (xs : List Int) : Value → World → Prop := fun v w => RnO w B v xs
theorem stS_isRnO (B : Nat) (xs : List Int) : StS (fun _ => False) (isRnO B xs) := fun v w w' ho h => h.only ho (fun _ _ h => h)
theorem flatL_cons2 (A B : List (Int × Int)) (k : Nat) (hk : k < B.length) : flatL (A ++ B.take (k + 1)) = flatL (A ++ B.take k) ++ [B[k].1, B[k].2] := by
  rw [List.take_succ_eq_append_getElem hk, ← List.append_assoc, flatL_snoc]
set_option maxHeartbeats 4000000 in
theorem foldTables_walk (w : World) (vt : Value) (xs : List Fd) (ht : Tbl w vt xs) (r : Int) (hr : I32 r) (vb : Value) (zs : List Int) (hz : Sl w vb zs) (hL : Let w) :
    Calls Tryd.prog 5 #[vt, .int .i32 r, vb] w fun e w' => e = .returned (.bool true) ∧ Below w.heap.size w w' := by
  have HLV : Hid (∀ W, Below w.heap.size w W → Calls Tryd.prog 8 #[] W fun e w' => e = .returned (.bool true) ∧ Below W.heap.size W w') := fun W h => live_any W (hL.below h)
  obtain ⟨ao, ac, rfl⟩ := ht.len
  obtain ⟨bo, bn, bc, rfl⟩ := sl_form hz
  have hbl := sl_lenT hz
  by_cases h1 : 100 < xs.length
  · have h1i : (100 : Int) < (xs.length : Int) := by omega
    generalize xs.length = n at *
    clear hL ht hz hr hbl
    go_enter Tryd.func5, Tryd.ntmps5
    go_wp2_with (first
      | (go_at_call 8; refine (HLV.out w (Below.refl _ w)).mono ?_; rintro e w1 ⟨rfl, hb⟩; have HB1 := hide hb; clear hb)
      | (go_at_call 8; refine (HLV.out w1 HB1.out).mono ?_; rintro e w2 ⟨rfl, hb⟩; have HB2 := hide (HB1.out.trans (hb.mono HB1.out.size)); clear hb))
    go_ret
    exact ⟨rfl, HB2.out⟩
  by_cases h2 : 500 < bn
  · have h2i : (500 : Int) < (bn : Int) := by omega
    generalize xs.length = n at *
    clear hL ht hz hr hbl
    go_enter Tryd.func5, Tryd.ntmps5
    go_wp2_with (first
      | (go_at_call 8; refine (HLV.out w (Below.refl _ w)).mono ?_; rintro e w1 ⟨rfl, hb⟩; have HB1 := hide hb; clear hb)
      | (go_at_call 8; refine (HLV.out w1 HB1.out).mono ?_; rintro e w2 ⟨rfl, hb⟩; have HB2 := hide (HB1.out.trans (hb.mono HB1.out.size)); clear hb))
    go_ret
    exact ⟨rfl, HB2.out⟩
  have h1i : ¬ (100 : Int) < (xs.length : Int) := by omega
  have h2i : ¬ (500 : Int) < (bn : Int) := by omega
  have hl100 : xs.length ≤ 1000 := by omega
  have HCL : Hid (∀ W, Below w.heap.size w W → Calls Tryd.prog 18 #[.slice ao xs.length ac] W fun e w' => ∃ u, e = .returned u ∧ Tbl w' u xs ∧ Below W.heap.size W w') := fun W h => cloneF_any W _ xs (ht.below h) hl100
  have HCK : Hid (∀ W u, Below w.heap.size w W → Tbl W u xs → Calls Tryd.prog 19 #[u] W fun e w' => e = .returned (.int .i64 (tblE xs)) ∧ Below W.heap.size W w') := fun W u h hu => check_any W u xs hu (hL.below h)
  have HRC : Hid (∀ W, Below w.heap.size w W → Calls Tryd.prog 20 #[.slice ao xs.length ac] W fun e w' => e = .returned (.int .i64 (tblE xs)) ∧ Below W.heap.size W w') := fun W h => refCheck_any W _ xs (ht.below h)
  have HRU : Hid (∀ W u, Below w.heap.size w W → Tbl W u xs → Calls Tryd.prog 21 #[u, .int .i32 r] W fun e w' => e = .returned (.int .i32 (foldL (useL xs) r)) ∧ Below W.heap.size W w') := fun W u h hu => rune_any W u xs r hu hr (hL.below h)
  have HRR : Hid (∀ W, Below w.heap.size w W → Calls Tryd.prog 22 #[.slice ao xs.length ac, .int .i32 r] W fun e w' => e = .returned (.int .i32 (foldL (useL xs) r)) ∧ Below W.heap.size W w') := fun W h => refRune_any W _ xs r (ht.below h) hr
  have HTX : Hid (∀ W u, Below w.heap.size w W → Tbl W u xs → Calls Tryd.prog 23 #[u, .slice bo bn bc] W fun e w' => e = .returned (.string (strOfNums (foldZ (useL xs) (runesN zs)))) ∧ Below W.heap.size W w') := fun W u h hu => text_any W u xs hu _ zs (hz.below h) (by omega) (hL.below h)
  have HRT : Hid (∀ W, Below w.heap.size w W → Calls Tryd.prog 24 #[.slice ao xs.length ac, .slice bo bn bc] W fun e w' => e = .returned (.string (strOfNums (foldZ (useL xs) (runesN zs)))) ∧ Below W.heap.size W w') := fun W h => refText_any W _ xs (ht.below h) _ zs (hz.below h) (by omega)
  have HEQ : Hid (∀ W u, Below w.heap.size w W → Tbl W u xs → Calls Tryd.prog 25 #[u, .slice ao xs.length ac] W fun e w' => e = .returned (.bool true) ∧ Below W.heap.size W w') := fun W u h hu => equalF_same W u _ xs hu (ht.below h)
  have HPL : Hid (∀ W, Calls Tryd.prog 26 #[] W fun e w' => ∃ b, e = .returned (.slice (some ⟨b, 0, none⟩) 6 6) ∧ Tbl w' (.slice (some ⟨b, 0, none⟩) 6 6) plainL ∧ Below W.heap.size W w') := fun W => (plain_any W).mono fun e w' ⟨h1, h2⟩ => ⟨_, h1, by rw [h2]; exact plain_tbl W, by rw [h2]; exact (Below.refl _ W).alloc (Nat.le_refl _) _⟩
  have HPR : Hid (∀ W, Calls Tryd.prog 27 #[] W fun e w' => ∃ b, e = .returned (.slice (some ⟨b, 0, none⟩) 6 6) ∧ Tbl w' (.slice (some ⟨b, 0, none⟩) 6 6) plainL ∧ Below W.heap.size W w') := fun W => (refPlain_any W).mono fun e w' ⟨h1, h2⟩ => ⟨_, h1, by rw [h2]; exact plain_tbl W, by rw [h2]; exact (Below.refl _ W).alloc (Nat.le_refl _) _⟩
  have HEP : Hid (∀ W u v, Tbl W u plainL → Tbl W v plainL → Calls Tryd.prog 25 #[u, v] W fun e w' => e = .returned (.bool true) ∧ Below W.heap.size W w') := fun W u v hu hv => equalF_same W u v plainL hu hv
  have HLE : Hid (∀ W u, Below w.heap.size w W → Tbl W u xs → Calls Tryd.prog 28 #[u] W fun e w' => ∃ g u, e = .returned (.func (.func 47) #[] #[.pointer (some ⟨g, 0, none⟩)]) ∧ Blk w' g 37 [u] ∧ Tbl w' u (useL xs) ∧ Below W.heap.size W w') := fun W u h hu => letters_any W u xs hu (hL.below h) hl100
  have HUS : Hid ((tblE xs = 0 ∧ useL xs = xs) ∨ (¬ tblE xs = 0 ∧ useL xs = [])) := by
    unfold tblE useL
    cases tblB xs with
    | true => exact .inl ⟨rfl, rfl⟩
    | false => exact .inr ⟨by simp, by simp⟩
  have HOK := hide (useL_ok xs)
  have HU8 := hide (useL_len xs)
  have HT := hide ht
  obtain ⟨n, hn⟩ : ∃ n, xs.length = n := ⟨_, rfl⟩
  have HN := hide hn
  obtain ⟨us, hus⟩ : ∃ us, useL xs = us := ⟨_, rfl⟩
  rw [hus] at HRU HRR HTX HRT HLE HUS HOK HU8
  rw [hn] at HCL HRC HRR HRT HEQ HT h1i
  have HUN : Hid (us.length ≤ n) := by
    rcases HUS.out with ⟨_, e⟩ | ⟨_, e⟩
    · rw [e, ← hn]; exact Nat.le_refl _
    · rw [e]; exact Nat.zero_le _
  have hn100 : n ≤ 100 := by omega
  obtain ⟨E, hE⟩ : ∃ E, tblE xs = E := ⟨_, rfl⟩
  rw [hE] at HCK HRC HUS
  obtain ⟨F, hF⟩ : ∃ F, foldL us r = F := ⟨_, rfl⟩
  rw [hF] at HRU HRR
  obtain ⟨S, hS⟩ : ∃ S, strOfNums (foldZ us (runesN zs)) = S := ⟨_, rfl⟩
  rw [hS] at HTX HRT
  rw [hn]
  obtain ⟨r1, r2⟩ := hr
  clear hL ht hz hbl hn hus hE hF hS h1 h2 hl100
  refine (callsIn_wide (n := 3)).1 ?_
  refine callsIn_of_wp_marks Tryd.func5 rfl trivial ?_ rfl
  simp only [Tryd.ntmps5, List.size_toArray, List.length_cons, List.length_nil, Nat.reduceAdd, Nat.reduceSub, Array.replicate_succ, Array.replicate_zero, List.push_toArray, List.append_toArray, List.nil_append, List.cons_append]
  gi_wp2_with (first
    | (refine ⟨trivial, ?_⟩; gi_at_call 8; refine (callsIn_wide.2 (HLV.out w (Below.refl _ w))).mono ?_; rintro e w1 ⟨rfl, hb⟩; have HB1 := hide hb; clear HLV; clear hb)
    | (refine ⟨trivial, ?_⟩; gi_at_call 18; refine (callsIn_wide.2 (HCL.out w1 HB1.out)).mono ?_; rintro e w2 ⟨u, rfl, ht, hb⟩; have HB2 := hide (HB1.out.trans (hb.mono HB1.out.size)); obtain ⟨a2, c2, rfl⟩ := ht.len; rw [HN.out] at ht ⊢; have HT2 := hide ht; clear HCL ht; clear hb)
    | (refine ⟨trivial, ?_⟩; gi_at_call 19; refine (callsIn_wide.2 (HCK.out w2 _ HB2.out HT2.out)).mono ?_; rintro e w3 ⟨rfl, hb⟩; have HB3 := hide (HB2.out.trans (hb.mono HB2.out.size)); have HT3 := hide (HT2.out.below hb); clear HCK; clear hb)
    | (refine ⟨trivial, ?_⟩; gi_at_call 20; refine (callsIn_wide.2 (HRC.out w3 HB3.out)).mono ?_; rintro e w4 ⟨rfl, hb⟩; have HB4 := hide (HB3.out.trans (hb.mono HB3.out.size)); have HT4 := hide (HT3.out.below hb); clear HT3; clear hb)
    | (refine ⟨trivial, ?_⟩; gi_at_call 21; refine (callsIn_wide.2 (HRU.out w4 _ HB4.out HT4.out)).mono ?_; rintro e w5 ⟨rfl, hb⟩; have HB5 := hide (HB4.out.trans (hb.mono HB4.out.size)); have HT5 := hide (HT4.out.below hb); clear HRU; clear hb)
    | (refine ⟨trivial, ?_⟩; gi_at_call 22; refine (callsIn_wide.2 (HRR.out w5 HB5.out)).mono ?_; rintro e w6 ⟨rfl, hb⟩; have HB6 := hide (HB5.out.trans (hb.mono HB5.out.size)); have HT6 := hide (HT5.out.below hb); clear HRR; clear hb)
    | (refine ⟨trivial, ?_⟩; gi_at_call 23; refine (callsIn_wide.2 (HTX.out w6 _ HB6.out HT6.out)).mono ?_; rintro e w7 ⟨rfl, hb⟩; have HB7 := hide (HB6.out.trans (hb.mono HB6.out.size)); have HT7 := hide (HT6.out.below hb); clear HTX; clear hb)
    | (refine ⟨trivial, ?_⟩; gi_at_call 24; refine (callsIn_wide.2 (HRT.out w7 HB7.out)).mono ?_; rintro e w8 ⟨rfl, hb⟩; have HB8 := hide (HB7.out.trans (hb.mono HB7.out.size)); have HT8 := hide (HT7.out.below hb); clear HRT; clear hb)
    | (refine ⟨trivial, ?_⟩; gi_at_call 25; refine (callsIn_wide.2 (HEQ.out w8 _ HB8.out HT8.out)).mono ?_; rintro e w9 ⟨rfl, hb⟩; have HB9 := hide (HB8.out.trans (hb.mono HB8.out.size)); have HT9 := hide (HT8.out.below hb); clear HEQ; clear hb)
    | (refine ⟨trivial, ?_⟩; gi_at_call 26; refine (callsIn_wide.2 (HPL.out w9)).mono ?_; rintro e w10 ⟨p1, rfl, hp1, hb⟩; have HB10 := hide (HB9.out.trans (hb.mono HB9.out.size)); have HT10 := hide (HT9.out.below hb); have HP1 := hide hp1; clear HPL hp1; clear hb)
    | (refine ⟨trivial, ?_⟩; gi_at_call 27; refine (callsIn_wide.2 (HPR.out w10)).mono ?_; rintro e w11 ⟨p2, rfl, hp2, hb⟩; have HB11 := hide (HB10.out.trans (hb.mono HB10.out.size)); have HT11 := hide (HT10.out.below hb); have HP2 := hide hp2; have HP3 := hide (HP1.out.below hb); clear HPR hp2; clear hb)
    | (refine ⟨trivial, ?_⟩; gi_at_call 25; refine (callsIn_wide.2 (HEP.out w11 _ _ HP3.out HP2.out)).mono ?_; rintro e w12 ⟨rfl, hb⟩; have HB12 := hide (HB11.out.trans (hb.mono HB11.out.size)); have HT12 := hide (HT11.out.below hb); clear HEP; clear hb))
  have HB := hide HB12.out
  clear HT2 HT4 HT5 HT6 HT7 HT8 HT9 HT10 HT11 HP1 HP2 HP3 HB1 HB2 HB3 HB4 HB5 HB6 HB7 HB8 HB9 HB10 HB11 HB12
  gi_loopw [8, 9] (fun v8 v9 wr => ∃ i : Nat, i ≤ n ∧ v9 = .int .i64 (i : Int) ∧ RnO wr w12.heap.size v8 (flatL (lettersL (us.take i))) ∧ Below w12.heap.size w12 wr) (fun _ v9 _ => n - (intOf v9).toNat)
  case atStart => exact ⟨0, Nat.zero_le _, rfl, World.ownsRow_nil _ _ _ _, Below.refl _ w12⟩
  case round =>
    obtain ⟨i, hi, rfl, ho, hbw⟩ := hrel
    obtain ⟨a8, c8, rfl⟩ := ho.shape
    have HO0 := hide ho
    have HBW := hide hbw
    have HBR := hide (HB.out.trans (hbw.mono HB.out.size))
    obtain ⟨l8, hl8⟩ : ∃ l, (flatL (lettersL (us.take i))).length = l := ⟨_, rfl⟩
    rw [hl8] at HO0 ⊢
    have HII := hide hi
    clear ho hbw hl8 hi
    by_cases hin : i < n
    · have hini : (i : Int) < (n : Int) := by omega
      rcases HUS.out with ⟨hE, hux⟩ | ⟨hE, hux⟩
      · subst hE
        obtain ⟨b, off, ⟨f, t, m⟩, rfl, hx, hok, q0, q1, q2⟩ := HT.out.at i (by rw [HN.out]; exact hin)
        simp only at q0 q1 q2
        have hxu : us[i]? = some (f, t, m) := by rw [hux]; exact hx
        obtain ⟨⟨hm1, hm2⟩, hf1, hf2, ht1, ht2⟩ := HOK.out _ (List.mem_of_getElem? hxu)
        simp only at hm1 hm2 hf1 hf2 ht1 ht2
        obtain ⟨N, rfl⟩ : ∃ N : Nat, (N : Int) = m := ⟨m.toNat, by omega⟩
        have HROW : Hid (∀ W, Below w.heap.size w W → W.cell? ⟨b, off + i * 3, none⟩ = some (.int .i32 f) ∧ W.cell? ⟨b, off + i * 3 + 1, none⟩ = some (.int .i32 t) ∧ W.cell? ⟨b, off + i * 3 + 2, none⟩ = some (.int .i64 (N : Int))) := fun W h => by
          have hbb := h.block b (World.block_lt_of_cell? w _ q0)
          exact ⟨(World.cell?_of_block (w := w) (a := ⟨b, _, none⟩) hbb).trans q0, (World.cell?_of_block (w := w) (a := ⟨b, _, none⟩) hbb).trans q1, (World.cell?_of_block (w := w) (a := ⟨b, _, none⟩) hbb).trans q2⟩
        have HBLT : Hid (b < w.heap.size) := World.block_lt_of_cell? w _ q0
        have HXU := hide hxu
        clear q0 q1 q2 hx hok hxu
        gi_wp2_with (first
          | (refine ⟨trivial, ?_⟩; gi_at_call 20; refine (callsIn_wide.2 (HRC.out wr HBR.out)).mono ?_; rintro e wc ⟨rfl, hb⟩; have HBC := hide (HBW.out.trans (hb.mono HBW.out.size)); have HBD := hide (HBR.out.trans (hb.mono HBR.out.size)); have HO1 := hide (HO0.out.only (Only.of_below (fun _ => False) hb) (fun _ _ h => h)); obtain ⟨q0, q1, q2⟩ := HROW.out wc HBD.out; clear hb))
        clear q0 q1 q2
        obtain ⟨PRE, hPRE⟩ : ∃ P, lettersL (us.take i) = P := ⟨_, rfl⟩
        obtain ⟨R, hR⟩ : ∃ R, foldsL f t N = R := ⟨_, rfl⟩
        have HRL : Hid (R.length = N) := by rw [← hR]; exact foldsL_len f t N
        have HRAT : Hid (∀ k (hk : k < R.length), R[k] = (f + (k : Int), t + (k : Int))) := by rw [← hR]; intro k hk; simp [foldsL]
        have HNEXT : Hid (lettersL (us.take (i + 1)) = PRE ++ R) := by
          have := lettersL_step us i _ HXU.out
          simp only [Int.toNat_natCast] at this
          rw [hPRE, hR] at this
          exact this
        have HPL : Hid (PRE.length ≤ 256 * 8) := by
          rw [← hPRE]
          have h1 := lettersL_len (us.take i) (fun x hx => HOK.out x (List.mem_of_mem_take hx))
          have h2 : (us.take i).length ≤ us.length := by simp; omega
          have h3 := HU8.out
          show _ ≤ _
          omega
        rw [hPRE] at HO1
        clear hPRE hR HXU HO0 HBW HBR
        gi_loopw [8, 81] (fun v8 v81 wq => ∃ k : Nat, k ≤ N ∧ v81 = .int .i64 (k : Int) ∧ RnO wq w12.heap.size v8 (flatL (PRE ++ R.take k)) ∧ Below w12.heap.size w12 wq) (fun _ v81 _ => N - (intOf v81).toNat)
        case atStart => exact ⟨0, Nat.zero_le _, rfl, by rw [List.take_zero, List.append_nil]; exact HO1.out, HBC.out⟩
        case round =>
        clear HO1 HBC HBD
        obtain ⟨k, hk, rfl, ho, hbq⟩ := hrel
        obtain ⟨wq, rfl⟩ : ∃ x, x = wr := ⟨_, rfl⟩
        obtain ⟨a8, c8, rfl⟩ := ho.shape
        have HO := hide ho
        have HBQ := hide hbq
        obtain ⟨l8, hl8⟩ : ∃ l, (flatL (PRE ++ R.take k)).length = l := ⟨_, rfl⟩
        have HLE2 : Hid ((flatL (PRE ++ R.take k)).length + 2 ≤ 1000000) := by
          have h1 := flatL_len (PRE ++ R.take k)
          have h2 := HPL.out
          show _ ≤ _
          rw [h1]
          simp
          omega
        rw [hl8] at HO ⊢
        clear ho hbq hl8
        by_cases hkN : k < N
        · have hki : (k : Int) < (N : Int) := by omega
          have HSN : Hid (flatL (PRE ++ R.take (k + 1)) = flatL (PRE ++ R.take k) ++ [f + (k : Int), t + (k : Int)]) := by
            have hkR : k < R.length := by rw [HRL.out]; exact hkN
            have := flatL_cons2 PRE R k hkR
            rw [HRAT.out k hkR] at this
            exact this
          have HRW : Hid (∀ wx, Only (fun j => (Value.slice a8 l8 c8).ownBlock = some j) wq wx → wx.cell? ⟨b, off + i * 3, none⟩ = some (.int .i32 f) ∧ wx.cell? ⟨b, off + i * 3 + 1, none⟩ = some (.int .i32 t)) := fun wx h => by
            have hb : Below w.heap.size w wx := (HB.out.trans (HBQ.out.mono HB.out.size)).trans (h.below (Nat.le_trans HB.out.size HBQ.out.size) (fun j hj e => by have := (HO.out.lt j e).1; have := HB.out.size; omega))
            obtain ⟨x1, x2, _⟩ := HROW.out wx hb
            exact ⟨x1, x2⟩
          have HINI := hide hini
          gi_wp2
          refine wpIn_wide.2 ?_
          refine wp_region_only (fun j => (Value.slice a8 l8 c8).ownBlock = some j) [isV (.slice a8 l8 c8), isV (.slice (some ⟨b, off, none⟩) n ac), isV (.int .i64 (i : Int)), isV (.pointer (some ⟨b, off + i * 3, none⟩)), isV (.pointer (some ⟨b, off + i * 3, none⟩)), isV (.int .i32 f), isV (.int .i64 (k : Int)), isV (.int .i32 (k : Int)), isV (.int .i32 (f + (k : Int) : Int)), isV (.slice (some ⟨b, off, none⟩) n ac), isV (.int .i64 (i : Int)), isV (.pointer (some ⟨b, off + i * 3, none⟩)), isV (.pointer (some ⟨b, off + i * 3 + 1, none⟩)), isV (.int .i32 t), isV (.int .i64 (k : Int)), isV (.int .i32 (k : Int)), isV (.int .i32 (t + (k : Int) : Int)), isB2 wq.heap.size (f + (k : Int)) (t + (k : Int)), isRnO w12.heap.size (flatL (PRE ++ R.take (k + 1)))] 18 119 19 (by kernel_rfl) (by kernel_rfl) (by kernel_rfl) (by kernel_rfl) rfl ?_ ?_ ?_
          · repeat (first | exact trivial | refine allStL_isV ?_ | refine ⟨stS_isB2 _ _ _ _ (fun _ h => h.elim), fun _ => stS_isB2 _ _ _ _ (fun j e => (RnO.lt HO.out j e).2), ?_⟩ | refine ⟨stS_isRnO _ _, fun h => absurd rfl h, ?_⟩)
          · refine ⟨?_, ?_, ?_, ?_, ?_, ?_, ?_, ?_, ?_, ?_, ?_, ?_, ?_, ?_, ?_, ?_, ?_, ?_, ?_, trivial⟩
            · intro act wx h
              have e8 : act.eval (.tmp 8) = .slice a8 l8 c8 := h.old 8 (by kernel_rfl)
              have hrel := h.rel
              clear h
              refine gives_by rfl act.eval rfl ?_
              generalize act.eval = ρ at *
              intro hf hc
              go_simp
              exact ⟨relM_quiet (by decide) (Only.refl _ _), rfl⟩
            · intro act wx h
              have e0 : act.eval (.tmp 0) = .slice (some ⟨b, off, none⟩) n ac := h.old 0 (by kernel_rfl)
              have hrel := h.rel
              clear h
              refine gives_by rfl act.eval rfl ?_
              generalize act.eval = ρ at *
              intro hf hc
              go_simp
              exact ⟨relM_quiet (by decide) (Only.refl _ _), rfl⟩
            · intro act wx h
              have e9 : act.eval (.tmp 9) = .int .i64 (i : Int) := h.old 9 (by kernel_rfl)
              have hrel := h.rel
              clear h
              refine gives_by rfl act.eval rfl ?_
              generalize act.eval = ρ at *
              intro hf hc
              go_simp
              exact ⟨relM_quiet (by decide) (Only.refl _ _), rfl⟩
            · intro act wx h
              obtain ⟨v85, e85, f85⟩ := h.val 1 85 (by kernel_rfl)
              obtain rfl : v85 = .slice (some ⟨b, off, none⟩) n ac := f85
              obtain ⟨v86, e86, f86⟩ := h.val 2 86 (by kernel_rfl)
              obtain rfl : v86 = .int .i64 (i : Int) := f86
              have hrel := h.rel
              clear h
              have hiw := HINI.out
              refine gives_by rfl act.eval rfl ?_
              generalize act.eval = ρ at *
              intro hf hc
              go_simp
              exact ⟨relM_quiet (by decide) (Only.refl _ _), rfl⟩
            · intro act wx h
              obtain ⟨v87, e87, f87⟩ := h.val 3 87 (by kernel_rfl)
              obtain rfl : v87 = .pointer (some ⟨b, off + i * 3, none⟩) := f87
              have hrel := h.rel
              clear h
              refine gives_by rfl act.eval rfl ?_
              generalize act.eval = ρ at *
              intro hf hc
              go_simp
              exact ⟨relM_quiet (by decide) (Only.refl _ _), rfl⟩
            · intro act wx h
              obtain ⟨v88, e88, f88⟩ := h.val 4 88 (by kernel_rfl)
              obtain rfl : v88 = .pointer (some ⟨b, off + i * 3, none⟩) := f88
              have hrel := h.rel
              clear h
              have cx := (HRW.out wx hrel).1
              refine gives_by rfl act.eval rfl ?_
              generalize act.eval = ρ at *
              intro hf hc
              go_simp
              exact ⟨relM_quiet (by decide) (Only.refl _ _), rfl⟩
            · intro act wx h
              have e10 : act.eval (.tmp 10) = .int .i64 (k : Int) := h.old 10 (by kernel_rfl)
              have hrel := h.rel
              clear h
              refine gives_by rfl act.eval rfl ?_
              generalize act.eval = ρ at *
              intro hf hc
              go_simp
              exact ⟨relM_quiet (by decide) (Only.refl _ _), rfl⟩
            · intro act wx h
              obtain ⟨v90, e90, f90⟩ := h.val 6 90 (by kernel_rfl)
              obtain rfl : v90 = .int .i64 (k : Int) := f90
              have hrel := h.rel
              clear h
              have hwk : IntKind.i32.wrap (k : Int) = (k : Int) := IntWalk.i32_in _ ⟨by omega, by omega⟩
              refine gives_by rfl act.eval rfl ?_
              generalize act.eval = ρ at *
              intro hf hc
              go_simp
              exact ⟨relM_quiet (by decide) (Only.refl _ _), rfl⟩
            · intro act wx h
              obtain ⟨v89, e89, f89⟩ := h.val 5 89 (by kernel_rfl)
              obtain rfl : v89 = .int .i32 f := f89
              obtain ⟨v91, e91, f91⟩ := h.val 7 91 (by kernel_rfl)
              obtain rfl : v91 = .int .i32 (k : Int) := f91
              have hrel := h.rel
              clear h
              have hwk : IntKind.i32.wrap (f + (k : Int)) = f + (k : Int) := IntWalk.i32_in _ ⟨by omega, by omega⟩
              refine gives_by rfl act.eval rfl ?_
              generalize act.eval = ρ at *
              intro hf hc
              go_simp
              exact ⟨relM_quiet (by decide) (Only.refl _ _), rfl⟩
            · intro act wx h
              have e0 : act.eval (.tmp 0) = .slice (some ⟨b, off, none⟩) n ac := h.old 0 (by kernel_rfl)
              have hrel := h.rel
              clear h
              refine gives_by rfl act.eval rfl ?_
              generalize act.eval = ρ at *
              intro hf hc
              go_simp
              exact ⟨relM_quiet (by decide) (Only.refl _ _), rfl⟩
            · intro act wx h
              have e9 : act.eval (.tmp 9) = .int .i64 (i : Int) := h.old 9 (by kernel_rfl)
              have hrel := h.rel
              clear h
              refine gives_by rfl act.eval rfl ?_
              generalize act.eval = ρ at *
              intro hf hc
              go_simp
              exact ⟨relM_quiet (by decide) (Only.refl _ _), rfl⟩
            · intro act wx h
              obtain ⟨v93, e93, f93⟩ := h.val 9 93 (by kernel_rfl)
              obtain rfl : v93 = .slice (some ⟨b, off, none⟩) n ac := f93
              obtain ⟨v94, e94, f94⟩ := h.val 10 94 (by kernel_rfl)
              obtain rfl : v94 = .int .i64 (i : Int) := f94
              have hrel := h.rel
              clear h
              have hiw := HINI.out
              refine gives_by rfl act.eval rfl ?_
              generalize act.eval = ρ at *
              intro hf hc
              go_simp
              exact ⟨relM_quiet (by decide) (Only.refl _ _), rfl⟩
            · intro act wx h
              obtain ⟨v95, e95, f95⟩ := h.val 11 95 (by kernel_rfl)
              obtain rfl : v95 = .pointer (some ⟨b, off + i * 3, none⟩) := f95
              have hrel := h.rel
              clear h
              refine gives_by rfl act.eval rfl ?_
              generalize act.eval = ρ at *
              intro hf hc
              go_simp
              exact ⟨relM_quiet (by decide) (Only.refl _ _), rfl⟩
            · intro act wx h
              obtain ⟨v96, e96, f96⟩ := h.val 12 96 (by kernel_rfl)
              obtain rfl : v96 = .pointer (some ⟨b, off + i * 3 + 1, none⟩) := f96
              have hrel := h.rel
              clear h
              have cx := (HRW.out wx hrel).2
              refine gives_by rfl act.eval rfl ?_
              generalize act.eval = ρ at *
              intro hf hc
              go_simp
              exact ⟨relM_quiet (by decide) (Only.refl _ _), rfl⟩
            · intro act wx h
              have e10 : act.eval (.tmp 10) = .int .i64 (k : Int) := h.old 10 (by kernel_rfl)
              have hrel := h.rel
              clear h
              refine gives_by rfl act.eval rfl ?_
              generalize act.eval = ρ at *
              intro hf hc
              go_simp
              exact ⟨relM_quiet (by decide) (Only.refl _ _), rfl⟩
            · intro act wx h
              obtain ⟨v98, e98, f98⟩ := h.val 14 98 (by kernel_rfl)
              obtain rfl : v98 = .int .i64 (k : Int) := f98
              have hrel := h.rel
              clear h
              have hwk : IntKind.i32.wrap (k : Int) = (k : Int) := IntWalk.i32_in _ ⟨by omega, by omega⟩
              refine gives_by rfl act.eval rfl ?_
              generalize act.eval = ρ at *
              intro hf hc
              go_simp
              exact ⟨relM_quiet (by decide) (Only.refl _ _), rfl⟩
            · intro act wx h
              obtain ⟨v97, e97, f97⟩ := h.val 13 97 (by kernel_rfl)
              obtain rfl : v97 = .int .i32 t := f97
              obtain ⟨v99, e99, f99⟩ := h.val 15 99 (by kernel_rfl)
              obtain rfl : v99 = .int .i32 (k : Int) := f99
              have hrel := h.rel
              clear h
              have hwk : IntKind.i32.wrap (t + (k : Int)) = t + (k : Int) := IntWalk.i32_in _ ⟨by omega, by omega⟩
              refine gives_by rfl act.eval rfl ?_
              generalize act.eval = ρ at *
              intro hf hc
              go_simp
              exact ⟨relM_quiet (by decide) (Only.refl _ _), rfl⟩
            · intro act wx h
              obtain ⟨v92, e92, f92⟩ := h.val 8 92 (by kernel_rfl)
              obtain rfl : v92 = .int .i32 (f + (k : Int) : Int) := f92
              obtain ⟨v100, e100, f100⟩ := h.val 16 100 (by kernel_rfl)
              obtain rfl : v100 = .int .i32 (t + (k : Int) : Int) := f100
              have hrel := h.rel
              clear h
              refine gives_by rfl act.eval rfl ?_
              generalize act.eval = ρ at *
              intro hf hc
              go_simp
              exact ⟨relM_quiet (by decide) ((Only.refl _ _).alloc _), _, rfl, hrel.size, Blk.new wx _ _⟩
            · intro act wx h
              obtain ⟨v84, e84, f84⟩ := h.val 0 84 (by kernel_rfl)
              obtain rfl : v84 = .slice a8 l8 c8 := f84
              obtain ⟨v101, e101, f101⟩ := h.val 17 101 (by kernel_rfl)
              obtain ⟨q101, rfl, hqa, hqb⟩ := f101
              have hrel := h.rel
              have hq := h.relq rfl
              clear h
              obtain ⟨v', w', hrun, h1, h2, _, _⟩ := run_append_rn wx w12.heap.size _ _ (HO.out.only hq (fun _ _ h => h)) (f + (k : Int)) (t + (k : Int)) q101 hqb HLE2.out (Nat.le_trans HBQ.out.size hrel.size)
              refine gives_of_run rfl (exec_append (.tmp 84) (.tmp 101) 47 rfl _ _ e84 e101 _ hrun) ⟨relM_turn ((Only.refl _ wx).grown h2 (fun j e _ => e)), ?_⟩
              show RnO w' _ v' _
              rw [HSN.out]
              exact h1
          · intro oL hoL vals w3 ho3 hv
            simp only [List.getElem?_toArray, List.getElem?_cons_succ, List.getElem?_cons_zero, Option.some.injEq] at hoL
            subst hoL
            have hv18 : isRnO w12.heap.size (flatL (PRE ++ R.take (k + 1))) (vals 18) w3 := hv 18 102 (by decide) (by kernel_rfl)
            have HV := hide hv18
            have HB3 := hide (HBQ.out.trans (ho3.below HBQ.out.size (fun j hj e => by have := (RnO.lt HO.out j e).1; omega)))
            clear hv hv18 ho3
            simp only [List.dropLast, putAll, Act.put, List.setIfInBounds_toArray, List.set_cons_zero, List.set_cons_succ]
            refine gives_of_run (v := vals 18) (w' := w3) rfl (by go_simp) ?_
            gi_wp2
            refine ⟨⟨k + 1, by omega, rfl, HV.out, HB3.out⟩, ?_⟩
            simp [intOf]
            omega
        · obtain rfl : k = N := by omega
          gi_wp2
          refine ⟨⟨i + 1, by omega, rfl, ?_, HBQ.out⟩, ?_⟩
          · rw [HNEXT.out]
            have := HO.out
            rwa [List.take_of_length_le (Nat.le_of_eq HRL.out)] at this
          · simp [intOf]
            omega
      · clear HT
        gi_wp2_with (first
          | (refine ⟨trivial, ?_⟩; gi_at_call 20; refine (callsIn_wide.2 (HRC.out wr HBR.out)).mono ?_; rintro e wc ⟨rfl, hb⟩; have HBC := hide (HBW.out.trans (hb.mono HBW.out.size)); have HBD := hide (HBR.out.trans (hb.mono HBR.out.size)); have HO1 := hide (HO0.out.only (Only.of_below (fun _ => False) hb) (fun _ _ h => h)); clear hb)
          | (refine ⟨trivial, ?_⟩; gi_at_call 28; refine (callsIn_wide.2 (HLE.out wc _ HBD.out (HT12.out.below HBC.out))).mono ?_; rintro e wz ⟨g, u2, rfl, hg, hu2, hb⟩; have hfe := eqlF3 47 #[.pointer (some ⟨g, 0, none⟩)]; have HG := hide hg; have HU2 := hide hu2; have HBZ := hide hb; clear hg hu2 hb))
        have hRL : lettersL (us.take i) = lettersL us := by rw [hux]; simp
        obtain ⟨R, hR⟩ : ∃ R, lettersL us = R := ⟨_, rfl⟩
        have HRLEN : Hid (R.length ≤ 256 * 8) := by
          have h1 := lettersL_len us HOK.out
          have h2 := HU8.out
          rw [← hR]
          show _ ≤ _
          omega
        have HWR : Hid (∀ W, Below wc.heap.size wc W → RnR W (.slice a8 l8 c8) (flatL R)) := fun W h => by
          have h3 := HO1.out
          rw [hRL, hR] at h3
          exact (h3.read (by rw [flatL_len]; have := HRLEN.out; omega)).below h
        have HIT : Hid (Iter2 Tryd.prog 47 #[.pointer (some ⟨g, 0, none⟩)] encI R (LetV g u2 us)) := by
          rw [← hR]
          exact letters_iter g u2 us HOK.out
        obtain ⟨W2, hW2⟩ : ∃ W2, wz.alloc (.cells #[.slice none 0 0] 47) = W2 := ⟨_, rfl⟩
        rw [hW2]
        have hs2 : W2.heap.size = wz.heap.size + 1 := by rw [← hW2]; simp
        have hB : Blk W2 wz.heap.size 47 [.slice none 0 0] := by rw [← hW2]; exact Blk.new wz _ _
        have hb2 : Below wz.heap.size wz W2 := by rw [← hW2]; exact (Below.refl _ wz).alloc (Nat.le_refl _) _
        clear hfe hRL hR hW2
        refine wp_range6 (gf := 47) (lb := #[.pointer (some ⟨g, 0, none⟩)]) (xs := R) (encs := encI) (V := LetV g u2 us) rfl enters_letters HIT.out (fun _ => rfl) (fun Y k W => GtI wz R Y k W) (fun _ _ _ _ => False) ?_ ?_ ?_ ?_ ?_ ?_ (fun x => { tmps := #[.slice ao n ac, .int .i32 r, .slice bo bn bc, undef, undef, undef, .bool false, .slice a2 n c2, .slice a8 l8 c8, .int .i64 (i : Int), u10, .func (.func 47) #[] #[.pointer (some ⟨g, 0, none⟩)], .pointer (some ⟨wz.heap.size, 0, none⟩), .int .i32 x.1, .int .i32 x.2, .bool true, .bool false, .bool false, .slice ao n ac, .int .i64 (n : Int), .bool (decide (100 < (n : Int))), .bool (decide (100 < (n : Int))), .bool (decide (100 < (n : Int))), .slice bo bn bc, .int .i64 (bn : Int), .bool (decide (500 < (bn : Int))), .bool (decide (100 < (n : Int)) || decide (500 < (bn : Int))), undef, .slice ao n ac, .slice a2 n c2, .slice a2 n c2, .int .i64 E, .slice ao n ac, .int .i64 E, .bool false, .bool false, .slice a2 n c2, .int .i32 r, .int .i32 F, .slice ao n ac, .int .i32 r, .int .i32 F, .bool false, .bool false, .bool false, .slice a2 n c2, .slice bo bn bc, .string S, .slice ao n ac, .slice bo bn bc, .string S, .bool false, .bool false, .bool false, .slice a2 n c2, .slice ao n ac, .bool true, .bool false, .bool false, .bool false, .slice (some ⟨p1, 0, none⟩) 6 6, .slice (some ⟨p2, 0, none⟩) 6 6, .bool true, .bool false, .bool false, .int .i64 (i : Int), .slice ao n ac, .int .i64 (n : Int), .bool true, .bool true, .slice ao n ac, .int .i64 E, .bool false, .bool false, u74, u75, u76, u77, u78, u79, u80, u81, u82, u83, u84, u85, u86, u87, u88, u89, u90, u91, u92, u93, u94, u95, u96, u97, u98, u99, u100, u101, u102, u103, .slice a2 n c2, .func (.func 47) #[] #[.pointer (some ⟨g, 0, none⟩)], .func (.func 47) #[] #[.pointer (some ⟨g, 0, none⟩)], .bool false, .func (.func 47) #[] #[.pointer (some ⟨g, 0, none⟩)], .int .i32 x.1, .int .i32 x.2, undef, undef, undef, undef, undef, undef, undef, undef], defers := [] }) ?assign ?body ?done ?stop
        · intro Y k W W' h ho
          exact h.keep (by rw [hs2] at ho; exact ho)
        · intro Y k W W' h ho
          exact h.grow ho
        · intro Y cc k W W' h _
          exact h
        · intro Y cc k W W' h _
          exact h
        · intro Y k W h
          exact ⟨(World.cell?_of_block (w := wz) (a := ⟨g, 0, none⟩) (h.below.block g HG.out.lt)).trans (HG.out.cell 0), HU2.out.below h.below⟩
        · intro W1 ho hs
          refine ⟨⟨_, hB.only ho (fun h => h), ?_, (fun j hj => by cases hj)⟩, hb2.trans ((ho.below (Nat.le_refl _) (fun _ _ h => h)).mono (by omega)), by omega, (fun _ h => h.elim)⟩
          rw [List.take_zero]
          exact World.ownsRow_nil _ _ _ _
        case assign =>
          intro l2 k hk W K hK
          gi_wp2
          exact hK
        case body =>
          rintro l2 Y k hk W ⟨⟨v, h1, h2, h3⟩, h4, h5, hys⟩
          have hsn := take_snoc R k hk
          obtain ⟨⟨x1, x2⟩, hx⟩ : ∃ x, R[k] = x := ⟨_, rfl⟩
          rw [hx] at hsn ⊢
          have c0 : W.cell? ⟨wz.heap.size, 0, none⟩ = some v := h1.cell 0
          have f0 := h1.frozen 0
          have hfl : (flatL (R.take k)).length + 2 ≤ 1000000 := by
            have := HRLEN.out
            rw [flatL_len]
            simp
            omega
          obtain ⟨v2, w3, hr, hi2, hg2, hv2, ao2, cap2, rfl⟩ := run_append_rn (W.alloc (.cells #[.int .i32 x1, .int .i32 x2] 21)) wz.heap.size v _ (h2.only ((Only.refl (fun _ => False) W).alloc _) (fun _ _ h => h)) x1 x2 W.heap.size (Blk.new W _ _) hfl (by simp; omega)
          have hB2 : Blk w3 wz.heap.size 47 [v] := (hg2.block _ (by simp; omega) (fun e => by have := (h3 _ e.symm).1; omega)).trans (h1.alloc _)
          have c2 : w3.cell? ⟨wz.heap.size, 0, none⟩ = some v := hB2.cell 0
          have f2 := hB2.frozen 0
          have HSN : Hid (flatL (R.take (k + 1)) = flatL (R.take k) ++ [x1, x2]) := by
            show _ = _
            rw [hsn, flatL_snoc]
          obtain ⟨ao1, cap1, hv1⟩ := h2.shape
          have HR := hide hr
          have HI2 := hide hi2
          have HG2 := hide hg2
          have HV2 := hide hv2
          have HB2 := hide hB2
          have H3 := hide h3
          have H4 := hide h4
          have HYS := hide hys
          obtain ⟨n1, hn1⟩ : ∃ m, (flatL (R.take k)).length = m := ⟨_, rfl⟩
          rw [hn1] at hv1 HR HI2 HV2
          subst hv1
          clear hr hi2 hg2 hv2 hB2 h1 h2 h3 h4 hx hys hn1 hsn hfl hB hb2 HWR HIT
          gi_wp2_with (first
            | (gi_at_builtin; (with_reducible refine wpListIn_append_run _ rfl (.tmp 111) (.tmp 114) 47 rfl _ _ ?_ ?_ _ _ HR.out ?_); exact rfl; exact rfl; clear HR))
          have hoA : Only (fun j => (Value.slice ao1 n1 cap1).ownBlock = some j) W w3 := ((Only.refl _ W).alloc _).grown HG2.out (fun j e _ => e)
          have hoB : Only (· = wz.heap.size) w3 (w3.setCell ⟨wz.heap.size, 0, none⟩ (.slice ao2 (n1 + 2) cap2)) := (Only.refl (· = wz.heap.size) w3).setCell ⟨wz.heap.size, 0, none⟩ _ (fun _ => rfl)
          have hv3 : ∀ j, (Value.slice ao2 (n1 + 2) cap2).ownBlock = some j → wz.heap.size + 3 ≤ j ∧ ¬ Y j := fun j hj => by
            rcases HV2.out with e | e
            · exact H3.out j (e ▸ hj)
            · rw [e] at hj
              have hj2 := Option.some.inj hj
              simp at hj2
              exact ⟨by omega, fun hy => by have := (HYS.out j hy).2; omega⟩
          refine ⟨?_, ?_, ⟨_, HB2.out.set 0 _, ?_, hv3⟩, ?_, ?_, ?_⟩
          · refine (Keeps2.of_only hoA ?_ ?_).trans (Keeps2.of_only hoB (by omega) (by omega))
            · intro e; have := (H3.out _ e).1; omega
            · intro e; have := (H3.out _ e).1; omega
          · intro j hj
            have hjs := HYS.out j hj
            exact (hoB.block j (by have := hoA.size; omega) (by omega)).trans (hoA.block j hjs.2 (fun e => (H3.out j e).2 hj))
          · rw [HSN.out]
            exact HI2.out.only hoB (fun j hj e => by have := (hv3 j hj).1; omega)
          · refine (H4.out.trans (hoA.below (by omega) (fun j hj e => by have := (H3.out j e).1; omega))).trans (hoB.below (by have := hoA.size; omega) (fun j hj e => by omega))
          · have := hoA.size
            have := hoB.size
            omega
          · intro j hj
            have := hoA.size
            have := hoB.size
            have hjs := HYS.out j hj
            exact ⟨hjs.1, by omega⟩
        case done =>
          rintro Y W ⟨⟨v, h1, h2, h3⟩, h4, h5, hys⟩ hD
          have HS2 := hide hs2
          clear hs2
          rw [List.take_of_length_le (Nat.le_refl _)] at h2
          have c0 : W.cell? ⟨wz.heap.size, 0, none⟩ = some v := h1.cell 0
          have HGR := hide (h2.read (by rw [flatL_len]; have := HRLEN.out; omega))
          obtain ⟨ao1, cap1, hv1⟩ := h2.shape
          obtain ⟨n1, hn1⟩ : ∃ m, (flatL R).length = m := ⟨_, rfl⟩
          rw [hn1] at hv1
          subst hv1
          have HBWZ := hide (HBZ.out.trans (h4.mono HBZ.out.size))
          have HEQ2 : Hid (Calls Tryd.prog 29 #[.slice ao1 n1 cap1, .slice a8 l8 c8] W fun e w' => e = .returned (.bool true) ∧ Below W.heap.size W w') := equalR_same W _ _ (flatL R) HGR.out (HWR.out W HBWZ.out)
          have HFIN : Hid (Below w.heap.size w W) := HBD.out.trans (HBWZ.out.mono HBD.out.size)
          have HD := hide hD
          have HSW : Hid (wz.heap.size + 3 ≤ W.heap.size) := h5
          clear h1 h2 h3 h4 h5 hys hn1 HGR HWR HIT hD hB hb2
          gi_wp2_with (first
            | (refine ⟨trivial, ?_⟩; gi_at_call 29; refine (callsIn_wide.2 HEQ2.out).mono ?_; rintro e wf ⟨rfl, hb⟩; have HBF := hide hb; clear HEQ2 hb))
          have hD2 : wf.heap[W2.heap.size]? = some (.deferred (some [])) := (HBF.out.block _ (by have := HS2.out; have := HSW.out; omega)).trans HD.out
          refine ⟨by simp, .inl ⟨_, _, rfl, run_takeDeferred hD2, ?_⟩⟩
          have hoD : Only (· = W2.heap.size) wf (wf.putObj W2.heap.size (.deferred none)) := only_put1 wf _ _ _ rfl
          have hbf : Below w.heap.size w wf := HFIN.out.trans (HBF.out.mono HFIN.out.size)
          refine ⟨_, results_tmp (t := 6) rfl _ _ _, rfl, hbf.trans (hoD.below (by exact hbf.size) (fun j hj e => by have := HS2.out; have := HBZ.out.size; have := HBD.out.size; omega))⟩
        case stop =>
          intro Y cc k W hk h
          exact h.elim
    · have hni : ¬ (i : Int) < (n : Int) := by omega
      have HIE : Hid (i = n) := by have := HII.out; show _ = _; omega
      gi_wp2
      refine ⟨trivial, ?_⟩
      gi_wp2_with (first
        | (refine ⟨trivial, ?_⟩; gi_at_call 28; refine (callsIn_wide.2 (HLE.out wr _ HBR.out (HT12.out.below HBW.out))).mono ?_; rintro e wz ⟨g, u2, rfl, hg, hu2, hb⟩; have hfe := eqlF3 47 #[.pointer (some ⟨g, 0, none⟩)]; have HG := hide hg; have HU2 := hide hu2; have HBZ := hide hb; clear hg hu2 hb))
      have hRL : lettersL (us.take i) = lettersL us := by rw [HIE.out]; rw [List.take_of_length_le HUN.out]
      obtain ⟨R, hR⟩ : ∃ R, lettersL us = R := ⟨_, rfl⟩
      have HRLEN : Hid (R.length ≤ 256 * 8) := by
        have h1 := lettersL_len us HOK.out
        have h2 := HU8.out
        rw [← hR]
        show _ ≤ _
        omega
      have HWR : Hid (∀ W, Below wr.heap.size wr W → RnR W (.slice a8 l8 c8) (flatL R)) := fun W h => by
        have h3 := HO0.out
        rw [hRL, hR] at h3
        exact (h3.read (by rw [flatL_len]; have := HRLEN.out; omega)).below h
      have HIT : Hid (Iter2 Tryd.prog 47 #[.pointer (some ⟨g, 0, none⟩)] encI R (LetV g u2 us)) := by
        rw [← hR]
        exact letters_iter g u2 us HOK.out
      obtain ⟨W2, hW2⟩ : ∃ W2, wz.alloc (.cells #[.slice none 0 0] 47) = W2 := ⟨_, rfl⟩
      rw [hW2]
      have hs2 : W2.heap.size = wz.heap.size + 1 := by rw [← hW2]; simp
      have hB : Blk W2 wz.heap.size 47 [.slice none 0 0] := by rw [← hW2]; exact Blk.new wz _ _
      have hb2 : Below wz.heap.size wz W2 := by rw [← hW2]; exact (Below.refl _ wz).alloc (Nat.le_refl _) _
      clear hfe hRL hR hW2
      refine wp_range6 (gf := 47) (lb := #[.pointer (some ⟨g, 0, none⟩)]) (xs := R) (encs := encI) (V := LetV g u2 us) rfl enters_letters HIT.out (fun _ => rfl) (fun Y k W => GtI wz R Y k W) (fun _ _ _ _ => False) ?_ ?_ ?_ ?_ ?_ ?_ (fun x => { tmps := #[.slice ao n ac, .int .i32 r, .slice bo bn bc, undef, undef, undef, .bool false, .slice a2 n c2, .slice a8 l8 c8, .int .i64 (i : Int), u10, .func (.func 47) #[] #[.pointer (some ⟨g, 0, none⟩)], .pointer (some ⟨wz.heap.size, 0, none⟩), .int .i32 x.1, .int .i32 x.2, .bool true, .bool false, .bool false, .slice ao n ac, .int .i64 (n : Int), .bool (decide (100 < (n : Int))), .bool (decide (100 < (n : Int))), .bool (decide (100 < (n : Int))), .slice bo bn bc, .int .i64 (bn : Int), .bool (decide (500 < (bn : Int))), .bool (decide (100 < (n : Int)) || decide (500 < (bn : Int))), undef, .slice ao n ac, .slice a2 n c2, .slice a2 n c2, .int .i64 E, .slice ao n ac, .int .i64 E, .bool false, .bool false, .slice a2 n c2, .int .i32 r, .int .i32 F, .slice ao n ac, .int .i32 r, .int .i32 F, .bool false, .bool false, .bool false, .slice a2 n c2, .slice bo bn bc, .string S, .slice ao n ac, .slice bo bn bc, .string S, .bool false, .bool false, .bool false, .slice a2 n c2, .slice ao n ac, .bool true, .bool false, .bool false, .bool false, .slice (some ⟨p1, 0, none⟩) 6 6, .slice (some ⟨p2, 0, none⟩) 6 6, .bool true, .bool false, .bool false, .int .i64 (i : Int), .slice ao n ac, .int .i64 (n : Int), .bool false, .bool false, undef, undef, undef, .bool false, u74, u75, u76, u77, u78, u79, u80, u81, u82, u83, u84, u85, u86, u87, u88, u89, u90, u91, u92, u93, u94, u95, u96, u97, u98, u99, u100, u101, u102, u103, .slice a2 n c2, .func (.func 47) #[] #[.pointer (some ⟨g, 0, none⟩)], .func (.func 47) #[] #[.pointer (some ⟨g, 0, none⟩)], .bool false, .func (.func 47) #[] #[.pointer (some ⟨g, 0, none⟩)], .int .i32 x.1, .int .i32 x.2, undef, undef, undef, undef, undef, undef, undef, undef], defers := [] }) ?assign ?body ?done ?stop
      · intro Y k W W' h ho
        exact h.keep (by rw [hs2] at ho; exact ho)
      · intro Y k W W' h ho
        exact h.grow ho
      · intro Y cc k W W' h _
        exact h
      · intro Y cc k W W' h _
        exact h
      · intro Y k W h
        exact ⟨(World.cell?_of_block (w := wz) (a := ⟨g, 0, none⟩) (h.below.block g HG.out.lt)).trans (HG.out.cell 0), HU2.out.below h.below⟩
      · intro W1 ho hs
        refine ⟨⟨_, hB.only ho (fun h => h), ?_, (fun j hj => by cases hj)⟩, hb2.trans ((ho.below (Nat.le_refl _) (fun _ _ h => h)).mono (by omega)), by omega, (fun _ h => h.elim)⟩
        rw [List.take_zero]
        exact World.ownsRow_nil _ _ _ _
      case assign =>
        intro l2 k hk W K hK
        gi_wp2
        exact hK
      case body =>
        rintro l2 Y k hk W ⟨⟨v, h1, h2, h3⟩, h4, h5, hys⟩
        have hsn := take_snoc R k hk
        obtain ⟨⟨x1, x2⟩, hx⟩ : ∃ x, R[k] = x := ⟨_, rfl⟩
        rw [hx] at hsn ⊢
        have c0 : W.cell? ⟨wz.heap.size, 0, none⟩ = some v := h1.cell 0
        have f0 := h1.frozen 0
        have hfl : (flatL (R.take k)).length + 2 ≤ 1000000 := by
          have := HRLEN.out
          rw [flatL_len]
          simp
          omega
        obtain ⟨v2, w3, hr, hi2, hg2, hv2, ao2, cap2, rfl⟩ := run_append_rn (W.alloc (.cells #[.int .i32 x1, .int .i32 x2] 21)) wz.heap.size v _ (h2.only ((Only.refl (fun _ => False) W).alloc _) (fun _ _ h => h)) x1 x2 W.heap.size (Blk.new W _ _) hfl (by simp; omega)
        have hB2 : Blk w3 wz.heap.size 47 [v] := (hg2.block _ (by simp; omega) (fun e => by have := (h3 _ e.symm).1; omega)).trans (h1.alloc _)
        have c2 : w3.cell? ⟨wz.heap.size, 0, none⟩ = some v := hB2.cell 0
        have f2 := hB2.frozen 0
        have HSN : Hid (flatL (R.take (k + 1)) = flatL (R.take k) ++ [x1, x2]) := by
          show _ = _
          rw [hsn, flatL_snoc]
        obtain ⟨ao1, cap1, hv1⟩ := h2.shape
        have HR := hide hr
        have HI2 := hide hi2
        have HG2 := hide hg2
        have HV2 := hide hv2
        have HB2 := hide hB2
        have H3 := hide h3
        have H4 := hide h4
        have HYS := hide hys
        obtain ⟨n1, hn1⟩ : ∃ m, (flatL (R.take k)).length = m := ⟨_, rfl⟩
        rw [hn1] at hv1 HR HI2 HV2
        subst hv1
        clear hr hi2 hg2 hv2 hB2 h1 h2 h3 h4 hx hys hn1 hsn hfl hB hb2 HWR HIT
        gi_wp2_with (first
          | (gi_at_builtin; (with_reducible refine wpListIn_append_run _ rfl (.tmp 111) (.tmp 114) 47 rfl _ _ ?_ ?_ _ _ HR.out ?_); exact rfl; exact rfl; clear HR))
        have hoA : Only (fun j => (Value.slice ao1 n1 cap1).ownBlock = some j) W w3 := ((Only.refl _ W).alloc _).grown HG2.out (fun j e _ => e)
        have hoB : Only (· = wz.heap.size) w3 (w3.setCell ⟨wz.heap.size, 0, none⟩ (.slice ao2 (n1 + 2) cap2)) := (Only.refl (· = wz.heap.size) w3).setCell ⟨wz.heap.size, 0, none⟩ _ (fun _ => rfl)
        have hv3 : ∀ j, (Value.slice ao2 (n1 + 2) cap2).ownBlock = some j → wz.heap.size + 3 ≤ j ∧ ¬ Y j := fun j hj => by
          rcases HV2.out with e | e
          · exact H3.out j (e ▸ hj)
          · rw [e] at hj
            have hj2 := Option.some.inj hj
            simp at hj2
            exact ⟨by omega, fun hy => by have := (HYS.out j hy).2; omega⟩
        refine ⟨?_, ?_, ⟨_, HB2.out.set 0 _, ?_, hv3⟩, ?_, ?_, ?_⟩
        · refine (Keeps2.of_only hoA ?_ ?_).trans (Keeps2.of_only hoB (by omega) (by omega))
          · intro e; have := (H3.out _ e).1; omega
          · intro e; have := (H3.out _ e).1; omega
        · intro j hj
          have hjs := HYS.out j hj
          exact (hoB.block j (by have := hoA.size; omega) (by omega)).trans (hoA.block j hjs.2 (fun e => (H3.out j e).2 hj))
        · rw [HSN.out]
          exact HI2.out.only hoB (fun j hj e => by have := (hv3 j hj).1; omega)
        · refine (H4.out.trans (hoA.below (by omega) (fun j hj e => by have := (H3.out j e).1; omega))).trans (hoB.below (by have := hoA.size; omega) (fun j hj e => by omega))
        · have := hoA.size
          have := hoB.size
          omega
        · intro j hj
          have := hoA.size
          have := hoB.size
          have hjs := HYS.out j hj
          exact ⟨hjs.1, by omega⟩
      case done =>
        rintro Y W ⟨⟨v, h1, h2, h3⟩, h4, h5, hys⟩ hD
        have HS2 := hide hs2
        clear hs2
        rw [List.take_of_length_le (Nat.le_refl _)] at h2
        have c0 : W.cell? ⟨wz.heap.size, 0, none⟩ = some v := h1.cell 0
        have HGR := hide (h2.read (by rw [flatL_len]; have := HRLEN.out; omega))
        obtain ⟨ao1, cap1, hv1⟩ := h2.shape
        obtain ⟨n1, hn1⟩ : ∃ m, (flatL R).length = m := ⟨_, rfl⟩
        rw [hn1] at hv1
        subst hv1
        have HBWZ := hide (HBZ.out.trans (h4.mono HBZ.out.size))
        have HEQ2 : Hid (Calls Tryd.prog 29 #[.slice ao1 n1 cap1, .slice a8 l8 c8] W fun e w' => e = .returned (.bool true) ∧ Below W.heap.size W w') := equalR_same W _ _ (flatL R) HGR.out (HWR.out W HBWZ.out)
        have HFIN : Hid (Below w.heap.size w W) := HBR.out.trans (HBWZ.out.mono HBR.out.size)
        have HD := hide hD
        have HSW : Hid (wz.heap.size + 3 ≤ W.heap.size) := h5
        clear h1 h2 h3 h4 h5 hys hn1 HGR HWR HIT hD hB hb2
        gi_wp2_with (first
          | (refine ⟨trivial, ?_⟩; gi_at_call 29; refine (callsIn_wide.2 HEQ2.out).mono ?_; rintro e wf ⟨rfl, hb⟩; have HBF := hide hb; clear HEQ2 hb))
        have hD2 : wf.heap[W2.heap.size]? = some (.deferred (some [])) := (HBF.out.block _ (by have := HS2.out; have := HSW.out; omega)).trans HD.out
        refine ⟨by simp, .inl ⟨_, _, rfl, run_takeDeferred hD2, ?_⟩⟩
        have hoD : Only (· = W2.heap.size) wf (wf.putObj W2.heap.size (.deferred none)) := only_put1 wf _ _ _ rfl
        have hbf : Below w.heap.size w wf := HFIN.out.trans (HBF.out.mono HFIN.out.size)
        refine ⟨_, results_tmp (t := 6) rfl _ _ _, rfl, hbf.trans (hoD.below (by exact hbf.size) (fun j hj e => by have := HS2.out; have := HBZ.out.size; have := HBR.out.size; omega))⟩
      case stop =>
        intro Y cc k W hk h
        exact h.elim

end Go.Proofs.YtfpphepjkpofiaaDoor
