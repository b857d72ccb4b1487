/- Contract: package extent's Not. -/
import Derived.Test.YtbnhacibkmcmkaaDoorETurn
namespace Go.Proofs.YtbnhacibkmcmkaaDoor
set_option maxRecDepth 20000
open Go.RowKit
set_option linter.unusedVariables false

/-- what is not in it -/
def ntF (n : Nat) (f : Nat → Bool) : Nat → Bool := fun p => decide (p < n) && !f p
/-- up to word j -/
def upTo (g : Nat → Bool) (j : Nat) : Nat → Bool := fun p => decide (p < 64 * j) && g p
theorem upTo_set (n : Nat) (g : Nat → Bool) (j : Nat) (hj : j < 32) : (sc n (upTo g j)).set (1 + j) (.int .u64 (word g j : Nat)) = sc n (upTo g (j + 1)) := by
  rw [Nat.add_comm]
  unfold sc
  rw [List.set_cons_succ]
  congr 1
  apply List.ext_getElem?
  intro i
  by_cases hi : i < 32
  · rw [List.getElem?_set]
    by_cases he : j = i
    · subst he
      have : word (upTo g (j + 1)) j = word g j := word_ext (fun r hr => by simp only [upTo]; rw [decide_eq_true (by omega)]; simp)
      simp [hi, this]
    · rw [if_neg he]
      have : word (upTo g (j + 1)) i = word (upTo g j) i := word_ext (fun r hr => by
        simp only [upTo]
        by_cases h : 64 * i + r < 64 * j
        · rw [decide_eq_true h, decide_eq_true (by omega)]
        · rw [decide_eq_false h, decide_eq_false (by omega)])
      simp [hi, this]
  · rw [List.getElem?_eq_none (by simp; omega), List.getElem?_eq_none (by simp; omega)]
theorem not_word (n : Nat) (f : Nat → Bool) (j : Nat) : (18446744073709551615 ^^^ word f j) &&& (2 ^ (min (n - 64 * j) 64) - 1) = word (ntF n f) j := by
  have hw := word_lt f j
  have hlt : 18446744073709551615 ^^^ word f j < 2 ^ 64 := Nat.xor_lt_two_pow (by decide) hw
  refine word_of (Nat.lt_of_le_of_lt Nat.and_le_left hlt) (fun r hr => ?_)
  have e1 : (18446744073709551615 : Nat).testBit r = true := by
    rw [show (18446744073709551615 : Nat) = 2 ^ 64 - 1 from rfl, Nat.testBit_two_pow_sub_one]; simp [hr]
  rw [Nat.testBit_and, Nat.testBit_xor, e1, word_bit f j r hr, Nat.testBit_two_pow_sub_one, ntF]
  by_cases h : 64 * j + r < n
  · rw [decide_eq_true h, decide_eq_true (show r < min (n - 64 * j) 64 by omega)]; simp
  · rw [decide_eq_false h, decide_eq_false (show ¬ r < min (n - 64 * j) 64 by omega)]; simp
section
variable (w : World) (b n : Nat) (f : Nat → Bool)
theorem not_nil : Calls Tryd.prog 61 #[.pointer none] w fun e w' => e = .returned (.pointer none) ∧ w' = w := by
  have HM := hide (made_nil w)
  go_enter Tryd.func61, Tryd.ntmps61
  go_wp2_with (go_at_call 62; refine HM.out.mono ?_; rintro e w1 ⟨rfl, hw⟩; subst w1; clear HM)
  go_ret
  exact ⟨rfl, rfl⟩
theorem not_zero (c0 : w.cell? ⟨b, 0, none⟩ = some (.int .i64 0)) : Calls Tryd.prog 61 #[dp b] w fun e w' => e = .returned (.pointer none) ∧ w' = w := by
  have HM := hide (made_cell w b 0 c0)
  go_enter Tryd.func61, Tryd.ntmps61
  go_wp2_with (go_at_call 62; refine HM.out.mono ?_; rintro e w1 ⟨rfl, hw⟩; subst w1; clear HM)
  go_ret
  exact ⟨rfl, rfl⟩
set_option maxHeartbeats 1000000 in
theorem not_any (h : SetB w b n f) : Calls Tryd.prog 61 #[dp b] w fun e w' => e = .returned (dp w.heap.size) ∧ SetB w' w.heap.size n (ntF n f) ∧ Below w.heap.size w w' := by
  have HM := made_cell w b n h.c0
  rw [decide_eq_true (show 0 < n from h.lo)] at HM
  have HM := hide HM
  have c0 := h.c0
  have HX := hide h
  have hn := h.hi
  have HS0 := hide (sc_zero n)
  clear h
  go_enter Tryd.func61, Tryd.ntmps61
  go_wp2_with (go_at_call 62; refine HM.out.mono ?_; rintro e w1 ⟨rfl, hw⟩; subst w1; clear HM)
  go_loopg [14] 32 (fun g i wr => ∃ j : Nat, g + j = 32 ∧ i = .int .i64 j ∧ Blk wr w.heap.size 81 (sc n (upTo (ntF n f) j)) ∧ Below w.heap.size w wr)
  case atStart =>
    refine ⟨0, rfl, rfl, ?_, (Below.refl _ w).alloc (Nat.le_refl _) _⟩
    have e : upTo (ntF n f) 0 = fun _ => false := by funext p; simp [upTo]
    rw [e, HS0.out]
    exact Blk.new w _ _
  case round =>
    obtain ⟨j, hj, rfl, hB, hbw⟩ := hrel
    have HB0 := hide hB
    have HBW := hide hbw
    clear hB hbw c0
    cases gk with
    | zero =>
      obtain rfl : j = 32 := by omega
      go_wp2
      go_ret
      refine ⟨rfl, ⟨?_, HX.out.lo, HX.out.hi, fun p hp => by simp [ntF, show ¬ p < n by omega]⟩, HBW.out⟩
      have e : upTo (ntF n f) 32 = ntF n f := by
        funext p
        simp only [upTo, ntF]
        by_cases hp : p < n
        · rw [decide_eq_true (show p < 64 * 32 by omega)]; simp
        · simp [hp]
      have := HB0.out
      rw [e] at this
      exact this
    | succ k =>
      have hji : (j : Int) < 32 := by omega
      have hjn : j < 32 := by omega
      have HX1 := hide (HX.out.below HBW.out)
      have HCW : Hid (∀ wx, Only (fun _ => False) wr wx → wx.cell? ⟨b, 1 + j, none⟩ = some (.int .u64 (word f j : Nat)) ∧ wx.cell? ⟨b, 0, none⟩ = some (.int .i64 n) ∧ (∃ u, wx.cell? ⟨w.heap.size, 1 + j, none⟩ = some (.int .u64 u)) ∧ wx.frozen? ⟨w.heap.size, 1 + j, none⟩ = false) := fun wx ho => by
        have hs := HX1.out.only ho (fun h => h)
        have hb := HB0.out.only ho (fun h => h)
        exact ⟨hs.cw j hjn, hs.c0, ⟨_, (hb.cell _).trans (sc_get _ _ j hjn)⟩, hb.frozen _⟩
      obtain ⟨X, hX⟩ : ∃ X, 18446744073709551615 ^^^ word f j = X := ⟨_, rfl⟩
      have hXl : X < 18446744073709551616 := by rw [← hX]; exact Nat.xor_lt_two_pow (n := 64) (by decide) (word_lt f j)
      have hxor : bits .xor .u64 IntKind.u64.max (word f j : Int) = (X : Int) := by
        rw [show IntKind.u64.max = ((18446744073709551615 : Nat) : Int) from rfl, u64_xor_nat _ _ (by decide) (word_lt f j), hX]
      have hsg : IntKind.u64.signed = false := rfl
      obtain ⟨Y, hY⟩ : ∃ Y, j * 64 = Y := ⟨_, rfl⟩
      have hYi : (j : Int) * 64 = (Y : Int) := by omega
      have hYw := wrap_i64_in Y (by omega)
      obtain ⟨Zi, hZ⟩ : ∃ Zi, (n : Int) - (Y : Int) = Zi := ⟨_, rfl⟩
      have hZw : IntKind.i64.wrap Zi = Zi := by rw [IntKind.wrap_i64]; omega
      have hbl := fun wx => below_any wx Zi
      have hm : min Zi.toNat 64 = min (n - 64 * j) 64 := by omega
      simp only [hm] at hbl
      have hpl : 2 ^ (min (n - 64 * j) 64) ≤ 2 ^ 64 := Nat.pow_le_pow_right (by decide) (by omega)
      have hpp : 0 < 2 ^ (min (n - 64 * j) 64) := Nat.two_pow_pos _
      obtain ⟨Bl, hBl⟩ : ∃ Bl, 2 ^ (min (n - 64 * j) 64) - 1 = Bl := ⟨_, rfl⟩
      have hand := u64_and_nat X Bl hXl (by omega)
      have hwd := not_word n f j
      rw [hX, hBl] at hwd
      rw [hwd] at hand
      rw [hBl] at hbl
      have HB := hide hbl
      have hset := upTo_set n (ntF n f) j hjn
      obtain ⟨Z, hZZ⟩ : ∃ Z, word (ntF n f) j = Z := ⟨_, rfl⟩
      rw [hZZ] at hand hset
      have HSET := hide hset
      obtain ⟨K, hK⟩ : ∃ K, word f j = K := ⟨_, rfl⟩
      rw [hK] at HCW hxor
      clear hX hXl hY hbl hm hpl hpp hBl hwd hset hZZ hK
      go_wp2
      refine wp_region_only (fun _ => False) [isV (.pointer (some ⟨w.heap.size, 0, none⟩)), isV (.int .i64 (j : Int)), isV (.pointer (some ⟨b, 0, none⟩)), isV (.int .i64 (j : Int)), isV (.pointer (some ⟨b, 0, none⟩)), isV (.pointer (some ⟨b, 1, none⟩)), isV (.pointer (some ⟨b, 1 + j, none⟩)), isV (.int .u64 (K : Int)), isV (.int .u64 (X : Int)), isV (.pointer (some ⟨b, 0, none⟩)), isV (.pointer (some ⟨b, 0, none⟩)), isV (.pointer (some ⟨b, 0, none⟩)), isV (.int .i64 (n : Int)), isV (.int .i64 (j : Int)), isV (.int .i64 (Y : Int)), isV (.int .i64 Zi), isV (.int .u64 (Bl : Int)), isV (.int .u64 (Z : Int)), isV (.pointer (some ⟨w.heap.size, 0, none⟩)), isV (.pointer (some ⟨w.heap.size, 1, none⟩)), isV (.pointer (some ⟨w.heap.size, 1 + j, none⟩))] 99 40 21 (by kernel_rfl) (by kernel_rfl) (by kernel_rfl) (by kernel_rfl) rfl ?_ ?_ ?_
      · repeat (first | exact trivial | refine allStL_isV ?_)
      · refine ⟨?_, ?_, ?_, ?_, ?_, ?_, ?_, ?_, ?_, ?_, ?_, ?_, ?_, ?_, ?_, ?_, ?_, ?_, ?_, ?_, ?_, trivial⟩
        · intro act wx h
          have e3 : act.eval (.tmp 3) = .pointer (some ⟨w.heap.size, 0, none⟩) := h.old 3 (by kernel_rfl)
          have hrel := h.rel
          clear h
          refine gives_by rfl act.eval rfl ?_
          generalize act.eval = ρ at *
          intro hf hc
          go_simp
          exact ⟨relM_quiet (by decide) (Only.refl _ _), rfl⟩
        · intro act wx h
          have e4 : act.eval (.tmp 4) = .int .i64 (j : Int) := h.old 4 (by kernel_rfl)
          have hrel := h.rel
          clear h
          refine gives_by rfl act.eval rfl ?_
          generalize act.eval = ρ at *
          intro hf hc
          go_simp
          exact ⟨relM_quiet (by decide) (Only.refl _ _), rfl⟩
        · intro act wx h
          have e0 : act.eval (.tmp 0) = .pointer (some ⟨b, 0, none⟩) := h.old 0 (by kernel_rfl)
          have hrel := h.rel
          clear h
          refine gives_by rfl act.eval rfl ?_
          generalize act.eval = ρ at *
          intro hf hc
          go_simp
          exact ⟨relM_quiet (by decide) (Only.refl _ _), rfl⟩
        · intro act wx h
          have e4 : act.eval (.tmp 4) = .int .i64 (j : Int) := h.old 4 (by kernel_rfl)
          have hrel := h.rel
          clear h
          refine gives_by rfl act.eval rfl ?_
          generalize act.eval = ρ at *
          intro hf hc
          go_simp
          exact ⟨relM_quiet (by decide) (Only.refl _ _), rfl⟩
        · intro act wx h
          obtain ⟨v19, e19, f19⟩ := h.val 2 19 (by kernel_rfl)
          obtain rfl : v19 = .pointer (some ⟨b, 0, none⟩) := f19
          have hrel := h.rel
          clear h
          refine gives_by rfl act.eval rfl ?_
          generalize act.eval = ρ at *
          intro hf hc
          go_simp
          exact ⟨relM_quiet (by decide) (Only.refl _ _), rfl⟩
        · intro act wx h
          obtain ⟨v21, e21, f21⟩ := h.val 4 21 (by kernel_rfl)
          obtain rfl : v21 = .pointer (some ⟨b, 0, none⟩) := f21
          have hrel := h.rel
          clear h
          refine gives_by rfl act.eval rfl ?_
          generalize act.eval = ρ at *
          intro hf hc
          go_simp
          exact ⟨relM_quiet (by decide) (Only.refl _ _), rfl⟩
        · intro act wx h
          obtain ⟨v22, e22, f22⟩ := h.val 5 22 (by kernel_rfl)
          obtain rfl : v22 = .pointer (some ⟨b, 1, none⟩) := f22
          obtain ⟨v20, e20, f20⟩ := h.val 3 20 (by kernel_rfl)
          obtain rfl : v20 = .int .i64 (j : Int) := f20
          have hrel := h.rel
          clear h
          refine gives_by rfl act.eval rfl ?_
          generalize act.eval = ρ at *
          intro hf hc
          go_simp
          exact ⟨relM_quiet (by decide) (Only.refl _ _), rfl⟩
        · intro act wx h
          obtain ⟨v23, e23, f23⟩ := h.val 6 23 (by kernel_rfl)
          obtain rfl : v23 = .pointer (some ⟨b, 1 + j, none⟩) := f23
          have hrel := h.rel
          clear h
          have cx := (HCW.out wx hrel).1
          refine gives_by rfl act.eval rfl ?_
          generalize act.eval = ρ at *
          intro hf hc
          go_simp
          exact ⟨relM_quiet (by decide) (Only.refl _ _), rfl⟩
        · intro act wx h
          obtain ⟨v24, e24, f24⟩ := h.val 7 24 (by kernel_rfl)
          obtain rfl : v24 = .int .u64 (K : Int) := f24
          have hrel := h.rel
          clear h
          refine gives_by rfl act.eval rfl ?_
          generalize act.eval = ρ at *
          intro hf hc
          go_simp
          exact ⟨relM_quiet (by decide) (Only.refl _ _), rfl⟩
        · intro act wx h
          have e0 : act.eval (.tmp 0) = .pointer (some ⟨b, 0, none⟩) := h.old 0 (by kernel_rfl)
          have hrel := h.rel
          clear h
          refine gives_by rfl act.eval rfl ?_
          generalize act.eval = ρ at *
          intro hf hc
          go_simp
          exact ⟨relM_quiet (by decide) (Only.refl _ _), rfl⟩
        · intro act wx h
          obtain ⟨v26, e26, f26⟩ := h.val 9 26 (by kernel_rfl)
          obtain rfl : v26 = .pointer (some ⟨b, 0, none⟩) := f26
          have hrel := h.rel
          clear h
          refine gives_by rfl act.eval rfl ?_
          generalize act.eval = ρ at *
          intro hf hc
          go_simp
          exact ⟨relM_quiet (by decide) (Only.refl _ _), rfl⟩
        · intro act wx h
          obtain ⟨v27, e27, f27⟩ := h.val 10 27 (by kernel_rfl)
          obtain rfl : v27 = .pointer (some ⟨b, 0, none⟩) := f27
          have hrel := h.rel
          clear h
          refine gives_by rfl act.eval rfl ?_
          generalize act.eval = ρ at *
          intro hf hc
          go_simp
          exact ⟨relM_quiet (by decide) (Only.refl _ _), rfl⟩
        · intro act wx h
          obtain ⟨v28, e28, f28⟩ := h.val 11 28 (by kernel_rfl)
          obtain rfl : v28 = .pointer (some ⟨b, 0, none⟩) := f28
          have hrel := h.rel
          clear h
          have cx := (HCW.out wx hrel).2.1
          refine gives_by rfl act.eval rfl ?_
          generalize act.eval = ρ at *
          intro hf hc
          go_simp
          exact ⟨relM_quiet (by decide) (Only.refl _ _), rfl⟩
        · intro act wx h
          have e4 : act.eval (.tmp 4) = .int .i64 (j : Int) := h.old 4 (by kernel_rfl)
          have hrel := h.rel
          clear h
          refine gives_by rfl act.eval rfl ?_
          generalize act.eval = ρ at *
          intro hf hc
          go_simp
          exact ⟨relM_quiet (by decide) (Only.refl _ _), rfl⟩
        · intro act wx h
          obtain ⟨v30, e30, f30⟩ := h.val 13 30 (by kernel_rfl)
          obtain rfl : v30 = .int .i64 (j : Int) := f30
          have hrel := h.rel
          clear h
          refine gives_by rfl act.eval rfl ?_
          generalize act.eval = ρ at *
          intro hf hc
          go_simp
          exact ⟨relM_quiet (by decide) (Only.refl _ _), rfl⟩
        · intro act wx h
          obtain ⟨v29, e29, f29⟩ := h.val 12 29 (by kernel_rfl)
          obtain rfl : v29 = .int .i64 (n : Int) := f29
          obtain ⟨v31, e31, f31⟩ := h.val 14 31 (by kernel_rfl)
          obtain rfl : v31 = .int .i64 (Y : Int) := f31
          have hrel := h.rel
          clear h
          refine gives_by rfl act.eval rfl ?_
          generalize act.eval = ρ at *
          intro hf hc
          go_simp
          exact ⟨relM_quiet (by decide) (Only.refl _ _), rfl⟩
        · intro act wx h
          obtain ⟨v32, e32, f32⟩ := h.val 15 32 (by kernel_rfl)
          obtain rfl : v32 = .int .i64 Zi := f32
          have hrel := h.rel
          clear h
          refine gives_by rfl act.eval rfl ?_
          generalize act.eval = ρ at *
          intro hf hc
          go_simp
          refine (HB.out wx).mono ?_
          rintro e wy ⟨rfl, hw⟩
          subst wy
          exact ⟨_, rfl, relM_quiet (by decide) (Only.refl _ _), rfl⟩
        · intro act wx h
          obtain ⟨v25, e25, f25⟩ := h.val 8 25 (by kernel_rfl)
          obtain rfl : v25 = .int .u64 (X : Int) := f25
          obtain ⟨v33, e33, f33⟩ := h.val 16 33 (by kernel_rfl)
          obtain rfl : v33 = .int .u64 (Bl : Int) := f33
          have hrel := h.rel
          clear h
          refine gives_by rfl act.eval rfl ?_
          generalize act.eval = ρ at *
          intro hf hc
          go_simp
          exact ⟨relM_quiet (by decide) (Only.refl _ _), rfl⟩
        · intro act wx h
          obtain ⟨v17, e17, f17⟩ := h.val 0 17 (by kernel_rfl)
          obtain rfl : v17 = .pointer (some ⟨w.heap.size, 0, none⟩) := f17
          have hrel := h.rel
          clear h
          refine gives_by rfl act.eval rfl ?_
          generalize act.eval = ρ at *
          intro hf hc
          go_simp
          exact ⟨relM_quiet (by decide) (Only.refl _ _), rfl⟩
        · intro act wx h
          obtain ⟨v35, e35, f35⟩ := h.val 18 35 (by kernel_rfl)
          obtain rfl : v35 = .pointer (some ⟨w.heap.size, 0, none⟩) := f35
          have hrel := h.rel
          clear h
          refine gives_by rfl act.eval rfl ?_
          generalize act.eval = ρ at *
          intro hf hc
          go_simp
          exact ⟨relM_quiet (by decide) (Only.refl _ _), rfl⟩
        · intro act wx h
          obtain ⟨v36, e36, f36⟩ := h.val 19 36 (by kernel_rfl)
          obtain rfl : v36 = .pointer (some ⟨w.heap.size, 1, none⟩) := f36
          obtain ⟨v18, e18, f18⟩ := h.val 1 18 (by kernel_rfl)
          obtain rfl : v18 = .int .i64 (j : Int) := f18
          have hrel := h.rel
          clear h
          refine gives_by rfl act.eval rfl ?_
          generalize act.eval = ρ at *
          intro hf hc
          go_simp
          exact ⟨relM_quiet (by decide) (Only.refl _ _), rfl⟩
      · intro oL hoL vals w3 ho3 hv
        simp only [List.getElem?_toArray, List.getElem?_cons_succ, List.getElem?_cons_zero, Option.some.injEq] at hoL
        subst hoL
        have hv17 : vals 17 = .int .u64 (Z : Int) := hv 17 34 (by decide) (by kernel_rfl)
        have hv20 : vals 20 = .pointer (some ⟨w.heap.size, 1 + j, none⟩) := hv 20 37 (by decide) (by kernel_rfl)
        clear hv
        generalize hact : putAll _ vals 0 _ = act
        have k1 := (HCW.out w3 ho3).2.2.1
        have k2 := (HCW.out w3 ho3).2.2.2
        obtain ⟨u, k1⟩ := k1
        have hB := Blk.set (HB0.out.only ho3 (fun h => h)) (1 + j) (.int .u64 (Z : Int))
        rw [HSET.out] at hB
        have hbb : Below w.heap.size w (w3.setCell ⟨w.heap.size, 1 + j, none⟩ (.int .u64 (Z : Int))) := (HBW.out.trans (ho3.below HBW.out.size (fun _ _ h => h))).setCell (p := ⟨w.heap.size, 1 + j, none⟩) (Nat.le_refl _) _
        have HBN := hide hB
        have HBBN := hide hbb
        clear hB hbb
        subst hact
        simp only [List.dropLast, putAll, Act.put, List.setIfInBounds_toArray, List.set_cons_zero, List.set_cons_succ, hv17, hv20]
        refine gives_of_skip rfl (w' := w3.setCell ⟨w.heap.size, 1 + j, none⟩ (.int .u64 (Z : Int))) (by go_simp) ?_
        clear k1 k2
        generalize w3.setCell ⟨w.heap.size, 1 + j, none⟩ (.int .u64 (Z : Int)) = w4 at *
        go_wp2
        go_roundg k
        case measure => omega
        case rel => exact ⟨j + 1, by omega, by go_num, HBN.out, HBBN.out⟩
end

end Go.Proofs.YtbnhacibkmcmkaaDoor
