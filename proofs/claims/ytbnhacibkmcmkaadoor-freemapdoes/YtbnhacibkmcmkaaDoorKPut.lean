/- Contract: package freemap's Put. -/
import Derived.Test.YtbnhacibkmcmkaaDoorKOpen
import Derived.Test.YtbnhacibkmcmkaaDoorKBits
import Derived.Test.YtbnhacibkmcmkaaDoorRegionL
namespace Go.Proofs.YtbnhacibkmcmkaaDoor
set_option maxRecDepth 20000
open Go.RowKit
set_option linter.unusedVariables false
set_option maxRecDepth 100000

abbrev bv (zs : List Int) : List Value := zs.map (Value.int .u8)
/-- 240 bytes of the call's own, at block g -/
abbrev pgv (g : Nat) : Value := .slice (some ⟨g, 0, none⟩) 240 240
theorem sl_pg {w : World} {g : Nat} {zs : List Int} (hb : ByteOk zs) (hl : zs.length = 240) (h : Blk w g 5 (bv zs)) : Sl w (pgv g) zs := by
  refine sl_of_own (base := g) (e := 5) (n := 240) (xs := bv zs) (heap_own h (Nat.le_refl _) (by simp [hl]) (by decide)) hb rfl
theorem bv_get {zs : List Int} (i : Nat) (h : i < zs.length) : (bv zs)[i]? = some (.int .u8 (zs.getD i 0)) := by simp [bv, List.getD, h]
theorem bv_set (zs : List Int) (i : Nat) (x : Int) : (bv zs).set i (.int .u8 x) = bv (zs.set i x) := by simp [bv, List.map_set]
theorem make_pg (wx : World) : (Instr.makeSlice 25 (.int .i64 240) (.int .i64 240)).run Tryd.prog wx = .ok (pgv wx.heap.size) (wx.alloc (.cells (bv (zeros 240)).toArray 5)) := by
  obtain ⟨i0, hi, hz0, hz1, hz2⟩ := info_parts infoU8
  have := run_make (P := Tryd.prog) wx 25 5 i0 (.int .u8 0) Tryd.underlying25 hi hz0 .i64 .i64 240 240 (by omega) (by omega) (by rw [hz2]; omega) (by omega)
  rw [hz1] at this
  have e : madeCells #[Value.int .u8 0] (240 * 1) = (bv (zeros 240)).toArray := by
    apply Array.toList_inj.1
    rw [toList_madeCells_one]
    simp [bv, zeros]
  rw [show (240 : Int).toNat * 1 = 240 * 1 from rfl] at this
  rw [← e]
  exact this

theorem put_bad (w : World) (n : Int) (v : Value) (ks : List Int) (i : Int) (hv : Is w v ks) (h : ¬ (mayB n ks = true ∧ 0 ≤ i ∧ i < needN n)) : Calls Tryd.prog 10 #[.int .i64 n, v, .int .i64 i] w fun e w' => e = .returned (.tuple #[.slice none 0 0, .int .i64 1]) ∧ w' = w := by
  have HM := mayBe_any w n v ks hv
  have HN := hide (need_any w n)
  obtain ⟨ao, cap, rfl⟩ : ∃ ao cap, v = .slice ao ks.length cap := by obtain ⟨ao, cap, h, _⟩ := hv; exact ⟨ao, cap, h⟩
  generalize ks.length = m at *
  cases hm : mayB n ks with
  | false =>
    rw [hm] at HM
    have HM := hide HM
    clear hv h hm
    go_enter Tryd.func10, Tryd.ntmps10
    go_wp2_with (go_at_call 38; refine HM.out.mono ?_; rintro e w2 ⟨rfl, hw⟩; subst w2; clear HM)
    go_ret2
    exact ⟨rfl, rfl⟩
  | true =>
    rw [hm] at HM h
    have HM := hide HM
    generalize needN n = N at *
    by_cases h0 : i < 0
    · clear hv h hm
      go_enter Tryd.func10, Tryd.ntmps10
      go_wp2_with (go_at_call 38; refine HM.out.mono ?_; rintro e w2 ⟨rfl, hw⟩; subst w2; clear HM)
      go_ret2
      exact ⟨rfl, rfl⟩
    · have h1 : N ≤ i := by
        rcases Int.lt_or_le i N with hlt | hle
        · exact absurd ⟨rfl, by omega, hlt⟩ h
        · exact hle
      clear hv h hm
      go_enter Tryd.func10, Tryd.ntmps10
      go_wp2_with (first
        | (go_at_call 38; refine HM.out.mono ?_; rintro e w2 ⟨rfl, hw⟩; subst w2; clear HM)
        | (go_at_call 14; refine HN.out.mono ?_; rintro e w2 ⟨rfl, hw⟩; subst w2; clear HN))
      go_ret2
      exact ⟨rfl, rfl⟩

theorem shl8 (R : Nat) (h : R < 8) : IntKind.u8.wrap ((2 ^ R : Nat) : Int) = ((2 ^ R : Nat) : Int) := by
  have : 2 ^ R < 2 ^ 8 := Nat.pow_lt_pow_right (by decide) h
  generalize 2 ^ R = X at *
  rw [IntKind.wrap_u8]; omega

set_option maxHeartbeats 2000000 in
theorem put_ok (w : World) (n : Nat) (v : Value) (ks : List Int) (i : Nat) (hv : Is w v ks) (hm : mayB n ks = true) (hi : (i : Int) < needN n) : Calls Tryd.prog 10 #[.int .i64 n, v, .int .i64 i] w fun e w' => e = .returned (.tuple #[pgv w.heap.size, .int .i64 0]) ∧ Blk w' w.heap.size 5 (bv (putS i ks)) ∧ Below w.heap.size w w' := by
  have HM := mayBe_any w n v ks hv
  rw [hm] at HM
  have HM := hide HM
  rw [mayB, Bool.and_eq_true, sizeB_iff] at hm
  have HN := hide (need_any w n)
  obtain ⟨ao, cap, rfl⟩ : ∃ ao cap, v = .slice ao ks.length cap := by obtain ⟨ao, cap, h, _⟩ := hv; exact ⟨ao, cap, h⟩
  obtain ⟨_, hc1, hc2⟩ := hv.cap
  unfold maxLen at hc2
  have HV := hide hv
  obtain ⟨m, hml⟩ : ∃ m, ks.length = m := ⟨_, rfl⟩
  rw [hml] at HV hc1 HM ⊢
  have HML := hide hml
  have HRI := hide hm.2
  have hn2 : n ≤ 2048 := by omega
  generalize needN (n : Int) = N at *
  have hmk := make_pg w
  have hi0 : ¬ (i : Int) < 0 := by omega
  have hiN : ¬ N ≤ (i : Int) := by omega
  clear hv hml hm
  go_enter Tryd.func10, Tryd.ntmps10
  go_wp2_with (first
    | (go_at_call 38; refine HM.out.mono ?_; rintro e w2 ⟨rfl, hw⟩; subst w2; clear HM)
    | (go_at_call 14; refine HN.out.mono ?_; rintro e w2 ⟨rfl, hw⟩; subst w2; clear HN))
  clear hmk
  go_loopg [29] m (fun gg kv wr => ∃ k : Nat, gg + k = m ∧ kv = .int .i64 k ∧ Blk wr w.heap.size 5 (bv (putF i (zeros 240) (ks.take k))) ∧ Below w.heap.size w wr)
  case atStart => exact ⟨0, rfl, rfl, Blk.new w _ _, (Below.refl _ w).alloc (Nat.le_refl _) _⟩
  case round =>
    obtain ⟨k, hk, rfl, hB, hb⟩ := hrel
    have HB := hide hB
    have HBL := hide hb
    cases gk with
    | zero =>
      have hkm : k = m := by omega
      have h3 : ¬ (k : Int) < (m : Int) := by omega
      have HE : Hid (ks.take k = ks) := by show _ = _; rw [hkm]; exact List.take_of_length_le (by rw [HML.out]; exact Nat.le_refl _)
      clear hB hb hkm
      go_wp2
      go_ret2
      have := HB.out
      rw [HE.out] at this
      exact ⟨rfl, this, HBL.out⟩
    | succ gg =>
      have h3 : (k : Int) < (m : Int) := by omega
      have hkl : k < ks.length := by rw [HML.out]; omega
      obtain ⟨b, off, hao, hcell⟩ := Is.at (HV.out.below hb) k hkl
      subst hao
      have hmem := riseB_mem HRI.out (ks.getD k 0) (by rw [getD_lt ks hkl]; exact List.getElem_mem hkl)
      have HSN : Hid (putF i (zeros 240) (ks.take (k + 1)) = putN i (putF i (zeros 240) (ks.take k)) (ks.getD k 0)) := by
        show _ = _
        rw [take_snoc ks k hkl, putF_snoc, getD_lt ks hkl]
      obtain ⟨x, hx⟩ : ∃ x, ks.getD k 0 = x := ⟨_, rfl⟩
      rw [hx] at hcell hmem HSN
      obtain ⟨X, rfl⟩ : ∃ X : Nat, x = X := ⟨x.toNat, by omega⟩
      obtain ⟨bs, hbs⟩ : ∃ bs, putF i (zeros 240) (ks.take k) = bs := ⟨_, rfl⟩
      have hbl : bs.length = 240 := by rw [← hbs, putF_length]; simp [zeros]
      have hbo : ByteOk bs := by rw [← hbs]; exact putF_ok i _ _ (zeros_ok 240)
      rw [hbs] at hB HSN HB
      obtain ⟨D, hD⟩ : ∃ D, X / 1024 = D := ⟨_, rfl⟩
      have hDi : (X : Int) / 1024 = (D : Int) := by omega
      have hD2 : D ≤ 2 := by omega
      by_cases he : D = i
      · have hei : (D : Int) = (i : Int) := by omega
        obtain ⟨Bt, hBt⟩ : ∃ Bt, X % 1024 = Bt := ⟨_, rfl⟩
        have hBti : (X : Int) % 1024 = (Bt : Int) := by omega
        have hBtl : Bt < 1024 := by omega
        obtain ⟨Q, hQ⟩ : ∃ Q, Bt / 8 = Q := ⟨_, rfl⟩
        have hQi : (Bt : Int) / 8 = (Q : Int) := by omega
        have hQl : Q < 128 := by omega
        have hQl2 : (Q : Int) < 240 := by omega
        obtain ⟨R, hR⟩ : ∃ R, Bt % 8 = R := ⟨_, rfl⟩
        have hRi : (Bt : Int) % 8 = (R : Int) := by omega
        have hRl : R < 8 := by omega
        have hQw := wrap_i64_in Q (by omega)
        have hRt : (Bt : Int).tmod 8 = (R : Int) := by rw [Int.tmod_eq_emod_of_nonneg (by omega)]; omega
        have hbg := hbo.get Q
        obtain ⟨X8, hX8⟩ : ∃ X8 : Nat, bs.getD Q 0 = X8 := ⟨(bs.getD Q 0).toNat, by omega⟩
        have hX8l : X8 < 256 := by omega
        obtain ⟨Y8, hY8⟩ : ∃ Y8, 2 ^ R = Y8 := ⟨_, rfl⟩
        have hsh := shl8 R hRl
        have hY8l : Y8 < 256 := by rw [← hY8]; exact (Nat.pow_lt_pow_right (by decide) hRl : 2 ^ R < 2 ^ 8)
        rw [hY8] at hsh
        have hor := u8_or_nat X8 Y8 hX8l hY8l
        obtain ⟨Z8, hZ8⟩ : ∃ Z8, X8 ||| Y8 = Z8 := ⟨_, rfl⟩
        rw [hZ8] at hor
        have HCW : Hid (∀ wx, Only (fun _ => False) wr wx → wx.cell? ⟨w.heap.size, Q, none⟩ = some (.int .u8 (X8 : Int)) ∧ wx.frozen? ⟨w.heap.size, Q, none⟩ = false) := fun wx ho => by
          have hB2 := hB.only ho (fun h => h)
          refine ⟨?_, hB2.frozen _⟩
          rw [hB2.cell, bv_get Q (by omega), hX8]
        have HFIN : Hid (∀ wx, Only (fun _ => False) wr wx → Blk (wx.setCell ⟨w.heap.size, Q, none⟩ (.int .u8 (Z8 : Int))) w.heap.size 5 (bv (putF i (zeros 240) (ks.take (k + 1)))) ∧ Below w.heap.size w (wx.setCell ⟨w.heap.size, Q, none⟩ (.int .u8 (Z8 : Int)))) := fun wx ho => by
          have hB2 := (hB.only ho (fun h => h)).set Q (.int .u8 (Z8 : Int))
          have hoo : Only (· = w.heap.size) wr (wx.setCell ⟨w.heap.size, Q, none⟩ (.int .u8 (Z8 : Int))) := (ho.mono (fun _ _ h => h.elim)).setCell _ _ (fun _ => rfl)
          refine ⟨?_, HBL.out.trans (hoo.below HBL.out.size (fun j hj e => by omega))⟩
          rw [HSN.out, putN, if_pos (by simp; omega)]
          have e : orBit bs (((X : Nat) : Int).toNat % 1024) = bs.set Q (Z8 : Int) := by
            rw [orBit]
            simp only [Int.toNat_natCast]
            rw [hBt, hQ, hR, hX8, hY8]
            simp only [Int.toNat_natCast]
            rw [hZ8]
          rw [e, ← bv_set]
          exact hB2
        have hY8i : (2 : Int) ^ R = (Y8 : Int) := by rw [← hY8]; simp
        clear hB hb hD hBt hQ hR hX8 hY8 hZ8 hbs hbl hbo hbg hkl HSN hmem he hx
        go_wp2
        rw [hBti]
        refine wp_region_only (fun _ => False) [isV (.slice (some ⟨w.heap.size, 0, none⟩) 240 240), isV (.int .i64 (Bt : Int)), isV (.int .i64 (Q : Int)), isV (.pointer (some ⟨w.heap.size, Q, none⟩)), isV (.int .u8 (X8 : Int)), isV (.int .i64 (Bt : Int)), isV (.int .i64 (R : Int)), isV (.int .u8 (Y8 : Int)), isV (.int .u8 (Z8 : Int)), isV (.pointer (some ⟨w.heap.size, Q, none⟩))] 99 51 10 (by kernel_rfl) (by kernel_rfl) (by kernel_rfl) (by kernel_rfl) rfl ?_ ?_ ?_
        · repeat (first | exact trivial | refine allStL_isV ?_)
        · refine ⟨?_, ?_, ?_, ?_, ?_, ?_, ?_, ?_, ?_, ?_, trivial⟩
          · intro act wx h
            have e8 : act.eval (.tmp 8) = .slice (some ⟨w.heap.size, 0, none⟩) 240 240 := h.old 8 (by kernel_rfl)
            have hrel := h.rel
            clear h
            refine gives_by rfl act.eval rfl ?_
            generalize act.eval = ρ at *
            intro hf hc
            go_simp
            exact ⟨relM_quiet (by decide) (Only.refl _ _), rfl⟩
          · intro act wx h
            have e11 : act.eval (.tmp 11) = .int .i64 (Bt : Int) := h.old 11 (by kernel_rfl)
            have hrel := h.rel
            clear h
            refine gives_by rfl act.eval rfl ?_
            generalize act.eval = ρ at *
            intro hf hc
            go_simp
            exact ⟨relM_quiet (by decide) (Only.refl _ _), rfl⟩
          · intro act wx h
            obtain ⟨v40, e40, f40⟩ := h.val 1 40 (by kernel_rfl)
            obtain rfl : v40 = .int .i64 (Bt : Int) := f40
            have hrel := h.rel
            clear h
            refine gives_by rfl act.eval rfl ?_
            generalize act.eval = ρ at *
            intro hf hc
            go_simp
            exact ⟨relM_quiet (by decide) (Only.refl _ _), rfl⟩
          · intro act wx h
            obtain ⟨v39, e39, f39⟩ := h.val 0 39 (by kernel_rfl)
            obtain rfl : v39 = .slice (some ⟨w.heap.size, 0, none⟩) 240 240 := f39
            obtain ⟨v41, e41, f41⟩ := h.val 2 41 (by kernel_rfl)
            obtain rfl : v41 = .int .i64 (Q : Int) := f41
            have hrel := h.rel
            clear h
            refine gives_by rfl act.eval rfl ?_
            generalize act.eval = ρ at *
            intro hf hc
            go_simp
            exact ⟨relM_quiet (by decide) (Only.refl _ _), rfl⟩
          · intro act wx h
            obtain ⟨v42, e42, f42⟩ := h.val 3 42 (by kernel_rfl)
            obtain rfl : v42 = .pointer (some ⟨w.heap.size, Q, none⟩) := f42
            have hrel := h.rel
            clear h
            have cx := (HCW.out wx hrel).1
            refine gives_by rfl act.eval rfl ?_
            generalize act.eval = ρ at *
            intro hf hc
            go_simp
            exact ⟨relM_quiet (by decide) (Only.refl _ _), rfl⟩
          · intro act wx h
            have e11 : act.eval (.tmp 11) = .int .i64 (Bt : Int) := h.old 11 (by kernel_rfl)
            have hrel := h.rel
            clear h
            refine gives_by rfl act.eval rfl ?_
            generalize act.eval = ρ at *
            intro hf hc
            go_simp
            exact ⟨relM_quiet (by decide) (Only.refl _ _), rfl⟩
          · intro act wx h
            obtain ⟨v44, e44, f44⟩ := h.val 5 44 (by kernel_rfl)
            obtain rfl : v44 = .int .i64 (Bt : Int) := f44
            have hrel := h.rel
            clear h
            refine gives_by rfl act.eval rfl ?_
            generalize act.eval = ρ at *
            intro hf hc
            go_simp
            exact ⟨relM_quiet (by decide) (Only.refl _ _), rfl⟩
          · intro act wx h
            obtain ⟨v45, e45, f45⟩ := h.val 6 45 (by kernel_rfl)
            obtain rfl : v45 = .int .i64 (R : Int) := f45
            have hrel := h.rel
            clear h
            refine gives_by rfl act.eval rfl ?_
            generalize act.eval = ρ at *
            intro hf hc
            go_simp
            exact ⟨relM_quiet (by decide) (Only.refl _ _), rfl⟩
          · intro act wx h
            obtain ⟨v43, e43, f43⟩ := h.val 4 43 (by kernel_rfl)
            obtain rfl : v43 = .int .u8 (X8 : Int) := f43
            obtain ⟨v46, e46, f46⟩ := h.val 7 46 (by kernel_rfl)
            obtain rfl : v46 = .int .u8 (Y8 : Int) := f46
            have hrel := h.rel
            clear h
            refine gives_by rfl act.eval rfl ?_
            generalize act.eval = ρ at *
            intro hf hc
            go_simp
            exact ⟨relM_quiet (by decide) (Only.refl _ _), rfl⟩
          · intro act wx h
            obtain ⟨v39, e39, f39⟩ := h.val 0 39 (by kernel_rfl)
            obtain rfl : v39 = .slice (some ⟨w.heap.size, 0, none⟩) 240 240 := f39
            obtain ⟨v41, e41, f41⟩ := h.val 2 41 (by kernel_rfl)
            obtain rfl : v41 = .int .i64 (Q : Int) := f41
            have hrel := h.rel
            clear h
            refine gives_by rfl act.eval rfl ?_
            generalize act.eval = ρ at *
            intro hf hc
            go_simp
            exact ⟨relM_quiet (by decide) (Only.refl _ _), rfl⟩
        · intro oL hoL vals w3 ho3 hv
          simp only [List.getElem?_toArray, List.getElem?_cons_succ, List.getElem?_cons_zero, Option.some.injEq] at hoL
          subst hoL
          have hv8 : vals 8 = .int .u8 (Z8 : Int) := hv 8 47 (by decide) (by kernel_rfl)
          have hv9 : vals 9 = .pointer (some ⟨w.heap.size, Q, none⟩) := hv 9 48 (by decide) (by kernel_rfl)
          clear hv
          generalize hact : putAll _ vals 0 _ = act
          have k1 := (HCW.out w3 ho3).1
          have k2 := (HCW.out w3 ho3).2
          obtain ⟨f1, f2⟩ := HFIN.out w3 ho3
          have HF1 := hide f1
          have HF2 := hide f2
          clear f1 f2
          subst hact
          simp only [List.dropLast, putAll, Act.put, List.setIfInBounds_toArray, List.set_cons_zero, List.set_cons_succ, hv8, hv9]
          refine gives_of_skip rfl (w' := w3.setCell ⟨w.heap.size, Q, none⟩ (.int .u8 (Z8 : Int))) (by go_simp) ?_
          clear k1 k2
          go_wp2
          go_roundg gg
          case measure => omega
          case rel => exact ⟨k + 1, by omega, by go_num, HF1.out, HF2.out⟩
      · have hei : ¬ (D : Int) = (i : Int) := by omega
        have HE : Hid (putF i (zeros 240) (ks.take (k + 1)) = bs) := by
          show _ = _
          rw [HSN.out, putN, if_neg (by simp; omega)]
        clear hB hb hD hbs hbl hbo hkl HSN hmem he hx
        go_wp2
        go_roundg gg
        case measure => omega
        case rel => exact ⟨k + 1, by omega, by go_num, by rw [HE.out]; exact HB.out, HBL.out⟩

end Go.Proofs.YtbnhacibkmcmkaaDoor
