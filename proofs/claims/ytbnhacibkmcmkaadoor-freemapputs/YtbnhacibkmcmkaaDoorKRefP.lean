/- Contracts: the document's own Put (incipitref08). -/
import Derived.Test.YtbnhacibkmcmkaaDoorKRefL
import Derived.Test.YtbnhacibkmcmkaaDoorKPut
namespace Go.Proofs.YtbnhacibkmcmkaaDoor
set_option maxRecDepth 20000
open Go.RowKit
set_option linter.unusedVariables false
set_option maxRecDepth 100000

theorem refPut_bad (w : World) (n : Int) (v : Value) (ks : List Int) (i : Int) (hv : Is w v ks) (h : ¬ (mayB n ks = true ∧ 0 ≤ i ∧ i < needN n)) : Calls Tryd.prog 11 #[.int .i64 n, v, .int .i64 i] w fun e w' => e = .returned (.tuple #[.slice none 0 0, .int .i64 1]) ∧ Below w.heap.size w w' := by
  have HM := refMay_any w n
  have HLS := refList_any w n v ks hv
  have HN := hide (fun W => refNeed_any W n)
  obtain ⟨ao, cap, rfl⟩ : ∃ ao cap, v = .slice ao ks.length cap := by obtain ⟨ao, cap, h, _⟩ := hv; exact ⟨ao, cap, h⟩
  generalize ks.length = m at *
  cases hs : sizeB n with
  | false =>
    rw [hs] at HM
    have HM := hide HM
    clear hv h hs HLS
    go_enter Tryd.func11, Tryd.ntmps11
    go_wp2_with (go_at_call 39; refine HM.out.mono ?_; rintro e w2 ⟨rfl, hw⟩; subst w2; clear HM)
    go_ret2
    exact ⟨rfl, Below.refl _ _⟩
  | true =>
    rw [hs] at HM
    have HM := hide HM
    cases hr : riseB n (-1) ks with
    | false =>
      rw [hr] at HLS
      have HLS := hide HLS
      clear hv h hs hr
      go_enter Tryd.func11, Tryd.ntmps11
      go_wp2_with (first
        | (go_at_call 39; refine HM.out.mono ?_; rintro e w2 ⟨rfl, hw⟩; subst w2; clear HM)
        | (go_at_call 27; refine HLS.out.mono ?_; rintro e w2 ⟨rfl, q, hw⟩; subst w2; clear HLS))
      go_ret2
      exact ⟨rfl, belowN w q⟩
    | true =>
      rw [hr] at HLS
      have HLS := hide HLS
      have hm : mayB n ks = true := by rw [mayB, hs, hr]; rfl
      rw [hm] at h
      generalize needN n = N at *
      by_cases h0 : i < 0
      · clear hv h hm hs hr
        go_enter Tryd.func11, Tryd.ntmps11
        go_wp2_with (first
          | (go_at_call 39; refine HM.out.mono ?_; rintro e w2 ⟨rfl, hw⟩; subst w2; clear HM)
          | (go_at_call 27; refine HLS.out.mono ?_; rintro e w2 ⟨rfl, q, hw⟩; subst w2; clear HLS))
        go_ret2
        exact ⟨rfl, belowN w q⟩
      · have h1 : N ≤ i := by
          rcases Int.lt_or_le i N with hlt | hle
          · exact absurd ⟨rfl, by omega, hlt⟩ h
          · exact hle
        clear hv h hm hs hr
        go_enter Tryd.func11, Tryd.ntmps11
        go_wp2_with (first
          | (go_at_call 39; refine HM.out.mono ?_; rintro e w2 ⟨rfl, hw⟩; subst w2; clear HM)
          | (go_at_call 27; refine HLS.out.mono ?_; rintro e w2 ⟨rfl, q, hw⟩; subst w2; clear HLS)
          | (go_at_call 15; refine (HN.out _).mono ?_; rintro e w2 ⟨rfl, hw⟩; subst w2; clear HN))
        go_ret2
        exact ⟨rfl, belowN w q⟩

set_option maxHeartbeats 2000000 in
theorem refPut_ok (w : World) (n : Nat) (v : Value) (ks : List Int) (i : Nat) (hv : Is w v ks) (hm : mayB n ks = true) (hi : (i : Int) < needN n) : Calls Tryd.prog 11 #[.int .i64 n, v, .int .i64 i] w fun e w' => ∃ g, e = .returned (.tuple #[pgv g, .int .i64 0]) ∧ w.heap.size ≤ g ∧ Blk w' g 5 (bv (putS i ks)) ∧ Below w.heap.size w w' := by
  have hm' := hm
  rw [mayB, Bool.and_eq_true] at hm'
  have HM := refMay_any w n
  have HLS := refList_any w n v ks hv
  rw [hm'.1] at HM
  rw [hm'.2] at HLS
  have HM := hide HM
  have HLS := hide HLS
  rw [mayB, Bool.and_eq_true, sizeB_iff] at hm
  have HN := hide (fun W => refNeed_any W n)
  obtain ⟨ao, cap, rfl⟩ : ∃ ao cap, v = .slice ao ks.length cap := by obtain ⟨ao, cap, h, _⟩ := hv; exact ⟨ao, cap, h⟩
  obtain ⟨_, hc1, hc2⟩ := hv.cap
  unfold maxLen at hc2
  have HV := hide hv
  obtain ⟨m, hml⟩ : ∃ m, ks.length = m := ⟨_, rfl⟩
  rw [hml] at HV hc1 HLS ⊢
  have HML := hide hml
  have HRI := hide hm.2
  have hn2 : n ≤ 2048 := by omega
  generalize needN (n : Int) = N at *
  have hmk := make_pg
  have hi0 : ¬ (i : Int) < 0 := by omega
  have hiN : ¬ N ≤ (i : Int) := by omega
  clear hv hml hm hm'
  go_enter Tryd.func11, Tryd.ntmps11
  go_wp2_with (first
    | (go_at_call 39; refine HM.out.mono ?_; rintro e w2 ⟨rfl, hw⟩; subst w2; clear HM)
    | (go_at_call 27; refine HLS.out.mono ?_; rintro e w2 ⟨rfl, q, hw⟩; subst w2; clear HLS)
    | (go_at_call 15; refine (HN.out _).mono ?_; rintro e w2 ⟨rfl, hw⟩; subst w2; clear HN))
  clear hmk
  go_loopg [9] m (fun gg kv wr => ∃ k : Nat, gg + k = m ∧ kv = .int .i64 k ∧ Blk wr w.heap.size 5 (bv (putF i (zeros 240) (ks.take k))) ∧ Below w.heap.size w wr)
  case atStart => exact ⟨0, rfl, rfl, Blk.new (w.drewN q) _ _, (belowN w q).alloc (belowN w q).size _⟩
  case round =>
    obtain ⟨k, hk, rfl, hB, hb⟩ := hrel
    have HB := hide hB
    have HBL := hide hb
    cases gk with
    | zero =>
      have hkm : k = m := by omega
      have h3 : ¬ (k : Int) < (m : Int) := by omega
      have HE : Hid (ks.take k = ks) := by show _ = _; rw [hkm]; exact List.take_of_length_le (by rw [HML.out]; exact Nat.le_refl _)
      clear hB hb hkm
      go_wp2
      go_ret2
      have := HB.out
      rw [HE.out] at this
      exact ⟨_, rfl, Nat.le_refl _, this, HBL.out⟩
    | succ gg =>
      have h3 : (k : Int) < (m : Int) := by omega
      have hkl : k < ks.length := by rw [HML.out]; omega
      obtain ⟨b, off, hao, hcell⟩ := Is.at (HV.out.below hb) k hkl
      subst hao
      have hmem := riseB_mem HRI.out (ks.getD k 0) (by rw [getD_lt ks hkl]; exact List.getElem_mem hkl)
      have HSN : Hid (putF i (zeros 240) (ks.take (k + 1)) = putN i (putF i (zeros 240) (ks.take k)) (ks.getD k 0)) := by
        show _ = _
        rw [take_snoc ks k hkl, putF_snoc, getD_lt ks hkl]
      obtain ⟨x, hx⟩ : ∃ x, ks.getD k 0 = x := ⟨_, rfl⟩
      rw [hx] at hcell hmem HSN
      obtain ⟨X, rfl⟩ : ∃ X : Nat, x = X := ⟨x.toNat, by omega⟩
      obtain ⟨bs, hbs⟩ : ∃ bs, putF i (zeros 240) (ks.take k) = bs := ⟨_, rfl⟩
      have hbl : bs.length = 240 := by rw [← hbs, putF_length]; simp [zeros]
      have hbo : ByteOk bs := by rw [← hbs]; exact putF_ok i _ _ (zeros_ok 240)
      rw [hbs] at hB HSN HB
      obtain ⟨D, hD⟩ : ∃ D, X / 1024 = D := ⟨_, rfl⟩
      have hDi : (X : Int) / 1024 = (D : Int) := by omega
      have hD2 : D ≤ 2 := by omega
      by_cases he : D = i
      · have hei : (D : Int) = (i : Int) := by omega
        obtain ⟨Bt, hBt⟩ : ∃ Bt, X % 1024 = Bt := ⟨_, rfl⟩
        have hBti : (X : Int) % 1024 = (Bt : Int) := by omega
        have hBtl : Bt < 1024 := by omega
        obtain ⟨Q, hQ⟩ : ∃ Q, Bt / 8 = Q := ⟨_, rfl⟩
        have hQi : (Bt : Int) / 8 = (Q : Int) := by omega
        have hQl : Q < 128 := by omega
        have hQl2 : (Q : Int) < 240 := by omega
        obtain ⟨R, hR⟩ : ∃ R, Bt % 8 = R := ⟨_, rfl⟩
        have hRi : (Bt : Int) % 8 = (R : Int) := by omega
        have hRl : R < 8 := by omega
        have hQw := wrap_i64_in Q (by omega)
        have hRt : (Bt : Int).tmod 8 = (R : Int) := by rw [Int.tmod_eq_emod_of_nonneg (by omega)]; omega
        have hbg := hbo.get Q
        obtain ⟨X8, hX8⟩ : ∃ X8 : Nat, bs.getD Q 0 = X8 := ⟨(bs.getD Q 0).toNat, by omega⟩
        have hX8l : X8 < 256 := by omega
        obtain ⟨Y8, hY8⟩ : ∃ Y8, 2 ^ R = Y8 := ⟨_, rfl⟩
        have hsh := shl8 R hRl
        have hY8l : Y8 < 256 := by rw [← hY8]; exact (Nat.pow_lt_pow_right (by decide) hRl : 2 ^ R < 2 ^ 8)
        rw [hY8] at hsh
        have hor := u8_or_nat X8 Y8 hX8l hY8l
        obtain ⟨Z8, hZ8⟩ : ∃ Z8, X8 ||| Y8 = Z8 := ⟨_, rfl⟩
        rw [hZ8] at hor
        have cx : wr.cell? ⟨w.heap.size, Q, none⟩ = some (.int .u8 (X8 : Int)) := by rw [hB.cell, bv_get Q (by omega), hX8]
        have fx := hB.frozen Q
        have HFIN : Hid (Blk (wr.setCell ⟨w.heap.size, Q, none⟩ (.int .u8 (Z8 : Int))) w.heap.size 5 (bv (putF i (zeros 240) (ks.take (k + 1)))) ∧ Below w.heap.size w (wr.setCell ⟨w.heap.size, Q, none⟩ (.int .u8 (Z8 : Int)))) := by
          have hB2 := hB.set Q (.int .u8 (Z8 : Int))
          have hoo : Only (· = w.heap.size) wr (wr.setCell ⟨w.heap.size, Q, none⟩ (.int .u8 (Z8 : Int))) := (Only.refl _ wr).setCell _ _ (fun _ => rfl)
          refine ⟨?_, HBL.out.trans (hoo.below HBL.out.size (fun j hj e => by omega))⟩
          rw [HSN.out, putN, if_pos (by simp; omega)]
          have e : orBit bs (((X : Nat) : Int).toNat % 1024) = bs.set Q (Z8 : Int) := by
            rw [orBit]
            simp only [Int.toNat_natCast]
            rw [hBt, hQ, hR, hX8, hY8]
            simp only [Int.toNat_natCast]
            rw [hZ8]
          rw [e, ← bv_set]
          exact hB2
        have hY8i : (2 : Int) ^ R = (Y8 : Int) := by rw [← hY8]; simp
        clear hB hb hD hBt hQ hR hX8 hY8 hZ8 hbs hbl hbo hbg hkl HSN hmem he hx
        go_wp2
        go_roundg gg
        case measure => omega
        case rel => exact ⟨k + 1, by omega, by go_num, HFIN.out.1, HFIN.out.2⟩
      · have hei : ¬ (D : Int) = (i : Int) := by omega
        have HE : Hid (putF i (zeros 240) (ks.take (k + 1)) = bs) := by
          show _ = _
          rw [HSN.out, putN, if_neg (by simp; omega)]
        clear hB hb hD hbs hbl hbo hkl HSN hmem he hx
        go_wp2
        go_roundg gg
        case measure => omega
        case rel => exact ⟨k + 1, by omega, by go_num, by rw [HE.out]; exact HB.out, HBL.out⟩

end Go.Proofs.YtbnhacibkmcmkaaDoor
