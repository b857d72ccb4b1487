/- Contract: package words' Check. -/
import Derived.Test.YtgeclnnhblffkaaDoorWdChk
namespace Go.Proofs.YtgeclnnhblffkaaDoor
set_option maxRecDepth 20000
open Go.RowKit
set_option linter.unusedVariables false
set_option linter.unusedSimpArgs false
set_option maxRecDepth 100000

set_option maxHeartbeats 1000000 in
theorem checkC_any (w : World) (v : Value) (C : Cn) (h : CnfV w v C) (hok : CnOk C) (hL : Let w) :
    Calls Tryd.prog 15 #[v] w fun e w' => e = .returned (.int .i64 (mayE C)) ∧ Below w.heap.size w w' := by
  obtain ⟨fo, fc, so, sc, w1, rfl, hw1, hb1, hB, hT, hS⟩ := box_cnf w v C h
  have HFC := hide (check_any w1 _ C.fs (hT.below hb1) (hL.below hb1))
  have HSM : Hid (∀ W, Below w1.heap.size w1 W → 1 ≤ C.cap → C.cap ≤ 12 → Calls Tryd.prog 46 #[.agg #[.slice fo C.fs.length fc, .slice so C.ss.length sc, .int .i64 C.cap]] W fun e w' => e = .returned (.bool (stopsB (useL C.fs) C.cap.toNat C.ss)) ∧ Below W.heap.size W w') := fun W hb h1 h2 => by
    have hbb := hb1.trans (hb.mono hb1.size)
    exact stopsMayBe_any W _ C (h.below hbb) hok C.cap.toNat (by omega) (by omega) (hL.below hbb)
  have HB1 := hide hb1
  have HBX := hide hB
  have HE : Hid (mayE C = if (tblB C.fs && decide (1 ≤ C.cap) && decide (C.cap ≤ 12) && stopsB (useL C.fs) C.cap.toNat C.ss) = true then 0 else 140) := rfl
  have HT : Hid (tblE C.fs = if tblB C.fs = true then 0 else 130) := rfl
  have hlo := hok.lo
  have hhi := hok.hi
  have c0 : w1.cell? ⟨w.heap.size, 0, none⟩ = some (.slice fo C.fs.length fc) := hB.cell 0
  generalize tblE C.fs = TE at *
  generalize tblB C.fs = T at *
  generalize stopsB (useL C.fs) C.cap.toNat C.ss = S at *
  generalize mayE C = E at *
  generalize C.fs.length = fn at *
  generalize C.ss.length = sn at *
  generalize C.cap = K at *
  clear h hT hS hB hb1 hL hok
  cases T with
  | false =>
    have ht := HT.out
    rw [if_neg (by simp)] at ht
    subst ht
    have HE2 : Hid (E = 140) := by show _ = _; rw [HE.out]; simp
    clear HSM HE HT
    go_enter Tryd.func15, Tryd.ntmps15
    go_wp2_with (go_at_call 45; refine HFC.out.mono ?_; rintro e w2 ⟨rfl, hb⟩; have HB2 := hide (HB1.out.trans (hb.mono HB1.out.size)); clear HFC hb)
    go_ret
    exact ⟨ret_int HE2.out.symm, HB2.out⟩
  | true =>
    have ht := HT.out
    rw [if_pos rfl] at ht
    subst ht
    by_cases h1 : K < 1
    · have HE2 : Hid (E = 140) := by show _ = _; rw [HE.out, decide_eq_false (show ¬ 1 ≤ K by omega)]; simp
      clear HSM HE HT
      go_enter Tryd.func15, Tryd.ntmps15
      go_wp2_with (go_at_call 45; refine HFC.out.mono ?_; rintro e w2 ⟨rfl, hb⟩; have HB2 := hide (HB1.out.trans (hb.mono HB1.out.size)); have c2 : w2.cell? ⟨w.heap.size, 2, none⟩ = some (.int .i64 K) := (HBX.out.below hb HBX.out.lt).cell 2; clear HFC hb)
      go_ret
      exact ⟨ret_int HE2.out.symm, HB2.out⟩
    · by_cases h2 : 12 < K
      · have HE2 : Hid (E = 140) := by show _ = _; rw [HE.out, decide_eq_false (show ¬ K ≤ 12 by omega)]; simp
        clear HSM HE HT
        go_enter Tryd.func15, Tryd.ntmps15
        go_wp2_with (go_at_call 45; refine HFC.out.mono ?_; rintro e w2 ⟨rfl, hb⟩; have HB2 := hide (HB1.out.trans (hb.mono HB1.out.size)); have c2 : w2.cell? ⟨w.heap.size, 2, none⟩ = some (.int .i64 K) := (HBX.out.below hb HBX.out.lt).cell 2; clear HFC hb)
        go_ret
        exact ⟨ret_int HE2.out.symm, HB2.out⟩
      · have HS2 : Hid (∀ W, Below w1.heap.size w1 W → Calls Tryd.prog 46 #[.agg #[.slice fo fn fc, .slice so sn sc, .int .i64 K]] W fun e w' => e = .returned (.bool S) ∧ Below W.heap.size W w') := fun W hb => HSM.out W hb (by omega) (by omega)
        have HE2 : Hid (E = if S = true then 0 else 140) := by show _ = _; rw [HE.out, decide_eq_true (show 1 ≤ K by omega), decide_eq_true (show K ≤ 12 by omega)]; simp
        clear HSM HE HT
        cases S with
        | true =>
          go_enter Tryd.func15, Tryd.ntmps15
          go_wp2_with (first
            | (go_at_call 45; refine HFC.out.mono ?_; rintro e w2 ⟨rfl, hb⟩; have HB2 := hide (HB1.out.trans (hb.mono HB1.out.size)); have HM := hide hb; have hBx := HBX.out.below hb HBX.out.lt; have c0 : w2.cell? ⟨w.heap.size, 0, none⟩ = some (.slice fo fn fc) := hBx.cell 0; have c1 : w2.cell? ⟨w.heap.size, 1, none⟩ = some (.slice so sn sc) := hBx.cell 1; have c2 : w2.cell? ⟨w.heap.size, 2, none⟩ = some (.int .i64 K) := hBx.cell 2; clear HFC hb hBx)
            | (go_at_call 46; refine (HS2.out w2 HM.out).mono ?_; rintro e w3 ⟨rfl, hb⟩; have HB3 := hide (HB2.out.trans (hb.mono HB2.out.size)); clear HS2 hb))
          go_ret
          exact ⟨ret_int (by rw [HE2.out]; rfl), HB3.out⟩
        | false =>
          go_enter Tryd.func15, Tryd.ntmps15
          go_wp2_with (first
            | (go_at_call 45; refine HFC.out.mono ?_; rintro e w2 ⟨rfl, hb⟩; have HB2 := hide (HB1.out.trans (hb.mono HB1.out.size)); have HM := hide hb; have hBx := HBX.out.below hb HBX.out.lt; have c0 : w2.cell? ⟨w.heap.size, 0, none⟩ = some (.slice fo fn fc) := hBx.cell 0; have c1 : w2.cell? ⟨w.heap.size, 1, none⟩ = some (.slice so sn sc) := hBx.cell 1; have c2 : w2.cell? ⟨w.heap.size, 2, none⟩ = some (.int .i64 K) := hBx.cell 2; clear HFC hb hBx)
            | (go_at_call 46; refine (HS2.out w2 HM.out).mono ?_; rintro e w3 ⟨rfl, hb⟩; have HB3 := hide (HB2.out.trans (hb.mono HB2.out.size)); clear HS2 hb))
          go_ret
          exact ⟨ret_int (by rw [HE2.out]; rfl), HB3.out⟩

end Go.Proofs.YtgeclnnhblffkaaDoor
