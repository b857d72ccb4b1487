/- Contracts: package words' isOwnTerm, stopsMayBe, Check. -/
import Derived.Test.YtgeclnnhblffkaaDoorWdTerm
namespace Go.Proofs.YtgeclnnhblffkaaDoor
set_option maxRecDepth 20000
open Go.RowKit
set_option linter.unusedVariables false
set_option linter.unusedSimpArgs false
set_option maxRecDepth 100000

/-- a text that is its own term -/
def ownB (us : List Fd) (m : Nat) (z : List Int) : Bool := decide (¬ z = []) && decide (fmL (ledR z) = z) && decide (termZ us m (rs z) = z)
theorem led_all {z : List Int} (h : fmL (ledR z) = z) : (∀ r ∈ rs z, letN r = true) ∧ fmL (rs z) = z := by
  have e : rs z = ledR z := by
    conv => lhs; rw [← h]
    exact rs_fmLet _ (ledR_let z)
  rw [e]
  exact ⟨ledR_let z, h⟩
theorem str_nil : strOfNums [] = ⟨#[]⟩ := by simp [strOfNums]

set_option maxHeartbeats 1000000 in
theorem isOwnTerm_any (w : World) (v : Value) (C : Cn) (h : CnfV w v C) (m : Nat) (hm : C.cap = (m : Int)) (hm2 : m ≤ 100) (z : List Int) (hz : ByteOk z) (hzl : z.length ≤ 1000000) (hL : Let w) :
    Calls Tryd.prog 74 #[v, .string (strOfNums z)] w fun e w' => e = .returned (.bool (ownB (useL C.fs) m z)) ∧ Below w.heap.size w w' := by
  obtain ⟨fo, fc, so, sc, w1, rfl, hw1, hb1, hB, hT, hS⟩ := box_cnf w v C h
  have HV : Hid (∀ W, Below w.heap.size w W → CnfV W (.agg #[.slice fo C.fs.length fc, .slice so C.ss.length sc, .int .i64 C.cap]) C) := fun W hb => ⟨fo, fc, so, sc, rfl, hT.below hb, hS.below hb⟩
  have HLL : Hid (∀ W, Below w.heap.size w W → Let W) := fun W hb => hL.below hb
  have HB1 := hide hb1
  have HBX := hide hB
  have HRES : Hid (ownB (useL C.fs) m z = (decide (¬ z = []) && decide (fmL (ledR z) = z) && decide (termZ (useL C.fs) m (rs z) = z))) := rfl
  by_cases h0 : z = []
  · have hn := bin_neq hz (show ByteOk [] from fun x hx => by cases hx)
    have hn2 : (strOfNums z).toList = [] := by rw [h0, str_nil, ByteArray.toList_eq]
    have HR : Hid (ownB (useL C.fs) m z = false) := by rw [HRES.out, decide_eq_false (show ¬ ¬ z = [] by simpa using h0)]; rfl
    generalize strOfNums z = s at *
    generalize C.ss.length = sn at *
    generalize C.fs.length = fn at *
    clear h hT hS hB hb1 hL HV HLL h0 HRES hz hm
    go_enter Tryd.func74, Tryd.ntmps74
    go_wp2
    go_ret
    exact ⟨ret_bool HR.out.symm, HB1.out⟩
  · have hn2 : ¬ (strOfNums z).toList = [] := by
      intro e
      rw [ByteArray.toList_eq, strOfNums_data] at e
      exact h0 (List.map_eq_nil_iff.1 e)
    have HLD : Hid (∀ W, Below w.heap.size w W → Calls Tryd.prog 82 #[.string (strOfNums z)] W fun e w' => e = .returned (.string (strOfNums (fmL (ledR z)))) ∧ Below W.heap.size W w') := fun W hb => led_any W z hz hzl (hL.below hb)
    have HNE : Hid ((strOfNums z).toList.isEmpty = false) := by show _ = false; rw [Bool.eq_false_iff]; intro e; exact hn2 (List.isEmpty_iff.1 e)
    have hq1 := str_same (fmL_ok (ledR z)) hz
    by_cases h1 : fmL (ledR z) = z
    · obtain ⟨hal, hfm⟩ := led_all h1
      have HTM : Hid (∀ W, Below w.heap.size w W → Calls Tryd.prog 59 #[.agg #[.slice fo C.fs.length fc, .slice so C.ss.length sc, .int .i64 C.cap], .string (strOfNums z)] W fun e w' => e = .returned (.string (strOfNums (termZ (useL C.fs) m (rs z)))) ∧ Below W.heap.size W w') := fun W hb => by
        have := termOf_any W _ C (HV.out W hb) m hm hm2 (rs z) hal (hL.below hb)
        rwa [hfm] at this
      rw [decide_eq_true h1, beq_iff_eq] at hq1
      have hq2 := str_same (show ByteOk (termZ (useL C.fs) m (rs z)) from fmL_ok _) hz
      obtain ⟨A, hA⟩ : ∃ A, decide (termZ (useL C.fs) m (rs z) = z) = A := ⟨_, rfl⟩
      rw [hA] at hq2
      have HA := hide hq2
      have HR : Hid (ownB (useL C.fs) m z = A) := by rw [HRES.out, hA, decide_eq_true h1, decide_eq_true (show ¬ z = [] from h0)]; rfl
      have c0 : w1.cell? ⟨w.heap.size, 0, none⟩ = some (.slice fo C.fs.length fc) := hB.cell 0
      have c1 : w1.cell? ⟨w.heap.size, 1, none⟩ = some (.slice so C.ss.length sc) := hB.cell 1
      have c2 : w1.cell? ⟨w.heap.size, 2, none⟩ = some (.int .i64 C.cap) := hB.cell 2
      generalize strOfNums (fmL (ledR z)) = s1 at *
      generalize strOfNums (termZ (useL C.fs) m (rs z)) = s2 at *
      generalize strOfNums z = s at *
      generalize C.ss.length = sn at *
      generalize C.fs.length = fn at *
      generalize C.cap = K at *
      clear h hT hS hB hb1 hL HV HLL h0 h1 hal hfm hA HRES hz hm hq2
      go_enter Tryd.func74, Tryd.ntmps74
      go_wp2_with (first
        | (go_at_call 82; refine (HLD.out w1 HB1.out).mono ?_; rintro e w2 ⟨rfl, hb⟩; have HB2 := hide (HB1.out.trans (hb.mono HB1.out.size)); have c0 := (HBX.out.below hb HBX.out.lt).cell 0; have c1 := (HBX.out.below hb HBX.out.lt).cell 1; have c2 := (HBX.out.below hb HBX.out.lt).cell 2; clear HLD hb)
        | (go_at_call 59; refine (HTM.out w2 HB2.out).mono ?_; rintro e w3 ⟨rfl, hb⟩; have HB3 := hide (HB2.out.trans (hb.mono HB2.out.size)); clear HTM hb))
      go_ret
      exact ⟨ret_bool (by rw [HR.out, HA.out, HNE.out]; rfl), HB3.out⟩
    · rw [decide_eq_false h1] at hq1
      replace hq1 : ¬ (strOfNums (fmL (ledR z))).toList = (strOfNums z).toList := fun e => Bool.eq_false_iff.1 hq1 (beq_iff_eq.2 e)
      have HR : Hid (ownB (useL C.fs) m z = false) := by rw [HRES.out, decide_eq_false h1, Bool.and_false, Bool.false_and]; rfl
      generalize strOfNums (fmL (ledR z)) = s1 at *
      generalize strOfNums z = s at *
      generalize C.ss.length = sn at *
      generalize C.fs.length = fn at *
      clear h hT hS hB hb1 hL HV HLL h0 h1 HRES hz hm
      go_enter Tryd.func74, Tryd.ntmps74
      go_wp2_with (go_at_call 82; refine (HLD.out w1 HB1.out).mono ?_; rintro e w2 ⟨rfl, hb⟩; have HB2 := hide (HB1.out.trans (hb.mono HB1.out.size)); clear HLD hb)
      go_ret
      exact ⟨ret_bool HR.out.symm, HB2.out⟩

end Go.Proofs.YtgeclnnhblffkaaDoor
