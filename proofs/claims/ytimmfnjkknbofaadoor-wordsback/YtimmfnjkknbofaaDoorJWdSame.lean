/- Contract: package words' Same. -/
import Derived.Test.YtimmfnjkknbofaaDoorJWdEq
import Derived.Test.YtimmfnjkknbofaaDoorWdStop
namespace Go.Proofs.YtimmfnjkknbofaaDoor
set_option maxRecDepth 20000
open Go.RowKit
set_option linter.unusedVariables false
set_option linter.unusedSimpArgs false
set_option maxRecDepth 100000

/-- two ways that are the same in all fields -/
def sameC (A B : Cn) : Bool := decide (A.cap = B.cap) && decide (A.fs = B.fs) && decide (A.ss = B.ss)
theorem sameC_eq (A B : Cn) : sameC A B = true ↔ A = B := by
  unfold sameC
  simp only [Bool.and_eq_true, decide_eq_true_iff]
  constructor
  · rintro ⟨⟨h1, h2⟩, h3⟩
    cases A; cases B
    simp only at h1 h2 h3
    subst h1 h2 h3
    rfl
  · rintro rfl; exact ⟨⟨rfl, rfl⟩, rfl⟩

set_option maxHeartbeats 2000000 in
theorem same_any (w : World) (va vb : Value) (A B : Cn) (ha : CnfV w va A) (hb : CnfV w vb B) :
    Calls Tryd.prog 14 #[va, vb] w fun e w' => e = .returned (.bool (sameC A B)) ∧ Below w.heap.size w w' := by
  obtain ⟨fo, fc, so, sc, w1, rfl, hw1, hb1, hB1, hT1, hS1⟩ := box_cnf w va A ha
  obtain ⟨go, gc, to, tc, w2, rfl, hw2, hb2, hB2, hT2, hS2⟩ := box_cnf w1 vb B (hb.below hb1)
  have hs1 : w1.heap.size = w.heap.size + 1 := by rw [← hw1]; simp
  have hbw : Below w.heap.size w w2 := hb1.trans (hb2.mono hb1.size)
  have HEF : Hid (∀ W, Below w2.heap.size w2 W → Calls Tryd.prog 42 #[.slice fo A.fs.length fc, .slice go B.fs.length gc] W fun e w' => e = .returned (.bool (decide (A.fs = B.fs))) ∧ Below W.heap.size W w') := fun W h => equalF_any W _ _ A.fs B.fs (hT1.below (hbw.trans (h.mono hbw.size))) (hT2.below (hb2.trans (h.mono hb2.size)))
  have HES : Hid (∀ W, Below w2.heap.size w2 W → Calls Tryd.prog 19 #[.slice so A.ss.length sc, .slice to B.ss.length tc] W fun e w' => e = .returned (.bool (decide (A.ss = B.ss))) ∧ Below W.heap.size W w') := fun W h => equalS_any W _ _ A.ss B.ss (hS1.below (hbw.trans (h.mono hbw.size))) (hS2.below (hb2.trans (h.mono hb2.size)))
  have hX1 : Blk w2 w.heap.size 25 _ := hB1.below hb2 (by omega)
  have HX1 := hide hX1
  have HX2 := hide hB2
  have a0 : w2.cell? ⟨w.heap.size, 0, none⟩ = some (.slice fo A.fs.length fc) := hX1.cell 0
  have a1 : w2.cell? ⟨w.heap.size, 1, none⟩ = some (.slice so A.ss.length sc) := hX1.cell 1
  have a2 : w2.cell? ⟨w.heap.size, 2, none⟩ = some (.int .i64 A.cap) := hX1.cell 2
  rw [hs1] at hB2
  have b0 : w2.cell? ⟨w.heap.size + 1, 0, none⟩ = some (.slice go B.fs.length gc) := hB2.cell 0
  have b1 : w2.cell? ⟨w.heap.size + 1, 1, none⟩ = some (.slice to B.ss.length tc) := hB2.cell 1
  have b2 : w2.cell? ⟨w.heap.size + 1, 2, none⟩ = some (.int .i64 B.cap) := hB2.cell 2
  have HY : Hid (Blk w2 (w.heap.size + 1) 25 [.slice go B.fs.length gc, .slice to B.ss.length tc, .int .i64 B.cap]) := hB2
  have HL2 : Hid (w.heap.size + 1 < w2.heap.size) := hB2.lt
  have HBW := hide hbw
  have HSC : Hid (sameC A B = (decide (A.cap = B.cap) && decide (A.fs = B.fs) && decide (A.ss = B.ss))) := rfl
  generalize sameC A B = R at *
  generalize decide (A.fs = B.fs) = DF at *
  generalize decide (A.ss = B.ss) = DS at *
  generalize A.fs.length = n1 at *
  generalize A.ss.length = n2 at *
  generalize B.fs.length = m1 at *
  generalize B.ss.length = m2 at *
  generalize A.cap = K1 at *
  generalize B.cap = K2 at *
  clear ha hb hT1 hS1 hT2 hS2 hb1 hb2 hB1 hB2 hX1 hbw hs1 HX2
  have hww : (w.alloc (.cells #[.slice fo n1 fc, .slice so n2 sc, .int .i64 K1] 25)).alloc (.cells #[.slice go m1 gc, .slice to m2 tc, .int .i64 K2] 25) = w2 := by rw [hw1]; exact hw2
  have HWW := hide hww
  clear hw1 hw2
  by_cases hk : K1 = K2
  · subst hk
    have HR : Hid (R = (DF && DS)) := by show _ = _; rw [HSC.out]; simp
    clear HSC
    cases DF with
    | true =>
      go_enter Tryd.func14, Tryd.ntmps14
      go_wp2_with (first
        | (go_at_call 42; refine (HEF.out w2 (Below.refl _ w2)).mono ?_; rintro e w3 ⟨rfl, hb⟩; have HB3 := hide hb; have d1 : w3.cell? ⟨w.heap.size, 1, none⟩ = some (.slice so n2 sc) := (HX1.out.below hb HX1.out.lt).cell 1; have d2 : w3.cell? ⟨w.heap.size + 1, 1, none⟩ = some (.slice to m2 tc) := (HY.out.below hb HY.out.lt).cell 1; clear HEF hb)
        | (go_at_call 19; refine (HES.out w3 HB3.out).mono ?_; rintro e w4 ⟨rfl, hb⟩; have HB4 := hide (HB3.out.trans (hb.mono HB3.out.size)); clear HES hb))
      go_ret
      exact ⟨ret_bool (by rw [HR.out]; simp), HBW.out.trans (HB4.out.mono HBW.out.size)⟩
    | false =>
      go_enter Tryd.func14, Tryd.ntmps14
      go_wp2_with (go_at_call 42; refine (HEF.out w2 (Below.refl _ w2)).mono ?_; rintro e w3 ⟨rfl, hb⟩; have HB3 := hide hb; clear HEF hb)
      go_ret
      exact ⟨ret_bool (by rw [HR.out]; rfl), HBW.out.trans (HB3.out.mono HBW.out.size)⟩
  · have HR : Hid (R = false) := by show _ = _; rw [HSC.out, decide_eq_false hk]; rfl
    clear HSC HEF HES
    go_enter Tryd.func14, Tryd.ntmps14
    go_wp2
    go_ret
    exact ⟨ret_bool HR.out.symm, HBW.out⟩

end Go.Proofs.YtimmfnjkknbofaaDoor
