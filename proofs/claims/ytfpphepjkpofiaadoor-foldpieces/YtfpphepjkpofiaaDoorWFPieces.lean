/- Walk: incipitlaw13.FoldPieces. -/
import Derived.Test.YtfpphepjkpofiaaDoorFPc
namespace Go.Proofs.YtfpphepjkpofiaaDoor
set_option maxRecDepth 20000
open Go.RowKit
set_option linter.unusedVariables false
set_option linter.unusedSimpArgs false
set_option maxRecDepth 100000

theorem Sl.at0 {w : World} {ao : Option Addr} {n cap : Nat} {zs : List Int} (h : Sl w (.slice ao n cap) zs) (hz : 0 < n) : ∃ b off, ao = some ⟨b, off, none⟩ ∧ w.cell? ⟨b, off, none⟩ = some (.int .u8 (zs.getD 0 0)) := by
  have hn := sl_len h
  obtain ⟨_, ao', cap', he, _, _, _, hc⟩ := h
  obtain ⟨rfl, _, _⟩ : ao = ao' ∧ n = zs.length ∧ cap = cap' := by simpa using he
  obtain ⟨b, off, rfl, hcc⟩ := hc (by intro h; simp [h] at hn; omega)
  have := hcc 0 (by omega)
  rw [Nat.add_zero] at this
  exact ⟨b, off, rfl, this⟩
theorem apart_of {w w' : World} {base : Nat} {u v : Value} {xs ys : List (Nat × Nat)} (h1 : Marks w base u xs) (h2 : Marks w' w.heap.size v ys) : Hid (∀ k, u.ownBlock = some k → v.ownBlock ≠ some k) := fun k hk hk2 => by
  have q1 := (h1.lt k hk).2
  have q2 := (h2.lt k hk2).1
  omega
theorem cells_mark (W : World) (p r : Nat) : (W.alloc (.cells #[.int .i64 (p : Int), .int .i32 (r : Int)] 28)).cell? ⟨W.heap.size, 0, none⟩ = some (.int .i64 (p : Int)) ∧ (W.alloc (.cells #[.int .i64 (p : Int), .int .i32 (r : Int)] 28)).cell? ⟨W.heap.size, 1, none⟩ = some (.int .i32 (r : Int)) := by
  constructor <;> (rw [World.cell?_alloc_at _ _ _ _ rfl]; rfl)

set_option maxHeartbeats 6000000 in
theorem foldPieces_walk (w : World) (va : Value) (xa : List Int) (ha : Sl w va xa) (vb : Value) (xb : List Int) (hb : Sl w vb xb) (hL : Let w) : Calls Tryd.prog 7 #[va, vb] w fun e w' => e = .returned (.bool true) ∧ Below w.heap.size w w' := by
  have HLV : Hid (∀ W, Below w.heap.size w W → Calls Tryd.prog 8 #[] W fun e w' => e = .returned (.bool true) ∧ Below W.heap.size W w') := fun W h => live_any W (hL.below h)
  obtain ⟨ao, an, ac, rfl⟩ := sl_form ha
  obtain ⟨bo, bn, bc, rfl⟩ := sl_form hb
  have ea := sl_len ha
  have eb := sl_len hb
  have hbm : (bn : Int) ≤ 9223372036854775807 := by
    have := hb.2
    obtain ⟨ao', cap', he, h1, h2, _⟩ := this
    have : maxLen ≤ 9223372036854775807 := by decide
    omega
  have ham : (an : Int) ≤ 9223372036854775807 := by
    have := ha.2
    obtain ⟨ao', cap', he, h1, h2, _⟩ := this
    have : maxLen ≤ 9223372036854775807 := by decide
    omega
  by_cases h1 : 1000 < an
  · have h1i : (1000 : Int) < (an : Int) := by omega
    clear hL ha hb ea eb
    go_enter Tryd.func7, Tryd.ntmps7
    go_wp2_with (first
      | (go_at_call 8; refine (HLV.out w (Below.refl _ w)).mono ?_; rintro e w1 ⟨rfl, hb⟩; have HB1 := hide hb; clear hb)
      | (go_at_call 8; refine (HLV.out w1 HB1.out).mono ?_; rintro e w2 ⟨rfl, hb⟩; have HB2 := hide (HB1.out.trans (hb.mono HB1.out.size)); clear hb))
    go_ret
    exact ⟨rfl, HB2.out⟩
  have h1i : ¬ (1000 : Int) < (an : Int) := by omega
  by_cases h2 : 1000 < bn
  · have h2i : (1000 : Int) < (bn : Int) := by omega
    clear hL ha hb ea eb
    go_enter Tryd.func7, Tryd.ntmps7
    go_wp2_with (first
      | (go_at_call 8; refine (HLV.out w (Below.refl _ w)).mono ?_; rintro e w1 ⟨rfl, hb⟩; have HB1 := hide hb; clear hb)
      | (go_at_call 8; refine (HLV.out w1 HB1.out).mono ?_; rintro e w2 ⟨rfl, hb⟩; have HB2 := hide (HB1.out.trans (hb.mono HB1.out.size)); clear hb))
    go_ret
    exact ⟨rfl, HB2.out⟩
  have h2i : ¬ (1000 : Int) < (bn : Int) := by omega
  have HC0 : Hid (0 < bn → ∃ g o, bo = some ⟨g, o, none⟩ ∧ ∀ W, Below w.heap.size w W → W.cell? ⟨g, o, none⟩ = some (.int .u8 (xb.getD 0 0))) := fun h0 => by
    obtain ⟨g, o, rfl, hc⟩ := hb.at0 (by omega)
    exact ⟨g, o, rfl, fun W hw => by
      have := (hb.below hw).at0 (by omega)
      obtain ⟨g', o', e, hc'⟩ := this
      simp only [Option.some.injEq, Addr.mk.injEq] at e
      obtain ⟨rfl, rfl, _⟩ := e
      exact hc'⟩
  by_cases h3 : 0 < bn ∧ 128 ≤ xb.getD 0 0 ∧ xb.getD 0 0 < 192
  · obtain ⟨h3, h4, h5⟩ := h3
    obtain ⟨g, o, rfl, hc⟩ := HC0.out h3
    have h3i : (0 : Int) < (bn : Int) := by omega
    obtain ⟨z, hz⟩ : ∃ z, xb.getD 0 0 = z := ⟨_, rfl⟩
    rw [hz] at h4 h5 hc
    have HC := hide hc
    clear hL ha hb ea eb HC0 hc hz
    go_enter Tryd.func7, Tryd.ntmps7
    go_wp2_with (first
      | (go_at_call 8; refine (HLV.out w (Below.refl _ w)).mono ?_; rintro e w1 ⟨rfl, hb⟩; have HB1 := hide hb; have hc := HC.out w1 hb; clear hb)
      | (go_at_call 8; refine (HLV.out w1 HB1.out).mono ?_; rintro e w2 ⟨rfl, hb⟩; have HB2 := hide (HB1.out.trans (hb.mono HB1.out.size)); clear hb))
    go_ret
    exact ⟨rfl, HB2.out⟩
  have hno : noOn xb := by
    intro z hz hr
    cases xb with
    | nil => cases hz
    | cons y t =>
      simp at hz
      subst hz
      exact h3 ⟨by rw [eb]; simp, by simpa using hr.1, by have := hr.2; simp; omega⟩
  have HPA : Hid (∀ W, Below w.heap.size w W → Told W (.slice ao an ac) (runesN xa)) := fun W h => told_of W _ xa (ha.below h) (by omega)
  have HPB : Hid (∀ W, Below w.heap.size w W → Told W (.slice bo bn bc) (runesN xb)) := fun W h => told_of W _ xb (hb.below h) (by omega)
  have HPC : Hid (∀ W u, Sl W u (xa ++ xb) → Told W u (runesN xa ++ (runesN xb).map (shiftM an))) := fun W u h => by
    rw [ea, ← runes_app ha.1 hb.1 hno]
    exact told_of W u _ h (by simp; omega)
  have HCC : Hid (∀ W, Below w.heap.size w W → Calls Tryd.prog 30 #[.slice (some ⟨W.heap.size, 0, none⟩) 2 2] (W.alloc (.cells #[.slice ao an ac, .slice bo bn bc] 22)) fun e w' => ∃ u, e = .returned u ∧ Sl w' u (xa ++ xb) ∧ Below w.heap.size w w' ∧ Below W.heap.size W w') := fun W h => concat2_any w W _ _ xa xb ha hb (by omega) (by omega) h
  have HAT : Hid (∀ x ∈ runesN xb, x.1 < 1000) := fun x hx => by have := runesN_at hb.1 x hx; omega
  have hla := runesN_len xa
  have hlb := runesN_len xb
  have HLA : Hid ((runesN xa).length ≤ 1000) := by show _ ≤ _; omega
  have HLB : Hid ((runesN xb).length ≤ 1000) := by show _ ≤ _; omega
  generalize runesN xa = RA at *
  generalize runesN xb = RB at *
  have HRD : Hid (RA.length + RB.length ≤ 2000) := by show _ ≤ _; have := HLA.out; have := HLB.out; omega
  have HSL := hide hb
  obtain ⟨na, hna⟩ : ∃ m, RA.length = m := ⟨_, rfl⟩
  obtain ⟨nb, hnb⟩ : ∃ m, RB.length = m := ⟨_, rfl⟩
  have HNA := hide hna
  have HNB := hide hnb
  obtain ⟨RC, hRC⟩ : ∃ RC, RA ++ RB.map (shiftM an) = RC := ⟨_, rfl⟩
  rw [hRC] at HPC
  have HRC := hide hRC
  obtain ⟨nc, hnc⟩ : ∃ m, RC.length = m := ⟨_, rfl⟩
  have HNC := hide hnc
  have HLC : Hid (nc ≤ 2000) := by show _ ≤ _; rw [← hnc, ← hRC]; have := HRD.out; simp; omega
  clear hRC hnc
  have hai : (an : Int) ≤ 1000 := by omega
  have hnbi : (nb : Int) ≤ 1000 := by have := HLB.out; omega
  unfold Told at HPA HPB HPC
  clear hL ha ea eb hna hnb hla hlb hno h1 h2 ham hbm
  by_cases h0 : 0 < bn
  · by_cases h4 : 128 ≤ xb.getD 0 0
    · have h0i : (0 : Int) < (bn : Int) := by omega
      obtain ⟨g, o, rfl, hc⟩ := HC0.out h0
      obtain ⟨z, hz⟩ : ∃ z, xb.getD 0 0 = z := ⟨_, rfl⟩
      rw [hz] at h3 hc
      have HC := hide hc
      have h5 : ¬ z < 192 := fun h => h3 ⟨h0, by rw [← hz]; exact h4, h⟩
      rw [hz] at h4
      clear HC0 h3 hc hz
      go_enter Tryd.func7, Tryd.ntmps7
      go_wp2_with (first
        | (go_at_call 8; refine (HLV.out w (Below.refl _ w)).mono ?_; rintro e w1 ⟨rfl, hb⟩; have HB1 := hide hb; have hc := HC.out w1 hb; clear hb)
        | (go_at_call 12; (refine (HPA.out w1 HB1.out).mono ?_; rintro e w2 ⟨g2, rfl, hb, hm⟩; have HB2 := hide (HB1.out.trans (hb.mono HB1.out.size)); have HM2 := hide hm; clear hc; clear HPA hb hm))
        | (go_at_call 11; refine HM2.out.mono ?_; rintro e w3 ⟨u3, rfl, hu, hb⟩; have HB3 := hide (HB2.out.trans (hb.mono HB2.out.size)); obtain ⟨a3, c3, rfl⟩ := hu.shape; rw [HNA.out] at hu ⊢; have HU3 := hide hu; have HZ3 := hide hb.size; clear HM2 hu hb)
        | (go_at_call 12; (refine (HPB.out w3 HB3.out).mono ?_; rintro e w4 ⟨g4, rfl, hb, hm⟩; have HB4 := hide (HB3.out.trans (hb.mono HB3.out.size)); have HU4 := hide (HU3.out.below hb); have HZ4 := hide (Nat.le_trans HZ3.out hb.size); have HM4 := hide hm; clear HPB hb hm HU3 HZ3))
        | (go_at_call 11; (refine HM4.out.mono ?_; rintro e w5 ⟨u5, rfl, hu, hb⟩; have HB5 := hide (HB4.out.trans (hb.mono HB4.out.size)); obtain ⟨a5, c5, rfl⟩ := hu.shape; rw [HNB.out] at hu ⊢; have HV5 := hide hu; have HU5 := hide (HU4.out.below hb); have HAP := apart_of HU4.out hu; have HZ5 := hide (Nat.le_trans HZ4.out hb.size); clear HM4 hu hb HU4 HZ4)))
      go_loopg [5, 45] nb (fun gk l i wr => ∃ (j : Nat) (al : Option Addr) (cl : Nat), gk + j = nb ∧ i = .int .i64 (j : Int) ∧ l = .slice al (na + j) cl ∧ Marks wr w2.heap.size (.slice al (na + j) cl) (RA ++ (RB.take j).map (shiftM an)) ∧ Marks wr w4.heap.size (.slice a5 nb c5) RB ∧ (∀ k, (Value.slice al (na + j) cl).ownBlock = some k → (Value.slice a5 nb c5).ownBlock ≠ some k) ∧ Below w.heap.size w wr ∧ w2.heap.size ≤ wr.heap.size)
      case atStart => exact ⟨0, a3, c3, by omega, rfl, rfl, by simpa using HU5.out, HV5.out, HAP.out, HB5.out, HZ5.out⟩
      case round =>
        clear HU5 HV5 HAP HB5 HZ5
        obtain ⟨j, al, cl, hk, rfl, rfl, hm, hv, hap, hbw, hz⟩ := hrel
        have HM := hide hm
        have HV := hide hv
        have HAP := hide hap
        have HBW := hide hbw
        have HZ := hide hz
        clear hm hv hap hbw hz
        cases gk with
        | zero =>
          obtain rfl : j = nb := by omega
          have hlt : ¬ (j : Int) < (j : Int) := by omega
          have HFM : Hid (Marks wr w2.heap.size (.slice al (na + j) cl) RC) := by
            have := HM.out
            rwa [List.take_of_length_le (by rw [HNB.out]; exact Nat.le_refl _), HRC.out] at this
          go_wp2_with (first
            | (go_at_call 30; refine (HCC.out wr HBW.out).mono ?_; rintro e w6 ⟨u6, rfl, hs, hb, hbw⟩; have HB6 := hide hb; have HF6 := hide (HFM.out.below hbw); have HS6 := hide hs; obtain ⟨q1, q2, q3, rfl⟩ := sl_form hs; clear HCC hb hs hbw)
            | (go_at_call 12; refine (HPC.out w6 _ HS6.out).mono ?_; rintro e w7 ⟨g7, rfl, hb, hm⟩; have HB7 := hide (HB6.out.trans (hb.mono HB6.out.size)); have HM7 := hide hm; have HF7 := hide (HF6.out.below hb); clear HPC hb hm)
            | (go_at_call 11; refine HM7.out.mono ?_; rintro e w8 ⟨u8, rfl, hu, hb⟩; have HB8 := hide (HB7.out.trans (hb.mono HB7.out.size)); obtain ⟨a8, c8, rfl⟩ := hu.shape; rw [HNC.out] at hu ⊢; have HU8 := hide (hu.read (by have := HLC.out; have := HNC.out; omega)); have HF8 := hide ((HF7.out.below hb).read (by have := HLC.out; have := HNC.out; omega)); clear HM7 hu hb)
            | (go_at_call 10; refine (equalM_any w8 _ _ _ _ HU8.out HF8.out).mono ?_; rintro e w9 ⟨rfl, hb⟩; rw [decide_eq_true rfl]; have HB9 := hide (HB8.out.trans (hb.mono HB8.out.size)); clear hb))
          go_ret
          exact ⟨rfl, HB9.out⟩
        | succ k =>
          have hj : (j : Int) < (nb : Int) := by omega
          have hjn : j < RB.length := by have := HNB.out; omega
          have HRD8 := HV.out.read (by have := HLB.out; omega)
          obtain ⟨b, off, ⟨p0, r0⟩, rfl, hx, q0, q1⟩ := HRD8.at j hjn
          simp only at q0 q1
          have hp0 : (p0 : Int) ≤ 1000 := by have := HAT.out _ (List.mem_of_getElem? hx); simp only at this; omega
          obtain ⟨W1, hW1⟩ : ∃ W1, wr.alloc (.cells #[.int .i64 (p0 : Int), .int .i32 (r0 : Int)] 28) = W1 := ⟨_, rfl⟩
          have hz1 : W1.heap.size = wr.heap.size + 1 := by rw [← hW1]; simp
          obtain ⟨c0, c1⟩ := cells_mark wr p0 r0
          rw [hW1] at c0 c1
          have hb1 : Below wr.heap.size wr W1 := by rw [← hW1]; exact (Below.refl _ wr).alloc (Nat.le_refl _) _
          have hlen : (RA ++ (RB.take j).map (shiftM an)).length = na + j := by have := HNA.out; simp; omega
          have hM1 := HM.out.below hb1
          obtain ⟨v2, w3, hr, hi2, hg2, hv2, ao2, cap2, rfl⟩ := run_append_mark W1 w2.heap.size _ _ hM1 (an + p0, r0) (by rw [hlen]; have := HLA.out; have := HLB.out; have := HNA.out; omega) (by have := HZ.out; omega)
          rw [hlen] at hr hi2 hv2
          simp only [Int.natCast_add] at hr hg2
          have HR := hide hr
          have HG2 := hide hg2
          have HI2 : Hid (Marks w3 w2.heap.size (.slice ao2 (na + j + 1) cap2) (RA ++ (RB.take (j + 1)).map (shiftM an))) := by
            obtain ⟨hi, e⟩ := List.getElem?_eq_some_iff.1 hx
            show Marks _ _ _ _
            rw [List.take_succ_eq_append_getElem hi, e, List.map_append, ← List.append_assoc]
            exact hi2
          have HV2 := hide hv2
          have HX := hide hx
          have HW1 := hide hW1
          have HB1' := hide hb1
          have HZ1 := hide hz1
          clear hr hg2 hi2 hv2 hx hlen hM1 HRD8 hjn hz1
          go_wp2_with (first
            | (at_builtin; ((with_reducible refine wpList_append_run _ rfl (.tmp 49) (.tmp 58) 24 rfl _ _ ?_ ?_ _ _ HR.out ?_); exact rfl; exact rfl; clear HR)))
          have hoA : Only (fun q => (Value.slice al (na + j) cl).ownBlock = some q) W1 w3 := ((Only.refl _ W1).alloc _).grown HG2.out (fun q e _ => e)
          have hoW : Only (fun q => (Value.slice al (na + j) cl).ownBlock = some q) wr w3 := (Only.of_below _ HB1'.out).trans hoA (fun _ _ h => h)
          go_roundg k
          case measure => omega
          case rel =>
            refine ⟨j + 1, ao2, cap2, by omega, by go_num, rfl, HI2.out, HV.out.only hoW (fun q hq e => HAP.out q e hq), fun q hq hq2 => ?_, HBW.out.trans (hoW.below HBW.out.size (fun q hq e => by have h1 := (HM.out.lt q e).1; have h2 := HB2.out.size; omega)), by have := hoW.size; have := HZ.out; omega⟩
            rcases HV2.out with e | e
            · exact HAP.out q (e.symm.trans hq) hq2
            · have h1 := Option.some.inj (e.symm.trans hq)
              have h2 := (HV.out.lt q hq2).2
              have := HZ1.out
              omega
    · have h0i : (0 : Int) < (bn : Int) := by omega
      obtain ⟨g, o, rfl, hc⟩ := HC0.out h0
      obtain ⟨z, hz⟩ : ∃ z, xb.getD 0 0 = z := ⟨_, rfl⟩
      rw [hz] at h3 hc
      have HC := hide hc
      rw [hz] at h4
      clear HC0 h3 hc hz
      go_enter Tryd.func7, Tryd.ntmps7
      go_wp2_with (first
        | (go_at_call 8; refine (HLV.out w (Below.refl _ w)).mono ?_; rintro e w1 ⟨rfl, hb⟩; have HB1 := hide hb; have hc := HC.out w1 hb; clear hb)
        | (go_at_call 12; (refine (HPA.out w1 HB1.out).mono ?_; rintro e w2 ⟨g2, rfl, hb, hm⟩; have HB2 := hide (HB1.out.trans (hb.mono HB1.out.size)); have HM2 := hide hm; clear hc; clear HPA hb hm))
        | (go_at_call 11; refine HM2.out.mono ?_; rintro e w3 ⟨u3, rfl, hu, hb⟩; have HB3 := hide (HB2.out.trans (hb.mono HB2.out.size)); obtain ⟨a3, c3, rfl⟩ := hu.shape; rw [HNA.out] at hu ⊢; have HU3 := hide hu; have HZ3 := hide hb.size; clear HM2 hu hb)
        | (go_at_call 12; (refine (HPB.out w3 HB3.out).mono ?_; rintro e w4 ⟨g4, rfl, hb, hm⟩; have HB4 := hide (HB3.out.trans (hb.mono HB3.out.size)); have HU4 := hide (HU3.out.below hb); have HZ4 := hide (Nat.le_trans HZ3.out hb.size); have HM4 := hide hm; clear HPB hb hm HU3 HZ3))
        | (go_at_call 11; (refine HM4.out.mono ?_; rintro e w5 ⟨u5, rfl, hu, hb⟩; have HB5 := hide (HB4.out.trans (hb.mono HB4.out.size)); obtain ⟨a5, c5, rfl⟩ := hu.shape; rw [HNB.out] at hu ⊢; have HV5 := hide hu; have HU5 := hide (HU4.out.below hb); have HAP := apart_of HU4.out hu; have HZ5 := hide (Nat.le_trans HZ4.out hb.size); clear HM4 hu hb HU4 HZ4)))
      go_loopg [5, 45] nb (fun gk l i wr => ∃ (j : Nat) (al : Option Addr) (cl : Nat), gk + j = nb ∧ i = .int .i64 (j : Int) ∧ l = .slice al (na + j) cl ∧ Marks wr w2.heap.size (.slice al (na + j) cl) (RA ++ (RB.take j).map (shiftM an)) ∧ Marks wr w4.heap.size (.slice a5 nb c5) RB ∧ (∀ k, (Value.slice al (na + j) cl).ownBlock = some k → (Value.slice a5 nb c5).ownBlock ≠ some k) ∧ Below w.heap.size w wr ∧ w2.heap.size ≤ wr.heap.size)
      case atStart => exact ⟨0, a3, c3, by omega, rfl, rfl, by simpa using HU5.out, HV5.out, HAP.out, HB5.out, HZ5.out⟩
      case round =>
        clear HU5 HV5 HAP HB5 HZ5
        obtain ⟨j, al, cl, hk, rfl, rfl, hm, hv, hap, hbw, hz⟩ := hrel
        have HM := hide hm
        have HV := hide hv
        have HAP := hide hap
        have HBW := hide hbw
        have HZ := hide hz
        clear hm hv hap hbw hz
        cases gk with
        | zero =>
          obtain rfl : j = nb := by omega
          have hlt : ¬ (j : Int) < (j : Int) := by omega
          have HFM : Hid (Marks wr w2.heap.size (.slice al (na + j) cl) RC) := by
            have := HM.out
            rwa [List.take_of_length_le (by rw [HNB.out]; exact Nat.le_refl _), HRC.out] at this
          go_wp2_with (first
            | (go_at_call 30; refine (HCC.out wr HBW.out).mono ?_; rintro e w6 ⟨u6, rfl, hs, hb, hbw⟩; have HB6 := hide hb; have HF6 := hide (HFM.out.below hbw); have HS6 := hide hs; obtain ⟨q1, q2, q3, rfl⟩ := sl_form hs; clear HCC hb hs hbw)
            | (go_at_call 12; refine (HPC.out w6 _ HS6.out).mono ?_; rintro e w7 ⟨g7, rfl, hb, hm⟩; have HB7 := hide (HB6.out.trans (hb.mono HB6.out.size)); have HM7 := hide hm; have HF7 := hide (HF6.out.below hb); clear HPC hb hm)
            | (go_at_call 11; refine HM7.out.mono ?_; rintro e w8 ⟨u8, rfl, hu, hb⟩; have HB8 := hide (HB7.out.trans (hb.mono HB7.out.size)); obtain ⟨a8, c8, rfl⟩ := hu.shape; rw [HNC.out] at hu ⊢; have HU8 := hide (hu.read (by have := HLC.out; have := HNC.out; omega)); have HF8 := hide ((HF7.out.below hb).read (by have := HLC.out; have := HNC.out; omega)); clear HM7 hu hb)
            | (go_at_call 10; refine (equalM_any w8 _ _ _ _ HU8.out HF8.out).mono ?_; rintro e w9 ⟨rfl, hb⟩; rw [decide_eq_true rfl]; have HB9 := hide (HB8.out.trans (hb.mono HB8.out.size)); clear hb))
          go_ret
          exact ⟨rfl, HB9.out⟩
        | succ k =>
          have hj : (j : Int) < (nb : Int) := by omega
          have hjn : j < RB.length := by have := HNB.out; omega
          have HRD8 := HV.out.read (by have := HLB.out; omega)
          obtain ⟨b, off, ⟨p0, r0⟩, rfl, hx, q0, q1⟩ := HRD8.at j hjn
          simp only at q0 q1
          have hp0 : (p0 : Int) ≤ 1000 := by have := HAT.out _ (List.mem_of_getElem? hx); simp only at this; omega
          obtain ⟨W1, hW1⟩ : ∃ W1, wr.alloc (.cells #[.int .i64 (p0 : Int), .int .i32 (r0 : Int)] 28) = W1 := ⟨_, rfl⟩
          have hz1 : W1.heap.size = wr.heap.size + 1 := by rw [← hW1]; simp
          obtain ⟨c0, c1⟩ := cells_mark wr p0 r0
          rw [hW1] at c0 c1
          have hb1 : Below wr.heap.size wr W1 := by rw [← hW1]; exact (Below.refl _ wr).alloc (Nat.le_refl _) _
          have hlen : (RA ++ (RB.take j).map (shiftM an)).length = na + j := by have := HNA.out; simp; omega
          have hM1 := HM.out.below hb1
          obtain ⟨v2, w3, hr, hi2, hg2, hv2, ao2, cap2, rfl⟩ := run_append_mark W1 w2.heap.size _ _ hM1 (an + p0, r0) (by rw [hlen]; have := HLA.out; have := HLB.out; have := HNA.out; omega) (by have := HZ.out; omega)
          rw [hlen] at hr hi2 hv2
          simp only [Int.natCast_add] at hr hg2
          have HR := hide hr
          have HG2 := hide hg2
          have HI2 : Hid (Marks w3 w2.heap.size (.slice ao2 (na + j + 1) cap2) (RA ++ (RB.take (j + 1)).map (shiftM an))) := by
            obtain ⟨hi, e⟩ := List.getElem?_eq_some_iff.1 hx
            show Marks _ _ _ _
            rw [List.take_succ_eq_append_getElem hi, e, List.map_append, ← List.append_assoc]
            exact hi2
          have HV2 := hide hv2
          have HX := hide hx
          have HW1 := hide hW1
          have HB1' := hide hb1
          have HZ1 := hide hz1
          clear hr hg2 hi2 hv2 hx hlen hM1 HRD8 hjn hz1
          go_wp2_with (first
            | (at_builtin; ((with_reducible refine wpList_append_run _ rfl (.tmp 49) (.tmp 58) 24 rfl _ _ ?_ ?_ _ _ HR.out ?_); exact rfl; exact rfl; clear HR)))
          have hoA : Only (fun q => (Value.slice al (na + j) cl).ownBlock = some q) W1 w3 := ((Only.refl _ W1).alloc _).grown HG2.out (fun q e _ => e)
          have hoW : Only (fun q => (Value.slice al (na + j) cl).ownBlock = some q) wr w3 := (Only.of_below _ HB1'.out).trans hoA (fun _ _ h => h)
          go_roundg k
          case measure => omega
          case rel =>
            refine ⟨j + 1, ao2, cap2, by omega, by go_num, rfl, HI2.out, HV.out.only hoW (fun q hq e => HAP.out q e hq), fun q hq hq2 => ?_, HBW.out.trans (hoW.below HBW.out.size (fun q hq e => by have h1 := (HM.out.lt q e).1; have h2 := HB2.out.size; omega)), by have := hoW.size; have := HZ.out; omega⟩
            rcases HV2.out with e | e
            · exact HAP.out q (e.symm.trans hq) hq2
            · have h1 := Option.some.inj (e.symm.trans hq)
              have h2 := (HV.out.lt q hq2).2
              have := HZ1.out
              omega
  · have h0i : ¬ (0 : Int) < (bn : Int) := by omega
    clear HC0 h3
    go_enter Tryd.func7, Tryd.ntmps7
    go_wp2_with (first
      | (go_at_call 8; refine (HLV.out w (Below.refl _ w)).mono ?_; rintro e w1 ⟨rfl, hb⟩; have HB1 := hide hb; clear hb)
      | (go_at_call 12; (refine (HPA.out w1 HB1.out).mono ?_; rintro e w2 ⟨g2, rfl, hb, hm⟩; have HB2 := hide (HB1.out.trans (hb.mono HB1.out.size)); have HM2 := hide hm; clear HPA hb hm))
      | (go_at_call 11; refine HM2.out.mono ?_; rintro e w3 ⟨u3, rfl, hu, hb⟩; have HB3 := hide (HB2.out.trans (hb.mono HB2.out.size)); obtain ⟨a3, c3, rfl⟩ := hu.shape; rw [HNA.out] at hu ⊢; have HU3 := hide hu; have HZ3 := hide hb.size; clear HM2 hu hb)
      | (go_at_call 12; (refine (HPB.out w3 HB3.out).mono ?_; rintro e w4 ⟨g4, rfl, hb, hm⟩; have HB4 := hide (HB3.out.trans (hb.mono HB3.out.size)); have HU4 := hide (HU3.out.below hb); have HZ4 := hide (Nat.le_trans HZ3.out hb.size); have HM4 := hide hm; clear HPB hb hm HU3 HZ3))
      | (go_at_call 11; (refine HM4.out.mono ?_; rintro e w5 ⟨u5, rfl, hu, hb⟩; have HB5 := hide (HB4.out.trans (hb.mono HB4.out.size)); obtain ⟨a5, c5, rfl⟩ := hu.shape; rw [HNB.out] at hu ⊢; have HV5 := hide hu; have HU5 := hide (HU4.out.below hb); have HAP := apart_of HU4.out hu; have HZ5 := hide (Nat.le_trans HZ4.out hb.size); clear HM4 hu hb HU4 HZ4)))
    go_loopg [5, 45] nb (fun gk l i wr => ∃ (j : Nat) (al : Option Addr) (cl : Nat), gk + j = nb ∧ i = .int .i64 (j : Int) ∧ l = .slice al (na + j) cl ∧ Marks wr w2.heap.size (.slice al (na + j) cl) (RA ++ (RB.take j).map (shiftM an)) ∧ Marks wr w4.heap.size (.slice a5 nb c5) RB ∧ (∀ k, (Value.slice al (na + j) cl).ownBlock = some k → (Value.slice a5 nb c5).ownBlock ≠ some k) ∧ Below w.heap.size w wr ∧ w2.heap.size ≤ wr.heap.size)
    case atStart => exact ⟨0, a3, c3, by omega, rfl, rfl, by simpa using HU5.out, HV5.out, HAP.out, HB5.out, HZ5.out⟩
    case round =>
      clear HU5 HV5 HAP HB5 HZ5
      obtain ⟨j, al, cl, hk, rfl, rfl, hm, hv, hap, hbw, hz⟩ := hrel
      have HM := hide hm
      have HV := hide hv
      have HAP := hide hap
      have HBW := hide hbw
      have HZ := hide hz
      clear hm hv hap hbw hz
      cases gk with
      | zero =>
        obtain rfl : j = nb := by omega
        have hlt : ¬ (j : Int) < (j : Int) := by omega
        have HFM : Hid (Marks wr w2.heap.size (.slice al (na + j) cl) RC) := by
          have := HM.out
          rwa [List.take_of_length_le (by rw [HNB.out]; exact Nat.le_refl _), HRC.out] at this
        go_wp2_with (first
          | (go_at_call 30; refine (HCC.out wr HBW.out).mono ?_; rintro e w6 ⟨u6, rfl, hs, hb, hbw⟩; have HB6 := hide hb; have HF6 := hide (HFM.out.below hbw); have HS6 := hide hs; obtain ⟨q1, q2, q3, rfl⟩ := sl_form hs; clear HCC hb hs hbw)
          | (go_at_call 12; refine (HPC.out w6 _ HS6.out).mono ?_; rintro e w7 ⟨g7, rfl, hb, hm⟩; have HB7 := hide (HB6.out.trans (hb.mono HB6.out.size)); have HM7 := hide hm; have HF7 := hide (HF6.out.below hb); clear HPC hb hm)
          | (go_at_call 11; refine HM7.out.mono ?_; rintro e w8 ⟨u8, rfl, hu, hb⟩; have HB8 := hide (HB7.out.trans (hb.mono HB7.out.size)); obtain ⟨a8, c8, rfl⟩ := hu.shape; rw [HNC.out] at hu ⊢; have HU8 := hide (hu.read (by have := HLC.out; have := HNC.out; omega)); have HF8 := hide ((HF7.out.below hb).read (by have := HLC.out; have := HNC.out; omega)); clear HM7 hu hb)
          | (go_at_call 10; refine (equalM_any w8 _ _ _ _ HU8.out HF8.out).mono ?_; rintro e w9 ⟨rfl, hb⟩; rw [decide_eq_true rfl]; have HB9 := hide (HB8.out.trans (hb.mono HB8.out.size)); clear hb))
        go_ret
        exact ⟨rfl, HB9.out⟩
      | succ k =>
        have hj : (j : Int) < (nb : Int) := by omega
        have hjn : j < RB.length := by have := HNB.out; omega
        have HRD8 := HV.out.read (by have := HLB.out; omega)
        obtain ⟨b, off, ⟨p0, r0⟩, rfl, hx, q0, q1⟩ := HRD8.at j hjn
        simp only at q0 q1
        have hp0 : (p0 : Int) ≤ 1000 := by have := HAT.out _ (List.mem_of_getElem? hx); simp only at this; omega
        obtain ⟨W1, hW1⟩ : ∃ W1, wr.alloc (.cells #[.int .i64 (p0 : Int), .int .i32 (r0 : Int)] 28) = W1 := ⟨_, rfl⟩
        have hz1 : W1.heap.size = wr.heap.size + 1 := by rw [← hW1]; simp
        obtain ⟨c0, c1⟩ := cells_mark wr p0 r0
        rw [hW1] at c0 c1
        have hb1 : Below wr.heap.size wr W1 := by rw [← hW1]; exact (Below.refl _ wr).alloc (Nat.le_refl _) _
        have hlen : (RA ++ (RB.take j).map (shiftM an)).length = na + j := by have := HNA.out; simp; omega
        have hM1 := HM.out.below hb1
        obtain ⟨v2, w3, hr, hi2, hg2, hv2, ao2, cap2, rfl⟩ := run_append_mark W1 w2.heap.size _ _ hM1 (an + p0, r0) (by rw [hlen]; have := HLA.out; have := HLB.out; have := HNA.out; omega) (by have := HZ.out; omega)
        rw [hlen] at hr hi2 hv2
        simp only [Int.natCast_add] at hr hg2
        have HR := hide hr
        have HG2 := hide hg2
        have HI2 : Hid (Marks w3 w2.heap.size (.slice ao2 (na + j + 1) cap2) (RA ++ (RB.take (j + 1)).map (shiftM an))) := by
          obtain ⟨hi, e⟩ := List.getElem?_eq_some_iff.1 hx
          show Marks _ _ _ _
          rw [List.take_succ_eq_append_getElem hi, e, List.map_append, ← List.append_assoc]
          exact hi2
        have HV2 := hide hv2
        have HX := hide hx
        have HW1 := hide hW1
        have HB1' := hide hb1
        have HZ1 := hide hz1
        clear hr hg2 hi2 hv2 hx hlen hM1 HRD8 hjn hz1
        go_wp2_with (first
          | (at_builtin; ((with_reducible refine wpList_append_run _ rfl (.tmp 49) (.tmp 58) 24 rfl _ _ ?_ ?_ _ _ HR.out ?_); exact rfl; exact rfl; clear HR)))
        have hoA : Only (fun q => (Value.slice al (na + j) cl).ownBlock = some q) W1 w3 := ((Only.refl _ W1).alloc _).grown HG2.out (fun q e _ => e)
        have hoW : Only (fun q => (Value.slice al (na + j) cl).ownBlock = some q) wr w3 := (Only.of_below _ HB1'.out).trans hoA (fun _ _ h => h)
        go_roundg k
        case measure => omega
        case rel =>
          refine ⟨j + 1, ao2, cap2, by omega, by go_num, rfl, HI2.out, HV.out.only hoW (fun q hq e => HAP.out q e hq), fun q hq hq2 => ?_, HBW.out.trans (hoW.below HBW.out.size (fun q hq e => by have h1 := (HM.out.lt q e).1; have h2 := HB2.out.size; omega)), by have := hoW.size; have := HZ.out; omega⟩
          rcases HV2.out with e | e
          · exact HAP.out q (e.symm.trans hq) hq2
          · have h1 := Option.some.inj (e.symm.trans hq)
            have h2 := (HV.out.lt q hq2).2
            have := HZ1.out
            omega

end Go.Proofs.YtfpphepjkpofiaaDoor
