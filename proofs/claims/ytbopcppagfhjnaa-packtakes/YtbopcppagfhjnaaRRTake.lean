/- Contracts: what is taken of the document's reader: bytes and numbers. -/
import Derived.Test.YtbopcppagfhjnaaRR
namespace Go.Proofs.Ytbopcppagfhjnaa
open Go.RowKit

theorem sl_form {w : World} {v : Value} {zs : List Int} (h : Sl w v zs) : ∃ ao n cap, v = .slice ao n cap := by
  obtain ⟨_, ao, cap, rfl, _⟩ := h
  exact ⟨ao, _, cap, rfl⟩

theorem rr_fail {w : World} {b : Nat} {u : Value} {zs : List Int} (h : RR w b u zs 0) (x : Int) : w.grownBy (w.setCell ⟨b, 1, none⟩ (.int .i64 x)) (some b) ∧ RR (w.setCell ⟨b, 1, none⟩ (.int .i64 x)) b u zs x :=
  ⟨grown_set (grownBy_refl w _) _ _, rr_err h x⟩

theorem below_then' {B : Nat} {w w1 w2 : World} (h : Below B w w1) (h2 : Below w1.heap.size w1 w2) (hB : B ≤ w.heap.size) : Below B w w2 := h.trans (h2.mono (Nat.le_trans hB h.size))

/-- the end of a take of bytes: the second copy is what is left -/
theorem rraw_end {w w1 w2 : World} {b : Nat} {u u1 u2 : Value} {zs xs ys : List Int} (h : RR w b u zs 0) (hlt : b < w.heap.size) (hb1 : Below w.heap.size w w1) (hb2 : Below w.heap.size w w2) (hz : w1.heap.size ≤ w2.heap.size)
    (s1 : Sl w2 u1 xs) (hf1 : Fresh w.heap.size w1 u1) (s2 : Sl w2 u2 ys) (hf2 : Fresh w1.heap.size w2 u2) :
    Ending.returned u1 = .returned u1 ∧ Sl (w2.setCell ⟨b, 0, none⟩ u2) u1 xs ∧ Fresh w.heap.size (w2.setCell ⟨b, 0, none⟩ u2) u1 ∧ w.grownBy (w2.setCell ⟨b, 0, none⟩ u2) (some b) ∧ ∃ u', RR (w2.setCell ⟨b, 0, none⟩ u2) b u' ys 0 := by
  refine ⟨rfl, sl_set s1 (fun _ e => by have := (hf1 b e).1; omega), fun k hk => ?_, ?_, u2, rr_left (h.keep hb2) s2 (fun k hk => ?_)⟩
  · have := hf1 k hk
    simp
    omega
  · exact ⟨hb2.os, hb2.tape, hb2.output, by simpa using hb2.size, fun k hk hne => (heap_setCell_other w2 ⟨b, 0, none⟩ k u2 (fun e => hne (by simp [e]))).trans (hb2.block k hk)⟩
  · have := hf2 k hk
    have := hb1.size
    omega

set_option maxHeartbeats 400000 in
theorem rRaw_any (w : World) (b : Nat) (u : Value) (zs : List Int) (er n : Int) (h : RR w b u zs er) (hl : zs.length ≤ 50000) :
    Calls Try.prog 48 #[.pointer (some ⟨b, 0, none⟩), .int .i64 n] w fun e w' => ∃ v, e = .returned v ∧ Sl w' v (takeS zs er n).1 ∧ Fresh w.heap.size w' v ∧ w.grownBy w' (some b) ∧ ∃ u', RR w' b u' (takeS zs er n).2.1 (takeS zs er n).2.2 := by
  have HR := hide h
  obtain ⟨c0, c1, hfr⟩ := h.cells
  have hlt := h.lt
  obtain ⟨hg, ⟨hb, ao, cap, rfl, h1, h2, h3, h4⟩, hne⟩ := h
  unfold maxLen at h2
  have f0 := hfr 0
  have f1 := hfr 1
  have HNE := hide hne
  clear hfr h4 h3 hne hg
  by_cases e0 : er = 0
  · subst e0
    by_cases n0 : n < 0
    · have es : takeS zs 0 n = ([], zs, 1) := by simp [takeS, n0]
      rw [es]
      have HF := rfail_any w b _ zs 1 HR.out
      go_enter Try.func48, Try.ntmps48
      go_wp2_with (go_at_call 55; refine HF.mono ?_; rintro e w1 ⟨rfl, hw⟩; subst w1)
      go_ret
      exact ⟨_, rfl, Sl.nil _, Fresh.nil _ _, (rr_fail HR.out 1).1, _, (rr_fail HR.out 1).2⟩
    · by_cases n1 : (zs.length : Int) < n
      · have es : takeS zs 0 n = ([], zs, 10) := by simp [takeS, n0, n1]
        rw [es]
        have HF := rfail_any w b _ zs 10 HR.out
        go_enter Try.func48, Try.ntmps48
        go_wp2_with (go_at_call 55; refine HF.mono ?_; rintro e w1 ⟨rfl, hw⟩; subst w1)
        go_ret
        exact ⟨_, rfl, Sl.nil _, Fresh.nil _ _, (rr_fail HR.out 10).1, _, (rr_fail HR.out 10).2⟩
      · obtain ⟨m, rfl⟩ : ∃ m : Nat, n = m := ⟨n.toNat, by omega⟩
        have es : takeS zs 0 m = (zs.take m, zs.drop m, 0) := by simp only [takeS, if_neg n0, if_neg n1]; simp
        rw [es]
        have hm : m ≤ zs.length := by omega
        have ST := hide (sl_take m HR.out.2.1 hm)
        have J1 := hide (refJoin_fresh w _ (zs.take m) ST.out (by simp; omega))
        have C0 := hide c0
        have F0 := hide f0
        clear n0 n1
        by_cases hcm : cap = m
        · subst hcm
          have SD : Hid (Sl w (.slice ao 0 0) (zs.drop cap)) := by
            have := sl_cut0 cap HR.out.2.1 hm rfl
            rwa [show zs.length - cap = 0 by omega] at this
          go_enter Try.func48, Try.ntmps48
          go_wp2_with (first
            | (go_at_call 10; refine J1.out.mono ?_; rintro e w1 ⟨u1, rfl, s1, hf1, hb1⟩; clear J1; have d0 := (hb1.cell (p := ⟨b, 0, none⟩) hlt).trans C0.out; have g0 := (hb1.frozen (p := ⟨b, 0, none⟩) hlt).trans F0.out; have HB1 := hide hb1; have J2 := hide (refJoin_fresh w1 _ (zs.drop cap) (SD.out.below hb1) (by simp; omega)); clear hb1)
            | (go_at_call 10; refine J2.out.mono ?_; rintro e w2 ⟨u2, rfl, s2, hf2, hb2⟩; clear J2; have d1 := (hb2.cell (p := ⟨b, 0, none⟩) (Nat.lt_of_lt_of_le hlt HB1.out.size)).trans d0; have g1 := (hb2.frozen (p := ⟨b, 0, none⟩) (Nat.lt_of_lt_of_le hlt HB1.out.size)).trans g0; have HB2 := hide (below_then' HB1.out hb2 (Nat.le_refl _)); have S1 := hide (s1.below hb2); have HZ := hide hb2.size; have S2 := hide s2; obtain ⟨ao2, l2, cap2, rfl⟩ := sl_form s2; clear s1 hb2 s2))
          go_ret
          exact ⟨_, rraw_end HR.out hlt HB1.out HB2.out HZ.out S1.out hf1 S2.out hf2⟩
        · have hcm' : (cap == m) = false := by simpa using hcm
          have SD := hide (sl_cut m HR.out.2.1 hm)
          go_enter Try.func48, Try.ntmps48
          go_wp2_with (first
            | (go_at_call 10; refine J1.out.mono ?_; rintro e w1 ⟨u1, rfl, s1, hf1, hb1⟩; clear J1; have d0 := (hb1.cell (p := ⟨b, 0, none⟩) hlt).trans C0.out; have g0 := (hb1.frozen (p := ⟨b, 0, none⟩) hlt).trans F0.out; have HB1 := hide hb1; have J2 := hide (refJoin_fresh w1 _ (zs.drop m) (SD.out.below hb1) (by simp; omega)); clear hb1)
            | (go_at_call 10; refine J2.out.mono ?_; rintro e w2 ⟨u2, rfl, s2, hf2, hb2⟩; clear J2; have d1 := (hb2.cell (p := ⟨b, 0, none⟩) (Nat.lt_of_lt_of_le hlt HB1.out.size)).trans d0; have g1 := (hb2.frozen (p := ⟨b, 0, none⟩) (Nat.lt_of_lt_of_le hlt HB1.out.size)).trans g0; have HB2 := hide (below_then' HB1.out hb2 (Nat.le_refl _)); have S1 := hide (s1.below hb2); have HZ := hide hb2.size; have S2 := hide s2; obtain ⟨ao2, l2, cap2, rfl⟩ := sl_form s2; clear s1 hb2 s2))
          go_ret
          exact ⟨_, rraw_end HR.out hlt HB1.out HB2.out HZ.out S1.out hf1 S2.out hf2⟩
  · have es : takeS zs er n = ([], zs, er) := by simp [takeS, e0]
    rw [es]
    have e1 : (er == 0) = false := by simpa using e0
    go_enter Try.func48, Try.ntmps48
    go_wp2
    go_ret
    exact ⟨_, rfl, Sl.nil _, Fresh.nil _ _, grownBy_refl _ _, _, HR.out⟩

end Go.Proofs.Ytbopcppagfhjnaa
