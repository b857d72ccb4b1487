/- Contract: a text that is taken of the document's reader. -/
import Derived.Test.YtbopcppagfhjnaaRRNum
namespace Go.Proofs.Ytbopcppagfhjnaa
open Go.RowKit

theorem grown_trans {w w1 w2 : World} {r : Option Nat} (h : w.grownBy w1 r) (h2 : w1.grownBy w2 r) : w.grownBy w2 r :=
  ⟨h2.os.trans h.os, h2.tape.trans h.tape, h2.output.trans h.output, Nat.le_trans h.size h2.size, fun k hk hne => (h2.block k (Nat.lt_of_lt_of_le hk h.size) hne).trans (h.block k hk hne)⟩

theorem fresh_le {a b : Nat} {w : World} {v : Value} (h : Fresh b w v) (hab : a ≤ b) : Fresh a w v := fun k hk => ⟨Nat.le_trans hab (h k hk).1, (h k hk).2⟩

set_option maxRecDepth 20000 in
set_option maxHeartbeats 1000000 in
theorem rText_any (w : World) (b : Nat) (u : Value) (zs : List Int) (er most : Int) (h : RR w b u zs er) (hl : zs.length ≤ 50000) :
    Calls Try.prog 49 #[.pointer (some ⟨b, 0, none⟩), .int .i64 most] w fun e w' => ∃ v, e = .returned v ∧ Sl w' v (textS zs er most).1 ∧ Fresh w.heap.size w' v ∧ w.grownBy w' (some b) ∧ ∃ u', RR w' b u' (textS zs er most).2.1 (textS zs er most).2.2 := by
  have HR := hide h
  obtain ⟨c0, c1, hfr⟩ := h.cells
  have hlt := h.lt
  have hb0 := h.2.1.bytes.get 0
  obtain ⟨hg, ⟨hb, ao, cap, rfl, h1, h2, h3, h4⟩, hne⟩ := h
  unfold maxLen at h2
  have f0 := hfr 0
  have f1 := hfr 1
  clear hfr h3 hne hg
  by_cases e0 : er = 0
  · subst e0
    have fails : ∀ x : Int, x ≠ 0 → tlen zs most = (0, x) → textS zs 0 most = ([], zs, x) := by
      intro x hx h
      rw [textS, if_neg (by simp), h, if_pos hx]
    by_cases m0 : most < 0
    · rw [fails 1 (by omega) (by simp [tlen, m0])]
      have HF := hide (rfail_any w b _ zs 1 HR.out)
      clear fails h4
      go_enter Try.func49, Try.ntmps49
      go_wp2_with (go_at_call 55; refine HF.out.mono ?_; rintro e w1 ⟨rfl, hw⟩; subst w1)
      go_ret
      exact ⟨_, rfl, Sl.nil _, Fresh.nil _ _, (rr_fail HR.out 1).1, _, (rr_fail HR.out 1).2⟩
    · have d0 : decide (most < 0) = false := decide_eq_false m0
      by_cases z0 : zs.length = 0
      · rw [fails 10 (by omega) (by rw [tlen, if_neg m0, if_pos z0])]
        obtain rfl : zs = [] := List.eq_nil_of_length_eq_zero z0
        have HF := hide (rfail_any w b _ [] 10 HR.out)
        clear fails h4
        go_enter Try.func49, Try.ntmps49
        go_wp2_with (go_at_call 55; refine HF.out.mono ?_; rintro e w1 ⟨rfl, hw⟩; subst w1)
        go_ret
        exact ⟨_, rfl, Sl.nil _, Fresh.nil _ _, (rr_fail HR.out 10).1, _, (rr_fail HR.out 10).2⟩
      · have i0 : (0 : Int) < (zs.length : Int) := by omega
        have i1 : ((zs.length : Int) == 0) = false := by simp; exact fun h => z0 (by simp [h])
        obtain ⟨b', o, rfl, hc⟩ := h4 (by intro h; simp [h] at z0)
        have cx := hc 0 (by omega)
        have ht : tlen zs most = if most < zs.getD 0 0 then (0, 3) else if (zs.length : Int) - 1 < zs.getD 0 0 then (0, 10) else (zs.getD 0 0, 0) := by rw [tlen, if_neg m0, if_neg z0]
        obtain ⟨x, hx⟩ : ∃ x, x = zs.getD 0 0 := ⟨_, rfl⟩
        rw [← hx] at cx ht hb0
        rw [Nat.add_zero] at cx
        clear hx hc h4
        by_cases x1 : most < x
        · rw [fails 3 (by omega) (by rw [ht, if_pos x1])]
          have HF := hide (rfail_any w b _ zs 3 HR.out)
          clear fails ht
          go_enter Try.func49, Try.ntmps49
          go_wp2_with (go_at_call 55; refine HF.out.mono ?_; rintro e w1 ⟨rfl, hw⟩; subst w1)
          go_ret
          exact ⟨_, rfl, Sl.nil _, Fresh.nil _ _, (rr_fail HR.out 3).1, _, (rr_fail HR.out 3).2⟩
        · have d1 : decide (most < x) = false := decide_eq_false x1
          by_cases x2 : (zs.length : Int) - 1 < x
          · rw [fails 10 (by omega) (by rw [ht, if_neg x1, if_pos x2])]
            have HF := hide (rfail_any w b _ zs 10 HR.out)
            clear fails ht
            go_enter Try.func49, Try.ntmps49
            go_wp2_with (go_at_call 55; refine HF.out.mono ?_; rintro e w1 ⟨rfl, hw⟩; subst w1)
            go_ret
            exact ⟨_, rfl, Sl.nil _, Fresh.nil _ _, (rr_fail HR.out 10).1, _, (rr_fail HR.out 10).2⟩
          · have d2 : decide ((zs.length : Int) - 1 < x) = false := decide_eq_false x2
            rw [if_neg x1, if_neg x2] at ht
            obtain ⟨M, rfl⟩ : ∃ M : Nat, x = M := ⟨x.toNat, by omega⟩
            have hts : textS zs 0 most = ((zs.take (1 + M)).drop 1, zs.drop (1 + M), 0) := by
              rw [textS, if_neg (by simp), ht]
              simp
            have htk : takeS (zs.drop 1) 0 (M : Int) = ((zs.take (1 + M)).drop 1, zs.drop (1 + M), 0) := by
              rw [takeS, if_neg (by simp), if_neg (by omega), if_neg (by simp; omega)]
              rw [show ((M : Nat) : Int).toNat = M by omega, List.drop_drop, List.drop_take]
              simp
            rw [hts, ← htk]
            clear fails ht hts htk
            have C0 := hide c0
            have F0 := hide f0
            by_cases hcm : cap = 1
            · have J1 := hide (refJoin_fresh w _ (zs.drop 1) (sl_cut0 1 HR.out.2.1 (by omega) hcm) (by simp; omega))
              go_enter Try.func49, Try.ntmps49
              go_wp2_with (go_at_call 10; refine J1.out.mono ?_; rintro e w1 ⟨u1, rfl, s1, hf1, hb1⟩; clear J1; have d0 := (hb1.cell (p := ⟨b, 0, none⟩) hlt).trans C0.out; have g0 := (hb1.frozen (p := ⟨b, 0, none⟩) hlt).trans F0.out; have S1 := hide s1; obtain ⟨ao2, l2, cap2, rfl⟩ := sl_form s1; obtain ⟨hgr, u', hrr⟩ := rvar_end HR.out hlt hb1 S1.out hf1; have HRR := hide (rr_left (HR.out.keep hb1) S1.out (fun k hk => ⟨fun e => by have := (hf1 k hk).1; omega, (hf1 k hk).2⟩)); clear s1 hrr)
              refine (rRaw_any _ b _ (zs.drop 1) 0 M HRR.out (by simp; omega)).mono ?_
              rintro e w3 ⟨v3, rfl, s3, hf3, hg3, hr3⟩
              go_wp2
              go_ret
              exact ⟨_, rfl, s3, fresh_le hf3 (by have := hgr.size; simpa using this), grown_trans hgr hg3, hr3⟩
            · have J1 := hide (refJoin_fresh w _ (zs.drop 1) (sl_cutb 1 HR.out.2.1 (by omega) (by omega)) (by simp; omega))
              have hcm' : (cap == 1) = false := by simpa using hcm
              go_enter Try.func49, Try.ntmps49
              go_wp2_with (go_at_call 10; refine J1.out.mono ?_; rintro e w1 ⟨u1, rfl, s1, hf1, hb1⟩; clear J1; have d0 := (hb1.cell (p := ⟨b, 0, none⟩) hlt).trans C0.out; have g0 := (hb1.frozen (p := ⟨b, 0, none⟩) hlt).trans F0.out; have S1 := hide s1; obtain ⟨ao2, l2, cap2, rfl⟩ := sl_form s1; obtain ⟨hgr, u', hrr⟩ := rvar_end HR.out hlt hb1 S1.out hf1; have HRR := hide (rr_left (HR.out.keep hb1) S1.out (fun k hk => ⟨fun e => by have := (hf1 k hk).1; omega, (hf1 k hk).2⟩)); clear s1 hrr)
              refine (rRaw_any _ b _ (zs.drop 1) 0 M HRR.out (by simp; omega)).mono ?_
              rintro e w3 ⟨v3, rfl, s3, hf3, hg3, hr3⟩
              go_wp2
              go_ret
              exact ⟨_, rfl, s3, fresh_le hf3 (by have := hgr.size; simpa using this), grown_trans hgr hg3, hr3⟩
  · have es : textS zs er most = ([], zs, er) := by simp [textS, e0]
    rw [es]
    have e1 : (er == 0) = false := by simpa using e0
    clear h4
    go_enter Try.func49, Try.ntmps49
    go_wp2
    go_ret
    exact ⟨_, rfl, Sl.nil _, Fresh.nil _ _, grownBy_refl _ _, _, HR.out⟩

end Go.Proofs.Ytbopcppagfhjnaa
