/- Contracts: the document's reader, and a short number taken of it (incipitref01.Reader). -/
import Derived.Test.YtmjkpgmmfooajaaPoRdV
import Derived.Test.YtmjkpgmmfooajaaRJoin
import Derived.Test.YtmjkpgmmfooajaaPoTkP
import Derived.Test.YtmjkpgmmfooajaaPoGv
import Derived.Test.YtmjkpgmmfooajaaJPoRChk
import Derived.Test.YtmjkpgmmfooajaaCut
import Derived.Test.YtmjkpgmmfooajaaPoTold
import Derived.Test.YtmjkpgmmfooajaaPoRis
namespace Go.Proofs.Ytmjkpgmmfooajaa
set_option maxRecDepth 20000
open Go.RowKit
set_option linter.unusedVariables false

/-- the document's reader lies at block b: what is left, and the first error -/
def RR (w : World) (b : Nat) (u : Value) (zs : List Int) (er : Int) : Prop :=
  w.heap[b]? = some (.cells #[u, .int .i64 er] 73 (0, 0)) ∧ Sl w u zs ∧ ∀ k, u.ownBlock = some k → k ≠ b ∧ k < w.heap.size

theorem RR.cells {w : World} {b : Nat} {u : Value} {zs : List Int} {er : Int} (h : RR w b u zs er) :
    w.cell? ⟨b, 0, none⟩ = some u ∧ w.cell? ⟨b, 1, none⟩ = some (.int .i64 er) ∧ ∀ j, w.frozen? ⟨b, j, none⟩ = false := by
  refine ⟨?_, ?_, fun j => frozen_of_row w b j _ _ h.1⟩ <;> rw [cell_of_row w b _ _ _ (0, 0) h.1] <;> rfl
theorem RR.lt {w : World} {b : Nat} {u : Value} {zs : List Int} {er : Int} (h : RR w b u zs er) : b < w.heap.size := (Array.getElem?_eq_some_iff.1 h.1).1
theorem RR.keep {w w' : World} {b : Nat} {u : Value} {zs : List Int} {er : Int} (h : RR w b u zs er) (hb : Below w.heap.size w w') : RR w' b u zs er :=
  ⟨by rw [hb.block b h.lt]; exact h.1, h.2.1.below hb, fun k hk => ⟨(h.2.2 k hk).1, Nat.lt_of_lt_of_le (h.2.2 k hk).2 hb.size⟩⟩

theorem rheap_set0 {w : World} {b : Nat} {x y : Value} {T : TypeId} (h : w.heap[b]? = some (.cells #[x, y] T (0, 0))) (x' : Value) : (w.setCell ⟨b, 0, none⟩ x').heap[b]? = some (.cells #[x', y] T (0, 0)) := by
  rw [heap_setCell_same w b 0 _ T x' h]; rfl
theorem rheap_set1 {w : World} {b : Nat} {x y : Value} {T : TypeId} (h : w.heap[b]? = some (.cells #[x, y] T (0, 0))) (y' : Value) : (w.setCell ⟨b, 1, none⟩ y').heap[b]? = some (.cells #[x, y'] T (0, 0)) := by
  rw [heap_setCell_same w b 1 _ T y' h]; rfl

/-- a slice stays what it is behind a store into a block that it does not lead to -/
theorem sl_set {w : World} {b j : Nat} {v x : Value} {zs : List Int} (h : Sl w v zs) (hne : zs ≠ [] → v.ownBlock ≠ some b) : Sl (w.setCell ⟨b, j, none⟩ x) v zs := by
  have hg := grown_set (grownBy_refl w (some b)) j x
  by_cases hz : zs = []
  · subst hz
    obtain ⟨hb, ao, cap, rfl, h1, h2, h3, _⟩ := h
    exact ⟨hb, ao, cap, rfl, h1, h2, h3, fun h => absurd rfl h⟩
  · exact h.keep fun k hk hlt => hg.block k hlt (fun e => hne hz (hk.trans e))

theorem rr_err {w : World} {b : Nat} {u : Value} {zs : List Int} {er : Int} (h : RR w b u zs er) (x : Int) : RR (w.setCell ⟨b, 1, none⟩ (.int .i64 x)) b u zs x :=
  ⟨rheap_set1 h.1 _, sl_set h.2.1 (fun _ e => (h.2.2 b e).1 rfl), fun k hk => by simpa using h.2.2 k hk⟩

/-- other bytes, in memory that is there, are left -/
theorem rr_left {w : World} {b : Nat} {u u' : Value} {zs zs' : List Int} {er : Int} (h : RR w b u zs er) (hs : Sl w u' zs') (hk : ∀ k, u'.ownBlock = some k → k ≠ b ∧ k < w.heap.size) : RR (w.setCell ⟨b, 0, none⟩ u') b u' zs' er :=
  ⟨rheap_set0 h.1 _, sl_set hs (fun _ e => (hk b e).1 rfl), fun k h' => by simpa using hk k h'⟩

theorem rfail_any (w : World) (b : Nat) (u : Value) (zs : List Int) (x : Int) (h : RR w b u zs 0) :
    Calls Try.prog 51 #[.pointer (some ⟨b, 0, none⟩), .int .i64 x] w fun e w' => e = .returned (.tuple #[]) ∧ w' = w.setCell ⟨b, 1, none⟩ (.int .i64 x) := by
  obtain ⟨c0, c1, hfr⟩ := h.cells
  have f1 := hfr 1
  clear hfr h
  go_enter Try.func51, Try.ntmps51
  go_wp2
  go_end0
  exact ⟨rfl, rfl⟩

theorem refJoin_fresh (w : World) (v : Value) (zs : List Int) (h : Sl w v zs) (hl : zs.length ≤ 50000) :
    Calls Try.prog 36 #[.slice none 0 0, v] w fun e w' => ∃ u, e = .returned u ∧ Sl w' u zs ∧ Fresh w.heap.size w' u ∧ Below w.heap.size w w' := by
  refine (refJoin_any w _ v [] zs (Sl.nil w) h (by simp; omega)).mono ?_
  rintro e w' ⟨u, rfl, ho, _, hb, _⟩
  rw [List.nil_append] at ho
  exact ⟨u, rfl, sl_of_own ho h.bytes rfl, own_fresh ho, hb⟩

theorem rread_any (w : World) (v : Value) (zs : List Int) (h : Sl w v zs) (hl : zs.length ≤ 50000) :
    Calls Try.prog 41 #[v] w fun e w' => ∃ b u, e = .returned (.pointer (some ⟨b, 0, none⟩)) ∧ w.heap.size ≤ b ∧ RR w' b u zs 0 ∧ Fresh w.heap.size w' u ∧ Below w.heap.size w w' := by
  have HC := refJoin_fresh w v zs h hl
  obtain ⟨_, ao, cap, rfl, _⟩ := h
  go_enter Try.func41, Try.ntmps41
  go_wp2_with (go_at_call 36; refine HC.mono ?_; rintro e w1 ⟨u, rfl, hs, hf, hb⟩; have hs' := hide hs; obtain ⟨_, ao', cap', rfl, _⟩ := hs)
  go_ret
  have hz := hb.size
  refine ⟨w1.heap.size, .slice ao' zs.length cap', rfl, hz, ⟨heap_alloc_new w1 _, hs'.out.alloc _, fun k hk => ?_⟩, fun k hk => ?_, hb.alloc hz _⟩
  · have := hf k hk
    simp
    omega
  · have := hf k hk
    simp
    omega

theorem rr_fail {w : World} {b : Nat} {u : Value} {zs : List Int} (h : RR w b u zs 0) (x : Int) : w.grownBy (w.setCell ⟨b, 1, none⟩ (.int .i64 x)) (some b) ∧ RR (w.setCell ⟨b, 1, none⟩ (.int .i64 x)) b u zs x :=
  ⟨grown_set (grownBy_refl w _) _ _, rr_err h x⟩

theorem sl_cutb {w : World} {b o : Nat} {zs : List Int} {cap : Nat} (n : Nat) (h : Sl w (.slice (some ⟨b, o, none⟩) zs.length cap) zs) (hn : n ≤ zs.length) (h0 : 0 < n) : Sl w (.slice (some ⟨b, o + n, none⟩) (zs.length - n) (cap - n)) (zs.drop n) := by
  have := sl_cut n h hn
  have e : Option.map (fun x => x.add n) (some (⟨b, o, none⟩ : Addr)) = some ⟨b, o + n, none⟩ := by
    simp only [Option.map_some]
    unfold Addr.add
    split <;> simp_all
  rwa [e] at this

/-- the end of a take of a short number: a copy is what is left -/
theorem rvar_end {w w2 : World} {b : Nat} {u u2 : Value} {zs ys : List Int} (h : RR w b u zs 0) (hlt : b < w.heap.size) (hb2 : Below w.heap.size w w2) (s2 : Sl w2 u2 ys) (hf2 : Fresh w.heap.size w2 u2) :
    w.grownBy (w2.setCell ⟨b, 0, none⟩ u2) (some b) ∧ ∃ u', RR (w2.setCell ⟨b, 0, none⟩ u2) b u' ys 0 ∧ ∀ k, u'.ownBlock = some k → u.ownBlock = some k ∨ w.heap.size ≤ k := by
  refine ⟨?_, u2, rr_left (h.keep hb2) s2 (fun k hk => ?_), fun k hk => .inr (hf2 k hk).1⟩
  · exact ⟨hb2.os, hb2.tape, hb2.output, by simpa using hb2.size, fun k hk hne => (heap_setCell_other w2 ⟨b, 0, none⟩ k u2 (fun e => hne (by simp [e]))).trans (hb2.block k hk)⟩
  · have := hf2 k hk
    omega

set_option maxRecDepth 20000 in
set_option maxHeartbeats 2000000 in
theorem rVar_any (w : World) (b : Nat) (u : Value) (zs : List Int) (er : Int) (h : RR w b u zs er) (hl : zs.length ≤ 50000) :
    Calls Try.prog 42 #[.pointer (some ⟨b, 0, none⟩)] w fun e w' => e = .returned (.int .u32 (varS zs er).1) ∧ w.grownBy w' (some b) ∧ ∃ u', RR w' b u' (varS zs er).2.1 (varS zs er).2.2 ∧ ∀ k, u'.ownBlock = some k → u.ownBlock = some k ∨ w.heap.size ≤ k := by
  have HR := hide h
  obtain ⟨c0, c1, hfr⟩ := h.cells
  have hlt := h.lt
  obtain ⟨hg, ⟨hb, ao, cap, rfl, h1, h2, h3, h4⟩, hne⟩ := h
  unfold maxLen at h2
  have f0 := hfr 0
  have f1 := hfr 1
  have H4 := hide h4
  clear hfr h4 h3 hne hg
  by_cases e0 : er = 0
  · subst e0
    have es : varS zs 0 = ((short zs).1, zs.drop (short zs).2.1, (short zs).2.2) := by simp [varS]
    rw [es]
    have F10 := hide (rfail_any w b _ zs 10 HR.out)
    have F11 := hide (rfail_any w b _ zs 11 HR.out)
    go_enter Try.func42, Try.ntmps42
    go_wp2
    go_loop [3, 4, 5] (fun vv tt i => ∃ (k acc : Nat), k ≤ 4 ∧ k ≤ zs.length ∧ acc < 128 ^ k ∧ shortAux k acc (zs.drop k) = short zs ∧ vv = .int .u64 acc ∧ tt = .int .u64 ((128 ^ k : Nat) : Int) ∧ i = .int .i64 k) (fun _ _ i => 5 - (intOf i).toNat)
    case atStart => exact ⟨0, 0, by omega, by omega, by omega, rfl, rfl, rfl, rfl⟩
    case round =>
      obtain ⟨k, acc, hk4, hkl, hacc, hs, rfl, rfl, rfl⟩ := hrel
      by_cases hlt2 : k < zs.length
      · obtain ⟨b', o, rfl, hc⟩ := H4.out (by intro h; simp [h] at hlt2)
        have cx := hc k hlt2
        have hxb := hb.get k
        have hd := drop_cons zs k hlt2
        obtain ⟨x, hx⟩ : ∃ x, x = zs.getD k 0 := ⟨_, rfl⟩
        rw [← hx] at cx hxb hd
        have HD := hide hd
        have HS := hide hs
        clear hc hx hd hs
        by_cases hA : (k = 4 ∧ 15 < x) ∨ (0 < k ∧ x = 0)
        · have he : short zs = (0, 0, 11) := by rw [← HS.out, HD.out, shortAux, if_pos hA]
          have HE := hide he
          clear he
          rcases hA with ⟨rfl, hx⟩ | ⟨hk0, rfl⟩
          · go_wp2_with (go_at_call 51; refine F11.out.mono ?_; rintro e w1 ⟨rfl, hw⟩; subst w1)
            go_ret
            rw [HE.out]
            exact ⟨rfl, (rr_fail HR.out 11).1, _, (rr_fail HR.out 11).2, fun k h => .inl h⟩
          · have hk0' : (0 : Int) < (k : Int) := by omega
            go_wp2_with (go_at_call 51; refine F11.out.mono ?_; rintro e w1 ⟨rfl, hw⟩; subst w1)
            all_goals
              go_ret
              rw [HE.out]
              exact ⟨rfl, (rr_fail HR.out 11).1, _, (rr_fail HR.out 11).2, fun k h => .inl h⟩
        · have hBB := (bitsShort acc k x hacc hk4 hxb.1 hxb.2 (fun h => by omega)).2
          have hB2 := hBB.1
          have hB3 := hBB.2
          clear hBB
          have hP5 : 128 ^ k ≤ 268435456 := by
            have := Nat.pow_le_pow_right (n := 128) (by omega) hk4
            simpa using this
          have hPs : 128 ^ (k + 1) = 128 ^ k * 128 := Nat.pow_succ ..
          have hP0 : 0 < 128 ^ k := Nat.pow_pos (by omega)
          obtain ⟨P, hP⟩ : ∃ P, P = 128 ^ k := ⟨_, rfl⟩
          have HN : Hid (acc + x.toNat % 128 * 128 ^ k = acc + x.toNat % 128 * P) := by rw [hP]; exact rfl
          have HP := hide hP
          rw [hPs, ← hP] at hB2
          rw [← hP] at hacc hP5 hB3 hP0
          rw [← hP]
          have hM1 : x.toNat % 128 * P ≤ 127 * P := Nat.mul_le_mul_right _ (by omega)
          obtain ⟨M, hM⟩ : ∃ M, M = x.toNat % 128 * P := ⟨_, rfl⟩
          have hprod : x % 128 * (P : Int) = (M : Int) := by rw [hM, Int.natCast_mul]; congr 1; omega
          rw [← hM] at hB2 hB3 hM1 HN
          have hB2' := hide hB2
          clear hM hP hPs hB2
          by_cases hx : x < 128
          · have he : short zs = (acc + M, k + 1, 0) := by
              rw [← HS.out, HD.out, shortAux, if_neg hA, if_pos hx, ← HN.out, Nat.mod_eq_of_lt (by omega)]
            have HE := hide he
            have C0 := hide c0
            have F0 := hide f0
            clear he
            rcases (by omega : k = 4 ∨ k = 0 ∨ (0 < k ∧ k < 4)) with hk | hk | hk
            · subst hk
              have hx0 : (x == 0) = false := by simp; omega
              have hx15 : decide (15 < x) = false := decide_eq_false (by omega)
              by_cases hcm : cap = 5
              · have J1 := hide (refJoin_fresh w _ (zs.drop (5)) (sl_cut0 (5) HR.out.2.1 (by omega) hcm) (by simp; omega))
                go_wp2_with (go_at_call 36; refine J1.out.mono ?_; rintro e w1 ⟨u1, rfl, s1, hf1, hb1⟩; clear J1; have d0 := (hb1.cell (p := ⟨b, 0, none⟩) hlt).trans C0.out; have g0 := (hb1.frozen (p := ⟨b, 0, none⟩) hlt).trans F0.out; have S1 := hide s1; obtain ⟨ao2, l2, cap2, rfl⟩ := sl_form s1; clear s1)
                go_ret
                rw [HE.out]
                exact ⟨ret_int (by simp), rvar_end HR.out hlt hb1 S1.out hf1⟩
              · have J1 := hide (refJoin_fresh w _ (zs.drop (5)) (sl_cutb (5) HR.out.2.1 (by omega) (by omega)) (by simp; omega))
                have hcm' : (cap == 5) = false := by simpa using hcm
                go_wp2_with (go_at_call 36; refine J1.out.mono ?_; rintro e w1 ⟨u1, rfl, s1, hf1, hb1⟩; clear J1; have d0 := (hb1.cell (p := ⟨b, 0, none⟩) hlt).trans C0.out; have g0 := (hb1.frozen (p := ⟨b, 0, none⟩) hlt).trans F0.out; have S1 := hide s1; obtain ⟨ao2, l2, cap2, rfl⟩ := sl_form s1; clear s1)
                go_ret
                rw [HE.out]
                exact ⟨ret_int (by simp), rvar_end HR.out hlt hb1 S1.out hf1⟩
            · subst hk
              rw [Nat.add_zero] at cx
              have hzne : zs ≠ [] := by intro h; simp [h] at hlt2
              by_cases hcm : cap = 1
              · have J1 := hide (refJoin_fresh w _ (zs.drop (1)) (sl_cut0 (1) HR.out.2.1 (by omega) hcm) (by simp; omega))
                go_wp2_with (go_at_call 36; refine J1.out.mono ?_; rintro e w1 ⟨u1, rfl, s1, hf1, hb1⟩; clear J1; have d0 := (hb1.cell (p := ⟨b, 0, none⟩) hlt).trans C0.out; have g0 := (hb1.frozen (p := ⟨b, 0, none⟩) hlt).trans F0.out; have S1 := hide s1; obtain ⟨ao2, l2, cap2, rfl⟩ := sl_form s1; clear s1)
                go_ret
                rw [HE.out]
                exact ⟨ret_int (by simp), rvar_end HR.out hlt hb1 S1.out hf1⟩
              · have J1 := hide (refJoin_fresh w _ (zs.drop (1)) (sl_cutb (1) HR.out.2.1 (by omega) (by omega)) (by simp; omega))
                have hcm' : (cap == 1) = false := by simpa using hcm
                go_wp2_with (go_at_call 36; refine J1.out.mono ?_; rintro e w1 ⟨u1, rfl, s1, hf1, hb1⟩; clear J1; have d0 := (hb1.cell (p := ⟨b, 0, none⟩) hlt).trans C0.out; have g0 := (hb1.frozen (p := ⟨b, 0, none⟩) hlt).trans F0.out; have S1 := hide s1; obtain ⟨ao2, l2, cap2, rfl⟩ := sl_form s1; clear s1)
                go_ret
                rw [HE.out]
                exact ⟨ret_int (by simp), rvar_end HR.out hlt hb1 S1.out hf1⟩
            · have hk4n : ((k : Int) == 4) = false := by simp; omega
              have hk0n : (0 : Int) < (k : Int) := by omega
              have hx0 : (x == 0) = false := by simp; omega
              by_cases hcm : cap = k + 1
              · have J1 := hide (refJoin_fresh w _ (zs.drop (k + 1)) (sl_cut0 (k + 1) HR.out.2.1 (by omega) hcm) (by simp; omega))
                go_wp2_with (go_at_call 36; refine J1.out.mono ?_; rintro e w1 ⟨u1, rfl, s1, hf1, hb1⟩; clear J1; have d0 := (hb1.cell (p := ⟨b, 0, none⟩) hlt).trans C0.out; have g0 := (hb1.frozen (p := ⟨b, 0, none⟩) hlt).trans F0.out; have S1 := hide s1; obtain ⟨ao2, l2, cap2, rfl⟩ := sl_form s1; clear s1)
                go_ret
                rw [HE.out]
                exact ⟨ret_int (by simp), rvar_end HR.out hlt hb1 S1.out hf1⟩
              · have J1 := hide (refJoin_fresh w _ (zs.drop (k + 1)) (sl_cutb (k + 1) HR.out.2.1 (by omega) (by omega)) (by simp; omega))
                have hcm' : (cap == k + 1) = false := by simpa using hcm
                go_wp2_with (go_at_call 36; refine J1.out.mono ?_; rintro e w1 ⟨u1, rfl, s1, hf1, hb1⟩; clear J1; have d0 := (hb1.cell (p := ⟨b, 0, none⟩) hlt).trans C0.out; have g0 := (hb1.frozen (p := ⟨b, 0, none⟩) hlt).trans F0.out; have S1 := hide s1; obtain ⟨ao2, l2, cap2, rfl⟩ := sl_form s1; clear s1)
                go_ret
                rw [HE.out]
                exact ⟨ret_int (by simp), rvar_end HR.out hlt hb1 S1.out hf1⟩
          · have he : shortAux (k + 1) (acc + M) (zs.drop (k + 1)) = short zs := by
              rw [← HS.out, HD.out, shortAux, if_neg hA, if_neg hx, ← HN.out]
            have HE := hide he
            have hk3 : k ≤ 3 := by omega
            clear he
            go_wp2
            all_goals
              go_round
              case rel => exact ⟨k + 1, acc + M, by omega, by omega, by rw [Nat.pow_succ, ← HP.out]; exact hB2'.out, HE.out, by go_num, by rw [Nat.pow_succ, ← HP.out]; go_num, by go_num⟩
              case measure => simp [intOf]; omega
      · have he : short zs = (0, 0, 10) := by rw [← hs, List.drop_eq_nil_of_le (by omega), shortAux]
        have HE := hide he
        clear he hs
        go_wp2_with (go_at_call 51; refine F10.out.mono ?_; rintro e w1 ⟨rfl, hw⟩; subst w1)
        go_ret
        rw [HE.out]
        exact ⟨rfl, (rr_fail HR.out 10).1, _, (rr_fail HR.out 10).2, fun k h => .inl h⟩
  · have es : varS zs er = (0, zs, er) := by simp [varS, e0]
    rw [es]
    have e1 : (er == 0) = false := by simpa using e0
    go_enter Try.func42, Try.ntmps42
    go_wp2
    go_ret
    exact ⟨rfl, grownBy_refl _ _, _, HR.out, fun k h => .inl h⟩

end Go.Proofs.Ytmjkpgmmfooajaa
/- What the document's Take of a posting keeps (incipitref15.Take). -/
namespace Go.Proofs.Ytmjkpgmmfooajaa
set_option maxRecDepth 20000
open Go.RowKit
set_option linter.unusedVariables false
set_option linter.unusedSimpArgs false
set_option maxRecDepth 100000

theorem results_cell_tmp2 {fn : Func} {p u u' : Tmp} {ty : TypeId} (h : fn.results = #[.cell p ty, .tmp u, .tmp u']) (tmps : Array Value) (P : Program) (w : World) :
    (results fn tmps).run P w =
      ((asAddr (tmps.getD p undef)).run P w).andThen fun a w₁ => ((loadVar ty a).run P w₁).andThen fun v w₂ => .ok (.tuple #[v, tmps.getD u undef, tmps.getD u' undef]) w₂ := by
  simp only [results, h]
  simp [Sem.run_bind, Result.andThen]
theorem ret_po2 {fn : Func} {p u u' : Tmp} (h : fn.results = #[.cell p 34, .tmp u, .tmp u']) (tmps : Array Value) (w : World) (b : Nat) (x0 x1 n er : Value) (hp : tmps.getD p undef = .pointer (some ⟨b, 0, none⟩)) (hu : tmps.getD u undef = n) (hu' : tmps.getD u' undef = er) (hB : Blk w b 34 [x0, x1]) :
    (results fn tmps).run Try.prog w = .ok (.tuple #[.agg #[x0, x1], n, er]) w := by
  rw [results_cell_tmp2 h, hp, hu, hu']
  simp only [asAddr, Sem.run_pure, Result.andThen_ok]
  rw [load_po w b x0 x1 hB]
  rfl

theorem RR.only {S : Nat → Prop} {w w' : World} {b : Nat} {u : Value} {zs : List Int} {er : Int} (h : RR w b u zs er) (ho : Only S w w') (hb : ¬ S b) (hu : ∀ k, u.ownBlock = some k → ¬ S k) : RR w' b u zs er :=
  ⟨(ho.block b h.lt hb).trans h.1, h.2.1.keep (fun k hk hlt => ho.block k hlt (hu k hk)), fun k hk => ⟨(h.2.2 k hk).1, Nat.lt_of_lt_of_le (h.2.2 k hk).2 ho.size⟩⟩
theorem only_of_grownB {w w' : World} {b : Nat} (h : w.grownBy w' (some b)) : Only (· = b) w w' := (Only.refl (· = b) w).grown h (fun k hk _ => (Option.some.inj hk).symm)

/-- ahead of the posting's own box -/
structure RtP (w : World) (b : Nat) (z : List Int) (er : Int) (W : World) : Prop where
  rd : ∃ u, RR W b u z er ∧ ∀ k, u.ownBlock = some k → w.heap.size < k
  bA : Blk W w.heap.size 34 [.int .u32 0, nilS]
  far : w.heap.size < b
  below : Below w.heap.size w W
theorem RtP.take {w : World} {b : Nat} {z : List Int} {er : Int} {W : World} (h : RtP w b z er W) (hz : z.length ≤ 50000) :
    Calls Try.prog 42 #[.pointer (some ⟨b, 0, none⟩)] W fun e W' => e = .returned (.int .u32 (varS z er).1) ∧ RtP w b (varS z er).2.1 (varS z er).2.2 W' := by
  obtain ⟨u, h1, h2⟩ := h.rd
  refine (rVar_any W b u z er h1 hz).mono ?_
  rintro e W' ⟨rfl, hg, u', h3, h4⟩
  have ho := only_of_grownB hg
  have hf := h.far
  have hl := h.bA.lt
  refine ⟨rfl, ⟨u', h3, fun k hk => ?_⟩, h.bA.only ho (by omega), hf, h.below.trans (ho.below h.below.size (fun j hj e => by omega))⟩
  rcases h4 k hk with e | e
  · exact h2 k e
  · omega

/-- with it -/
structure RtI (w : World) (b PB : Nat) (d : Nat) (rv : Value) (xs z : List Int) (er : Int) (W : World) : Prop where
  rd : ∃ u, RR W b u z er ∧ ∀ k, u.ownBlock = some k → w.heap.size < k ∧ k ≠ PB ∧ rv.ownBlock ≠ some k
  bA : Blk W w.heap.size 34 [.int .u32 0, nilS]
  bP : Blk W PB 34 [.int .u32 (d : Int), rv]
  row : Ints W (w.heap.size + 1) rv xs
  far : w.heap.size < b ∧ w.heap.size < PB ∧ b ≠ PB ∧ rv.ownBlock ≠ some b ∧ rv.ownBlock ≠ some PB
  below : Below w.heap.size w W
theorem RtP.box {w : World} {b : Nat} {z : List Int} {er : Int} {W : World} (h : RtP w b z er W) (d : Nat) : RtI w b W.heap.size d nilS [] z er (W.alloc (.cells #[.int .u32 (d : Int), nilS] 34)) := by
  obtain ⟨u, h1, h2⟩ := h.rd
  have hb : Below W.heap.size W (W.alloc (.cells #[.int .u32 (d : Int), nilS] 34)) := (Below.refl _ W).alloc (Nat.le_refl _) _
  have hl := h1.lt
  exact ⟨⟨u, h1.keep hb, fun k hk => ⟨h2 k hk, by have := (h1.2.2 k hk).2; omega, fun e => by cases e⟩⟩, h.bA.alloc _, Blk.new W _ _, Ints.nil _ _, ⟨h.far, h.bA.lt, by omega, (fun e => by cases e), (fun e => by cases e)⟩, h.below.trans (hb.mono h.below.size)⟩
theorem RtI.take {w : World} {b PB d : Nat} {rv : Value} {xs z : List Int} {er : Int} {W : World} (h : RtI w b PB d rv xs z er W) (hz : z.length ≤ 50000) :
    Calls Try.prog 42 #[.pointer (some ⟨b, 0, none⟩)] W fun e W' => e = .returned (.int .u32 (varS z er).1) ∧ RtI w b PB d rv xs (varS z er).2.1 (varS z er).2.2 W' := by
  obtain ⟨u, h1, h2⟩ := h.rd
  refine (rVar_any W b u z er h1 hz).mono ?_
  rintro e W' ⟨rfl, hg, u', h3, h4⟩
  have ho := only_of_grownB hg
  obtain ⟨f1, f2, f3, f4, f5⟩ := h.far
  have hl := h.bA.lt
  have hp := h.bP.lt
  refine ⟨rfl, ⟨u', h3, fun k hk => ?_⟩, h.bA.only ho (by omega), h.bP.only ho (by omega), h.row.only ho (fun k hk e => f4 (by rw [hk, e])), h.far, h.below.trans (ho.below h.below.size (fun j hj e => by omega))⟩
  rcases h4 k hk with e | e
  · exact h2 k e
  · exact ⟨by omega, by omega, fun e2 => by have := (h.row.lt k e2).2; omega⟩
/-- a position more -/
theorem RtI.push {w : World} {b PB d : Nat} {rv : Value} {xs z : List Int} {W : World} (h : RtI w b PB d rv xs z 0 W) (x : Int) (hl : xs.length + 1 ≤ 1000000) :
    ∃ ao cap w3, (Builtin.append_ #[32, 32] 32 #[rv, .slice (some ⟨W.heap.size, 0, none⟩) 1 1]).run Try.prog (W.alloc (.cells #[.int .i64 x] 3)) = .ok (.slice ao (xs.length + 1) cap) w3 ∧ Blk w3 PB 34 [.int .u32 (d : Int), rv] ∧ RtI w b PB d (.slice ao (xs.length + 1) cap) (xs ++ [x]) z 0 (w3.setCell ⟨PB, 1, none⟩ (.slice ao (xs.length + 1) cap)) := by
  obtain ⟨u, h1, h2⟩ := h.rd
  obtain ⟨f1, f2, f3, f4, f5⟩ := h.far
  have hA := h.bA.lt
  have hP := h.bP.lt
  have hB := h1.lt
  obtain ⟨v', w3, hr, hi3, hg3, hv3, ao, cap, rfl⟩ := run_append_int W (w.heap.size + 1) rv xs h.row x hl (by omega)
  have hoA : Only (fun j => rv.ownBlock = some j) W w3 := ((Only.refl _ W).alloc _).grown hg3 (fun j e _ => e)
  have hoB : Only (· = PB) w3 (w3.setCell ⟨PB, 1, none⟩ (.slice ao (xs.length + 1) cap)) := (Only.refl (· = PB) w3).setCell ⟨PB, 1, none⟩ _ (fun _ => rfl)
  have hnA : rv.ownBlock ≠ some w.heap.size := fun e => by have := (h.row.lt _ e).1; omega
  have hbP3 : Blk w3 PB 34 [.int .u32 (d : Int), rv] := h.bP.only hoA f5
  have hnew : ∀ k, (Value.slice ao (xs.length + 1) cap).ownBlock = some k → rv.ownBlock = some k ∨ W.heap.size < k := fun k hk => by
    rcases hv3 with e | e
    · exact .inl (e ▸ hk)
    · rw [e] at hk
      obtain rfl := Option.some.inj hk
      exact .inr (by omega)
  refine ⟨ao, cap, w3, hr, hbP3, ⟨u, (h1.only hoA f4 (fun k hk => (h2 k hk).2.2)).only hoB f3 (fun k hk => (h2 k hk).2.1), fun k hk => ⟨(h2 k hk).1, (h2 k hk).2.1, fun e => ?_⟩⟩, (h.bA.only hoA hnA).only hoB (by omega), hbP3.set 1 _, hi3.only hoB (fun k hk e => ?_), ⟨f1, f2, f3, fun e => ?_, fun e => ?_⟩, (h.below.trans (hoA.below h.below.size (fun j hj e => by have := (h.row.lt j e).1; omega))).trans (hoB.below (Nat.le_trans h.below.size hoA.size) (fun j hj e => by omega))⟩
  · rcases hnew k e with e | e
    · exact (h2 k hk).2.2 e
    · have := (h1.2.2 k hk).2; omega
  · rcases hnew k hk with e2 | e2
    · exact f5 (e ▸ e2)
    · omega
  · rcases hnew b e with e2 | e2
    · exact f4 e2
    · omega
  · rcases hnew PB e with e2 | e2
    · exact f5 e2
    · omega

end Go.Proofs.Ytmjkpgmmfooajaa
/- Contract: the document's Take of a posting (incipitref15.Take). -/
namespace Go.Proofs.Ytmjkpgmmfooajaa
set_option maxRecDepth 20000
open Go.RowKit
set_option linter.unusedVariables false
set_option linter.unusedSimpArgs false
set_option maxRecDepth 100000

/-- what a Take answers -/
def GivesTk (w : World) (r : Po × Nat × Int) (e : Ending) (w' : World) : Prop :=
  ∃ v, e = .returned (.tuple #[v, .int .i64 (r.2.1 : Nat), .int .i64 r.2.2]) ∧ PoN w' w.heap.size v r.1 ∧ Below w.heap.size w w'
theorem GivesTk.err {w w' : World} {er : Int} (h : Below w.heap.size w w') (hB : Blk w' w.heap.size 34 [.int .u32 0, nilS]) : GivesTk w (noPo, 0, er) (.returned (.tuple #[.agg #[.int .u32 0, .slice none 0 0], .int .i64 0, .int .i64 er])) (laidP w' w.heap.size (.int .u32 0) (.slice none 0 0)) ∧ Blk (laidP w' w.heap.size (.int .u32 0) (.slice none 0 0)) w.heap.size 34 [.int .u32 0, .slice none 0 0] :=
  ⟨⟨_, rfl, PoN.none _ _, h.trans ((laidP_only w' _ _ _).below h.size (fun j hj e => by omega))⟩, laidP_blk hB _ _⟩

set_option maxHeartbeats 2000000 in
theorem refTake_any (w : World) (vb : Value) (zs : List Int) (hz : Sl w vb zs) (hl : zs.length ≤ 50000) (a : Int) (prev : Nat) (hp : prev < 4294967296) :
    Calls Try.prog 21 #[vb, .int .i64 a, .int .u32 (prev : Int)] w (GivesTk w (takeV zs a prev)) := by
  have hzb := hz.bytes
  obtain ⟨bo, bc, rfl⟩ := sl_form' hz
  obtain ⟨bn, hbn⟩ : ∃ n, zs.length = n := ⟨_, rfl⟩
  have HBN := hide hbn
  have HZ := hide hz
  obtain ⟨w1, hw1⟩ : ∃ w1, w.alloc (.cells #[.int .u32 0, .slice none 0 0] 34) = w1 := ⟨_, rfl⟩
  have hb1 : Below w.heap.size w w1 := by rw [← hw1]; exact (Below.refl _ w).alloc (Nat.le_refl _) _
  have hB1 : Blk w1 w.heap.size 34 [.int .u32 0, .slice none 0 0] := by rw [← hw1]; exact Blk.new w _ _
  have HE1 := hide (GivesTk.err (er := 1) hb1 hB1)
  have HB1 := hide hB1
  have HBE := hide hb1
  obtain ⟨⟨a0, a1⟩, a2, a3⟩ := po_cells hB1
  rw [hbn] at hz hl HZ ⊢
  by_cases hneg : a < 0
  · have HT : Hid (takeV zs a prev = (noPo, 0, 1)) := by show _ = _; unfold takeV; rw [if_pos (.inl hneg)]
    generalize takeV zs a prev = T at *
    clear hB1 hb1 hz hzb
    go_enter Try.func21, Try.ntmps21
    go_wp2
    try rw [hw1]
    refine bodyPost_ret (ret_po2 rfl _ _ w.heap.size _ _ _ _ rfl rfl rfl HE1.out.2) rfl ?_
    rw [HT.out]
    exact HE1.out.1
  · by_cases hbig : (bn : Int) < a
    · have HT : Hid (takeV zs a prev = (noPo, 0, 1)) := by show _ = _; unfold takeV; rw [hbn, if_pos (.inr hbig)]
      generalize takeV zs a prev = T at *
      clear hB1 hb1 hz hzb
      go_enter Try.func21, Try.ntmps21
      go_wp2
      try rw [hw1]
      refine bodyPost_ret (ret_po2 rfl _ _ w.heap.size _ _ _ _ rfl rfl rfl HE1.out.2) rfl ?_
      rw [HT.out]
      exact HE1.out.1
    · obtain ⟨A, rfl⟩ : ∃ A : Nat, a = (A : Int) := ⟨a.toNat, by omega⟩
      have hAn : A ≤ bn := by omega
      have HT : Hid (takeV zs (A : Int) prev = if nextOk prev (zs.drop A) = true then (nextPo prev (zs.drop A), bn - (nP (zs.drop A)).2.1.length, 0) else (noPo, 0, 150)) := by
        show _ = _
        unfold takeV
        rw [hbn, if_neg (by omega)]
        rfl
      have hlow0 := cut_l w bo zs bc A (by rw [hbn]; exact hz) (by omega)
      rw [hbn] at hlow0
      obtain ⟨a', c', hlow, hdr⟩ := hlow0
      obtain ⟨zr, hzr⟩ : ∃ zr, zs.drop A = zr := ⟨_, rfl⟩
      have hzrb : ByteOk zr := by rw [← hzr]; exact hzb.drop _
      have hzrl : zr.length ≤ 50000 := by rw [← hzr]; simp; omega
      rw [hzr] at HT hlow hdr
      have HRD := hide (rread_any w1 _ zr ((hdr w hz).keep (fun j _ hlt => hb1.block j hlt)) hzrl)
      obtain ⟨zl, hzl⟩ : ∃ n, zr.length = n := ⟨_, rfl⟩
      rw [hzl] at hlow HRD
      generalize takeV zs (A : Int) prev = T at *
      have HDL : Hid ((nD zr).2.1.length ≤ 50000 ∧ (nN zr).2.1.length ≤ 50000) := by
        have h1 : (nD zr).2.1.length ≤ zr.length := varS_len zr 0
        have h2 : (nN zr).2.1.length ≤ (nD zr).2.1.length := varS_len (nD zr).2.1 (nD zr).2.2
        exact ⟨by omega, by omega⟩
      have HDB : Hid (ByteOk (nD zr).2.1 ∧ ByteOk (nN zr).2.1) := ⟨varS_bytes hzrb 0, varS_bytes (varS_bytes hzrb 0) _⟩
      have hd32 : (nD zr).1 < 4294967296 := varS_lt hzrb 0
      have hn32 : (nN zr).1 < 4294967296 := varS_lt HDB.out.1 _
      have HV1 : Hid (∀ b W, RtP w b zr 0 W → Calls Try.prog 42 #[.pointer (some ⟨b, 0, none⟩)] W fun e W' => e = .returned (.int .u32 ((nD zr).1 : Nat)) ∧ RtP w b (nD zr).2.1 (nD zr).2.2 W') := fun b W h => h.take hzrl
      have HV2 : Hid (∀ b W, RtP w b (nD zr).2.1 (nD zr).2.2 W → Calls Try.prog 42 #[.pointer (some ⟨b, 0, none⟩)] W fun e W' => e = .returned (.int .u32 ((nN zr).1 : Nat)) ∧ RtP w b (nN zr).2.1 (nN zr).2.2 W') := fun b W h => h.take HDL.out.1
      have HNO : Hid (nextOk prev zr = false → T = (noPo, 0, 150)) := fun h => by rw [HT.out, h]; rfl
      have HKD := hide (fun h => tk_doc hp hzrb (h : 2147483647 < prev + (nD zr).1))
      have HKE := hide (fun h => tk_err1 (prev := prev) (zr := zr) h)
      have HKM := hide (fun h => tk_many (prev := prev) (zr := zr) h)
      have hnP : (nN zr).2.2 = 0 → nP zr = posR (nN zr).1 0 (nN zr).2.1 0 := fun h => by unfold nP; rw [h]
      have HNP := hide hnP
      have HDN : Hid (∀ xs z, (nN zr).2.2 = 0 → (nN zr).1 ≤ 2000 → nP zr = (xs, z, 0) → nextOk prev zr = mayB prev (nextPo prev zr) ∧ (nextPo prev zr).pos = xs) := fun xs z h1 h2 h3 => tk_done HDB.out.2 h1 h2 h3
      have HPD : Hid ((nextPo prev zr).doc = (prev + (nD zr).1) % 4294967296) := rfl
      have HE2 := hide (fun k a m xs z h1 h2 => tk_err2 (prev := prev) (k := k) (a := a) (m := m) (zr := zr) (xs := xs) (z := z) h1 h2)
      have HBG := hide (fun a m xs z h1 h2 => tk_big (prev := prev) (a := a) (m := m) (zr := zr) (xs := xs) (z := z) h1 h2)
      obtain ⟨D, hD⟩ : ∃ D, (nD zr).1 = D := ⟨_, rfl⟩
      obtain ⟨N, hN⟩ : ∃ N, (nN zr).1 = N := ⟨_, rfl⟩
      rw [hD] at hd32 HV1 HKD HPD
      rw [hN] at hn32 HV2 HKM HNP HDN
      generalize (nN zr).2.2 = eN at *
      generalize (nN zr).2.1 = zN at *
      generalize (nD zr).2.2 = eD at *
      generalize (nD zr).2.1 = zD at *
      have HZL := hide hzl
      have HZRB := hide hzrb
      have HZRL : Hid (zr.length ≤ bn) := by show _ ≤ _; rw [← hzr]; simp; omega
      clear hB1 hb1 hz hzb hdr hzr hzrb hzrl hnP hD hN hzl hbn
      by_cases c1 : eN = 0
      · subst c1
        have HNP0 := hide (HNP.out rfl)
        have HDN0 := hide (fun xs z => HDN.out xs z rfl)
        clear HNP HDN HKE
        by_cases c2 : 2147483647 < prev
        · have HNX : Hid (nextOk prev zr = false) := HKD.out (by omega)
          have c2' : (2147483647 : Int) < (prev : Int) := by omega
          go_enter Try.func21, Try.ntmps21
          go_wp2_with (first
            | (go_at_call 41; (try rw [hw1]); refine HRD.out.mono ?_; rintro e w2 ⟨b, u, rfl, hbb, hrr, hfr, hb⟩; have hP0 : RtP w b zr 0 w2 := ⟨⟨u, hrr, fun k hk => by have := (hfr k hk).1; have := HB1.out.lt; omega⟩, HB1.out.below hb HB1.out.lt, by have := HB1.out.lt; omega, HBE.out.trans (hb.mono HBE.out.size)⟩; have HP := hide hP0; clear HRD hP0 hrr hfr hb hbb a0 a1 a2 a3)
            | (go_at_call 42; refine (HV1.out _ _ HP.out).mono ?_; rintro e w3 ⟨rfl, hP1⟩; have HP := hide hP1; clear HV1 hP1)
            | (go_at_call 42; refine (HV2.out _ _ HP.out).mono ?_; rintro e w4 ⟨rfl, hP2⟩; have HP := hide hP2; clear HV2; obtain ⟨u4, hr4, _⟩ := hP2.rd; obtain ⟨b0, b1, _⟩ := hr4.cells; obtain ⟨⟨a0, a1⟩, a2, a3⟩ := po_cells hP2.bA; clear hr4 hP2))
          have hge := GivesTk.err (er := 150) HP.out.below HP.out.bA
          refine bodyPost_ret (ret_po2 rfl _ _ w.heap.size _ _ _ _ rfl rfl rfl hge.2) rfl ?_
          rw [HNO.out HNX.out]
          exact hge.1
        · have c2' : ¬ (2147483647 : Int) < (prev : Int) := by omega
          have hsub : (2147483647 : Int) - (prev : Int) = ((2147483647 - prev : Nat) : Int) := by omega
          obtain ⟨M, hM⟩ : ∃ M, 2147483647 - prev = M := ⟨_, rfl⟩
          rw [hM] at hsub
          have hMl : M < 4294967296 := by omega
          have hwM : IntKind.u32.wrap (M : Int) = (M : Int) := IntWalk.u32_in _ (by omega)
          by_cases c3 : M < D
          · have HNX : Hid (nextOk prev zr = false) := HKD.out (by omega)
            have c3' : (M : Int) < (D : Int) := by omega
            go_enter Try.func21, Try.ntmps21
            go_wp2_with (first
              | (go_at_call 41; (try rw [hw1]); refine HRD.out.mono ?_; rintro e w2 ⟨b, u, rfl, hbb, hrr, hfr, hb⟩; have hP0 : RtP w b zr 0 w2 := ⟨⟨u, hrr, fun k hk => by have := (hfr k hk).1; have := HB1.out.lt; omega⟩, HB1.out.below hb HB1.out.lt, by have := HB1.out.lt; omega, HBE.out.trans (hb.mono HBE.out.size)⟩; have HP := hide hP0; clear HRD hP0 hrr hfr hb hbb a0 a1 a2 a3)
              | (go_at_call 42; refine (HV1.out _ _ HP.out).mono ?_; rintro e w3 ⟨rfl, hP1⟩; have HP := hide hP1; clear HV1 hP1)
              | (go_at_call 42; refine (HV2.out _ _ HP.out).mono ?_; rintro e w4 ⟨rfl, hP2⟩; have HP := hide hP2; clear HV2; obtain ⟨u4, hr4, _⟩ := hP2.rd; obtain ⟨b0, b1, _⟩ := hr4.cells; obtain ⟨⟨a0, a1⟩, a2, a3⟩ := po_cells hP2.bA; clear hr4 hP2))
            have hge := GivesTk.err (er := 150) HP.out.below HP.out.bA
            refine bodyPost_ret (ret_po2 rfl _ _ w.heap.size _ _ _ _ rfl rfl rfl hge.2) rfl ?_
            rw [HNO.out HNX.out]
            exact hge.1
          · have c3' : ¬ (M : Int) < (D : Int) := by omega
            by_cases c4 : 2000 < N
            · have HNX : Hid (nextOk prev zr = false) := HKM.out c4
              have c4' : (2000 : Int) < (N : Int) := by omega
              go_enter Try.func21, Try.ntmps21
              go_wp2_with (first
                | (go_at_call 41; (try rw [hw1]); refine HRD.out.mono ?_; rintro e w2 ⟨b, u, rfl, hbb, hrr, hfr, hb⟩; have hP0 : RtP w b zr 0 w2 := ⟨⟨u, hrr, fun k hk => by have := (hfr k hk).1; have := HB1.out.lt; omega⟩, HB1.out.below hb HB1.out.lt, by have := HB1.out.lt; omega, HBE.out.trans (hb.mono HBE.out.size)⟩; have HP := hide hP0; clear HRD hP0 hrr hfr hb hbb a0 a1 a2 a3)
                | (go_at_call 42; refine (HV1.out _ _ HP.out).mono ?_; rintro e w3 ⟨rfl, hP1⟩; have HP := hide hP1; clear HV1 hP1)
                | (go_at_call 42; refine (HV2.out _ _ HP.out).mono ?_; rintro e w4 ⟨rfl, hP2⟩; have HP := hide hP2; clear HV2; obtain ⟨u4, hr4, _⟩ := hP2.rd; obtain ⟨b0, b1, _⟩ := hr4.cells; obtain ⟨⟨a0, a1⟩, a2, a3⟩ := po_cells hP2.bA; clear hr4 hP2))
              have hge := GivesTk.err (er := 150) HP.out.below HP.out.bA
              refine bodyPost_ret (ret_po2 rfl _ _ w.heap.size _ _ _ _ rfl rfl rfl hge.2) rfl ?_
              rw [HNO.out HNX.out]
              exact hge.1
            · have c4' : ¬ (2000 : Int) < (N : Int) := by omega
              obtain ⟨d, hd⟩ : ∃ d, prev + D = d := ⟨_, rfl⟩
              have hdi : (prev : Int) + (D : Int) = (d : Int) := by omega
              have hdl : d < 4294967296 := by omega
              have hwd : IntKind.u32.wrap (d : Int) = (d : Int) := IntWalk.u32_in _ (by omega)
              go_enter Try.func21, Try.ntmps21
              go_wp2_with (first
                | (go_at_call 41; (try rw [hw1]); refine HRD.out.mono ?_; rintro e w2 ⟨b, u, rfl, hbb, hrr, hfr, hb⟩; have hP0 : RtP w b zr 0 w2 := ⟨⟨u, hrr, fun k hk => by have := (hfr k hk).1; have := HB1.out.lt; omega⟩, HB1.out.below hb HB1.out.lt, by have := HB1.out.lt; omega, HBE.out.trans (hb.mono HBE.out.size)⟩; have HP := hide hP0; clear HRD hP0 hrr hfr hb hbb a0 a1 a2 a3)
                | (go_at_call 42; refine (HV1.out _ _ HP.out).mono ?_; rintro e w3 ⟨rfl, hP1⟩; have HP := hide hP1; clear HV1 hP1)
                | (go_at_call 42; refine (HV2.out _ _ HP.out).mono ?_; rintro e w4 ⟨rfl, hP2⟩; have HP := hide hP2; clear HV2; obtain ⟨u4, hr4, _⟩ := hP2.rd; obtain ⟨b0, b1, _⟩ := hr4.cells; obtain ⟨⟨a0, a1⟩, a2, a3⟩ := po_cells hP2.bA; clear hr4 hP2))
              have HI0 := hide (HP.out.box d)
              obtain ⟨PB, hPB⟩ : ∃ x, w4.heap.size = x := ⟨_, rfl⟩
              have HPB := hide hPB
              rw [hPB] at HI0 ⊢
              obtain ⟨w5, hw5⟩ : ∃ x, w4.alloc (.cells #[.int .u32 (d : Int), .slice none 0 0] 34) = x := ⟨_, rfl⟩
              rw [hw5] at HI0
              try rw [hw5]
              clear b0 b1 a0 a1 a2 a3 hPB hw5 HP hw1 HE1
              go_loopg [13, 14, 15] N (fun g lv iv dv wr => ∃ (k a : Nat) (xs z : List Int) (rv : Value), g + k = N ∧ lv = .int .i64 (a : Int) ∧ iv = .int .u32 (k : Int) ∧ xs.length = k ∧ a ≤ k * 1048576 ∧ ByteOk z ∧ z.length ≤ 50000 ∧ RtI w b PB d rv xs z 0 wr ∧ nP zr = (xs ++ (posR (N - k) a z 0).1, (posR (N - k) a z 0).2))
              case atStart => exact ⟨0, 0, [], zN, nilS, by omega, rfl, rfl, rfl, by omega, HDB.out.2, HDL.out.2, HI0.out, by simpa using HNP0.out⟩
              case round =>
                obtain ⟨k, a, xs, z, rv, hg, rfl, rfl, hxl, hak, hzb, hzl, hI, hPR⟩ := hrel
                obtain ⟨W, hW⟩ : ∃ x, x = wr := ⟨_, rfl⟩
                subst hW
                obtain ⟨ro, rc, rfl⟩ := hI.row.shape
                rw [hxl] at hI
                have HI := hide hI
                have HPR := hide hPR
                have HZB := hide hzb
                clear hI hPR hzb HI0
                by_cases hk : k < N
                · obtain ⟨m, hm⟩ : ∃ m, N - k = m + 1 := ⟨N - k - 1, by omega⟩
                  have hT := HI.out.take hzl
                  have hpr := HPR.out
                  rw [hm] at hpr
                  have HN2 : Hid ((varS z 0).2.2 ≠ 0 → nextOk prev zr = false) := fun h => HE2.out k a m xs z hpr h
                  have HN3 : Hid (1048576 < (varS z 0).1 → nextOk prev zr = false) := fun h => HBG.out a m xs z hpr h
                  rw [posR] at hpr
                  have hzl2 : (varS z 0).2.1.length ≤ 50000 := Nat.le_trans (varS_len z 0) hzl
                  have hzb2 := varS_bytes HZB.out 0
                  have hx32 := varS_lt HZB.out 0
                  obtain ⟨⟨X, z2, e2⟩, hX⟩ : ∃ x, varS z 0 = x := ⟨_, rfl⟩
                  rw [hX] at hT HN2 HN3 hpr hzl2 hzb2 hx32
                  simp only at hT HN2 HN3 hpr hzl2 hzb2 hx32
                  have HT := hide hT
                  have HP2 := hide hpr
                  have HZB2 := hide hzb2
                  have HMM := hide hm
                  have i1 : (k : Int) < (N : Int) := by omega
                  have hkw : IntKind.u32.wrap ((k : Int) + 1) = (k : Int) + 1 := IntWalk.u32_in _ (by omega)
                  clear hT hpr hzb2 hX hm
                  have TARM : True := trivial
                  by_cases e0 : e2 = 0
                  · subst e0
                    by_cases hbx : 1048576 < X
                    · have HNX : Hid (nextOk prev zr = false) := HN3.out hbx
                      have hbx' : (1048576 : Int) < (X : Int) := by omega
                      go_wp2_with (go_at_call 42; refine HT.out.mono ?_; rintro e w6 ⟨rfl, hI2⟩; have HI2 := hide hI2; obtain ⟨u6, hr6, _⟩ := hI2.rd; obtain ⟨b0, b1, _⟩ := hr6.cells; obtain ⟨⟨a0, a1⟩, a2, a3⟩ := po_cells hI2.bA; clear HT hI2 hr6)
                      have hge := GivesTk.err (er := 150) HI2.out.below HI2.out.bA
                      refine bodyPost_ret (ret_po2 rfl _ _ w.heap.size _ _ _ _ rfl rfl rfl hge.2) rfl ?_
                      rw [HNO.out HNX.out]
                      exact hge.1
                    · have hbx' : ¬ (1048576 : Int) < (X : Int) := by omega
                      have hab : a ≤ 2097152000 := by omega
                      go_wp2_with (first
                        | (go_at_call 42; refine HT.out.mono ?_; rintro e w6 ⟨rfl, hI2⟩; have HI2 := hide hI2; obtain ⟨u6, hr6, _⟩ := hI2.rd; obtain ⟨b0, b1, _⟩ := hr6.cells; obtain ⟨p0, p1⟩ := box_po hI2.bP; obtain ⟨ao7, cap7, w7, hr7, hbp7, hI7⟩ := hI2.push ((a : Int) + (X : Int)) (by omega); rw [hxl] at hr7 hI7; obtain ⟨⟨q0, q1⟩, q2, q3⟩ := po_cells hbp7; have HR7 := hide hr7; have HI7 := hide hI7; clear HT hI2 hr6 hr7 hI7 hbp7)
                        | (at_builtin; (with_reducible refine wpList_append_run _ rfl (.tmp 79) (.tmp 81) 32 rfl _ _ ?_ ?_ _ _ HR7.out ?_); exact rfl; exact rfl; clear HR7))
                      go_roundg (gk - 1)
                      case measure => omega
                      case rel => exact ⟨k + 1, a + X, xs ++ [(a : Int) + (X : Int)], z2, _, by omega, by go_num, by go_num, by simp [hxl], by omega, HZB2.out, hzl2, HI7.out, by rw [show N - (k + 1) = m by have := HMM.out; omega, HP2.out, List.append_assoc]; simp⟩
                  · have e0' : (e2 == 0) = false := by simpa using e0
                    have HNX : Hid (nextOk prev zr = false) := HN2.out e0
                    go_wp2_with (go_at_call 42; refine HT.out.mono ?_; rintro e w6 ⟨rfl, hI2⟩; have HI2 := hide hI2; obtain ⟨u6, hr6, _⟩ := hI2.rd; obtain ⟨b0, b1, _⟩ := hr6.cells; obtain ⟨⟨a0, a1⟩, a2, a3⟩ := po_cells hI2.bA; clear HT hI2 hr6)
                    have hge := GivesTk.err (er := 150) HI2.out.below HI2.out.bA
                    refine bodyPost_ret (ret_po2 rfl _ _ w.heap.size _ _ _ _ rfl rfl rfl hge.2) rfl ?_
                    rw [HNO.out HNX.out]
                    exact hge.1
                · obtain rfl : k = N := by omega
                  have hpr := HPR.out
                  rw [Nat.sub_self, posR] at hpr
                  simp only [List.append_nil] at hpr
                  obtain ⟨hok, hps⟩ := HDN0.out xs z (by omega) hpr
                  have hdd : (nextPo prev zr).doc = d := by rw [HPD.out]; omega
                  have hPO : nextPo prev zr = ⟨d, xs⟩ := by
                    cases hq : nextPo prev zr
                    rw [hq] at hps hdd
                    simp only at hps hdd
                    rw [hps, hdd]
                  rw [hPO] at hok
                  have hvv : PoV W (.agg #[.int .u32 (d : Int), .slice ro k rc]) ⟨d, xs⟩ := ⟨hdl, _, rfl, HI.out.row.is⟩
                  have HCK := hide (refCheckP_any W prev _ ⟨d, xs⟩ hvv)
                  have HII : Hid (∀ W', Below W.heap.size W W' → RtI w b PB d (.slice ro k rc) xs z 0 W') := fun W' hb => by
                    have hI := HI.out
                    obtain ⟨u, h1, h2⟩ := hI.rd
                    exact ⟨⟨u, h1.keep hb, h2⟩, hI.bA.below hb hI.bA.lt, hI.bP.below hb hI.bP.lt, hI.row.only (Only.of_below (fun _ => False) hb) (fun _ _ h => h), hI.far, hI.below.trans (hb.mono hI.below.size)⟩
                  obtain ⟨p0, p1⟩ := box_po HI.out.bP
                  have HOK := hide hok
                  have HPO := hide hPO
                  have HPR2 := hide hpr
                  clear hok hps hdd hPO hvv hpr
                  cases hm : mayB prev ⟨d, xs⟩ with
                  | false =>
                    rw [check_bad hm] at HCK
                    have HNX : Hid (nextOk prev zr = false) := by show _ = _; rw [HOK.out]; exact hm
                    clear hm
                    go_wp2_with (go_at_call 17; refine HCK.out.mono ?_; rintro e w6 ⟨rfl, hb⟩; have hI2 := HII.out _ hb; have HI2 := hide hI2; obtain ⟨⟨a0, a1⟩, a2, a3⟩ := po_cells hI2.bA; clear HCK hI2 hb)
                    have hge := GivesTk.err (er := 150) HI2.out.below HI2.out.bA
                    refine bodyPost_ret (ret_po2 rfl _ _ w.heap.size _ _ _ _ rfl rfl rfl hge.2) rfl ?_
                    rw [HNO.out HNX.out]
                    exact hge.1
                  | true =>
                    rw [check_ok hm] at HCK
                    have HYES : Hid (T = (⟨d, xs⟩, bn - z.length, 0)) := by
                      show _ = _
                      rw [HT.out, HOK.out, hm, if_pos rfl, HPO.out, HPR2.out]
                    have HZZ : Hid (z.length ≤ bn) := by
                      show _ ≤ _
                      have h1 : z.length ≤ zr.length := by
                        have := congrArg List.length (next_yes hp HZRB.out (by rw [HOK.out]; exact hm)).1
                        rw [List.length_append, HPR2.out] at this
                        simp only at this
                        omega
                      have := HZRL.out
                      omega
                    obtain ⟨zn, hzn⟩ : ∃ n, z.length = n := ⟨_, rfl⟩
                    rw [hzn] at HYES HZZ
                    have HZN := hide hzn
                    clear hm hzn
                    go_wp2_with (go_at_call 17; refine HCK.out.mono ?_; rintro e w6 ⟨rfl, hb⟩; have hI2 := HII.out _ hb; have HI2 := hide hI2; clear p0 p1; obtain ⟨p0, p1⟩ := box_po hI2.bP; obtain ⟨⟨a0, a1⟩, a2, a3⟩ := po_cells hI2.bA; obtain ⟨u6, hr6, hu6⟩ := hI2.rd; obtain ⟨b0, b1, _⟩ := hr6.cells; obtain ⟨uo, uc, rfl⟩ := sl_form' hr6.2.1; rw [HZN.out] at b0; clear HCK hI2 hb hr6 hu6)
                    have hsub2 : (bn : Int) - (zn : Int) = ((bn - zn : Nat) : Int) := by have := HZZ.out; omega
                    have hfa := HI2.out.far.1
                    have hfp := HI2.out.far.2.1
                    have hne : ¬ b = w.heap.size := by omega
                    have hne2 : ¬ PB = w.heap.size := by omega
                    go_region
                    all_goals go_wp2
                    all_goals
                      have hge := laidP_only w6 w.heap.size (.int .u32 (d : Int)) (.slice ro k rc)
                      refine bodyPost_ret (ret_po2 rfl _ _ w.heap.size (.int .u32 (d : Int)) (.slice ro k rc) _ _ rfl rfl rfl (laidP_blk HI2.out.bA _ _).drew) rfl ?_
                      rw [HYES.out]
                      exact ⟨_, rfl, ⟨hdl, _, rfl, ((HI2.out.row.only hge (fun j hj e => by have := (HI2.out.row.lt j hj).1; omega)).base (by omega)).only ((Only.refl (fun _ => False) _).drew) (fun _ _ h => h)⟩, (HI2.out.below.trans (hge.below HI2.out.below.size (fun j hj e => by omega))).drew⟩
      · have c1' : (eN == 0) = false := by simpa using c1
        have HNX : Hid (nextOk prev zr = false) := HKE.out c1
        go_enter Try.func21, Try.ntmps21
        go_wp2_with (first
          | (go_at_call 41; (try rw [hw1]); refine HRD.out.mono ?_; rintro e w2 ⟨b, u, rfl, hbb, hrr, hfr, hb⟩; have hP0 : RtP w b zr 0 w2 := ⟨⟨u, hrr, fun k hk => by have := (hfr k hk).1; have := HB1.out.lt; omega⟩, HB1.out.below hb HB1.out.lt, by have := HB1.out.lt; omega, HBE.out.trans (hb.mono HBE.out.size)⟩; have HP := hide hP0; clear HRD hP0 hrr hfr hb hbb a0 a1 a2 a3)
          | (go_at_call 42; refine (HV1.out _ _ HP.out).mono ?_; rintro e w3 ⟨rfl, hP1⟩; have HP := hide hP1; clear HV1 hP1)
          | (go_at_call 42; refine (HV2.out _ _ HP.out).mono ?_; rintro e w4 ⟨rfl, hP2⟩; have HP := hide hP2; clear HV2; obtain ⟨u4, hr4, _⟩ := hP2.rd; obtain ⟨b0, b1, _⟩ := hr4.cells; obtain ⟨⟨a0, a1⟩, a2, a3⟩ := po_cells hP2.bA; clear hr4 hP2))
        have hge := GivesTk.err (er := 150) HP.out.below HP.out.bA
        refine bodyPost_ret (ret_po2 rfl _ _ w.heap.size _ _ _ _ rfl rfl rfl hge.2) rfl ?_
        rw [HNO.out HNX.out]
        exact hge.1

end Go.Proofs.Ytmjkpgmmfooajaa
/- Contract: the document's All of postings (incipitref15.All). -/
namespace Go.Proofs.Ytmjkpgmmfooajaa
set_option maxRecDepth 20000
open Go.RowKit
set_option linter.unusedVariables false
set_option linter.unusedSimpArgs false
set_option maxRecDepth 100000

/-- what is gathered: postings and ends, in rows of the call's own -/
structure AlI (w : World) (v u : Value) (es : List PE) (l : List (Nat × Po)) (W : World) : Prop where
  row : PpO W w.heap.size v es
  same : es.map (·.2) = l.map (·.2)
  ends : Ints W w.heap.size u (endsL l)
  apart : ∀ e ∈ es, ∀ j, e.1.ownBlock = some j → u.ownBlock ≠ some j
  below : Below w.heap.size w W
theorem AlI.fresh {w : World} {v u : Value} {es : List PE} {l : List (Nat × Po)} {W W' : World} (h : AlI w v u es l W) (hb : Below W.heap.size W W') : AlI w v u es l W' :=
  ⟨h.row.fresh hb, h.same, h.ends.only (Only.of_below (fun _ => False) hb) (fun _ _ h => h), h.apart, h.below.trans (hb.mono h.below.size)⟩
/-- one more of each -/
theorem AlI.push {w : World} {v u : Value} {es : List PE} {l : List (Nat × Po)} {W : World} (h : AlI w v u es l W) (x : Nat × Po) (p : Value) (hd : x.2.doc < 4294967296) (hp : Ints W 0 p x.2.pos) (hpc : p.oneCell' = true) (hpa : ∀ j, p.ownBlock = some j → u.ownBlock ≠ some j) (hl : es.length + 1 ≤ 1000000) (hl2 : l.length + 1 ≤ 1000000) :
    ∃ v2 w3 u2 w5, (Builtin.append_ #[24, 24] 24 #[v, .slice (some ⟨W.heap.size, 0, none⟩) 1 1]).run Try.prog (W.alloc (.cells #[.int .u32 (x.2.doc : Int), p] 34)) = .ok v2 w3 ∧
      (Builtin.append_ #[32, 32] 32 #[u, .slice (some ⟨w3.heap.size, 0, none⟩) 1 1]).run Try.prog (w3.alloc (.cells #[.int .i64 (x.1 : Int)] 3)) = .ok u2 w5 ∧
      AlI w v2 u2 (es ++ [(p, x.2)]) (l ++ [x]) w5 ∧ Only (fun j => v.ownBlock = some j ∨ u.ownBlock = some j) W w5 ∧ W.heap.size ≤ w3.heap.size ∧ ∃ ao cap eo ec, v2 = .slice ao (es.length + 1) cap ∧ u2 = .slice eo (l.length + 1) ec := by
  obtain ⟨v2, w3, hr, hp2, hoA, hv2, ao2, cap2, hv2s⟩ := push_po W w.heap.size v es h.row (p, x.2) hd hp hpc (by omega) h.below.size
  have hU3 : Ints w3 w.heap.size u (endsL l) := h.ends.stay hoA
  have hs3 := hoA.size
  have hsb := h.below.size
  obtain ⟨u2, w5, hr5, hi5, hg5, hv5, ao5, cap5, hu2s⟩ := run_append_int w3 w.heap.size u _ hU3 (x.1 : Int) (by rw [endsL_len]; omega) (by omega)
  have hoC : Only (fun j => u.ownBlock = some j) w3 w5 := ((Only.refl _ _).alloc _).grown hg5 (fun j e _ => e)
  have hap : ∀ e ∈ es ++ [(p, x.2)], ∀ j, e.1.ownBlock = some j → u.ownBlock ≠ some j ∧ j < W.heap.size := fun e he j hj => by
    rcases List.mem_append.1 he with he | he
    · exact ⟨h.apart e he j hj, ((h.row.each e he).2.lt j hj).2⟩
    · obtain rfl := List.mem_singleton.1 he
      exact ⟨hpa j hj, (hp.lt j hj).2⟩
  have hp5 : PpO w5 w.heap.size v2 (es ++ [(p, x.2)]) := hp2.only hoC (fun j hj e => by
    rcases hU3.form with ⟨rfl, _⟩ | ⟨q, cap, sp, rfl, _, _, _, hB, _⟩
    · cases e
    · simp [Value.ownBlock] at e
      subst e
      exact hp2.noInts _ hj _ _ hB) (fun e he j hj hs => (hap e he j hj).1 hs)
  refine ⟨v2, w3, u2, w5, hr, hr5, ⟨hp5, ?_, ?_, fun e he j hj e2 => ?_, ?_⟩, ?_, hs3, ?_⟩
  · rw [List.map_append, List.map_append, h.same]; rfl
  · rw [endsL_snoc]; exact hi5
  · rcases hv5 with e3 | e3
    · exact (hap e he j hj).1 (e3 ▸ e2)
    · rw [e3] at e2
      have := Option.some.inj e2
      have := (hap e he j hj).2
      omega
  · exact (h.below.trans (hoA.below hsb (fun j hj e => by have := (h.row.lt j e.1).1; omega))).trans (hoC.below (by omega) (fun j hj e => by have := (h.ends.lt j e).1; omega))
  · exact (hoA.mono (fun _ _ e => .inl e.1)).trans (hoC.mono (fun _ _ e => .inr e)) (fun _ _ h => h)
  · rw [endsL_len] at hu2s
    simp only [List.length_append, List.length_singleton] at hv2s
    exact ⟨ao2, cap2, ao5, cap5, hv2s, hu2s⟩

theorem all_step {zs : List Int} (hb : ByteOk zs) {A D f : Nat} (hA : A < zs.length) (hD : D < 4294967296) (hf : (zs.drop A).length ≤ f) :
    (nextOk D (zs.drop A) = false → allG zs.length f D (zs.drop A) = [] ∧ takeV zs (A : Int) D = (noPo, 0, 150)) ∧
    (nextOk D (zs.drop A) = true → ∃ g p A', f = g + 1 ∧ takeV zs (A : Int) D = (p, A', 0) ∧ allG zs.length f D (zs.drop A) = (A', p) :: allG zs.length g p.doc (zs.drop A') ∧ A < A' ∧ A' ≤ zs.length ∧ (zs.drop A').length ≤ g ∧ p.doc < 4294967296) := by
  have hbz : ByteOk (zs.drop A) := hb.drop _
  have hl : (zs.drop A).length = zs.length - A := by simp
  have hne : zs.drop A ≠ [] := by intro e; rw [e] at hl; simp at hl; omega
  have ht : takeV zs (A : Int) D = if nextOk D (zs.drop A) = true then (nextPo D (zs.drop A), zs.length - (nP (zs.drop A)).2.1.length, 0) else (noPo, 0, 150) := by
    unfold takeV
    rw [if_neg (by omega)]
    rfl
  refine ⟨fun h => ⟨allG_no h, by rw [ht, h]; rfl⟩, fun h => ?_⟩
  obtain ⟨g, rfl⟩ : ∃ g, f = g + 1 := ⟨f - 1, by omega⟩
  obtain ⟨h1, h2⟩ := next_yes hD hbz h
  have hfl := (form_len h2).1
  have hlen := congrArg List.length h1
  rw [List.length_append, hl] at hlen
  have hA' : zs.length - (nP (zs.drop A)).2.1.length = A + (formP D (nextPo D (zs.drop A))).length := by omega
  have hdr : zs.drop (zs.length - (nP (zs.drop A)).2.1.length) = (nP (zs.drop A)).2.1 := by
    rw [hA', ← List.drop_drop]
    exact (congrArg (List.drop _) h1).trans (List.drop_left' rfl)
  refine ⟨g, nextPo D (zs.drop A), zs.length - (nP (zs.drop A)).2.1.length, rfl, by rw [ht, h]; rfl, ?_, by omega, by omega, ?_, by have := (may_parts h2).2.1; omega⟩
  · rw [allG_yes hne h, hdr]
  · rw [hdr]; omega

set_option maxHeartbeats 4000000 in
theorem refAll_any (w : World) (vb : Value) (zs : List Int) (hz : Sl w vb zs) (hl : zs.length ≤ 50000) (prev : Nat) (hp : prev < 4294967296) :
    Calls Try.prog 26 #[vb, .int .u32 (prev : Int)] w fun e w' => ∃ v u, e = .returned (.tuple #[v, u]) ∧ (∃ es, AlI w v u es (allP prev zs) w') := by
  have hzb := hz.bytes
  have HTK := hide (fun (W : World) (hb : Below w.heap.size w W) (A D : Nat) (hD : D < 4294967296) => refTake_any W vb zs (hz.keep (fun j _ hlt => hb.block j hlt)) hl (A : Int) D hD)
  have HST := hide (fun (A D f : Nat) (h1 : A < zs.length) (h2 : D < 4294967296) (h3 : (zs.drop A).length ≤ f) => all_step hzb h1 h2 h3)
  have HDN : Hid (∀ f D, allG zs.length f D (zs.drop zs.length) = []) := fun f D => by rw [List.drop_length]; exact allG_nil _ _ _
  have HLL : Hid ((allP prev zs).length ≤ 50000) := Nat.le_trans (allP_len prev zs) hl
  obtain ⟨L, hL⟩ : ∃ L, allP prev zs = L := ⟨_, rfl⟩
  have HL0 : Hid (L = allG zs.length zs.length prev (zs.drop 0)) := hL.symm
  obtain ⟨bo, bc, rfl⟩ := sl_form' hz
  obtain ⟨bn, hbn⟩ : ∃ n, zs.length = n := ⟨_, rfl⟩
  have HBN := hide hbn
  rw [hbn] at HTK HST HDN HL0 hl ⊢
  rw [hL] at HLL ⊢
  clear hL hz hbn hzb
  go_enter Try.func26, Try.ntmps26
  go_wp2
  go_loopg [1, 6, 7, 8, 9, 10, 11] L.length (fun g l1 l6 l7 l8 l9 l10 l11 wr => ∃ (k f A D : Nat) (v u : Value) (es : List PE), g + k = L.length ∧ l1 = .int .u32 (D : Int) ∧ l6 = v ∧ l7 = u ∧ l8 = .int .i64 (A : Int) ∧ A ≤ bn ∧ D < 4294967296 ∧ AlI w v u es (L.take k) wr ∧ L.drop k = allG bn f D (zs.drop A) ∧ (zs.drop A).length ≤ f)
  case atStart =>
    have hi0 : Ints ((w.alloc (.cells #[] 34)).alloc (.cells #[] 3)) w.heap.size (.slice (some ⟨w.heap.size + 1, 0, none⟩) 0 0) (endsL (L.take 0)) := by
      have h := World.ownsRow_made (base := w.heap.size) (e := 3) (size := 1) (w.alloc (.cells #[] 34)) #[] 0 (by simp) (Nat.zero_le _) rfl
      rw [World.size_alloc] at h
      exact h
    refine ⟨0, bn, 0, prev, _, _, [], by omega, rfl, rfl, rfl, rfl, by omega, hp, ⟨PpO.fresh ⟨World.ownsRow_made w #[] 0 (Nat.le_refl _) (Nat.zero_le _) rfl, fun x hx => absurd hx List.not_mem_nil⟩ ((Below.refl _ _).alloc (Nat.le_refl _) _), rfl, hi0, fun e he => absurd he List.not_mem_nil, ((Below.refl _ w).alloc (Nat.le_refl _) _).alloc (by simp) _⟩, HL0.out, by rw [List.drop_zero, HBN.out]; exact Nat.le_refl _⟩
  case round =>
    obtain ⟨k, f, A, D, v, u, es, hg, rfl, rfl, rfl, rfl, hAn, hD, hI, hLd, hf⟩ := hrel
    obtain ⟨W, hW⟩ : ∃ x, x = wr := ⟨_, rfl⟩
    subst hW
    have hel : es.length = (L.take k).length := by
      have := congrArg List.length hI.same
      simpa using this
    have htl : (L.take k).length ≤ 50000 := by rw [List.length_take]; have := HLL.out; omega
    obtain ⟨ao, ac, rfl⟩ := hI.row.shape
    obtain ⟨eo, ec, rfl⟩ := Ints.shape hI.ends
    obtain ⟨en, hen⟩ : ∃ n, es.length = n := ⟨_, rfl⟩
    obtain ⟨um, hum⟩ : ∃ n, (endsL (L.take k)).length = n := ⟨_, rfl⟩
    have hum2 := hum
    rw [endsL_len] at hum2
    rw [hen, hum] at hI ⊢
    have HF := hide (fun W' hb => hI.fresh (W' := W') hb)
    by_cases hlt : A < bn
    · have hlt' : (A : Int) < (bn : Int) := by omega
      have hT := HTK.out W hI.below A D hD
      obtain ⟨hs1, hs2⟩ := HST.out A D f hlt hD hf
      cases hno : nextOk D (zs.drop A) with
      | false =>
        obtain ⟨hn1, hn2⟩ := hs1 hno
        have hLk : L.take k = L := by
          rw [hn1] at hLd
          have h1 := List.take_append_drop k L
          rw [hLd, List.append_nil] at h1
          exact h1
        rw [hLk] at HF
        have HT : Hid (Calls Try.prog 21 #[.slice bo bn bc, .int .i64 (A : Int), .int .u32 (D : Int)] W (fun e w' => ∃ xo xm xc, e = .returned (.tuple #[.agg #[.int .u32 ((0 : Nat) : Int), .slice xo xm xc], .int .i64 ((0 : Nat) : Int), .int .i64 150]) ∧ Below W.heap.size W w')) := by
          rw [hn2] at hT
          refine hT.mono ?_
          rintro e w' ⟨v, rfl, ⟨_, x, rfl, hi⟩, hb⟩
          obtain ⟨xo, xc, rfl⟩ := Ints.shape hi
          exact ⟨xo, _, xc, rfl, hb⟩
        clear hT hs1 hs2 hn1 hn2 hLd hI HST HTK HDN HL0 hel htl hen hum hum2 hLk
        go_wp2_with (go_at_call 21; refine HT.out.mono ?_; rintro e w1 ⟨xo, xm, xc, rfl, hb⟩; have HB := hide hb; clear HT hb)
        refine bodyPost_ret (results_tmp2 (t := 4) (u := 5) rfl _ _ _) rfl ?_
        exact ⟨_, _, rfl, es, HF.out _ (HB.out.alloc HB.out.size _)⟩
      | true =>
        obtain ⟨f', p, A', hfg, hn2, hn1, hAA, hA'n, hf', hpd⟩ := hs2 hno
        rw [hn1] at hLd
        have hkl : k < L.length := by
          rcases Nat.lt_or_ge k L.length with h | h
          · exact h
          · rw [List.drop_eq_nil_of_le h] at hLd; cases hLd
        have hts := take_snocX L k hkl
        rw [List.drop_eq_getElem_cons hkl] at hLd
        obtain ⟨hLk, hLd2⟩ := List.cons.inj hLd
        rw [hLk] at hts
        have htn : (L.take k).length = k := by rw [List.length_take]; omega
        have HT : Hid (Calls Try.prog 21 #[.slice bo bn bc, .int .i64 (A : Int), .int .u32 (D : Int)] W (fun e w' => ∃ x xc, e = .returned (.tuple #[.agg #[.int .u32 (p.doc : Int), .slice x p.pos.length xc], .int .i64 (A' : Int), .int .i64 0]) ∧ Ints w' W.heap.size (.slice x p.pos.length xc) p.pos ∧ Below W.heap.size W w')) := by
          rw [hn2] at hT
          refine hT.mono ?_
          rintro e w' ⟨v, rfl, ⟨_, x, rfl, hi⟩, hb⟩
          obtain ⟨xo, xc, rfl⟩ := Ints.shape hi
          exact ⟨xo, xc, rfl, hi, hb⟩
        have HPU : Hid (∀ x xc w1, Ints w1 W.heap.size (.slice x p.pos.length xc) p.pos → Below W.heap.size W w1 → ∃ a2 c2 w3 e2 d2 w5,
            (Builtin.append_ #[24, 24] 24 #[.slice ao en ac, .slice (some ⟨w1.heap.size + 1, 0, none⟩) 1 1]).run Try.prog ((w1.alloc (.cells #[.int .u32 (p.doc : Int), .slice x p.pos.length xc] 34)).alloc (.cells #[.int .u32 (p.doc : Int), .slice x p.pos.length xc] 34)) = .ok (.slice a2 (en + 1) c2) w3 ∧
            (Builtin.append_ #[32, 32] 32 #[.slice eo um ec, .slice (some ⟨w3.heap.size, 0, none⟩) 1 1]).run Try.prog (w3.alloc (.cells #[.int .i64 (A' : Int)] 3)) = .ok (.slice e2 (um + 1) d2) w5 ∧
            AlI w (.slice a2 (en + 1) c2) (.slice e2 (um + 1) d2) (es ++ [(.slice x p.pos.length xc, p)]) (L.take (k + 1)) w5 ∧ Blk w5 w1.heap.size 34 [.int .u32 (p.doc : Int), .slice x p.pos.length xc]) := fun x xc w1 hi hb => by
          have hI1 := (hI.fresh hb).fresh (((Below.refl _ w1).alloc (Nat.le_refl _) (.cells #[.int .u32 (p.doc : Int), .slice x p.pos.length xc] 34)))
          have hi1 := (hi.base (Nat.zero_le _)).only (Only.of_below (fun _ => False) ((Below.refl _ w1).alloc (Nat.le_refl _) (.cells #[.int .u32 (p.doc : Int), .slice x p.pos.length xc] 34))) (fun _ _ h => h)
          obtain ⟨v2, w3, u2, w5, h1, h2, h3, h4, h5, ao2, cap2, eo2, ec2, rfl, rfl⟩ := hI1.push (A', p) (.slice x p.pos.length xc) hpd hi1 rfl (fun j hj e => by have := (hi.lt j hj).1; have := (hI.ends.lt j e).2; omega) (by omega) (by omega)
          rw [hen] at h1 h3
          rw [hum2] at h2 h3
          rw [World.size_alloc] at h1
          refine ⟨ao2, cap2, w3, eo2, ec2, w5, h1, h2, by rw [hts]; exact h3, (Blk.new w1 _ _).only h4 (fun e => ?_)⟩
          have hsb := hb.size
          rcases e with e | e
          · have := (hI.row.lt _ e).2; omega
          · have := (hI.ends.lt _ e).2; omega
        have HN : Hid (L.drop (k + 1) = allG bn f' p.doc (zs.drop A')) := hLd2
        have hk1 : Hid (k < L.length) := hkl
        clear hT hs1 hs2 hn1 hn2 hLd hI HST HTK HDN HL0 hel htl hen hum hum2 hLk hLd2 hts htn HF hfg hf hkl
        have hf' := hide hf'
        generalize p.doc = pd at *
        generalize p.pos.length = pl at *
        go_wp2_with (first
          | (go_at_call 21; refine HT.out.mono ?_; rintro e w1 ⟨x, xc, rfl, hi, hb⟩; obtain ⟨a2, c2, w3, e2, d2, w5, hr1, hr2, hI5, hB5⟩ := HPU.out x xc w1 hi hb; obtain ⟨p0, p1⟩ := box_po (Blk.new w1 34 [.int .u32 (pd : Int), .slice x pl xc]); obtain ⟨⟨q0, q1⟩, q2, q3⟩ := po_cells hB5; have HR1 := hide hr1; have HR2 := hide hr2; have HI5 := hide hI5; clear HT HPU hr1 hr2 hI5 hB5 hi hb)
          | (at_builtin; (with_reducible refine wpList_append_run _ rfl (.tmp 30) (.tmp 32) 24 rfl _ _ ?_ ?_ _ _ HR1.out ?_); exact rfl; exact rfl; clear HR1)
          | (at_builtin; (with_reducible refine wpList_append_run _ rfl (.tmp 34) (.tmp 36) 32 rfl _ _ ?_ ?_ _ _ HR2.out ?_); exact rfl; exact rfl; clear HR2))
        go_roundg (gk - 1)
        case measure => have := hk1.out; omega
        case rel => exact ⟨k + 1, f', A', pd, _, _, _, by have := hk1.out; omega, rfl, rfl, rfl, rfl, hA'n, hpd, HI5.out, HN.out, hf'.out⟩
    · obtain rfl : A = bn := by omega
      have hnl : ¬ (A : Int) < (A : Int) := by omega
      have hLk : L.take k = L := by
        rw [HDN.out] at hLd
        have h1 := List.take_append_drop k L
        rw [hLd, List.append_nil] at h1
        exact h1
      rw [hLk] at hI
      have HI := hide hI
      clear hLd hI HST HTK HDN HL0 hel htl hen hum hum2 hLk HF hf
      go_wp2
      refine bodyPost_ret (results_tmp2 (t := 4) (u := 5) rfl _ _ _) rfl ?_
      exact ⟨_, _, rfl, es, HI.out⟩

end Go.Proofs.Ytmjkpgmmfooajaa
/- Contract: the document's Parse of postings (incipitref15.Parse). -/
namespace Go.Proofs.Ytmjkpgmmfooajaa
set_option maxRecDepth 20000
open Go.RowKit
set_option linter.unusedVariables false
set_option linter.unusedSimpArgs false
set_option maxRecDepth 100000

theorem endL_last (L : List (Nat × Po)) : (endsL L).getD (L.length - 1) 0 = (endL L : Int) := by
  unfold endsL endL
  rw [List.getLast?_eq_getElem?, List.getD, List.getElem?_map]
  cases L[L.length - 1]? <;> rfl

/-- what All answers, read -/
theorem refAll_read (w : World) (vb : Value) (zs : List Int) (hz : Sl w vb zs) (hl : zs.length ≤ 50000) (prev : Nat) (hp : prev < 4294967296) :
    Calls Try.prog 26 #[vb, .int .u32 (prev : Int)] w fun e w' => ∃ lo lc eo ec, e = .returned (.tuple #[.slice lo (allP prev zs).length lc, .slice eo (allP prev zs).length ec]) ∧ (∃ us, Pps w' (.slice lo (allP prev zs).length lc) us ((allP prev zs).map (·.2)) ∧ ∀ i, i < (allP prev zs).length → Ints w' 0 (us.getD i nilS) (((allP prev zs).map (·.2)).getD i noPo).pos) ∧ Is w' (.slice eo (allP prev zs).length ec) (endsL (allP prev zs)) ∧ Below w.heap.size w w' := by
  refine (refAll_any w vb zs hz hl prev hp).mono ?_
  rintro e w' ⟨v, u, rfl, es, hI⟩
  have hp := hI.row.read
  have hie : ∀ i, i < (allP prev zs).length → Ints w' 0 ((es.map (·.1)).getD i nilS) (((allP prev zs).map (·.2)).getD i noPo).pos := fun i hi => by
    rw [← hI.same]
    have hi2 : i < es.length := by
      have := congrArg List.length hI.same
      simp only [List.length_map] at this
      omega
    have e1 : (es.map (·.2)).getD i noPo = es[i].2 := by simp [List.getD, hi2]
    have e2 : (es.map (·.1)).getD i nilS = es[i].1 := by simp [List.getD, hi2]
    rw [e1, e2]
    exact (hI.row.each _ (List.getElem_mem hi2)).2
  rw [hI.same] at hp
  obtain ⟨lo, lc, rfl, _, _⟩ := hp.shape
  obtain ⟨eo, ec, rfl⟩ := Ints.shape hI.ends
  have hi := hI.ends.is
  rw [endsL_len] at hi ⊢
  rw [List.length_map] at hp ⊢
  exact ⟨lo, lc, eo, ec, rfl, ⟨_, hp, hie⟩, hi, hI.below⟩

set_option maxHeartbeats 2000000 in
theorem refParse_any (w : World) (vb : Value) (zs : List Int) (hz : Sl w vb zs) (hl : zs.length ≤ 50000) :
    Calls Try.prog 23 #[vb] w fun e w' => ∃ u, e = .returned (.tuple #[u, .int .i64 (parseE zs)]) ∧ (∃ us, Pps w' u us (parseR zs)) ∧ Below w.heap.size w w' := by
  have hel := (rises_facts hz.bytes).2.2.2
  have hbl := allP_len 0 zs
  have hA := refAll_read w vb zs hz hl 0 (by omega)
  have HPR : Hid (parseE zs = (if endL (allP 0 zs) < zs.length then 150 else 0) ∧ parseR zs = (if endL (allP 0 zs) < zs.length then [] else (allP 0 zs).map (·.2))) := ⟨rfl, rfl⟩
  generalize parseE zs = E at *
  generalize parseR zs = R at *
  obtain ⟨bo, bc, rfl⟩ := sl_form' hz
  obtain ⟨bn, hbn⟩ : ∃ n, zs.length = n := ⟨_, rfl⟩
  rw [hbn] at HPR hl hel hbl hA ⊢
  generalize allP 0 zs = L at *
  have hla := endL_last L
  have hL0 : L.length = 0 → endL L = 0 := fun h => by
    rw [List.length_eq_zero_iff.1 h]; rfl
  obtain ⟨ln, hln⟩ : ∃ n, L.length = n := ⟨_, rfl⟩
  rw [hln] at hA hla hL0 hbl
  have HEL := hide (endsL_len L ▸ hln)
  have HA := hide hA
  obtain ⟨he1, he2⟩ := HPR.out
  generalize endL L = el at *
  clear hz hbn HPR hA
  by_cases hb0 : bn = 0
  · subst hb0
    rw [if_neg (by omega)] at he1 he2
    subst he1 he2
    go_enter Try.func23, Try.ntmps23
    go_wp2_with (go_at_call 26; refine HA.out.mono ?_; rintro e w1 ⟨lo, lc, eo, ec, rfl, ⟨us, hps, _⟩, his, hb⟩; have HPS := hide hps; have HB := hide hb; clear HA hps his hb)
    refine bodyPost_ret (results_tmp2 (t := 2) (u := 3) rfl _ _ _) rfl ?_
    exact ⟨_, rfl, ⟨_, HPS.out⟩, HB.out⟩
  · have hb1 : (0 : Int) < (bn : Int) := by omega
    by_cases hn0 : ln = 0
    · subst hn0
      have := hL0 rfl
      rw [if_pos (by omega)] at he1 he2
      subst he1 he2
      go_enter Try.func23, Try.ntmps23
      go_wp2_with (go_at_call 26; refine HA.out.mono ?_; rintro e w1 ⟨lo, lc, eo, ec, rfl, ⟨us, hps, _⟩, his, hb⟩; have HPS := hide hps; have HB := hide hb; clear HA hps his hb)
      refine bodyPost_ret (results_tmp2 (t := 2) (u := 3) rfl _ _ _) rfl ?_
      exact ⟨_, rfl, ⟨[], Pps.nil _⟩, HB.out⟩
    · obtain ⟨m, hm⟩ : ∃ m, ln = m + 1 := ⟨ln - 1, by omega⟩
      have hsub : (ln : Int) - 1 = (m : Int) := by omega
      have hwm : IntKind.i64.wrap (m : Int) = (m : Int) := IntWalk.i64_in _ (by omega)
      have hml : (m : Int) < (ln : Int) := by omega
      have hn0' : ¬ (ln : Int) = 0 := by omega
      rw [hm, Nat.add_sub_cancel] at hla
      have HAT : Hid (∀ w1 eo ec, Is w1 (.slice eo ln ec) (endsL L) → ∃ b off, eo = some ⟨b, off, none⟩ ∧ w1.cell? ⟨b, off + m, none⟩ = some (.int .i64 (el : Int)) ∧ (ln : Int) ≤ (ec : Int) ∧ (ec : Int) ≤ 9223372036854775807) := fun w1 eo ec h => by
        obtain ⟨b, off, rfl, hc⟩ := h.at m (by have := HEL.out; omega)
        rw [hla] at hc
        have := h.cap
        unfold maxLen at this
        exact ⟨b, off, rfl, hc, by omega, by omega⟩
      have HM := hide hm
      clear hm hla hL0
      by_cases he : el = bn
      · subst he
        rw [if_neg (by omega)] at he1 he2
        subst he1 he2
        go_enter Try.func23, Try.ntmps23
        go_wp2_with (go_at_call 26; refine HA.out.mono ?_; rintro e w1 ⟨lo, lc, eo, ec, rfl, ⟨us, hps, _⟩, his, hb⟩; obtain ⟨eb, eoff, rfl, ce, q1, q2⟩ := HAT.out _ _ _ his; have HPS := hide hps; have HB := hide hb; clear HA HAT hps his hb)
        refine bodyPost_ret (results_tmp2 (t := 2) (u := 3) rfl _ _ _) rfl ?_
        exact ⟨_, rfl, ⟨_, HPS.out⟩, HB.out⟩
      · have he' : ¬ (el : Int) = (bn : Int) := by omega
        rw [if_pos (by omega)] at he1 he2
        subst he1 he2
        go_enter Try.func23, Try.ntmps23
        go_wp2_with (go_at_call 26; refine HA.out.mono ?_; rintro e w1 ⟨lo, lc, eo, ec, rfl, ⟨us, hps, _⟩, his, hb⟩; obtain ⟨eb, eoff, rfl, ce, q1, q2⟩ := HAT.out _ _ _ his; have HPS := hide hps; have HB := hide hb; clear HA HAT hps his hb)
        · refine bodyPost_ret (results_tmp2 (t := 2) (u := 3) rfl _ _ _) rfl ?_
          exact ⟨_, rfl, ⟨[], Pps.nil _⟩, HB.out⟩
        · rename_i hx
          exact absurd hx.2 (by simpa using he')

end Go.Proofs.Ytmjkpgmmfooajaa
/- Contract: the document's Find of a posting (incipitref15.Find). -/
namespace Go.Proofs.Ytmjkpgmmfooajaa
set_option maxRecDepth 20000
open Go.RowKit
set_option linter.unusedVariables false
set_option linter.unusedSimpArgs false
set_option maxRecDepth 100000

/-- the first of a list -/
theorem findL_stay : ∀ (l : List (Nat × Po)) (d : Nat), (∀ e ∈ l, d < e.2.doc) → findL d l = (noPo, false)
  | [], _, _ => rfl
  | e :: l, d, h => by
    have := h e List.mem_cons_self
    rw [findL, if_neg (by omega), if_pos this]
theorem findL_none : ∀ (l : List (Nat × Po)) (d : Nat), (∀ e ∈ l, e.2.doc ≠ d) → findL d l = (noPo, false)
  | [], _, _ => rfl
  | e :: l, d, h => by
    rw [findL, if_neg (h e List.mem_cons_self)]
    split
    · rfl
    · exact findL_none l d (fun x hx => h x (List.mem_cons_of_mem _ hx))

set_option maxHeartbeats 4000000 in
theorem refFind_any (w : World) (vb : Value) (zs : List Int) (hz : Sl w vb zs) (hl : zs.length ≤ 50000) (d : Nat) (hd : d < 4294967296) :
    Calls Try.prog 25 #[vb, .int .u32 (d : Int)] w fun e w' => ∃ v, e = .returned (.tuple #[v, .bool (findL d (allP 0 zs)).2]) ∧ PoV w' v (findL d (allP 0 zs)).1 ∧ Below w.heap.size w w' := by
  have hrf := (rises_facts hz.bytes).1
  have hbl := allP_len 0 zs
  obtain ⟨bo, bc, rfl⟩ := sl_form' hz
  obtain ⟨w1, hw1⟩ : ∃ w1, w.alloc (.cells #[.int .u32 0, .slice none 0 0] 34) = w1 := ⟨_, rfl⟩
  have hb1 : Below w.heap.size w w1 := by rw [← hw1]; exact (Below.refl _ w).alloc (Nat.le_refl _) _
  have hB1 : Blk w1 w.heap.size 34 [.int .u32 0, .slice none 0 0] := by rw [← hw1]; exact Blk.new w _ _
  have hA := refAll_read w1 _ zs (hz.keep (fun j _ hlt => hb1.block j hlt)) hl 0 (by omega)
  have HFD : Hid (∀ i (hi : i < (allP 0 zs).length), (allP 0 zs)[i].2.doc = d → findL d (allP 0 zs) = ((allP 0 zs)[i].2, true)) := fun i hi e => by
    rw [← e]; exact (hrf i hi).find
  obtain ⟨bn, hbn⟩ : ∃ n, zs.length = n := ⟨_, rfl⟩
  rw [hbn] at hl hbl hA ⊢
  generalize allP 0 zs = L at *
  have HFN : Hid ((∀ i (hi : i < L.length), L[i].2.doc ≠ d) → findL d L = (noPo, false)) := fun h => findL_none L d (fun e he => by
    obtain ⟨i, hi, rfl⟩ := List.mem_iff_getElem.1 he
    exact h i hi)
  obtain ⟨ln, hln⟩ : ∃ n, L.length = n := ⟨_, rfl⟩
  rw [hln] at hA hbl
  have HLN := hide hln
  have HA := hide hA
  have HB1 := hide hB1
  have HBB := hide hb1
  generalize findL d L = r at *
  obtain ⟨⟨a0, a1⟩, a2, a3⟩ := po_cells hB1
  clear hz hbn hA hrf hB1 hb1 hln
  go_enter Try.func25, Try.ntmps25
  go_wp2_with (go_at_call 26; (try rw [hw1]); refine HA.out.mono ?_; rintro e w2 ⟨lo, lc, eo, ec, rfl, ⟨us, hps, hie⟩, his, hb⟩; have HIE := hide hie; clear hie; have hBp := HB1.out.below hb HB1.out.lt; obtain ⟨⟨a0, a1⟩, a2, a3⟩ := po_cells hBp; have HBP := hide hBp; have HPS := hide hps; have HB := hide hb; clear HA hps his hb hBp)
  have hcp : (ln : Int) ≤ (lc : Int) ∧ (lc : Int) ≤ 9223372036854775807 := by
    obtain ⟨ao', cap', he, h1, h2⟩ := HPS.out.shape
    simp only [Value.slice.injEq] at he
    obtain ⟨rfl, hle2, rfl⟩ := he
    omega
  obtain ⟨hcp1, hcp2⟩ := hcp
  go_loopg [8] ln (fun g i wr => ∃ k : Nat, g + k = ln ∧ i = .int .i64 (k : Int) ∧ wr = w2 ∧ ∀ j (hj : j < L.length), j < k → L[j].2.doc ≠ d)
  case atStart => exact ⟨0, by omega, rfl, rfl, fun j _ hj => absurd hj (Nat.not_lt_zero _)⟩
  case round =>
    obtain ⟨k, hg, rfl, rfl, hno⟩ := hrel
    by_cases hk : k < ln
    · have hkL : k < L.length := by have := HLN.out; omega
      obtain ⟨g1, o1, rfl, q1, q2, hd1, hi1⟩ := HPS.out.at k (by rw [List.length_map]; exact hkL)
      have eg : (L.map (·.2)).getD k noPo = L[k].2 := by simp [List.getD, hkL]
      have hi2 := HIE.out k hk
      rw [eg] at q1 hd1 hi1 hi2
      obtain ⟨xo, xc, hxv, hx1, hx2⟩ := hi1.shape
      rw [hxv] at q2 hi2
      clear hi1
      have hi1 := hi2
      have HY := hide (HFD.out k hkL)
      have HI1 := hide hi1
      obtain ⟨p, hp⟩ : ∃ p, L[k].2 = p := ⟨_, rfl⟩
      rw [hp] at q1 hd1 HI1 HY q2
      have HNO : Hid (p.doc ≠ d → ∀ j (hj : j < L.length), j < k + 1 → L[j].2.doc ≠ d) := fun hne j hj hjk => by
        rcases Nat.lt_or_ge j k with h | h
        · exact hno j hj h
        · obtain rfl : j = k := by omega
          rw [hp]; exact hne
      have hki : (k : Int) < (ln : Int) := by omega
      have hkw : IntKind.i64.wrap ((k : Int) + 1) = (k : Int) + 1 := IntWalk.i64_in _ (by omega)
      clear hno hi1 hi2 hp eg hxv hx1 hx2
      obtain ⟨pd, hpd⟩ : ∃ n, p.doc = n := ⟨_, rfl⟩
      obtain ⟨pl, hpl⟩ : ∃ n, p.pos.length = n := ⟨_, rfl⟩
      have HPD := hide hpd
      rw [hpd] at q1 hd1 HY HNO
      rw [hpl] at q2 HI1
      clear hpd hpl
      by_cases he : pd = d
      · subst he
        have hr := HY.out rfl
        subst hr
        clear HY HNO HFD HFN
        go_wp2
        refine bodyPost_ret (ret_po1 rfl _ _ w.heap.size _ _ _ rfl rfl (laidP_blk HBP.out _ _)) rfl ?_
        have ho : Only (fun j => j = w.heap.size ∧ noInts wr j) wr (laidP wr w.heap.size (.int .u32 (pd : Int)) (.slice xo pl xc)) := (laidP_only _ _ _ _).mono (fun j _ e => ⟨e, fun cs f e2 => by
          rw [e, HBP.out] at e2
          simp at e2⟩)
        exact ⟨_, rfl, ⟨by show p.doc < _; rw [HPD.out]; exact hd, _, by show _ = Value.agg #[.int .u32 (p.doc : Int), _]; rw [HPD.out], (HI1.out.stay ho).is⟩, (HBB.out.trans (HB.out.mono HBB.out.size)).trans ((laidP_only _ _ _ _).below (by have := HBB.out.size; have := HB.out.size; omega) (fun j hj e => by omega))⟩
      · have he' : ¬ (pd : Int) = (d : Int) := by omega
        go_wp2
        go_roundg (gk - 1)
        case measure => omega
        case rel => exact ⟨k + 1, by omega, by go_num, rfl, HNO.out he⟩
    · obtain rfl : k = ln := by omega
      go_wp2
      have hr := HFN.out (fun i hi => hno i hi (by have := HLN.out; omega))
      subst hr
      refine bodyPost_ret (ret_po1 rfl _ _ w.heap.size _ _ _ rfl rfl (laidP_blk HBP.out _ _)) rfl ?_
      exact ⟨_, rfl, (PoN.none _ 0).val, (HBB.out.trans (HB.out.mono HBB.out.size)).trans ((laidP_only _ _ _ _).below (by have := HBB.out.size; have := HB.out.size; omega) (fun j hj e => by omega))⟩

end Go.Proofs.Ytmjkpgmmfooajaa
