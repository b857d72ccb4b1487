/- Contracts: numbers that are taken of the document's reader. -/
import Derived.Test.YtbopcppagfhjnaaRRTake
namespace Go.Proofs.Ytbopcppagfhjnaa
open Go.RowKit

set_option maxRecDepth 20000 in
set_option maxHeartbeats 400000 in
theorem rNumber_any (w : World) (b : Nat) (u : Value) (zs : List Int) (er : Int) (n : Nat) (h : RR w b u zs er) (hn : n ≤ 8) (hl : zs.length ≤ 50000) :
    Calls Try.prog 45 #[.pointer (some ⟨b, 0, none⟩), .int .i64 n] w fun e w' => e = .returned (.int .u64 (numOf (takeS zs er n).1)) ∧ w.grownBy w' (some b) ∧ ∃ u', RR w' b u' (takeS zs er n).2.1 (takeS zs er n).2.2 := by
  have HT := rRaw_any w b u zs er n h hl
  have HL := takeS_len zs er n
  have HB := (takeS_ok zs er n h.2.1.bytes).1
  obtain ⟨⟨R, zs', er'⟩, hS⟩ : ∃ s, s = takeS zs er n := ⟨_, rfl⟩
  rw [← hS] at HT HL HB ⊢
  simp only at HT HL HB ⊢
  clear hS
  go_enter Try.func45, Try.ntmps45
  go_wp2_with (go_at_call 48; refine HT.mono ?_; rintro e w1 ⟨v, rfl, hs, hoff, hgr, u', hrd⟩; obtain ⟨_, ao, cap, rfl, h1, h2, h3, h4⟩ := hs; have HGR := hide hgr; have HRD := hide hrd; have H4 := hide h4; clear hgr hrd h3 h4 hoff)
  unfold maxLen at h2
  go_loop [5, 7] (fun vv i => ∃ (k acc : Nat), k ≤ R.length ∧ acc < 256 ^ k ∧ numAcc acc (R.drop k) = numOf R ∧ vv = .int .u64 acc ∧ i = .int .i64 k) (fun _ i => R.length - (intOf i).toNat)
  case atStart => exact ⟨0, 0, Nat.zero_le _, by simp, rfl, rfl, rfl⟩
  case round =>
    obtain ⟨k, acc, hk, hacc, hnum, rfl, rfl⟩ := hrel
    by_cases hlt : k < R.length
    · obtain ⟨b', o, rfl, hc⟩ := H4.out (by intro h; simp [h] at hlt)
      have c1 := hc k hlt
      have hxb := HB.get k
      have hd := drop_cons R k hlt
      obtain ⟨x, hx⟩ : ∃ x, x = R.getD k 0 := ⟨_, rfl⟩
      rw [← hx] at c1 hxb hd
      have ha := Nat.lt_of_lt_of_le hacc (pow56 k (by omega))
      have hnext : numAcc (acc * 256 + x.toNat) (R.drop (k + 1)) = numOf R := by rw [← hnum, hd, numAcc]
      have hlt2 : acc * 256 + x.toNat < 256 ^ (k + 1) := by rw [Nat.pow_succ]; omega
      have HX := hide hnext
      have HL2 := hide hlt2
      clear hc H4 hx hd hnum hnext hlt2 hacc
      go_wp2
      go_round
      case rel => exact ⟨k + 1, acc * 256 + x.toNat, by omega, HL2.out, HX.out, by go_num, by go_num⟩
      case measure => simp [intOf]; omega
    · have he : numOf R = acc := by rw [← hnum, List.drop_eq_nil_of_le (by omega), numAcc]
      have HE := hide he
      clear he hnum
      go_wp2
      go_ret
      exact ⟨ret_int (by rw [HE.out]), HGR.out, _, HRD.out⟩

theorem sl_cutb {w : World} {b o : Nat} {zs : List Int} {cap : Nat} (n : Nat) (h : Sl w (.slice (some ⟨b, o, none⟩) zs.length cap) zs) (hn : n ≤ zs.length) (h0 : 0 < n) : Sl w (.slice (some ⟨b, o + n, none⟩) (zs.length - n) (cap - n)) (zs.drop n) := by
  have := sl_cut n h hn
  have e : Option.map (fun x => x.add n) (some (⟨b, o, none⟩ : Addr)) = some ⟨b, o + n, none⟩ := by
    simp only [Option.map_some]
    unfold Addr.add
    split <;> simp_all
  rwa [e] at this

/-- the end of a take of a short number: a copy is what is left -/
theorem rvar_end {w w2 : World} {b : Nat} {u u2 : Value} {zs ys : List Int} (h : RR w b u zs 0) (hlt : b < w.heap.size) (hb2 : Below w.heap.size w w2) (s2 : Sl w2 u2 ys) (hf2 : Fresh w.heap.size w2 u2) :
    w.grownBy (w2.setCell ⟨b, 0, none⟩ u2) (some b) ∧ ∃ u', RR (w2.setCell ⟨b, 0, none⟩ u2) b u' ys 0 := by
  refine ⟨?_, u2, rr_left (h.keep hb2) s2 (fun k hk => ?_)⟩
  · exact ⟨hb2.os, hb2.tape, hb2.output, by simpa using hb2.size, fun k hk hne => (heap_setCell_other w2 ⟨b, 0, none⟩ k u2 (fun e => hne (by simp [e]))).trans (hb2.block k hk)⟩
  · have := hf2 k hk
    omega

set_option maxRecDepth 20000 in
set_option maxHeartbeats 2000000 in
theorem rVar_any (w : World) (b : Nat) (u : Value) (zs : List Int) (er : Int) (h : RR w b u zs er) (hl : zs.length ≤ 50000) :
    Calls Try.prog 46 #[.pointer (some ⟨b, 0, none⟩)] w fun e w' => e = .returned (.int .u32 (varS zs er).1) ∧ w.grownBy w' (some b) ∧ ∃ u', RR w' b u' (varS zs er).2.1 (varS zs er).2.2 := by
  have HR := hide h
  obtain ⟨c0, c1, hfr⟩ := h.cells
  have hlt := h.lt
  obtain ⟨hg, ⟨hb, ao, cap, rfl, h1, h2, h3, h4⟩, hne⟩ := h
  unfold maxLen at h2
  have f0 := hfr 0
  have f1 := hfr 1
  have H4 := hide h4
  clear hfr h4 h3 hne hg
  by_cases e0 : er = 0
  · subst e0
    have es : varS zs 0 = ((short zs).1, zs.drop (short zs).2.1, (short zs).2.2) := by simp [varS]
    rw [es]
    have F10 := hide (rfail_any w b _ zs 10 HR.out)
    have F11 := hide (rfail_any w b _ zs 11 HR.out)
    go_enter Try.func46, Try.ntmps46
    go_wp2
    go_loop [3, 4, 5] (fun vv tt i => ∃ (k acc : Nat), k ≤ 4 ∧ k ≤ zs.length ∧ acc < 128 ^ k ∧ shortAux k acc (zs.drop k) = short zs ∧ vv = .int .u64 acc ∧ tt = .int .u64 ((128 ^ k : Nat) : Int) ∧ i = .int .i64 k) (fun _ _ i => 5 - (intOf i).toNat)
    case atStart => exact ⟨0, 0, by omega, by omega, by omega, rfl, rfl, rfl, rfl⟩
    case round =>
      obtain ⟨k, acc, hk4, hkl, hacc, hs, rfl, rfl, rfl⟩ := hrel
      by_cases hlt2 : k < zs.length
      · obtain ⟨b', o, rfl, hc⟩ := H4.out (by intro h; simp [h] at hlt2)
        have cx := hc k hlt2
        have hxb := hb.get k
        have hd := drop_cons zs k hlt2
        obtain ⟨x, hx⟩ : ∃ x, x = zs.getD k 0 := ⟨_, rfl⟩
        rw [← hx] at cx hxb hd
        have HD := hide hd
        have HS := hide hs
        clear hc hx hd hs
        by_cases hA : (k = 4 ∧ 15 < x) ∨ (0 < k ∧ x = 0)
        · have he : short zs = (0, 0, 11) := by rw [← HS.out, HD.out, shortAux, if_pos hA]
          have HE := hide he
          clear he
          rcases hA with ⟨rfl, hx⟩ | ⟨hk0, rfl⟩
          · go_wp2_with (go_at_call 55; refine F11.out.mono ?_; rintro e w1 ⟨rfl, hw⟩; subst w1)
            go_ret
            rw [HE.out]
            exact ⟨rfl, (rr_fail HR.out 11).1, _, (rr_fail HR.out 11).2⟩
          · have hk0' : (0 : Int) < (k : Int) := by omega
            go_wp2_with (go_at_call 55; refine F11.out.mono ?_; rintro e w1 ⟨rfl, hw⟩; subst w1)
            all_goals
              go_ret
              rw [HE.out]
              exact ⟨rfl, (rr_fail HR.out 11).1, _, (rr_fail HR.out 11).2⟩
        · have hBB := (bitsShort acc k x hacc hk4 hxb.1 hxb.2 (fun h => by omega)).2
          have hB2 := hBB.1
          have hB3 := hBB.2
          clear hBB
          have hP5 : 128 ^ k ≤ 268435456 := by
            have := Nat.pow_le_pow_right (n := 128) (by omega) hk4
            simpa using this
          have hPs : 128 ^ (k + 1) = 128 ^ k * 128 := Nat.pow_succ ..
          have hP0 : 0 < 128 ^ k := Nat.pow_pos (by omega)
          obtain ⟨P, hP⟩ : ∃ P, P = 128 ^ k := ⟨_, rfl⟩
          have HN : Hid (acc + x.toNat % 128 * 128 ^ k = acc + x.toNat % 128 * P) := by rw [hP]; exact rfl
          have HP := hide hP
          rw [hPs, ← hP] at hB2
          rw [← hP] at hacc hP5 hB3 hP0
          rw [← hP]
          have hM1 : x.toNat % 128 * P ≤ 127 * P := Nat.mul_le_mul_right _ (by omega)
          obtain ⟨M, hM⟩ : ∃ M, M = x.toNat % 128 * P := ⟨_, rfl⟩
          have hprod : x % 128 * (P : Int) = (M : Int) := by rw [hM, Int.natCast_mul]; congr 1; omega
          rw [← hM] at hB2 hB3 hM1 HN
          have hB2' := hide hB2
          clear hM hP hPs hB2
          by_cases hx : x < 128
          · have he : short zs = (acc + M, k + 1, 0) := by
              rw [← HS.out, HD.out, shortAux, if_neg hA, if_pos hx, ← HN.out, Nat.mod_eq_of_lt (by omega)]
            have HE := hide he
            have C0 := hide c0
            have F0 := hide f0
            clear he
            rcases (by omega : k = 4 ∨ k = 0 ∨ (0 < k ∧ k < 4)) with hk | hk | hk
            · subst hk
              have hx0 : (x == 0) = false := by simp; omega
              have hx15 : decide (15 < x) = false := decide_eq_false (by omega)
              by_cases hcm : cap = 5
              · have J1 := hide (refJoin_fresh w _ (zs.drop (5)) (sl_cut0 (5) HR.out.2.1 (by omega) hcm) (by simp; omega))
                go_wp2_with (go_at_call 10; refine J1.out.mono ?_; rintro e w1 ⟨u1, rfl, s1, hf1, hb1⟩; clear J1; have d0 := (hb1.cell (p := ⟨b, 0, none⟩) hlt).trans C0.out; have g0 := (hb1.frozen (p := ⟨b, 0, none⟩) hlt).trans F0.out; have S1 := hide s1; obtain ⟨ao2, l2, cap2, rfl⟩ := sl_form s1; clear s1)
                go_ret
                rw [HE.out]
                exact ⟨ret_int (by simp), rvar_end HR.out hlt hb1 S1.out hf1⟩
              · have J1 := hide (refJoin_fresh w _ (zs.drop (5)) (sl_cutb (5) HR.out.2.1 (by omega) (by omega)) (by simp; omega))
                have hcm' : (cap == 5) = false := by simpa using hcm
                go_wp2_with (go_at_call 10; refine J1.out.mono ?_; rintro e w1 ⟨u1, rfl, s1, hf1, hb1⟩; clear J1; have d0 := (hb1.cell (p := ⟨b, 0, none⟩) hlt).trans C0.out; have g0 := (hb1.frozen (p := ⟨b, 0, none⟩) hlt).trans F0.out; have S1 := hide s1; obtain ⟨ao2, l2, cap2, rfl⟩ := sl_form s1; clear s1)
                go_ret
                rw [HE.out]
                exact ⟨ret_int (by simp), rvar_end HR.out hlt hb1 S1.out hf1⟩
            · subst hk
              rw [Nat.add_zero] at cx
              have hzne : zs ≠ [] := by intro h; simp [h] at hlt2
              by_cases hcm : cap = 1
              · have J1 := hide (refJoin_fresh w _ (zs.drop (1)) (sl_cut0 (1) HR.out.2.1 (by omega) hcm) (by simp; omega))
                go_wp2_with (go_at_call 10; refine J1.out.mono ?_; rintro e w1 ⟨u1, rfl, s1, hf1, hb1⟩; clear J1; have d0 := (hb1.cell (p := ⟨b, 0, none⟩) hlt).trans C0.out; have g0 := (hb1.frozen (p := ⟨b, 0, none⟩) hlt).trans F0.out; have S1 := hide s1; obtain ⟨ao2, l2, cap2, rfl⟩ := sl_form s1; clear s1)
                go_ret
                rw [HE.out]
                exact ⟨ret_int (by simp), rvar_end HR.out hlt hb1 S1.out hf1⟩
              · have J1 := hide (refJoin_fresh w _ (zs.drop (1)) (sl_cutb (1) HR.out.2.1 (by omega) (by omega)) (by simp; omega))
                have hcm' : (cap == 1) = false := by simpa using hcm
                go_wp2_with (go_at_call 10; refine J1.out.mono ?_; rintro e w1 ⟨u1, rfl, s1, hf1, hb1⟩; clear J1; have d0 := (hb1.cell (p := ⟨b, 0, none⟩) hlt).trans C0.out; have g0 := (hb1.frozen (p := ⟨b, 0, none⟩) hlt).trans F0.out; have S1 := hide s1; obtain ⟨ao2, l2, cap2, rfl⟩ := sl_form s1; clear s1)
                go_ret
                rw [HE.out]
                exact ⟨ret_int (by simp), rvar_end HR.out hlt hb1 S1.out hf1⟩
            · have hk4n : ((k : Int) == 4) = false := by simp; omega
              have hk0n : (0 : Int) < (k : Int) := by omega
              have hx0 : (x == 0) = false := by simp; omega
              by_cases hcm : cap = k + 1
              · have J1 := hide (refJoin_fresh w _ (zs.drop (k + 1)) (sl_cut0 (k + 1) HR.out.2.1 (by omega) hcm) (by simp; omega))
                go_wp2_with (go_at_call 10; refine J1.out.mono ?_; rintro e w1 ⟨u1, rfl, s1, hf1, hb1⟩; clear J1; have d0 := (hb1.cell (p := ⟨b, 0, none⟩) hlt).trans C0.out; have g0 := (hb1.frozen (p := ⟨b, 0, none⟩) hlt).trans F0.out; have S1 := hide s1; obtain ⟨ao2, l2, cap2, rfl⟩ := sl_form s1; clear s1)
                go_ret
                rw [HE.out]
                exact ⟨ret_int (by simp), rvar_end HR.out hlt hb1 S1.out hf1⟩
              · have J1 := hide (refJoin_fresh w _ (zs.drop (k + 1)) (sl_cutb (k + 1) HR.out.2.1 (by omega) (by omega)) (by simp; omega))
                have hcm' : (cap == k + 1) = false := by simpa using hcm
                go_wp2_with (go_at_call 10; refine J1.out.mono ?_; rintro e w1 ⟨u1, rfl, s1, hf1, hb1⟩; clear J1; have d0 := (hb1.cell (p := ⟨b, 0, none⟩) hlt).trans C0.out; have g0 := (hb1.frozen (p := ⟨b, 0, none⟩) hlt).trans F0.out; have S1 := hide s1; obtain ⟨ao2, l2, cap2, rfl⟩ := sl_form s1; clear s1)
                go_ret
                rw [HE.out]
                exact ⟨ret_int (by simp), rvar_end HR.out hlt hb1 S1.out hf1⟩
          · have he : shortAux (k + 1) (acc + M) (zs.drop (k + 1)) = short zs := by
              rw [← HS.out, HD.out, shortAux, if_neg hA, if_neg hx, ← HN.out]
            have HE := hide he
            have hk3 : k ≤ 3 := by omega
            clear he
            go_wp2
            all_goals
              go_round
              case rel => exact ⟨k + 1, acc + M, by omega, by omega, by rw [Nat.pow_succ, ← HP.out]; exact hB2'.out, HE.out, by go_num, by rw [Nat.pow_succ, ← HP.out]; go_num, by go_num⟩
              case measure => simp [intOf]; omega
      · have he : short zs = (0, 0, 10) := by rw [← hs, List.drop_eq_nil_of_le (by omega), shortAux]
        have HE := hide he
        clear he hs
        go_wp2_with (go_at_call 55; refine F10.out.mono ?_; rintro e w1 ⟨rfl, hw⟩; subst w1)
        go_ret
        rw [HE.out]
        exact ⟨rfl, (rr_fail HR.out 10).1, _, (rr_fail HR.out 10).2⟩
  · have es : varS zs er = (0, zs, er) := by simp [varS, e0]
    rw [es]
    have e1 : (er == 0) = false := by simpa using e0
    go_enter Try.func46, Try.ntmps46
    go_wp2
    go_ret
    exact ⟨rfl, grownBy_refl _ _, _, HR.out⟩

end Go.Proofs.Ytbopcppagfhjnaa
