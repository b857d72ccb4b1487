/- Contract: what a node's page bears, by the document (incipitref10.Put). -/
import Derived.Test.YthnppkeifhnceaaNRefC
import Derived.Test.YthnppkeifhnceaaNPutP
namespace Go.Proofs.Ythnppkeifhnceaa
set_option maxRecDepth 20000
open Go.RowKit Go.Shelf
set_option linter.unusedVariables false
set_option linter.unusedSimpArgs false
set_option maxRecDepth 100000
attribute [local go_sem] Oper.semAt_some

theorem check_ok {n : Nd} (h : checkN n = 0) : mayN n = true ∧ sizeN n ≤ 240 := by
  unfold checkN at h
  cases hm : mayN n with
  | false => rw [hm] at h; simp at h
  | true =>
    rw [hm] at h
    simp only [if_true] at h
    refine ⟨rfl, ?_⟩
    by_cases hs : sizeN n ≤ 240
    · exact hs
    · rw [if_neg hs] at h; cases h

set_option maxHeartbeats 4000000 in
theorem refPut_any (w : World) (v : Value) (n : Nd) (h : NdV w v n) (hq : n.ks.length + n.cs.length ≤ 9223372036854775807) :
    Calls Try.prog 19 #[v] w fun e w' => ∃ u, e = .returned (.tuple #[.int .i64 (putK n), u, .int .i64 (checkN n)]) ∧ ownsB w' w.heap.size u (putB n) ∧ Below w.heap.size w w' := by
  have HC : Hid (∀ w1, Below w.heap.size w w1 → Calls Try.prog 13 #[v] w1 fun e w' => e = .returned (.int .i64 (checkN n)) ∧ Below w1.heap.size w1 w') := fun w1 hb => refCheck_any w1 v n (h.below hb) hq
  have HL : Hid (checkN n = 0 → ∀ w1, Below w.heap.size w w1 → Calls Try.prog 51 #[v] w1 fun e w' => ∃ a c, e = .returned (.slice a (sizeN n) c) ∧ ownsB w' w1.heap.size (.slice a (sizeN n) c) (bytesN n) ∧ Below w1.heap.size w1 w') := fun h0 w1 hb => by
    refine (refLay_any w1 v n (h.below hb) (check_ok h0).1).mono ?_
    rintro e w' ⟨u, rfl, ho, hb'⟩
    obtain ⟨a, c, rfl⟩ := own_sliceN ho
    rw [bytesN_len (check_ok h0).1] at ho ⊢
    exact ⟨a, c, rfl, ho, hb'⟩
  have HK : Hid (putK n = if checkN n = 0 then (if n.lf then 3 else 4) else 0) := rfl
  have HB : Hid (putB n = if checkN n = 0 then padN (bytesN n) else []) := rfl
  have HS : Hid (checkN n = 0 → sizeN n ≤ 240 ∧ (bytesN n).length = sizeN n) := fun h0 => ⟨(check_ok h0).2, bytesN_len (check_ok h0).1⟩
  obtain ⟨pa, pc, ka, kc, ca, cc, xs, ys, rfl, hp1, hk1, hc1, hp2, hk2, hc2, hP, hK, hC⟩ := h.open
  unfold ndv at *
  generalize n.ps.length = np at *
  generalize n.ks.length = nk at *
  generalize n.cs.length = nc at *
  generalize n.lf = lf at *
  generalize putK n = K at *
  generalize putB n = PB at *
  generalize checkN n = C at *
  generalize sizeN n = S at *
  generalize bytesN n = BN at *
  obtain ⟨w1, hw1, HB1, HBB, z0, z1, z2, z3⟩ := nd_box w lf (.slice pa np pc) (.slice ka nk kc) (.slice ca nc cc)
  clear h hq hP hK hC hp1 hk1 hc1 hp2 hk2 hc2
  by_cases h0 : C = 0
  · have HLL := hide (HL.out h0)
    obtain ⟨hs1, hs2⟩ := HS.out h0
    have HBL := hide hs2
    have HK0 : Hid (K = if lf then 3 else 4) := by show _ = _; rw [HK.out, if_pos h0]
    have HB0 : Hid (PB = padN BN) := by show _ = _; rw [HB.out, if_pos h0]
    clear HL HK HB HS hs2
    subst h0
    go_enter Try.func19, Try.ntmps19
    go_wp2_with (first
      | (go_at_call 13; refine (HC.out w1 HB1.out).mono ?_; rintro e w2 ⟨rfl, hb2⟩; have HB2 := hide (HB1.out.trans (hb2.mono HB1.out.size)); have HX2 := hide (HBB.out.below hb2 HBB.out.lt); obtain ⟨y0, y1, y2, y3⟩ := box_ndc HX2.out; clear HC hb2)
      | (go_at_call 51; refine (HLL.out w2 HB2.out).mono ?_; rintro e w3 ⟨a, c, rfl, hown, hb3⟩; have HO3 := hide hown; have HB3 := hide hb3; clear HLL hb3 hown))
    go_loopg [6] (240 - S) (fun g b wr => ∃ (t : Nat) (a' : Option Addr) (c' : Nat), g + t = 240 - S ∧ b = .slice a' (S + t) c' ∧ ownsB wr w2.heap.size (.slice a' (S + t) c') (BN ++ List.replicate t 0) ∧ Below w2.heap.size w2 wr)
    case atStart => exact ⟨0, _, _, by omega, rfl, by simpa using HO3.out, HB3.out⟩
    case round =>
      obtain ⟨t, a7, c7, ht, rfl, hown7, hb7⟩ := hrel
      obtain ⟨W, rfl⟩ : ∃ x, x = wr := ⟨_, rfl⟩
      have HO7 := hide hown7
      have HB7 := hide hb7
      have HX7 := hide (HX2.out.below hb7 HX2.out.lt)
      clear HO3 HB3 hown7 y0 y1 y2 y3
      obtain ⟨y0, y1, y2, y3⟩ := box_ndc HX7.out
      by_cases hlt : S + t < 240
      · have hyes : ((S + t : Nat) : Int) < 240 := by omega
        have hS0 : Sl (W.alloc (.cells #[.int .u8 0] 5)) (.slice (some ⟨W.heap.size, 0, none⟩) 1 1) [0] := by
          have := sl_lit W 5 [0] (by intro z hz; simp at hz; omega) (by simp [maxLen])
          simpa using this
        have hO8 : ownsB (W.alloc (.cells #[.int .u8 0] 5)) w2.heap.size (.slice a7 (S + t) c7) (BN ++ List.replicate t 0) := HO7.out.only (Only.of_below (fun _ => False) ((Below.refl _ W).alloc (Nat.le_refl _) _)) (fun _ _ h => h)
        have hlen8 : (BN ++ List.replicate t 0).length = S + t := by rw [List.length_append, List.length_replicate, HBL.out]
        obtain ⟨v8, w8, r8, o8, g8, _⟩ := append_keepN _ w2.heap.size a7 (S + t) c7 _ [0] hO8 (some ⟨W.heap.size, 0, none⟩) 1 1 hS0 (by rw [hlen8]; simp; omega) (by have := hb7.size; simp; omega)
        have e8 : BN ++ List.replicate t 0 ++ [0] = BN ++ List.replicate (t + 1) 0 := by rw [List.append_assoc, ← List.replicate_succ']
        rw [e8] at o8
        obtain ⟨a8, c8, rfl⟩ := own_sliceN o8
        have hl8 : (BN ++ List.replicate (t + 1) 0).length = S + (t + 1) := by rw [List.length_append, List.length_replicate, HBL.out]
        rw [hl8] at r8 o8
        have hb8 : Below w2.heap.size w2 w8 := (hb7.alloc hb7.size _).grown g8 (by have := hb7.size; simp; omega) (fun k hk => (hO8.lt k hk).1)
        have HR8 := hide r8
        have HO8 := hide o8
        have HB8 := hide hb8
        obtain ⟨T, hT⟩ : ∃ T, T = S + t := ⟨_, rfl⟩
        rw [← hT] at hyes HR8 ⊢
        have HTT := hide hT
        clear hS0 hO8 hlen8 r8 o8 g8 e8 hl8 hb8 hb7 hT HO7
        go_wp2_with (at_builtin; refine wpList_append_run _ rfl (.tmp 17) (.tmp 18) 34 rfl _ _ rfl rfl _ _ HR8.out ?_)
        go_roundg (gk - 1)
        case measure => omega
        case rel => exact ⟨t + 1, a8, c8, by omega, rfl, HO8.out, HB8.out⟩
      · have hnot : decide (((S + t : Nat) : Int) < 240) = false := decide_eq_false (by omega)
        obtain ⟨T, hT⟩ : ∃ T, T = S + t := ⟨_, rfl⟩
        rw [← hT] at hnot HO7 ⊢
        have HTT := hide hT
        have HFN : Hid (BN ++ List.replicate t 0 = PB) := by
          show _ = _
          rw [HB0.out, padN, HBL.out]
          congr 2
          omega
        clear hb7 hT
        cases lf with
        | true =>
          go_wp2
          go_ret3
          refine ⟨_, by rw [HK0.out]; rfl, ?_, HB2.out.trans (HB7.out.mono HB2.out.size)⟩
          rw [← HFN.out]
          exact own_le' HO7.out HB2.out.size
        | false =>
          go_wp2
          go_ret3
          refine ⟨_, by rw [HK0.out]; rfl, ?_, HB2.out.trans (HB7.out.mono HB2.out.size)⟩
          rw [← HFN.out]
          exact own_le' HO7.out HB2.out.size
  · have hne : (C != 0) = true := by simpa using h0
    have HK0 : Hid (K = 0) := by show _ = _; rw [HK.out, if_neg h0]
    have HB0 : Hid (PB = []) := by show _ = _; rw [HB.out, if_neg h0]
    clear HL HK HB HS
    go_enter Try.func19, Try.ntmps19
    go_wp2_with (go_at_call 13; refine (HC.out w1 HB1.out).mono ?_; rintro e w2 ⟨rfl, hb2⟩; have HB2 := hide (HB1.out.trans (hb2.mono HB1.out.size)); clear HC hb2)
    go_ret3
    exact ⟨.slice none 0 0, by rw [HK0.out]; rfl, by rw [HB0.out]; exact World.ownsRow_nil _ _ _ _, HB2.out⟩

end Go.Proofs.Ythnppkeifhnceaa
