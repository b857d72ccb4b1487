/- Contract: package node's middle (where a node is cut). -/
import Derived.Test.YthnppkeifhnceabNCheck
import Derived.Test.YthnppkeifhnceabNMid
namespace Go.Proofs.Ythnppkeifhnceab
set_option maxRecDepth 20000
open Go.RowKit Go.Shelf
set_option linter.unusedVariables false
set_option linter.unusedSimpArgs false
set_option maxRecDepth 100000
attribute [local go_sem] Oper.semAt_some

theorem midK_lt (lf : Bool) (l : List Nat) : ∀ k, (midK lf l k).1 ≤ k
  | 0 => Nat.le_refl _
  | k + 1 => by
    have := midK_lt lf l k
    rw [midK]
    split
    · omega
    · split
      · omega
      · simp
theorem midK_small (lf : Bool) (l : List Nat) (m : Nat) (hm : l.sum ≤ m) : ∀ k, (midK lf l k).2 ≤ m
  | 0 => Nat.zero_le _
  | k + 1 => by
    have := midK_small lf l m hm k
    rw [midK]
    split
    · exact this
    · split
      · exact this
      · show apartC lf l k ≤ m
        have h1 := sum_split l k
        have h2 := sum_split l (k + 1)
        have h3 : (l.take k).sum ≤ l.sum := by omega
        have h4 : sndC lf l k ≤ l.sum := by unfold sndC; split <;> omega
        unfold apartC fstC at *
        omega

set_option maxHeartbeats 8000000 in
theorem middle_any (w : World) (v : Value) (n : Nd) (h : NdV w v n) (hm : mayN n = true) :
    Calls Try.prog 26 #[v] w fun e w' => e = .returned (.tuple #[.int .i64 (midN n.lf (partsN n)), .bool (decide (0 < midN n.lf (partsN n)))]) ∧ Below w.heap.size w w' := by
  have HPP : Hid (∀ w1, Below w.heap.size w w1 → Calls Try.prog 43 #[v] w1 fun e w' => ∃ u, e = .returned u ∧ Ints w' w1.heap.size u (ci (partsN n)) ∧ Below w1.heap.size w1 w') := fun w1 hb => parts_any w1 v n (h.below hb) hm
  obtain ⟨pa, pc, ka, kc, ca, cc, xs, ys, rfl, hp1, hk1, hc1, hp2, hk2, hc2, hP, hK, hC⟩ := h.open
  have HLL := hide (@parts_le n hm)
  have HNN := hide (@parts_len n hm)
  have HMN : Hid (midN n.lf (partsN n) = (midK n.lf (partsN n) (partsN n).length).1) := rfl
  generalize midN n.lf (partsN n) = MN at *
  generalize partsN n = L at *
  unfold ndv at HPP ⊢
  generalize n.lf = lf at *
  generalize n.ps.length = np at *
  generalize n.ks.length = nk at *
  generalize n.cs.length = nc at *
  have HT := hide (sum_take_le L 51 HLL.out)
  obtain ⟨w1, hw1, HB1, HBB, z0, z1, z2, z3⟩ := nd_box w lf (.slice pa np pc) (.slice ka nk kc) (.slice ca nc cc)
  obtain ⟨N, hN⟩ : ∃ N, L.length = N := ⟨_, rfl⟩
  have HNL := hide hN
  have hN5 : N ≤ 510 := by have := HNN.out; omega
  have hsum : L.sum ≤ 26010 := by
    have := HT.out L.length
    rw [List.take_length] at this
    have : L.length * 51 ≤ 510 * 51 := Nat.mul_le_mul_right _ (by omega)
    omega
  rw [hN] at HMN
  have HSM := hide (midK_small lf L 26010 hsum)
  have HLT := hide (midK_lt lf L)
  clear h hm hP hK hC hp1 hk1 hc1 hp2 hk2 hc2 hN
  go_enter Try.func26, Try.ntmps26
  go_wp2
  apply wp_scope_straight
  go_wp2_with (go_at_call 43; refine (HPP.out w1 HB1.out).mono ?_; rintro e w3 ⟨u, rfl, hu, hb3⟩; have HB3 := hide (HB1.out.trans (hb3.mono HB1.out.size)); have hBB3 := HBB.out.below hb3 HBB.out.lt; obtain ⟨y0, y1, y2, y3⟩ := box_ndc hBB3; have hui := hu.is; obtain ⟨ua, uc, rfl, hu1, hu2⟩ := hui.shape; have HU := hide hui; rw [ci_length, HNL.out] at HU; clear HPP hb3 hui hu hBB3)
  rw [ci_length, HNL.out]
  go_loopg [6, 20] N (fun g s i wr => ∃ (k : Nat), g + k = N ∧ i = .int .i64 k ∧ s = .int .i64 ((L.take k).sum : Nat) ∧ w3 = wr)
  case atStart => exact ⟨0, by omega, rfl, by simp, rfl⟩
  case round =>
    obtain ⟨k, hgk, rfl, rfl, hwr⟩ := hrel
    subst wr
    cases gk with
    | succ g =>
      have hk : k < N := by omega
      have hkl : k < L.length := by rw [HNL.out]; exact hk
      obtain ⟨b, off, rfl, q⟩ := HU.out.at k (by rw [ci_length]; exact hkl)
      have hki : (k : Int) < (N : Int) := by omega
      have hle := part_le L 51 HLL.out k
      have hA : (L.take k).sum ≤ 26010 := by have := sum_split L k; omega
      have HS := hide (sum_take_succ L k hkl)
      rw [ci_getD] at q
      generalize L.getD k 0 = x at *
      generalize (L.take k).sum = A at *
      go_wp2
      go_roundg g
      case measure => omega
      case rel => exact ⟨k + 1, by omega, by go_num, by rw [HS.out]; go_num, rfl⟩
    | zero =>
      obtain rfl : k = N := by omega
      have HTS : Hid ((L.take k).sum = L.sum) := by show _ = _; rw [List.take_of_length_le (by have := HNL.out; omega)]
      rw [HTS.out]
      go_wp2
      apply wp_label
      go_wp2
      go_loopg [5, 6, 9, 10, 30] k (fun g s5 s6 s9 s10 i wr => ∃ (j : Nat), g + j = k ∧ i = .int .i64 j ∧ s5 = .int .i64 ((L.take j).sum : Nat) ∧ s6 = .int .i64 ((L.drop j).sum : Nat) ∧ s9 = .int .i64 ((midK lf L j).1 : Nat) ∧ s10 = .int .i64 ((midK lf L j).2 : Nat) ∧ w3 = wr)
      case atStart => exact ⟨0, by omega, rfl, by simp, by simp, rfl, rfl, rfl⟩
      case round =>
        obtain ⟨j, hgj, rfl, rfl, rfl, rfl, rfl, hwr⟩ := hrel
        subst wr
        cases gk with
        | zero =>
          obtain rfl : j = k := by omega
          rw [← HMN.out]
          clear HMN
          by_cases h0 : 0 < MN
          · have hi0 : (0 : Int) < (MN : Int) := by omega
            go_wp2
            try rw [Exit.noGoto_ret]
            go_ret2
            exact ⟨by rw [decide_eq_true h0]; rfl, HB3.out⟩
          · have hi0 : ¬ (0 : Int) < (MN : Int) := by omega
            go_wp2
            try rw [Exit.noGoto_ret]
            go_ret2
            exact ⟨by rw [decide_eq_false h0]; rfl, HB3.out⟩
        | succ g =>
          have hj : j < k := by omega
          have hjl : j < L.length := by rw [HNL.out]; exact hj
          obtain ⟨b, off, rfl, q⟩ := HU.out.at j (by rw [ci_length]; exact hjl)
          have hji : (j : Int) < (k : Int) := by omega
          have hle := part_le L 51 HLL.out j
          have HS1 := hide (sum_take_succ L j hjl)
          have HS2 := sum_drop_succ L j hjl
          have hsp := sum_split L j
          have hb1 := HLT.out j
          have hb2 := HSM.out j
          have HMK : Hid (midK lf L (j + 1) = if fstC L j = 0 ∨ sndC lf L j = 0 then midK lf L j else if 0 < (midK lf L j).1 ∧ (midK lf L j).2 ≤ apartC lf L j then midK lf L j else (j, apartC lf L j)) := rfl
          rw [ci_getD] at q
          generalize (midK lf L j) = M at *
          obtain ⟨bst, lst⟩ := M
          simp only at hb1 hb2 HMK ⊢
          have HF : Hid (fstC L j = (L.take j).sum) := rfl
          have HST : Hid (sndC true L j = (L.drop j).sum) := rfl
          have HSF : Hid (sndC false L j = (L.drop (j + 1)).sum) := rfl
          have HAP : Hid (apartC lf L j = (fstC L j - sndC lf L j) + (sndC lf L j - fstC L j)) := rfl
          generalize L.getD j 0 = x at *
          generalize fstC L j = F at *
          generalize apartC lf L j = A at *
          rw [← HF.out] at hsp HS1 ⊢
          generalize hBe : (L.drop (j + 1)).sum = B' at *
          generalize hBd : (L.drop j).sum = B at *
          have hBx : (B : Int) - (x : Int) = (B' : Int) := by omega
          have HBD := hide hBd
          have HBE := hide hBe
          have hFb : F ≤ 26010 := by omega
          have hBb : B ≤ 26010 := by omega
          have hBb' : B' ≤ 26010 := by omega
          have hxb : x ≤ 51 := hle
          clear hBe hBd HS2 hsp
          cases lf with
          | true =>
            rw [HST.out] at HMK HAP
            have HA := HAP.out
            have hmx : (if (F : Int) - (B : Int) < (B : Int) - (F : Int) then (B : Int) - (F : Int) else (F : Int) - (B : Int)) = (A : Int) := by split <;> omega
            have hmy : max ((F : Int) - (B : Int)) ((B : Int) - (F : Int)) = (A : Int) := by omega
            have hAb : A ≤ 26010 := by omega
            clear HST HSF HAP HA HF
            by_cases hF : F = 0
            · have hf : ((F : Int) == 0) = true := by simp; omega
              have HF0 := hide hF
              clear hF
              go_wp2
              go_roundg g
              case measure => omega
              case rel =>
                refine ⟨j + 1, by omega, by go_num, by rw [HS1.out]; go_num, by rw [HBE.out], ?_, ?_, rfl⟩
                · rw [HMK.out, if_pos (.inl HF0.out)]; try rfl
                · rw [HMK.out, if_pos (.inl HF0.out)]; try rfl
            · have hf : ((F : Int) == 0) = false := by simp; omega
              by_cases hS : B = 0
              · have hs : ((B : Int) == 0) = true := by simp; omega
                have HS0 := hide hS
                clear hS
                go_wp2
                go_roundg g
                case measure => omega
                case rel =>
                  refine ⟨j + 1, by omega, by go_num, by rw [HS1.out]; go_num, by rw [HBE.out], ?_, ?_, rfl⟩
                  · rw [HMK.out, if_pos (.inr HS0.out)]; try rfl
                  · rw [HMK.out, if_pos (.inr HS0.out)]; try rfl
              · have hs : ((B : Int) == 0) = false := by simp; omega
                by_cases hb : 0 < bst
                · have hbi : (0 : Int) < (bst : Int) := by omega
                  by_cases ha : lst ≤ A
                  · have hai : (lst : Int) ≤ (A : Int) := by omega
                    go_wp2
                    go_roundg g
                    case measure => omega
                    case rel =>
                      refine ⟨j + 1, by omega, by go_num, by rw [HS1.out]; go_num, by rw [HBE.out], ?_, ?_, rfl⟩
                      · rw [HMK.out, if_neg (by omega), if_pos ⟨hb, ha⟩]; try rfl
                      · rw [HMK.out, if_neg (by omega), if_pos ⟨hb, ha⟩]; try rfl
                  · have hai : ¬ (lst : Int) ≤ (A : Int) := by omega
                    go_wp2
                    go_roundg g
                    case measure => omega
                    case rel =>
                      refine ⟨j + 1, by omega, by go_num, by rw [HS1.out]; go_num, by rw [HBE.out], ?_, ?_, rfl⟩
                      · rw [HMK.out, if_neg (by omega), if_neg (fun h => ha h.2)]; try rfl
                      · rw [HMK.out, if_neg (by omega), if_neg (fun h => ha h.2)]; try rfl
                · have hbi : ¬ (0 : Int) < (bst : Int) := by omega
                  go_wp2
                  go_roundg g
                  case measure => omega
                  case rel =>
                    refine ⟨j + 1, by omega, by go_num, by rw [HS1.out]; go_num, by rw [HBE.out], ?_, ?_, rfl⟩
                    · rw [HMK.out, if_neg (by omega), if_neg (fun h => hb h.1)]; try rfl
                    · rw [HMK.out, if_neg (by omega), if_neg (fun h => hb h.1)]; try rfl
          | false =>
            rw [HSF.out] at HMK HAP
            have HA := HAP.out
            have hmx : (if (F : Int) - (B' : Int) < (B' : Int) - (F : Int) then (B' : Int) - (F : Int) else (F : Int) - (B' : Int)) = (A : Int) := by split <;> omega
            have hmy : max ((F : Int) - (B' : Int)) ((B' : Int) - (F : Int)) = (A : Int) := by omega
            have hAb : A ≤ 26010 := by omega
            clear HST HSF HAP HA HF
            by_cases hF : F = 0
            · have hf : ((F : Int) == 0) = true := by simp; omega
              have HF0 := hide hF
              clear hF
              go_wp2
              go_roundg g
              case measure => omega
              case rel =>
                refine ⟨j + 1, by omega, by go_num, by rw [HS1.out]; go_num, by rw [HBE.out], ?_, ?_, rfl⟩
                · rw [HMK.out, if_pos (.inl HF0.out)]; try rfl
                · rw [HMK.out, if_pos (.inl HF0.out)]; try rfl
            · have hf : ((F : Int) == 0) = false := by simp; omega
              by_cases hS : B' = 0
              · have hs : ((B' : Int) == 0) = true := by simp; omega
                have HS0 := hide hS
                clear hS
                go_wp2
                go_roundg g
                case measure => omega
                case rel =>
                  refine ⟨j + 1, by omega, by go_num, by rw [HS1.out]; go_num, by rw [HBE.out], ?_, ?_, rfl⟩
                  · rw [HMK.out, if_pos (.inr HS0.out)]; try rfl
                  · rw [HMK.out, if_pos (.inr HS0.out)]; try rfl
              · have hs : ((B' : Int) == 0) = false := by simp; omega
                by_cases hb : 0 < bst
                · have hbi : (0 : Int) < (bst : Int) := by omega
                  by_cases ha : lst ≤ A
                  · have hai : (lst : Int) ≤ (A : Int) := by omega
                    go_wp2
                    go_roundg g
                    case measure => omega
                    case rel =>
                      refine ⟨j + 1, by omega, by go_num, by rw [HS1.out]; go_num, by rw [HBE.out], ?_, ?_, rfl⟩
                      · rw [HMK.out, if_neg (by omega), if_pos ⟨hb, ha⟩]; try rfl
                      · rw [HMK.out, if_neg (by omega), if_pos ⟨hb, ha⟩]; try rfl
                  · have hai : ¬ (lst : Int) ≤ (A : Int) := by omega
                    go_wp2
                    go_roundg g
                    case measure => omega
                    case rel =>
                      refine ⟨j + 1, by omega, by go_num, by rw [HS1.out]; go_num, by rw [HBE.out], ?_, ?_, rfl⟩
                      · rw [HMK.out, if_neg (by omega), if_neg (fun h => ha h.2)]; try rfl
                      · rw [HMK.out, if_neg (by omega), if_neg (fun h => ha h.2)]; try rfl
                · have hbi : ¬ (0 : Int) < (bst : Int) := by omega
                  go_wp2
                  go_roundg g
                  case measure => omega
                  case rel =>
                    refine ⟨j + 1, by omega, by go_num, by rw [HS1.out]; go_num, by rw [HBE.out], ?_, ?_, rfl⟩
                    · rw [HMK.out, if_neg (by omega), if_neg (fun h => hb h.1)]; try rfl
                    · rw [HMK.out, if_neg (by omega), if_neg (fun h => hb h.1)]; try rfl

end Go.Proofs.Ythnppkeifhnceab
