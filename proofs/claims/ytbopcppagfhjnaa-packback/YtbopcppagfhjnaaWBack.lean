/- The walk of the statement PackBack: what was put, one behind the other, is taken in that order, and nothing is left. -/
import Derived.Test.YtbopcppagfhjnaaBack
import Derived.Test.YtbopcppagfhjnaaLive
namespace Go.Proofs.Ytbopcppagfhjnaa
open Go.RowKit

/-- a slice of numbers of 64 bits that is read -/
def SlU (w : World) (v : Value) (zs : List Int) : Prop :=
  (∀ z ∈ zs, 0 ≤ z ∧ z ≤ 18446744073709551615) ∧ ∃ ao cap, v = .slice ao zs.length cap ∧ zs.length ≤ cap ∧ cap ≤ maxLen ∧
    (zs ≠ [] → ∃ b off, ao = some ⟨b, off, none⟩ ∧ b < w.heap.size ∧ ∀ i, i < zs.length → w.cell? ⟨b, off + i, none⟩ = some (.int .u64 (zs.getD i 0)))

theorem take_succ_getD (xs : List Int) (k : Nat) (h : k < xs.length) : xs.take (k + 1) = xs.take k ++ [xs.getD k 0] := by
  rw [List.take_succ_eq_append_getElem h, getD_lt xs h]

theorem put_next (xs : List Int) (k : Nat) (h : k < xs.length) : putAll 0 (xs.take (k + 1)) = putAll 0 (xs.take k) ++ put1 k (xs.getD k 0).toNat := by
  rw [take_succ_getD xs k h, putAll_snoc, Nat.zero_add, List.length_take, Nat.min_eq_left (by omega)]

theorem put_rest (xs : List Int) (k : Nat) (h : k < xs.length) : putAll k (xs.drop k) = put1 k (xs.getD k 0).toNat ++ putAll (k + 1) (xs.drop (k + 1)) := by
  rw [drop_cons xs k h, putAll]

set_option maxRecDepth 20000 in
set_option maxHeartbeats 4000000 in
theorem packBack_walk (w : World) (vv vt : Value) (vs ts : List Int) (ha : SlU w vv vs) (ht : Sl w vt ts) :
    Calls Try.prog 6 #[vv, vt] w fun e w' => e = .returned (.bool true) ∧ Below w.heap.size w w' := by
  have HT := hide ht
  obtain ⟨hbv, ao, cap, rfl, h1, h2, h4⟩ := ha
  obtain ⟨hbt, aot, capt, rfl, _⟩ := ht
  have HB := hide hbv
  have H4 := hide h4
  unfold maxLen at h2
  clear hbv h4
  by_cases big : 100 < vs.length ∨ 255 < ts.length
  · by_cases b1 : 100 < vs.length
    · have i1 : (100 : Int) < (vs.length : Int) := by omega
      go_enter Try.func6, Try.ntmps6
      go_wp2_with (first
        | (go_at_call 9; refine (live_any w).mono ?_; rintro e w1 ⟨rfl, hb1⟩)
        | (go_at_call 9; refine (live_any w1).mono ?_; rintro e w2 ⟨rfl, hb2⟩))
      go_ret
      exact ⟨rfl, below_then hb1 hb2 (Nat.le_refl _)⟩
    · have i1 : decide ((100 : Int) < (vs.length : Int)) = false := decide_eq_false (by omega)
      have i2 : (255 : Int) < (ts.length : Int) := by omega
      go_enter Try.func6, Try.ntmps6
      go_wp2_with (first
        | (go_at_call 9; refine (live_any w).mono ?_; rintro e w1 ⟨rfl, hb1⟩)
        | (go_at_call 9; refine (live_any w1).mono ?_; rintro e w2 ⟨rfl, hb2⟩))
      go_ret
      exact ⟨rfl, below_then hb1 hb2 (Nat.le_refl _)⟩
  · have i1 : decide ((100 : Int) < (vs.length : Int)) = false := decide_eq_false (by omega)
    have i2 : decide ((255 : Int) < (ts.length : Int)) = false := decide_eq_false (by omega)
    have hvs : vs.length ≤ 100 := by omega
    have hts : ts.length ≤ 255 := by omega
    have L1 := hide (live_any w)
    go_enter Try.func6, Try.ntmps6
    go_wp2_with (go_at_call 9; refine L1.out.mono ?_; rintro e w1 ⟨rfl, hb1⟩; clear L1)
    go_loopw [5, 28] (fun bv i wr => ∃ (k : Nat), k ≤ vs.length ∧ i = .int .i64 k ∧ Sl wr bv (putAll 0 (vs.take k)) ∧ Below w.heap.size w wr)
      (fun _ i _ => vs.length - (intOf i).toNat)
    case atStart => exact ⟨0, Nat.zero_le _, rfl, Sl.nil _, hb1⟩
    case round =>
      obtain ⟨k, hk, rfl, hsl, hbr⟩ := hrel
      by_cases hlt : k < vs.length
      · obtain ⟨b, off, rfl, hbs, hc⟩ := H4.out (by intro h; simp [h] at hlt)
        have c1 := (hbr.cell (p := ⟨b, off + k, none⟩) hbs).trans (hc k hlt)
        have hnx := put_next vs k hlt
        have hlen := putAll_len (vs.take k) 0
        have hxb := HB.out (vs.getD k 0) (by rw [getD_lt vs hlt]; exact List.getElem_mem hlt)
        obtain ⟨x, hx⟩ : ∃ x, x = vs.getD k 0 := ⟨_, rfl⟩
        rw [← hx] at c1 hnx hxb
        obtain ⟨X, rfl⟩ : ∃ X : Nat, x = X := ⟨x.toNat, by omega⟩
        rw [show ((X : Nat) : Int).toNat = X by omega] at hnx
        have hX : X < 18446744073709551616 := by omega
        have hlen' : (putAll 0 (vs.take k)).length ≤ 50000 := by rw [List.length_take] at hlen; omega
        have HNX := hide hnx
        have HSL := hide hsl
        have HLEN := hide hlen'
        clear hc hx hnx hlen hlen' hsl
        rcases (by omega : k % 4 = 0 ∨ k % 4 = 1 ∨ k % 4 = 2 ∨ k % 4 = 3) with h | h | h | h
        · have hi : (k : Int) % 4 = 0 := by omega
          have e : put1 k X = varBytes (X % 4294967296) := by rw [put1, if_pos h]
          have HC : Calls Try.prog 16 #[u5, .int .u32 ((X : Int) % 4294967296)] wr _ := packVar_any wr u5 _ (X % 4294967296) HSL.out HLEN.out (by omega)
          go_wp2_with (go_at_call 16; refine HC.mono ?_; rintro e w3 ⟨u3, rfl, ho3, hb3, hz3⟩)
          go_roundw
          case rel => exact ⟨k + 1, by omega, by go_num, by rw [HNX.out, e]; exact sl_of_own_len ho3 (HSL.out.bytes.append' (varBytes_ok _)), below_then hbr hb3 (Nat.le_refl _)⟩
          case measure => simp [intOf]; omega
        · have hi : (k : Int) % 4 = 1 := by omega
          have e : put1 k X = numBytes X 8 := by rw [put1, if_neg (by omega), if_pos h]
          have HC : Calls Try.prog 15 #[u5, .int .u64 (X : Int)] wr _ := packU64_any wr u5 _ X HSL.out HLEN.out hX
          go_wp2_with (go_at_call 15; refine HC.mono ?_; rintro e w3 ⟨u3, rfl, ho3, hb3, hz3⟩)
          go_roundw
          case rel => exact ⟨k + 1, by omega, by go_num, by rw [HNX.out, e]; exact sl_of_own_len ho3 (HSL.out.bytes.append' (numBytes_ok _ _)), below_then hbr hb3 (Nat.le_refl _)⟩
          case measure => simp [intOf]; omega
        · have hi : (k : Int) % 4 = 2 := by omega
          have e : put1 k X = numBytes (X % 65536) 2 := by rw [put1, if_neg (by omega), if_neg (by omega), if_pos h]
          have HC : Calls Try.prog 13 #[u5, .int .u16 ((X : Int) % 65536)] wr _ := packU16_any wr u5 _ (X % 65536) HSL.out HLEN.out (by omega)
          go_wp2_with (go_at_call 13; refine HC.mono ?_; rintro e w3 ⟨u3, rfl, ho3, hb3, hz3⟩)
          go_roundw
          case rel => exact ⟨k + 1, by omega, by go_num, by rw [HNX.out, e]; exact sl_of_own_len ho3 (HSL.out.bytes.append' (numBytes_ok _ _)), below_then hbr hb3 (Nat.le_refl _)⟩
          case measure => simp [intOf]; omega
        · have hi : (k : Int) % 4 = 3 := by omega
          have e : put1 k X = numBytes (X % 4294967296) 4 := by rw [put1, if_neg (by omega), if_neg (by omega), if_neg (by omega)]
          have HC : Calls Try.prog 14 #[u5, .int .u32 ((X : Int) % 4294967296)] wr _ := packU32_any wr u5 _ (X % 4294967296) HSL.out HLEN.out (by omega)
          go_wp2_with (go_at_call 14; refine HC.mono ?_; rintro e w3 ⟨u3, rfl, ho3, hb3, hz3⟩)
          go_roundw
          case rel => exact ⟨k + 1, by omega, by go_num, by rw [HNX.out, e]; exact sl_of_own_len ho3 (HSL.out.bytes.append' (numBytes_ok _ _)), below_then hbr hb3 (Nat.le_refl _)⟩
          case measure => simp [intOf]; omega
      · obtain rfl : k = vs.length := by omega
        have hlen := putAll_len vs 0
        rw [List.take_length] at hsl
        have HSL := hide hsl
        have HTR := hide (HT.out.below hbr)
        have hlen' : (putAll 0 vs).length ≤ 50000 := by omega
        have hlen2 : (putAll 0 vs ++ textBytes ts).length ≤ 100000 := by rw [List.length_append]; simp [textBytes]; omega
        have HLEN := hide hlen'
        have HLEN2 := hide hlen2
        have HOK := hide (hsl.bytes.append' (textBytes_ok ts hbt hts))
        have HTX := hide (packText_ok wr u5 _ _ ts HSL.out HTR.out hlen' hts)
        clear hsl hlen hlen' hlen2
        go_wp2_with (first
          | (go_at_call 11; refine HTX.out.mono ?_; rintro e w4 ⟨u4, rfl, ho4, hb4, hz4⟩; clear HTX; have hs4 := sl_of_own_len ho4 HOK.out; have hB4 := below_then hbr hb4 (Nat.le_refl _); have HT4 := hide (HTR.out.below hb4); clear ho4 hbr HTR hb4)
          | (go_at_call 21; refine (read_any w4 u4 _ hs4 HLEN2.out).mono ?_; rintro e w5 ⟨rb, ru, rfl, hrb, hrd, hrf, hb5⟩; have hB5 := below_then hB4 hb5 (Nat.le_refl _); have HT5 := hide (HT4.out.below hb5); have hrb' := Nat.le_trans hB4.size hrb; have HRD5 := hide hrd; clear hb5 hB4 HT4 hrb hrd hrf hs4))
        go_loopw [73] (fun i wq => ∃ (j : Nat), j ≤ vs.length ∧ i = .int .i64 j ∧ (∃ u, Rd wq rb u (putAll j (vs.drop j) ++ textBytes ts) 0) ∧ Below w.heap.size w wq)
          (fun i _ => vs.length - (intOf i).toNat)
        case atStart => exact ⟨0, Nat.zero_le _, rfl, ⟨_, HRD5.out⟩, hB5⟩
        case round =>
          obtain ⟨j, hj, rfl, ⟨uq, hrd⟩, hbq⟩ := hrel
          by_cases hlt : j < vs.length
          · obtain ⟨b, off, rfl, hbs, hc⟩ := H4.out (by intro h; simp [h] at hlt)
            have c1 := (hbq.cell (p := ⟨b, off + j, none⟩) hbs).trans (hc j hlt)
            have hnx := put_rest vs j hlt
            have hxb := HB.out (vs.getD j 0) (by rw [getD_lt vs hlt]; exact List.getElem_mem hlt)
            obtain ⟨x, hx⟩ : ∃ x, x = vs.getD j 0 := ⟨_, rfl⟩
            rw [← hx] at c1 hnx hxb
            obtain ⟨X, rfl⟩ : ∃ X : Nat, x = X := ⟨x.toNat, by omega⟩
            rw [show ((X : Nat) : Int).toNat = X by omega] at hnx
            have hX : X < 18446744073709551616 := by omega
            rw [hnx, List.append_assoc] at hrd
            have HRD := hide hrd
            clear hc hx hnx hrd
            rcases (by omega : j % 4 = 0 ∨ j % 4 = 1 ∨ j % 4 = 2 ∨ j % 4 = 3) with h | h | h | h
            · have hi : (j : Int) % 4 = 0 := by omega
              have e : put1 j X = varBytes (X % 4294967296) := by rw [put1, if_pos h]
              rw [e] at HRD
              have HC := backVar wr rb uq X _ HRD.out
              go_wp2_with (go_at_call 34; refine HC.mono ?_; rintro e w7 ⟨rfl, hg7, hr7⟩)
              go_roundw
              case rel => exact ⟨j + 1, by omega, by go_num, hr7, below_of_grown hbq hg7 hrb' hbq.size⟩
              case measure => simp [intOf]; omega
            · have hi : (j : Int) % 4 = 1 := by omega
              have e : put1 j X = numBytes X 8 := by rw [put1, if_neg (by omega), if_pos h]
              rw [e] at HRD
              have HC := backU64 wr rb uq X _ hX HRD.out
              go_wp2_with (go_at_call 35; refine HC.mono ?_; rintro e w7 ⟨rfl, hg7, hr7⟩)
              go_roundw
              case rel => exact ⟨j + 1, by omega, by go_num, hr7, below_of_grown hbq hg7 hrb' hbq.size⟩
              case measure => simp [intOf]; omega
            · have hi : (j : Int) % 4 = 2 := by omega
              have hw16 : IntKind.u16.wrap (X : Int) = (X : Int) % 65536 := rfl
              have e : put1 j X = numBytes (X % 65536) 2 := by rw [put1, if_neg (by omega), if_neg (by omega), if_pos h]
              rw [e] at HRD
              have HC := backU16 wr rb uq X _ HRD.out
              go_wp2_with (go_at_call 36; refine HC.mono ?_; rintro e w7 ⟨rfl, hg7, hr7⟩)
              go_roundw
              case rel => exact ⟨j + 1, by omega, by go_num, hr7, below_of_grown hbq hg7 hrb' hbq.size⟩
              case measure => simp [intOf]; omega
            · have hi : (j : Int) % 4 = 3 := by omega
              have e : put1 j X = numBytes (X % 4294967296) 4 := by rw [put1, if_neg (by omega), if_neg (by omega), if_neg (by omega)]
              rw [e] at HRD
              have HC := backU32 wr rb uq X _ HRD.out
              go_wp2_with (go_at_call 37; refine HC.mono ?_; rintro e w7 ⟨rfl, hg7, hr7⟩)
              go_roundw
              case rel => exact ⟨j + 1, by omega, by go_num, hr7, below_of_grown hbq hg7 hrb' hbq.size⟩
              case measure => simp [intOf]; omega
          · obtain rfl : j = vs.length := by omega
            rw [List.drop_length] at hrd
            have hrd' : Rd wr rb uq (textBytes ts) 0 := hrd
            have HC := readerText_any wr rb uq (textBytes ts) 0 255 hrd'
            rw [textS_text ts hts] at HC
            have HTQ := hide (HT.out.below hbq)
            have HCC := hide HC
            clear HC hrd hrd'
            go_wp2_with (first
              | (go_at_call 38; refine HCC.out.mono ?_; rintro e w6 ⟨v6, rfl, hs6, hf6, hg6, u6, hr6⟩; clear HCC; have hB6 := below_of_grown hbq hg6 hrb' hbq.size; have HT6 := hide (HT.out.below hB6); clear hbq hg6)
              | (go_at_call 17; refine (refSame_any w6 _ _ ts ts hs6 HT6.out).mono ?_; rintro e w7 ⟨rfl, hb7⟩; have hB7 := below_then hB6 hb7 (Nat.le_refl _); have hr7 := hr6.keep hb7; clear hB6 hr6 hb7)
              | (go_at_call 26; refine (end_any w7 _ _ _ _ hr7).mono ?_; rintro e w8 ⟨rfl, hw⟩; subst w8)
              | (go_at_call 24; refine (left_any w7 _ _ _ _ hr7).mono ?_; rintro e w8 ⟨rfl, hw⟩; subst w8))
            go_ret
            exact ⟨rfl, hB7⟩
end Go.Proofs.Ytbopcppagfhjnaa
