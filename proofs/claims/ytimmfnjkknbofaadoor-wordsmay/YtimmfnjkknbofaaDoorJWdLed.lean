/- Contracts: package words' leadingLetters, leadingRunes. -/
import Derived.Test.YtimmfnjkknbofaaDoorJWdP
import Derived.Lib.Strings
namespace Go.Proofs.YtimmfnjkknbofaaDoor
set_option maxRecDepth 20000
open Go.RowKit
set_option linter.unusedVariables false
set_option linter.unusedSimpArgs false
set_option maxRecDepth 100000

theorem ret_str {a b : ByteArray} (h : a = b) : Ending.returned (.string a) = .returned (.string b) := by rw [h]
theorem str_ext {a b : ByteArray} (h : a.data.toList = b.data.toList) : a = b := by
  obtain ⟨⟨x⟩⟩ := a
  obtain ⟨⟨y⟩⟩ := b
  simp at h
  rw [h]
theorem str_take (zs : List Int) (n : Nat) : (strOfNums zs).extract 0 n = strOfNums (zs.take n) := by
  apply str_ext
  rw [Lib.extract_data, strOfNums_data, strOfNums_data, List.drop_zero, Nat.sub_zero, List.map_take]
theorem str_from (zs : List Int) (n : Nat) : (strOfNums zs).extract n (strOfNums zs).size = strOfNums (zs.drop n) := by
  apply str_ext
  rw [Lib.extract_data, strOfNums_data, strOfNums_data, strOfNums_size, ← List.map_drop, List.take_of_length_le (by simp)]
theorem slice_take (w : World) (zs : List Int) (n : Nat) (h : n ≤ zs.length) : (Instr.slice 9 (.string (strOfNums zs)) none (some (.int .i64 (n : Int))) none).run Tryd.prog w = .ok (.string (strOfNums (zs.take n))) w := by
  rw [run_slice_string_h w 9 _ Tryd.underlying9 .i64 (n : Int) (by omega) (by rw [strOfNums_size]; omega), Int.toNat_natCast, str_take]
theorem slice_from (w : World) (zs : List Int) (n : Nat) (h : n ≤ zs.length) : (Instr.slice 9 (.string (strOfNums zs)) (some (.int .i64 (n : Int))) none none).run Tryd.prog w = .ok (.string (strOfNums (zs.drop n))) w := by
  rw [run_slice_string_l w 9 _ Tryd.underlying9 .i64 (n : Int) (by omega) (by rw [strOfNums_size]; omega), Int.toNat_natCast, str_from]

theorem below_iter (w : World) (s : ByteArray) : Below w.heap.size w (w.iter s 0) := (Below.refl _ w).alloc (Nat.le_refl _) _
theorem below_iterAt {w wr : World} {q : Nat} (h : Below w.heap.size w wr) (hq : w.heap.size ≤ q) (s : ByteArray) (p : Nat) : Below w.heap.size w (wr.iterAt q s p) :=
  h.trans ((only_iterAt wr q s p).below h.size (fun j hj e => by omega))

theorem led_nil {b : List Int} (h : b = []) : ledR b = [] := by subst h; rfl
theorem led_no {b : List Int} (hne : b ≠ []) (h : letN (decN b).1 = false) : ledR b = [] := by
  unfold ledR
  rw [rs_on hne, List.takeWhile_cons_of_neg (by rw [h]; simp)]
theorem led_yes {b : List Int} (hne : b ≠ []) (h : letN (decN b).1 = true) : ledR b = (decN b).1 :: ledR (b.drop (decN b).2) := by
  unfold ledR
  rw [rs_on hne, List.takeWhile_cons_of_pos h]

set_option maxHeartbeats 1000000 in
theorem led_any (w : World) (zs : List Int) (hb : ByteOk zs) (hl : zs.length ≤ 1000000) (hL : Let w) :
    Calls Tryd.prog 68 #[.string (strOfNums zs)] w fun e w' => e = .returned (.string (strOfNums (fmL (ledR zs)))) ∧ Below w.heap.size w w' := by
  obtain ⟨s, hs⟩ : ∃ s, strOfNums zs = s := ⟨_, rfl⟩
  have hsz : s.size = zs.length := by rw [← hs]; exact strOfNums_size zs
  have HS := hide hs
  have HSL : Hid (∀ W (n : Nat), n ≤ zs.length → (Instr.slice 9 (.string s) none (some (.int .i64 (n : Int))) none).run Tryd.prog W = .ok (.string (strOfNums (zs.take n))) W) := fun W n h => by
    rw [← hs]; exact slice_take W zs n h
  have HLT : Hid (∀ W r, Below w.heap.size w W → I32 r → Calls Tryd.prog 67 #[.int .i32 r] W fun e w' => e = .returned (.bool (letB r)) ∧ Below W.heap.size W w') := fun W r h hr => letter_any W r hr (hL.below h)
  have HDEC : Hid (∀ p, Utf8.decode s p = decN (zs.drop p)) := fun p => by rw [← hs]; exact dec_at zs p
  have HRES : Hid (fmL (ledR zs) = zs.take (fmL (ledR zs)).length) := (led_take hb).symm
  obtain ⟨q, hq⟩ : ∃ q, w.heap.size = q := ⟨_, rfl⟩
  obtain ⟨W1, hW1⟩ : ∃ W1, w.iter s 0 = W1 := ⟨_, rfl⟩
  have hit1 : W1.heap[q]? = some (.stringIter s 0) := by rw [← hW1, ← hq]; exact World.iter_heap w s 0
  have hb1 : Below w.heap.size w W1 := by rw [← hW1]; exact below_iter w s
  have hrun : (Instr.range 9 (.string s)).run Tryd.prog w = .ok (.pointer (some ⟨q, 0, none⟩)) W1 := by
    rw [run_range_string w 9 s Tryd.underlying9, hW1, hq]
  rw [hs]
  have HIT1 := hide hit1
  have HB1 := hide hb1
  have HQ := hide hq
  have HSZ := hide hsz
  have HLL : Hid (fmL (ledR zs) = fmL (ledR zs)) := rfl
  have HPF : Hid (∃ t, fmL (ledR zs) ++ t = zs) := led_pre _ zs hb (Nat.le_refl _)
  clear hL hs hit1 hb1 hW1 hq hsz
  go_enter Tryd.func68, Tryd.ntmps68
  go_wp2
  clear hrun
  go_loopg [] (zs.length + 1) (fun k wr => ∃ (pos : Nat) (P : List Nat), pos + k = zs.length + 1 ∧ wr.heap[q]? = some (.stringIter s pos) ∧ pos = (fmL P).length ∧ ledR zs = P ++ ledR (zs.drop pos) ∧ Below w.heap.size w wr)
  case atStart => exact ⟨0, [], by omega, HIT1.out, rfl, rfl, HB1.out⟩
  case round =>
    clear HIT1 HB1
    obtain ⟨pos, P, hk, hit, hpos, hled, hbw⟩ := hrel
    have HB := hide hbw
    have HLED := hide hled
    have HPOS := hide hpos
    have HIT := hide hit
    have HK := hide hk
    clear hled hpos hbw hk
    by_cases hp : pos < zs.length
    · have hne : zs.drop pos ≠ [] := by
        intro e
        have := congrArg List.length e
        simp at this
        omega
      have hnx : ∀ ty, (Instr.next (.pointer (some ⟨q, 0, none⟩)) true ty).run Tryd.prog wr = _ := fun ty => Lib.run_next_any_at wr q s pos ty hit (by rw [HSZ.out]; exact hp)
      rw [HDEC.out pos] at hnx
      have hwd := decN_pos _ hne
      have hle := decN_le (zs.drop pos)
      obtain ⟨r, hr⟩ : ∃ r, (decN (zs.drop pos)).1 = r := ⟨_, rfl⟩
      obtain ⟨n, hn⟩ : ∃ n, (decN (zs.drop pos)).2 = n := ⟨_, rfl⟩
      rw [hr] at hnx hle
      rw [hn] at hnx hwd
      obtain ⟨W2, hW2⟩ : ∃ W2, wr.iterAt q s (pos + n) = W2 := ⟨_, rfl⟩
      have hit2 : W2.heap[q]? = some (.stringIter s (pos + n)) := by rw [← hW2]; exact Lib.iterAt_heap wr q s pos (pos + n) hit
      have hb2 : Below w.heap.size w W2 := by rw [← hW2]; exact below_iterAt HB.out (by have := HQ.out; omega) s _
      rw [hW2] at hnx
      have HIT2 := hide hit2
      have HB2 := hide hb2
      have HF := hide (HLT.out W2 (r : Int) hb2 ⟨by omega, by omega⟩)
      have hqz : q < W2.heap.size := (Array.getElem?_eq_some_iff.1 hit2).1
      cases hA : letN r with
      | true =>
        rw [show letB (r : Int) = true from hA] at HF
        have hy := led_yes hne (by rw [hr]; exact hA)
        have hon := led_on (fun z hz => hb z (List.mem_of_mem_drop hz)) hne (by rw [hr]; exact hA)
        rw [hr, hn] at hy hon
        have HN : Hid (ledR zs = (P ++ [r]) ++ ledR (zs.drop (pos + n)) ∧ pos + n = (fmL (P ++ [r])).length) := by
          refine ⟨?_, ?_⟩
          · rw [HLED.out, hy, List.drop_drop]; simp
          · rw [fmL_app, List.length_append, fmL_cons, fmL_nil, List.append_nil, ← hon.2, ← HPOS.out]
        clear hit hit2 hb2 hA hy hon hne hr hn hW2
        have HNP := hide hwd
        have HPP := hide hp
        have HQZ := hide hqz
        clear hwd hp hqz
        go_wp2_with (go_at_call 67; refine HF.out.mono ?_; rintro e w1 ⟨rfl, hbb⟩; have HBB := hide hbb; clear HF hbb)
        go_roundg (zs.length + 1 - (pos + n))
        case measure => have := HNP.out; have := HPP.out; have := HK.out; omega
        case rel => exact ⟨pos + n, P ++ [r], by
          have hled := HN.out.1
          have h1 := HN.out.2
          obtain ⟨t, ht⟩ := HPF.out
          have h2 := congrArg List.length ht
          rw [hled, fmL_app] at h2
          simp only [List.length_append] at h2 h1
          rw [fmL_app] at h1 h2
          simp only [List.length_append] at h1 h2
          omega, (HBB.out.block q HQZ.out).trans HIT2.out, HN.out.2, HN.out.1, HB2.out.trans (HBB.out.mono HB2.out.size)⟩
      | false =>
        rw [show letB (r : Int) = false from hA] at HF
        have hy := led_no hne (by rw [hr]; exact hA)
        have hR : strOfNums (zs.take pos) = strOfNums (fmL (ledR zs)) := by
          have e := HRES.out
          have h1 := HLED.out
          rw [hy, List.append_nil] at h1
          rw [h1] at e ⊢
          rw [e, ← HPOS.out]
        have hsl : ∀ W, (Instr.slice 9 (.string s) none (some (.int .i64 (pos : Int))) none).run Tryd.prog W = .ok (.string (strOfNums (fmL (ledR zs)))) W := fun W => by
          rw [HSL.out W pos (by omega), hR]
        obtain ⟨X, hX⟩ : ∃ X, strOfNums (fmL (ledR zs)) = X := ⟨_, rfl⟩
        rw [hX] at hsl
        have HX := hide hX
        clear hit hit2 hb2 hA hy hne hr hn hW2 hwd hp hqz hR HRES HPF HLED HLL hX
        go_wp2_with (go_at_call 67; refine HF.out.mono ?_; rintro e w1 ⟨rfl, hbb⟩; have HBB := hide hbb; clear HF hbb)
        go_ret
        exact ⟨ret_str HX.out.symm, HB2.out.trans (HBB.out.mono HB2.out.size)⟩
    · have hnx : ∀ ty, (Instr.next (.pointer (some ⟨q, 0, none⟩)) true ty).run Tryd.prog wr = _ := fun ty => Lib.run_next_end_at wr q s pos ty hit (by rw [HSZ.out]; exact hp)
      have HR : Hid (s = strOfNums (fmL (ledR zs))) := by
        have h0 : zs.drop pos = [] := List.drop_eq_nil_of_le (by omega)
        have h1 := HLED.out
        rw [led_nil h0, List.append_nil] at h1
        have e := HRES.out
        rw [h1] at e ⊢
        show s = _
        rw [e, ← HPOS.out, List.take_of_length_le (by omega), HS.out]
      clear hit HRES HPF HLED HLL
      go_wp2
      go_ret
      exact ⟨ret_str HR.out, HB.out⟩

theorem fm_take_drop (L : List Nat) (j : Nat) : (fmL L).drop (fmL (L.take j)).length = fmL (L.drop j) := by
  conv => lhs; rw [← List.take_append_drop j L]
  rw [fmL_app]
  have e : (L.take j ++ L.drop j).take j = L.take j := by rw [List.take_append_drop]
  simp
theorem fm_take_take (L : List Nat) (j : Nat) : (fmL L).take (fmL (L.take j)).length = fmL (L.take j) := by
  conv => lhs; rw [← List.take_append_drop j L]
  rw [fmL_app]
  have e : (L.take j ++ L.drop j).take j = L.take j := by rw [List.take_append_drop]
  simp

set_option maxHeartbeats 1000000 in
theorem leadRunes_any (w : World) (L : List Nat) (hLt : ∀ r ∈ L, letN r = true) (m : Nat) (hm : m ≤ 100) :
    Calls Tryd.prog 70 #[.string (strOfNums (fmL L)), .int .i64 (m : Int)] w fun e w' => e = .returned (.string (strOfNums (fmL (L.take m)))) ∧ Below w.heap.size w w' := by
  obtain ⟨s, hs⟩ : ∃ s, strOfNums (fmL L) = s := ⟨_, rfl⟩
  have HS := hide hs
  have HSL : Hid (∀ W (n : Nat), n ≤ (fmL L).length → (Instr.slice 9 (.string s) none (some (.int .i64 (n : Int))) none).run Tryd.prog W = .ok (.string (strOfNums ((fmL L).take n))) W) := fun W n h => by
    rw [← hs]; exact slice_take W _ n h
  have HSZ : Hid (s.size = (fmL L).length) := by rw [← hs]; exact strOfNums_size _
  have HDEC : Hid (∀ p, Utf8.decode s p = decN ((fmL L).drop p)) := fun p => by rw [← hs]; exact dec_at _ p
  have HLT := hide hLt
  obtain ⟨q, hq⟩ : ∃ q, w.heap.size = q := ⟨_, rfl⟩
  obtain ⟨W1, hW1⟩ : ∃ W1, w.iter s 0 = W1 := ⟨_, rfl⟩
  have hit1 : W1.heap[q]? = some (.stringIter s 0) := by rw [← hW1, ← hq]; exact World.iter_heap w s 0
  have hb1 : Below w.heap.size w W1 := by rw [← hW1]; exact below_iter w s
  have hrun : (Instr.range 9 (.string s)).run Tryd.prog w = .ok (.pointer (some ⟨q, 0, none⟩)) W1 := by
    rw [run_range_string w 9 s Tryd.underlying9, hW1, hq]
  rw [hs]
  have HIT1 := hide hit1
  have HB1 := hide hb1
  have HQ := hide hq
  clear hs hit1 hb1 hW1 hq hLt
  go_enter Tryd.func70, Tryd.ntmps70
  go_wp2
  clear hrun
  go_loopg [5] L.length (fun k i wr => ∃ j pos : Nat, k + j = L.length ∧ i = .int .i64 (j : Int) ∧ j ≤ m ∧ wr.heap[q]? = some (.stringIter s pos) ∧ pos = (fmL (L.take j)).length ∧ Below w.heap.size w wr)
  case atStart => exact ⟨0, 0, by omega, rfl, by omega, HIT1.out, rfl, HB1.out⟩
  case round =>
    clear HIT1 HB1
    obtain ⟨j, pos, hk, rfl, hjm, hit, hpos, hbw⟩ := hrel
    have HB := hide hbw
    have HPOS := hide hpos
    have HK := hide hk
    have HJM := hide hjm
    clear hpos hbw hk hjm
    have hdr : (fmL L).drop pos = fmL (L.drop j) := by rw [HPOS.out]; exact fm_take_drop L j
    have htk : (fmL L).take pos = fmL (L.take j) := by rw [HPOS.out]; exact fm_take_take L j
    have hple : pos ≤ (fmL L).length := by rw [HPOS.out, ← fm_take_take L j, List.length_take]; omega
    by_cases hj : j < L.length
    · have hr0 : letN L[j] = true := HLT.out _ (List.getElem_mem hj)
      have hd2 : L.drop j = L[j] :: L.drop (j + 1) := List.drop_eq_getElem_cons hj
      obtain ⟨r, hr⟩ : ∃ r, L[j] = r := ⟨_, rfl⟩
      rw [hr] at hr0 hd2
      have hdec : decN ((fmL L).drop pos) = (r, (formL (r : Int)).length) := by
        rw [hdr, hd2, fmL_cons]
        exact dec_form (fun z hz => fmL_ok _ z (by rw [fmL_cons]; exact hz)) (letN_rune hr0) (List.prefix_append _ _)
      have hln := letN_len hr0
      have hlr := letN_lt hr0
      have hp : pos < (fmL L).length := by
        have := congrArg List.length hdr
        rw [hd2, fmL_cons] at this
        simp only [List.length_drop, List.length_append] at this
        omega
      have hps : pos + (formL (r : Int)).length = (fmL (L.take (j + 1))).length := by
        rw [List.take_succ_eq_append_getElem hj, fmL_app, List.length_append, ← HPOS.out, hr, fmL_cons, fmL_nil, List.append_nil]
      have hnx : ∀ ty, (Instr.next (.pointer (some ⟨q, 0, none⟩)) true ty).run Tryd.prog wr = _ := fun ty => Lib.run_next_any_at wr q s pos ty hit (by rw [HSZ.out]; exact hp)
      rw [HDEC.out pos, hdec] at hnx
      simp only at hnx
      obtain ⟨n, hn⟩ : ∃ n, (formL (r : Int)).length = n := ⟨_, rfl⟩
      rw [hn] at hnx hps
      obtain ⟨W2, hW2⟩ : ∃ W2, wr.iterAt q s (pos + n) = W2 := ⟨_, rfl⟩
      have hit2 : W2.heap[q]? = some (.stringIter s (pos + n)) := by rw [← hW2]; exact Lib.iterAt_heap wr q s pos (pos + n) hit
      have hb2 : Below w.heap.size w W2 := by rw [← hW2]; exact below_iterAt HB.out (by have := HQ.out; omega) s _
      rw [hW2] at hnx
      have HIT2 := hide hit2
      have HB2 := hide hb2
      have HPS := hide hps
      have HJ := hide hj
      by_cases hjm : j = m
      · have hsl : ∀ W, (Instr.slice 9 (.string s) none (some (.int .i64 (pos : Int))) none).run Tryd.prog W = .ok (.string (strOfNums (fmL (L.take m)))) W := fun W => by
          rw [HSL.out W pos hple, htk, hjm]
        have hei : decide ((j : Int) = (m : Int)) = true := by rw [hjm]; simp
        have hei2 : (j : Int) = (m : Int) := by rw [hjm]
        obtain ⟨X, hX⟩ : ∃ X, strOfNums (fmL (L.take m)) = X := ⟨_, rfl⟩
        rw [hX] at hsl
        have HX := hide hX
        clear hX hit hit2 hb2 hdr htk hple hr0 hd2 hr hdec hln hlr hp hps hn hW2 hj hjm
        go_wp2
        go_ret
        exact ⟨ret_str HX.out.symm, HB2.out⟩
      · have hei : decide ((j : Int) = (m : Int)) = false := decide_eq_false (by omega)
        have hei2 : ¬ (j : Int) = (m : Int) := by omega
        have hjs : (j : Int) ≤ 1000 := by have := HJM.out; omega
        have HNE : Hid (j < m) := by have := HJM.out; show j < m; omega
        clear hit hit2 hb2 hdr htk hple hr0 hd2 hr hdec hln hlr hp hps hn hW2 hj hjm
        cases gk with
        | zero => have := HJ.out; have := HK.out; omega
        | succ k =>
          go_wp2
          go_roundg k
          case measure => omega
          case rel => exact ⟨j + 1, pos + n, by have := HK.out; omega, by go_num, by have := HNE.out; omega, HIT2.out, HPS.out, HB2.out⟩
    · have hL0 : L.take j = L := List.take_of_length_le (by omega)
      have hp : ¬ pos < (fmL L).length := by rw [HPOS.out, hL0]; omega
      have hnx : ∀ ty, (Instr.next (.pointer (some ⟨q, 0, none⟩)) true ty).run Tryd.prog wr = _ := fun ty => Lib.run_next_end_at wr q s pos ty hit (by rw [HSZ.out]; exact hp)
      have HR : Hid (s = strOfNums (fmL (L.take m))) := by
        show s = _
        rw [List.take_of_length_le (by have := HJM.out; omega), HS.out]
      clear hit hdr htk hple hL0 hp hj
      go_wp2
      go_ret
      exact ⟨ret_str HR.out, HB.out⟩

end Go.Proofs.YtimmfnjkknbofaaDoor
