/- Contracts: bytes.Equal; package freemap's Get. -/
import Derived.Test.YtbnhacibkmcmkaaDoorKRead
import Derived.WalkSpells
namespace Go.Proofs.YtbnhacibkmcmkaaDoor
set_option maxRecDepth 20000
open Go.RowKit
set_option linter.unusedVariables false
set_option maxRecDepth 100000

theorem toList_same (a b : ByteArray) : a.toList = b.toList ↔ a = b := by
  rw [ByteArray.toList_eq, ByteArray.toList_eq]
  constructor
  · intro h; exact ByteArray.ext (Array.toList_inj.1 h)
  · rintro rfl; rfl
theorem equal_any (w : World) (va vb : Value) (xs ys : List Int) (ha : Sl w va xs) (hb : Sl w vb ys) :
    Calls Tryd.prog 16 #[va, vb] w fun e w' => e = .returned (.bool (decide (xs = ys))) ∧ w' = w := by
  have r1 := run_convert_sl (P := Tryd.prog) w 25 5 9 Tryd.underlying25 Tryd.underlying5 Tryd.underlying9 va xs ha
  have r2 := run_convert_sl (P := Tryd.prog) w 25 5 9 Tryd.underlying25 Tryd.underlying5 Tryd.underlying9 vb ys hb
  have HE := hide (strOfNums_inj ha.bytes hb.bytes)
  obtain ⟨sx, hsx⟩ : ∃ s, s = strOfNums xs := ⟨_, rfl⟩
  obtain ⟨sy, hsy⟩ : ∃ s, s = strOfNums ys := ⟨_, rfl⟩
  rw [← hsx] at r1 HE
  rw [← hsy] at r2 HE
  clear hsx hsy ha hb
  go_enter Tryd.func16, Tryd.ntmps16
  go_wp2
  go_ret
  refine ⟨ret_bool ?_, rfl⟩
  rw [Bool.eq_iff_iff]
  simp [← HE.out, toList_same]

theorem okRows_no {n : Int} {rs : List (List Int)} (h : mayB n (rdAll 0 rs) = false) : okRows n rs = false := by rw [okRows, h]; rfl
theorem okRows_not {n : Int} {rs : List (List Int)} {i : Nat} (hi : i < rs.length) (h : rs.getD i [] ≠ putS i (rdAll 0 rs)) : okRows n rs = false := by
  rw [okRows, decide_eq_false (fun hh => h (hh i hi)), Bool.and_false]
theorem okRows_yes {n : Int} {rs : List (List Int)} (hm : mayB n (rdAll 0 rs) = true) (h : ∀ i, i < rs.length → rs.getD i [] = putS i (rdAll 0 rs)) : okRows n rs = true := by
  rw [okRows, hm, decide_eq_true h]; rfl
theorem getE_size {n : Int} {rs : List (List Int)} (h : ¬ (8 ≤ n ∧ n ≤ 2048)) : getE n rs = 1 ∧ getL n rs = [] := by
  have e : getE n rs = 1 := by rw [getE, sizeB_no h]; rfl
  exact ⟨e, by rw [getL, e]; rfl⟩
theorem getE_len {n : Int} {rs : List (List Int)} (h : 8 ≤ n ∧ n ≤ 2048) (hl : ¬ (rs.length : Int) = needN n) : getE n rs = 80 ∧ getL n rs = [] := by
  have e : getE n rs = 80 := by rw [getE, sizeB_iff.2 h, if_pos rfl, if_neg hl]
  exact ⟨e, by rw [getL, e]; rfl⟩
theorem getE_no {n : Int} {rs : List (List Int)} (h : 8 ≤ n ∧ n ≤ 2048) (hl : (rs.length : Int) = needN n) (ho : okRows n rs = false) : getE n rs = 80 ∧ getL n rs = [] := by
  have e : getE n rs = 80 := by rw [getE, sizeB_iff.2 h, if_pos rfl, if_pos hl, ho]; rfl
  exact ⟨e, by rw [getL, e]; rfl⟩
theorem getE_yes {n : Int} {rs : List (List Int)} (h : 8 ≤ n ∧ n ≤ 2048) (hl : (rs.length : Int) = needN n) (ho : okRows n rs = true) : getE n rs = 0 ∧ getL n rs = rdAll 0 rs := by
  have e : getE n rs = 0 := by rw [getE, sizeB_iff.2 h, if_pos rfl, if_pos hl, ho]; rfl
  exact ⟨e, by rw [getL, e]; rfl⟩

set_option maxHeartbeats 4000000 in
theorem get_any (w : World) (n : Int) (v : Value) (vs : List Value) (pss : List (List Int)) (h : Parts w v vs pss) (hl : pss.length ≤ 100) : Calls Tryd.prog 12 #[.int .i64 n, v] w fun e w' => ∃ u, e = .returned (.tuple #[u, .int .i64 (getE n pss)]) ∧ Ints w' w.heap.size u (getL n pss) ∧ Below w.heap.size w w' := by
  have HN := need_any w n
  have HRD := hide (read_any w v vs pss h hl)
  have HP := hide h
  obtain ⟨ao, cap, rfl, hc1, hc2, hvl⟩ := h.shape
  unfold maxLen at hc2
  obtain ⟨m, hm⟩ : ∃ m, pss.length = m := ⟨_, rfl⟩
  by_cases hn : 8 ≤ n ∧ n ≤ 2048
  · obtain ⟨N, rfl⟩ : ∃ N : Nat, n = N := ⟨n.toNat, by omega⟩
    have hneed := needN_ok (n := N) (by omega) (by omega)
    obtain ⟨D, hD⟩ : ∃ D, 1 + (N - 1) / 1024 = D := ⟨_, rfl⟩
    rw [hD] at hneed
    rw [hneed] at HN
    have HN := hide HN
    have hD0 : ¬ (D : Int) = 0 := by omega
    by_cases hlen : m = D
    · have hl1 : (pss.length : Int) = needN N := by rw [hneed]; omega
      have HNO : Hid (okRows N pss = false → getE N pss = 80 ∧ getL N pss = []) := getE_no hn hl1
      have HYE : Hid (okRows N pss = true → getE N pss = 0 ∧ getL N pss = rdAll 0 pss) := getE_yes hn hl1
      subst hlen
      rw [hm] at HRD HP hc1 hl hvl ⊢
      have HM := hide hm
      have HVL := hide hvl
      have hDn : m ≤ 2 := by omega
      have HPUT : Hid (∀ W tv k, Is W tv (rdAll 0 pss) → k < m → mayB N (rdAll 0 pss) = true → Calls Tryd.prog 10 #[.int .i64 N, tv, .int .i64 (k : Nat)] W fun e w' => e = .returned (.tuple #[pgv W.heap.size, .int .i64 0]) ∧ Sl w' (pgv W.heap.size) (putS k (rdAll 0 pss)) ∧ Below W.heap.size W w') := fun W tv k hi hk hmm => by
        refine (put_ok W N tv _ k hi hmm (by rw [hneed]; omega)).mono ?_
        rintro e w' ⟨rfl, hB, hb⟩
        exact ⟨rfl, sl_pg (putS_ok _ _) (putS_length _ _) hB, hb⟩
      have HPUB : Hid (∀ W tv k, Is W tv (rdAll 0 pss) → mayB N (rdAll 0 pss) = false → Calls Tryd.prog 10 #[.int .i64 N, tv, .int .i64 (k : Nat)] W fun e w' => e = .returned (.tuple #[.slice none 0 0, .int .i64 1]) ∧ w' = W) := fun W tv k hi hmm => put_bad W N tv _ k hi (fun hh => by rw [hmm] at hh; cases hh.1)
      clear h hm hvl hneed hl1 hD hn
      go_enter Tryd.func12, Tryd.ntmps12
      go_wp2_with (first
        | (go_at_call 14; refine HN.out.mono ?_; rintro e w2 ⟨rfl, hw⟩; subst w2; clear HN)
        | (go_at_call 40; refine HRD.out.mono ?_; rintro e w1 ⟨tv, rfl, hi1, hb1⟩; have HI1 := hide hi1; have HB1 := hide hb1; clear HRD hi1 hb1))
      obtain ⟨aot, capt, htv⟩ := HI1.out.shape
      obtain ⟨nt, hnt⟩ : ∃ nt, (rdAll 0 pss).length = nt := ⟨_, rfl⟩
      rw [hnt] at htv
      subst htv
      clear hnt
      go_loopg [26] m (fun gg kv wr => ∃ k : Nat, gg + k = m ∧ kv = .int .i64 k ∧ Ints wr w.heap.size (.slice aot nt capt) (rdAll 0 pss) ∧ Below w.heap.size w wr ∧ (k = 0 ∨ mayB N (rdAll 0 pss) = true) ∧ ∀ i, i < k → pss.getD i [] = putS i (rdAll 0 pss))
      case atStart => exact ⟨0, by omega, rfl, HI1.out, HB1.out, .inl rfl, fun i hi => by omega⟩
      case round =>
        obtain ⟨k, hk, rfl, hi, hb, hmk, hal⟩ := hrel
        have HI := hide hi
        have HB := hide hb
        have HMK := hide hmk
        have HAL := hide hal
        clear HI1 HB1
        cases gk with
        | zero =>
          have hkm : k = m := by omega
          have h3 : ¬ (k : Int) < (m : Int) := by omega
          have HOK : Hid (okRows N pss = true) := okRows_yes (hmk.resolve_left (by omega)) (fun i hi => hal i (by have := HM.out; omega))
          clear hi hb hmk hal hkm
          go_wp2
          go_ret2
          obtain ⟨e1, e2⟩ := HYE.out HOK.out
          rw [e1, e2]
          exact ⟨_, rfl, HI.out, HB.out⟩
        | succ gg =>
          have h3 : (k : Int) < (m : Int) := by omega
          have hkm : k < m := by omega
          have hkl : k < vs.length := by rw [HVL.out]; omega
          obtain ⟨b, off, hao, hcell, hsl⟩ := (HP.out.below hb).at k hkl
          subst hao
          obtain ⟨u, hu⟩ : ∃ u, vs.getD k (.slice none 0 0) = u := ⟨_, rfl⟩
          rw [hu] at hcell hsl
          obtain ⟨aob, capb, hub, _, _⟩ := hsl.shape
          obtain ⟨lb, hlb⟩ : ∃ lb, (pss.getD k []).length = lb := ⟨_, rfl⟩
          rw [hlb] at hub
          subst hub
          have HSL := hide hsl
          clear hlb hu
          cases hmy : mayB N (rdAll 0 pss) with
          | false =>
            have HPP := hide (HPUB.out wr _ k (is_of_own hi) hmy)
            have HOK : Hid (okRows N pss = false) := okRows_no hmy
            clear hi hb hmk hal hsl hkl hmy HPUT HPUB
            go_wp2_with (first
              | (go_at_call 10; refine HPP.out.mono ?_; rintro e w2 ⟨rfl, hw⟩; subst w2; clear HPP))
            go_ret2
            obtain ⟨e1, e2⟩ := HNO.out HOK.out
            rw [e1, e2]
            exact ⟨_, rfl, Ints.nil _ _, HB.out⟩
          | true =>
            have HPP := hide (HPUT.out wr _ k (is_of_own hi) hkm hmy)
            have HEQ : Hid (∀ W, Below wr.heap.size wr W → Sl W (pgv wr.heap.size) (putS k (rdAll 0 pss)) → Calls Tryd.prog 16 #[pgv wr.heap.size, .slice aob lb capb] W fun e w' => e = .returned (.bool (decide (putS k (rdAll 0 pss) = pss.getD k []))) ∧ w' = W) := fun W hbw h1 => equal_any W _ _ _ _ h1 (HSL.out.below hbw)
            by_cases he : putS k (rdAll 0 pss) = pss.getD k []
            · rw [decide_eq_true he] at HEQ
              have HN : Hid (∀ W, Below wr.heap.size wr W → Ints W w.heap.size (.slice aot nt capt) (rdAll 0 pss) ∧ Below w.heap.size w W ∧ (k + 1 = 0 ∨ mayB N (rdAll 0 pss) = true) ∧ ∀ i, i < k + 1 → pss.getD i [] = putS i (rdAll 0 pss)) := fun W hbw => by
                refine ⟨HI.out.below hbw, HB.out.trans (hbw.mono HB.out.size), .inr hmy, fun i hi => ?_⟩
                by_cases hik : i = k
                · subst hik; exact he.symm
                · exact HAL.out i (by omega)
              clear hi hb hmk hal hsl hkl hmy HPUT HPUB he
              go_wp2_with (first
                | (go_at_call 10; refine HPP.out.mono ?_; rintro e w2 ⟨rfl, hs2, hb2⟩; have HS2 := hide hs2; have HB2 := hide hb2; clear HPP hs2 hb2)
                | (go_at_call 16; refine (HEQ.out w2 HB2.out HS2.out).mono ?_; rintro e w3 ⟨rfl, hw⟩; subst w3; clear HEQ))
              go_roundg gg
              case measure => omega
              case rel =>
                obtain ⟨a1, a2, a3, a4⟩ := HN.out w2 HB2.out
                exact ⟨k + 1, by omega, by go_num, a1, a2, a3, a4⟩
            · rw [decide_eq_false he] at HEQ
              have HOK : Hid (okRows N pss = false) := okRows_not (i := k) (by rw [HM.out]; exact hkm) (fun e => he e.symm)
              clear hi hb hmk hal hsl hkl hmy HPUT HPUB he
              go_wp2_with (first
                | (go_at_call 10; refine HPP.out.mono ?_; rintro e w2 ⟨rfl, hs2, hb2⟩; have HS2 := hide hs2; have HB2 := hide hb2; clear HPP hs2 hb2)
                | (go_at_call 16; refine (HEQ.out w2 HB2.out HS2.out).mono ?_; rintro e w3 ⟨rfl, hw⟩; subst w3; clear HEQ))
              go_ret2
              obtain ⟨e1, e2⟩ := HNO.out HOK.out
              rw [e1, e2]
              exact ⟨_, rfl, Ints.nil _ _, HB.out.trans (HB2.out.mono HB.out.size)⟩
    · have hl1 : ¬ (pss.length : Int) = needN N := by rw [hneed]; omega
      obtain ⟨e1, e2⟩ := getE_len hn hl1
      rw [e1, e2, hm]
      have hmi : ¬ (m : Int) = (D : Int) := by omega
      clear h hm hvl hneed hl1 hD hn e1 e2 HRD HP
      go_enter Tryd.func12, Tryd.ntmps12
      go_wp2_with (first
        | (go_at_call 14; refine HN.out.mono ?_; rintro e w2 ⟨rfl, hw⟩; subst w2; clear HN))
      go_ret2
      exact ⟨_, rfl, Ints.nil _ _, Below.refl _ _⟩
  · rw [needN_no hn] at HN
    have HN := hide HN
    obtain ⟨e1, e2⟩ := getE_size (rs := pss) hn
    rw [e1, e2, hm]
    clear h hm hvl hn e1 e2 HRD HP
    go_enter Tryd.func12, Tryd.ntmps12
    go_wp2_with (first
      | (go_at_call 14; refine HN.out.mono ?_; rintro e w2 ⟨rfl, hw⟩; subst w2; clear HN))
    go_ret2
    exact ⟨_, rfl, Ints.nil _ _, Below.refl _ _⟩

end Go.Proofs.YtbnhacibkmcmkaaDoor
