/- Contract: which heads may be, by the document's answer (incipitref06.Need, incipitref06.Check); its Page. -/
import Derived.Test.YtmeiahmolmneeaaDoorHSame
import Derived.Test.YtmeiahmolmneeaaDoorHPut
import Derived.Test.YtmeiahmolmneeaaDoorRegionM
namespace Go.Proofs.YtmeiahmolmneeaaDoor
set_option maxRecDepth 20000
open Go.RowKit
set_option linter.unusedVariables false

theorem need_any (w : World) (p : Int) : Calls Tryd.prog 36 #[.int .i64 p] w fun r w' => r = .returned (.int .i64 (needS p : Int)) ∧ w' = w := by
  unfold needS
  by_cases h : 1024 < p
  · rw [if_pos h]
    go_enter Tryd.func36, Tryd.ntmps36
    go_wp2
    go_ret
    exact ⟨rfl, rfl⟩
  · rw [if_neg h]
    go_enter Tryd.func36, Tryd.ntmps36
    go_wp2
    go_ret
    exact ⟨rfl, rfl⟩

theorem refPageH_any (w : World) (e : Nat) : Calls Tryd.prog 21 #[.int .u64 e] w fun r w' => r = .returned (.int .i64 (e % 2 : Nat)) ∧ w' = w := by
  go_enter Tryd.func21, Tryd.ntmps21
  go_wp2
  go_ret
  exact ⟨ret_int (by omega), rfl⟩

theorem hcheckS_no {p : Int} {ms : List Int} {n : Nat} (h : ¬ ((8 ≤ p ∧ p ≤ 2048) ∧ mapsB p ms = true ∧ n ≤ 32)) : hcheckS p ms n = 60 := by
  unfold hcheckS
  rw [if_neg (fun hh => h (mayB_iff.1 hh))]

set_option maxHeartbeats 4000000 in
theorem refCheckH_any (w : World) (e : Nat) (p : Int) (ma ua : Option Addr) (mc un uc : Nat) (ms : List Int) (hm : Is w (.slice ma ms.length mc) ms) :
    Calls Tryd.prog 16 #[.agg #[.int .u64 e, .int .i64 p, .slice ma ms.length mc, .slice ua un uc]] w fun r w' => r = .returned (.int .i64 (hcheckS p ms un)) ∧ Below w.heap.size w w' := by
  have hcap := hm.cap.2
  unfold maxLen at hcap
  have HNO := hide (hcheckS_no (p := p) (ms := ms) (n := un))
  have HYE : Hid (mayB p ms un = true → hcheckS p ms un = 0) := hcheckS_zero.2
  have HMI := hide (mayB_iff (p := p) (ms := ms) (n := un))
  have HBI := hide (mapsB_iff (p := p) (ms := ms))
  have HND := hide (fun wx => need_any wx p)
  have hN2 : needS p ≤ 2 := by unfold needS; split <;> omega
  obtain ⟨ND, hND⟩ : ∃ n, n = needS p := ⟨_, rfl⟩
  rw [← hND] at HND HBI hN2
  obtain ⟨M, hM⟩ : ∃ M, M = ms.length := ⟨_, rfl⟩
  rw [← hM] at hm hcap HBI ⊢
  obtain ⟨R, hR⟩ : ∃ R, R = hcheckS p ms un := ⟨_, rfl⟩
  rw [← hR] at HNO HYE ⊢
  obtain ⟨W, hW⟩ : ∃ W, W = w.alloc (.cells #[.int .u64 e, .int .i64 p, .slice ma M mc, .slice ua un uc] 26) := ⟨_, rfl⟩
  have hbx : Blk W w.heap.size 26 [.int .u64 e, .int .i64 p, .slice ma M mc, .slice ua un uc] := by rw [hW]; exact Blk.new w _ _
  have HB : Hid (Below w.heap.size w W) := by show Below _ _ _; rw [hW]; exact (Below.refl _ w).alloc (Nat.le_refl _) _
  have HM := hide (hm.below HB.out)
  obtain ⟨c0, c1, c2, c3⟩ := box_cells hbx
  have HW := hide hW
  have HMM := hide hM
  clear hm hbx hW hM hND hR
  by_cases h1 : p < 8
  · have hd : decide (p < 8) = true := decide_eq_true h1
    have HR0 := hide (HNO.out (by omega))
    go_enter Tryd.func16, Tryd.ntmps16
    go_wp2
    rw [← HW.out]
    go_quiet (fail)
    go_wp2
    go_ret
    exact ⟨ret_int HR0.out.symm, belowDN HB.out _⟩
  · have d1 : decide (p < 8) = false := decide_eq_false h1
    by_cases h2 : 2048 < p
    · have hd : decide (2048 < p) = true := decide_eq_true h2
      have HR0 := hide (HNO.out (by omega))
      go_enter Tryd.func16, Tryd.ntmps16
      go_wp2
      rw [← HW.out]
      go_quiet (fail)
      go_wp2
      go_ret
      exact ⟨ret_int HR0.out.symm, belowDN HB.out _⟩
    · have d2 : decide (2048 < p) = false := decide_eq_false h2
      by_cases h3 : M = ND
      · have hne : ((M : Int) != (ND : Int)) = false := by rw [h3]; simp
        by_cases h4 : 32 < un
        · have hd : decide ((32 : Int) < (un : Int)) = true := decide_eq_true (by omega)
          have HR0 := hide (HNO.out (by omega))
          have H3 := hide h3
          clear h3
          go_enter Tryd.func16, Tryd.ntmps16
          go_wp2
          rw [← HW.out]
          go_quiet (first | (go_at_call 36; exact Calls.quiet_of_same (HND.out _)))
          go_wp2
          go_ret
          exact ⟨ret_int HR0.out.symm, belowDN HB.out _⟩
        · have d4 : decide ((32 : Int) < (un : Int)) = false := decide_eq_false (by omega)
          have H3 := hide h3
          clear h3
          go_enter Tryd.func16, Tryd.ntmps16
          go_wp2
          rw [← HW.out]
          go_quiet (first | (go_at_call 36; exact Calls.quiet_of_same (HND.out _)))
          go_wp2
          go_loopg [3] M (fun g i wr => ∃ j m : Nat, g + j = M ∧ i = .int .i64 j ∧ (∀ i, i < j → 2 ≤ ms.getD i 0 ∧ ms.getD i 0 < p ∧ ∀ k, k < i → ms.getD k 0 ≠ ms.getD i 0) ∧ W.drewN m = wr)
          case atStart => exact ⟨0, _, by omega, rfl, fun i hi => by omega, rfl⟩
          case round =>
            obtain ⟨j, m, hj, rfl, hall, rfl⟩ := hrel
            have HA := hide hall
            clear hall
            cases gk with
            | zero =>
              obtain rfl : j = M := by omega
              have HR0 := hide (HYE.out (HMI.out.2 ⟨by omega, HBI.out.2 ⟨H3.out, HA.out⟩, by omega⟩))
              go_wp2
              go_ret
              exact ⟨ret_int HR0.out.symm, belowDN HB.out _⟩
            | succ g =>
              have hjl : j < M := by omega
              have hM2 : M ≤ 2 := by have := H3.out; omega
              have hji : (j : Int) < (M : Int) := by omega
              rcases (by omega : j = 0 ∨ j = 1) with rfl | rfl
              · obtain ⟨b, off, rfl, cj⟩ := HM.out.at 0 (by rw [← HMM.out]; exact hjl)
                rw [Nat.add_zero] at cj
                obtain ⟨x, hx⟩ : ∃ x, ms.getD 0 0 = x := ⟨_, rfl⟩
                rw [hx] at cj
                have HX := hide hx
                clear hx
                by_cases g1 : x < 2
                · have gd1 : decide (x < 2) = true := decide_eq_true g1
                  have HR0 := hide (HNO.out (fun hh => by have := ((HBI.out.1 hh.2.1).2 0 hjl).1; rw [HX.out] at this; omega))
                  go_wp2
                  go_quiet (fail)
                  go_wp2
                  go_ret
                  exact ⟨ret_int HR0.out.symm, belowDN (belowDN HB.out _) _⟩
                · have gd1 : decide (x < 2) = false := decide_eq_false g1
                  by_cases g2 : p ≤ x
                  · have gd2 : decide (p ≤ x) = true := decide_eq_true g2
                    have HR0 := hide (HNO.out (fun hh => by have := ((HBI.out.1 hh.2.1).2 0 hjl).2.1; rw [HX.out] at this; omega))
                    go_wp2
                    go_quiet (fail)
                    go_wp2
                    go_ret
                    exact ⟨ret_int HR0.out.symm, belowDN (belowDN HB.out _) _⟩
                  · have gd2 : decide (p ≤ x) = false := decide_eq_false g2
                    go_wp2
                    go_quiet (fail)
                    go_wp2
                    go_roundg g
                    case measure => omega
                    case rel => exact ⟨1, m + nq, by omega, rfl, fun i hi => by
                      obtain rfl : i = 0 := by omega
                      rw [HX.out]
                      exact ⟨by omega, by omega, fun k hk => by omega⟩, by simp [World.drewN]⟩
              · obtain ⟨b, off, rfl, cj⟩ := HM.out.at 1 (by rw [← HMM.out]; exact hjl)
                have c00 : W.cell? ⟨b, off + 0, none⟩ = some (.int .i64 (ms.getD 0 0)) := by
                  obtain ⟨b', off', he, hc⟩ := HM.out.at 0 (by rw [← HMM.out]; omega)
                  simp only [Option.some.injEq, Addr.mk.injEq, and_true] at he
                  obtain ⟨rfl, rfl⟩ := he
                  exact hc
                rw [Nat.add_zero] at c00
                obtain ⟨y, hy⟩ : ∃ y, ms.getD 0 0 = y := ⟨_, rfl⟩
                rw [hy] at c00
                have HY := hide hy
                clear hy
                obtain ⟨x, hx⟩ : ∃ x, ms.getD 1 0 = x := ⟨_, rfl⟩
                rw [hx] at cj
                have HX := hide hx
                clear hx
                by_cases g1 : x < 2
                · have gd1 : decide (x < 2) = true := decide_eq_true g1
                  have HR0 := hide (HNO.out (fun hh => by have := ((HBI.out.1 hh.2.1).2 1 hjl).1; rw [HX.out] at this; omega))
                  go_wp2
                  go_quiet (fail)
                  go_wp2
                  go_ret
                  exact ⟨ret_int HR0.out.symm, belowDN (belowDN HB.out _) _⟩
                · have gd1 : decide (x < 2) = false := decide_eq_false g1
                  by_cases g2 : p ≤ x
                  · have gd2 : decide (p ≤ x) = true := decide_eq_true g2
                    have HR0 := hide (HNO.out (fun hh => by have := ((HBI.out.1 hh.2.1).2 1 hjl).2.1; rw [HX.out] at this; omega))
                    go_wp2
                    go_quiet (fail)
                    go_wp2
                    go_ret
                    exact ⟨ret_int HR0.out.symm, belowDN (belowDN HB.out _) _⟩
                  · have gd2 : decide (p ≤ x) = false := decide_eq_false g2
                    by_cases g3 : x = y
                    · have gd3 : (x == y) = true := by simpa using g3
                      have HR0 := hide (HNO.out (fun hh => ((HBI.out.1 hh.2.1).2 1 hjl).2.2 0 (by omega) (by rw [HX.out, HY.out]; exact g3.symm)))
                      have G3 := hide g3
                      clear g3
                      go_wp2
                      go_quiet (fail)
                      go_wp2
                      go_ret
                      exact ⟨ret_int HR0.out.symm, belowDN (belowDN HB.out _) _⟩
                    · have gd3 : (x == y) = false := by simpa using g3
                      go_wp2
                      go_quiet (fail)
                      go_wp2
                      go_roundg g
                      case measure => omega
                      case rel => exact ⟨2, m + nq, by omega, rfl, fun i hi => by
                        rcases (by omega : i = 0 ∨ i = 1) with rfl | rfl
                        · exact HA.out 0 (by omega)
                        · rw [HX.out]
                          exact ⟨by omega, by omega, fun k hk => by
                    have hk0 : k = 0 := by omega
                    subst hk0
                    rw [HY.out]
                    exact fun h => g3 h.symm⟩, by simp [World.drewN]⟩
      · have hne : ((M : Int) != (ND : Int)) = true := by simp; omega
        have HR0 := hide (HNO.out (fun hh => h3 (HBI.out.1 hh.2.1).1))
        go_enter Tryd.func16, Tryd.ntmps16
        go_wp2
        rw [← HW.out]
        go_quiet (first | (go_at_call 36; exact Calls.quiet_of_same (HND.out _)))
        go_wp2
        go_ret
        exact ⟨ret_int HR0.out.symm, belowDN HB.out _⟩

end Go.Proofs.YtmeiahmolmneeaaDoor
/- Bytes put behind a row of the call's own, and what that leaves of other rows; a region that draws its order and does so. -/
namespace Go.Proofs.YtmeiahmolmneeaaDoor
set_option maxRecDepth 20000
open Go.RowKit
set_option linter.unusedVariables false

/-- a row of the call's own of bytes -/
def ownB (w : World) (B : Nat) (v : Value) (xs : List Int) : Prop := w.ownsRow B 5 1 v xs.length (xs.map (Value.int .u8))
theorem ownB.only {S : Nat → Prop} {w w' : World} {B : Nat} {v : Value} {xs : List Int} (h : ownB w B v xs) (ho : Only S w w') (hn : ∀ k, v.ownBlock = some k → ¬ S k) : ownB w' B v xs := ownsRow_only h ho hn

/-- so much of a row is left by bytes that are put behind 'xs' in its block -/
theorem own_room {w : World} {B g c : Nat} {xs zs ys : List Int} {cur : Array Value} {v : Value} (hg : w.heap[g]? = some (.cells cur 5 (0, 0))) (hc : cur.size = c) (hx : cur.toList.take xs.length = xs.map (Value.int .u8)) (hroom : xs.length + zs.length ≤ c)
    (hv : ownB w B v ys) (hy : ys.length ≤ xs.length ∨ ys <+: xs ++ zs ∨ xs ++ zs <+: ys) : ownB (w.setRow g (cur.toList.take xs.length ++ zs.map (Value.int .u8) ++ cur.toList.drop (xs.length + zs.length)).toArray) B v ys := by
  obtain ⟨h1, h2⟩ := hv
  rcases h2 with h2 | ⟨g2, c2, cur2, rfl, hb, hg2, hn, hm, hs, ht⟩
  · exact ⟨h1, .inl h2⟩
  by_cases he : g2 = g
  · subst he
    rw [hg] at hg2
    simp only [Option.some.injEq, Obj.cells.injEq, and_true] at hg2
    subst hg2
    have hlx : (cur.toList.take xs.length).length = xs.length := by rw [hx]; simp
    refine ⟨h1, .inr ⟨g2, c2, _, rfl, hb, setRow_heap w g2 _ _ 5 _ hg, hn, hm, ?_, ?_⟩⟩
    · simp only [List.size_toArray, List.length_append, hlx, List.length_map, List.length_drop, Array.length_toList]
      omega
    · rw [Nat.mul_one] at ht ⊢
      show (cur.toList.take xs.length ++ zs.map (Value.int .u8) ++ cur.toList.drop (xs.length + zs.length)).take ys.length = _
      rcases hy with hy | hy | hy
      · rw [List.append_assoc, List.take_append_of_le_length (by omega), List.take_take, Nat.min_eq_left hy]
        exact ht
      · have hyl := hy.length_le
        rw [List.length_append] at hyl
        rw [List.take_append_of_le_length (by simp only [List.length_append, hlx, List.length_map]; omega)]
        rw [hx, ← List.map_append, ← List.map_take]
        congr 1
        exact (List.prefix_iff_eq_take.1 hy).symm
      · have hyl := hy.length_le
        rw [List.length_append] at hyl
        have e1 : cur.toList.take (xs.length + zs.length) = (xs ++ zs).map (Value.int .u8) := by
          have : cur.toList.take (xs.length + zs.length) = (cur.toList.take ys.length).take (xs.length + zs.length) := by rw [List.take_take, Nat.min_eq_left hyl]
          rw [this, ht, ← List.map_take]
          congr 1
          rw [← List.length_append]
          exact (List.prefix_iff_eq_take.1 hy).symm
        rw [hx, ← List.map_append, ← e1, List.take_append_drop]
        exact ht
  · exact ⟨h1, .inr ⟨g2, c2, cur2, rfl, hb, (setRow_other w g g2 _ he).trans hg2, hn, hm, hs, ht⟩⟩

theorem append_keep (w : World) (B : Nat) (a : Option Addr) (n c : Nat) (xs zs : List Int) (hown : ownB w B (.slice a n c) xs) (ao : Option Addr) (m cap : Nat) (S : Sl w (.slice ao m cap) zs) (hl : xs.length + zs.length ≤ 100000) (hB : B ≤ w.heap.size) :
    ∃ v' w', (Builtin.append_ #[24, 24] 24 #[.slice a n c, .slice ao m cap]).run Tryd.prog w = .ok v' w' ∧ ownB w' B v' (xs ++ zs) ∧ w.grownBy w' (Value.slice a n c).ownBlock ∧
      ∀ v ys, (ys.length ≤ xs.length ∨ ys <+: xs ++ zs ∨ xs ++ zs <+: ys) → ownB w B v ys → ownB w' B v ys := by
  obtain ⟨i0, hi, hz0, hz1, hz2⟩ := info_parts infoU8
  obtain ⟨v', w', hr, h1, h2, _⟩ := run_append_sl (P := Tryd.prog) w B 24 24 5 i0 Tryd.underlying24 hi hz0 hz1 hz2 _ xs.length _ hown ao m cap zs S (by omega) hB
  have h1' : ownB w' B v' (xs ++ zs) := by
    unfold ownB
    rw [List.length_append, List.map_append]
    exact h1
  refine ⟨v', w', hr, h1', h2, fun v ys hy hv => ?_⟩
  have hm : m = zs.length := (sl_cap S).1
  subst hm
  have quiet : (∀ k, k < w.heap.size → w'.heap[k]? = w.heap[k]?) → ownB w' B v ys := fun hq =>
    hv.only (S := fun _ => False) ⟨h2.os, h2.tape, h2.output, h2.size, fun k hk _ => hq k hk⟩ (fun _ _ h => h)
  cases ha : a with
  | none =>
    subst ha
    exact quiet (fun k hk => h2.block k hk (by simp [Value.ownBlock]))
  | some ad =>
    subst ha
    obtain ⟨hx1, hx2⟩ := hown
    rcases hx2 with ⟨hx, _⟩ | ⟨g, cp, cur, hx, hb, hg, hn, hmx, hs, ht⟩
    · simp at hx
    simp only [Value.slice.injEq, Option.some.injEq] at hx
    obtain ⟨rfl, rfl, rfl⟩ := hx
    rw [Nat.mul_one] at hs ht
    cases ho : ao with
    | none =>
      subst ho
      have hz : zs = [] := by
        obtain ⟨_, ao', cap', he, h1, _, h3, _⟩ := S
        simp only [Value.slice.injEq, true_and] at he
        obtain ⟨rfl, rfl⟩ := he
        have := h3 rfl
        exact List.eq_nil_of_length_eq_zero (by omega)
      subst hz
      have hr2 := run_append_owned_none (P := Tryd.prog) w B 24 24 5 i0 1 Tryd.underlying24 hi (.slice (some ⟨g, 0, none⟩) xs.length c) xs.length (xs.map (Value.int .u8)) ⟨hx1, .inr ⟨g, c, cur, rfl, hb, hg, hn, hmx, by rw [Nat.mul_one]; exact hs, by rw [Nat.mul_one]; exact ht⟩⟩
      have : cap = 0 := by
        obtain ⟨_, ao', cap', he, h1, _, h3, _⟩ := S
        simp only [Value.slice.injEq, true_and] at he
        obtain ⟨rfl, rfl⟩ := he
        exact h3 rfl
      subst this
      rw [List.length_nil] at hr
      rw [hr] at hr2
      simp only [Result.ok.injEq] at hr2
      obtain ⟨_, rfl⟩ := hr2
      exact hv
    | some ap =>
      subst ho
      have hsrc : ∀ j u, (zs.map (Value.int .u8))[j]? = some u → w.cell? (ap.add j) = some u := by
        intro j u hj
        have hjl : j < zs.length := by have := (List.getElem?_eq_some_iff.1 hj).1; simpa using this
        obtain ⟨ad', had, hs'⟩ := S.src (by omega)
        obtain rfl := Option.some.inj had
        exact hs' j u hj
      by_cases hroom : xs.length + zs.length ≤ c
      · have hr2 := run_append_room (P := Tryd.prog) w 24 24 5 i0 Tryd.underlying24 hi g xs.length c cur hg ap zs.length cap (zs.map (Value.int .u8)) (by rw [hz1, List.length_map, Nat.mul_one]) hsrc (oneCell_bytes zs) hroom (by rw [hz1, Nat.mul_one, List.length_map, hs]; exact hroom)
        rw [hr] at hr2
        simp only [Result.ok.injEq] at hr2
        obtain ⟨_, rfl⟩ := hr2
        rw [hz1, Nat.mul_one, List.length_map]
        exact own_room hg hs ht hroom hv hy
      · have hcap : Builtin.nextslicecap (xs.length + zs.length) c * i0.bytes ≤ 281474976710656 := by
          rw [hz2, Nat.mul_one]
          have := nextslicecap_le (need := xs.length + zs.length) (old := c) (by omega)
          omega
        have hold : ∀ j u, (xs.map (Value.int .u8))[j]? = some u → w.cell? ((⟨g, 0, none⟩ : Addr).add j) = some u := by
          intro j u hj
          have hjl : j < xs.length := by have := (List.getElem?_eq_some_iff.1 hj).1; simpa using this
          have e : (⟨g, 0, none⟩ : Addr).add j = ⟨g, 0 + j, none⟩ := by unfold Addr.add; split <;> simp_all
          rw [e, cell_of_row w g (0 + j) cur 5 (0, 0) hg, Nat.zero_add]
          rw [← ht, List.getElem?_take, if_pos hjl] at hj
          simpa using hj
        have hr2 := run_append_grow (P := Tryd.prog) w 24 24 5 i0 (.int .u8 0) Tryd.underlying24 hi hz0 ⟨g, 0, none⟩ xs.length c (xs.map (Value.int .u8)) (by rw [hz1, List.length_map, Nat.mul_one]) hold ap zs.length cap (zs.map (Value.int .u8)) (by rw [hz1, List.length_map, Nat.mul_one]) hsrc (by omega) (by omega) hcap
        rw [hr] at hr2
        simp only [Result.ok.injEq] at hr2
        obtain ⟨_, rfl⟩ := hr2
        exact quiet (fun k hk => Below.heap_alloc w.drew _ k hk)

/-- but for blocks from B on all stays; so do rows of the call's own that hold the beginning of 'XS', or one byte -/
structure Kp (B : Nat) (XS : List Int) (w w' : World) : Prop where
  only : Only (fun k => B ≤ k) w w'
  keep : ∀ v ys, (ys.length ≤ 1 ∨ ys <+: XS) → ownB w B v ys → ownB w' B v ys
theorem Kp.of_quiet {B : Nat} {XS : List Int} {w w' : World} (h : Only (fun _ => False) w w') : Kp B XS w w' := ⟨h.mono (fun _ _ h => h.elim), fun v ys _ hv => hv.only h (fun _ _ h => h)⟩
theorem Kp.of_below {B : Nat} {XS : List Int} {w w' : World} (h : Below w.heap.size w w') : Kp B XS w w' := Kp.of_quiet (Only.of_below _ h)
theorem Kp.refl (B : Nat) (XS : List Int) (w : World) : Kp B XS w w := Kp.of_quiet (Only.refl _ w)
theorem Kp.trans {B : Nat} {XS : List Int} {a b c : World} (h : Kp B XS a b) (k : Kp B XS b c) : Kp B XS a c := ⟨h.only.trans k.only (fun _ _ h => h), fun v ys hy hv => k.keep v ys hy (h.keep v ys hy hv)⟩
/-- bytes put behind a row that holds a beginning of 'XS' -/
theorem append_kp (w : World) (B : Nat) (XS : List Int) (a : Option Addr) (n c : Nat) (xs zs : List Int) (hown : ownB w B (.slice a n c) xs) (hx : 1 ≤ xs.length) (hp : xs ++ zs <+: XS) (ao : Option Addr) (m cap : Nat) (S : Sl w (.slice ao m cap) zs) (hl : XS.length ≤ 100000) (hB : B ≤ w.heap.size) :
    ∃ a' n' c' w', (Builtin.append_ #[24, 24] 24 #[.slice a n c, .slice ao m cap]).run Tryd.prog w = .ok (.slice a' n' c') w' ∧ ownB w' B (.slice a' n' c') (xs ++ zs) ∧ Kp B XS w w' := by
  obtain ⟨v', w', hr, h1, h2, h3⟩ := append_keep w B a n c xs zs hown ao m cap S (by have := hp.length_le; rw [List.length_append] at this; omega) hB
  obtain ⟨a', c', rfl⟩ := own_slice h1
  refine ⟨a', _, c', w', hr, h1, (Only.refl _ w).grown h2 (fun k hk _ => (hown.lt k hk).1), fun v ys hy hv => h3 v ys ?_ hv⟩
  rcases hy with hy | hy
  · exact .inl (by omega)
  · exact .inr (List.prefix_or_prefix_of_prefix hy hp)

/-- A REGION THAT DRAWS ITS ORDER AND PUTS BYTES BEHIND BYTES -/
def AllKp (B : Nat) (XS : List Int) : List (Value → World → Prop) → Prop
  | [] => True
  | p :: l => (∀ v w w', Kp B XS w w' → p v w → p v w') ∧ AllKp B XS l
theorem allKp_at {B : Nat} {XS : List Int} : ∀ (l : List (Value → World → Prop)), AllKp B XS l → ∀ i v w w', Kp B XS w w' → FL l i v w → FL l i v w'
  | [], _, _, _, _, _, _, _ => by simp [FL]
  | p :: l, hs, 0, v, w, w', hb, h => hs.1 v w w' hb h
  | p :: l, hs, i + 1, v, w, w', hb, h => allKp_at l hs.2 i v w w' hb h
theorem wp_region_kp {P : Program} {Q : Exit → Act → World → Prop} {id : Nat} {l : List Oper} {a0 : Act} {w0 : World} (B : Nat) (XS : List Int) (fs : List (Value → World → Prop)) (n L : Nat) (hm : P.follows .mixedOrders = true) (hap : apartB l.toArray n = true) (hbk : backB l.toArray = true) (hL : lastB l.toArray L = true) (hn : n = a0.tmps.size)
    (hst : AllKp B XS fs) (steps : StepsM P l.toArray a0 w0 (FL fs) (Kp B XS) (fun _ => Kp B XS) (fun _ => Kp B XS) 0 l.dropLast)
    (fin : ∀ oL, l.toArray[L]? = some oL → ∀ vals w, Kp B XS w0 w → (∀ j d, j < L → (l.toArray[j]?).bind (·.dst) = some d → FL fs j (vals j) w) → opGives P l.toArray oL (putAll l.dropLast vals 0 a0) w (fun v w' => Q .normal ((putAll l.dropLast vals 0 a0).put oL.dst v) w')) :
    (Code.region id l.toArray true).wp P Q a0 w0 :=
  wp_region_lastM (FL fs) (Kp B XS) (fun _ => Kp B XS) (fun _ => Kp B XS) n L hm hap hbk hL hn (fun _ _ _ h => h) (fun _ _ _ _ h k => h.trans k) (fun _ _ _ h k => h.trans k) (fun _ _ _ _ _ h => h) (Kp.of_quiet (Only.refl _ w0).drew) (fun _ => Kp.of_quiet (Only.refl _ w0).drew)
    (fun _ j v w w' _ hb h => allKp_at fs hst j v w w' hb h) steps fin
def isRow (B : Nat) (xs : List Int) : Value → World → Prop := fun v w => ∃ a n c, v = .slice a n c ∧ ownB w B (.slice a n c) xs
theorem allKp_isV {B : Nat} {XS : List Int} {x : Value} {l : List (Value → World → Prop)} (h : AllKp B XS l) : AllKp B XS (isV x :: l) := ⟨fun _ _ _ _ h => h, h⟩
theorem allKp_isRow {B : Nat} {XS xs : List Int} {l : List (Value → World → Prop)} (hx : xs.length ≤ 1 ∨ xs <+: XS) (h : AllKp B XS l) : AllKp B XS (isRow B xs :: l) := ⟨fun _ _ _ hk ⟨a, n, c, h1, h2⟩ => ⟨a, n, c, h1, hk.keep _ _ hx h2⟩, h⟩

end Go.Proofs.YtmeiahmolmneeaaDoor
/- Contract: what a head's page bears, by the document's answer (incipitref06.two, incipitref06.Put). -/
namespace Go.Proofs.YtmeiahmolmneeaaDoor
set_option maxRecDepth 20000
open Go.RowKit
set_option linter.unusedVariables false

theorem lit_row (w : World) (B : Nat) (xs : List Int) (hB : B ≤ w.heap.size) (hl : xs.length ≤ 1000) : ownB (w.alloc (.cells (xs.map (Value.int .u8)).toArray 5)) B (.slice (some ⟨w.heap.size, 0, none⟩) xs.length xs.length) xs :=
  heap_own (heap_alloc_new w _) hB (by simp) (by unfold maxLen; omega)

theorem two_any (w : World) (B : Nat) (a : Option Addr) (n c : Nat) (xs : List Int) (x : Nat) (h : ownB w B (.slice a n c) xs) (hx : x < 65536) (hl : xs.length ≤ 1000) (hB : B ≤ w.heap.size) :
    Calls Tryd.prog 32 #[.slice a n c, .int .i64 x] w fun r w' => ∃ a' n' c', r = .returned (.slice a' n' c') ∧ ownB w' B (.slice a' n' c') (xs ++ numBytes x 2) ∧ Only (fun k => (Value.slice a n c).ownBlock = some k) w w' := by
  have hnb : numBytes x 2 = [((x / 256 : Nat) : Int), ((x % 256 : Nat) : Int)] := by
    simp only [numBytes, List.nil_append, List.cons_append, List.cons.injEq, and_true]
    omega
  rw [hnb]
  obtain ⟨q0, hq0⟩ : ∃ q, q = x / 256 := ⟨_, rfl⟩
  obtain ⟨q1, hq1⟩ : ∃ q, q = x % 256 := ⟨_, rfl⟩
  rw [← hq0, ← hq1]
  have b0 : q0 < 256 := by omega
  have b1 : q1 < 256 := by omega
  have m0 : (q0 : Int) % 256 = (q0 : Int) := by omega
  have m1 : (q1 : Int) % 256 = (q1 : Int) := by omega
  have d0 : (x : Int) / 256 = (q0 : Int) := by omega
  have d1 : (x : Int) % 256 = (q1 : Int) := by omega
  have hS : Sl (w.alloc (.cells #[.int .u8 q0, .int .u8 q1] 5)) (.slice (some ⟨w.heap.size, 0, none⟩) 2 2) [(q0 : Int), (q1 : Int)] := by
    have := sl_lit w 5 [(q0 : Int), (q1 : Int)] (by intro z hz; simp at hz; omega) (by simp [maxLen])
    simpa using this
  have hO : ownB (w.alloc (.cells #[.int .u8 q0, .int .u8 q1] 5)) B (.slice a n c) xs := own_keep h ((Below.refl _ w).alloc (Nat.le_refl _) _)
  obtain ⟨v', w', hr, h1, h2, _⟩ := append_keep _ B a n c xs [(q0 : Int), (q1 : Int)] hO (some ⟨w.heap.size, 0, none⟩) 2 2 hS (by simp; omega) (by simp; omega)
  obtain ⟨a', c', rfl⟩ := own_slice h1
  obtain ⟨N, hN⟩ : ∃ N, N = (xs ++ [(q0 : Int), (q1 : Int)]).length := ⟨_, rfl⟩
  rw [← hN] at hr h1
  clear hN
  have HR := hide hr
  have H1 := hide h1
  have H2 : Hid (Only (fun k => (Value.slice a n c).ownBlock = some k) w w') := ((Only.refl _ w).alloc _).trans ((Only.refl _ _).grown h2 (fun k hk _ => hk)) (fun _ _ h => h)
  clear hnb hq0 hq1 hS hO hr h1 h2 h
  go_enter Tryd.func32, Tryd.ntmps32
  go_wp2_with (at_builtin; refine wpList_append_run _ rfl (.tmp 5) (.tmp 12) 24 rfl _ _ rfl rfl _ _ HR.out ?_)
  go_ret
  exact ⟨_, _, _, rfl, H1.out, H2.out⟩

theorem refPutH_bad (w : World) (e : Nat) (p : Int) (ma ua : Option Addr) (mc un uc : Nat) (ms : List Int) (hm : Is w (.slice ma ms.length mc) ms) (h : mayB p ms un = false) :
    Calls Tryd.prog 12 #[hdV e p ma ms.length mc ua un uc] w fun r w' => r = .returned (.tuple #[.slice none 0 0, .int .i64 60]) ∧ Below w.heap.size w w' := by
  unfold hdV
  obtain ⟨W, hW⟩ : ∃ W, W = w.alloc (.cells #[.int .u64 e, .int .i64 p, .slice ma ms.length mc, .slice ua un uc] 26) := ⟨_, rfl⟩
  have HB : Hid (Below w.heap.size w W) := by show Below _ _ _; rw [hW]; exact (Below.refl _ w).alloc (Nat.le_refl _) _
  have HC := hide (refCheckH_any W e p ma ua mc un uc ms (hm.below HB.out))
  have es : hcheckS p ms un = 60 := by unfold hcheckS; rw [h]; rfl
  rw [es] at HC
  have HW := hide hW
  rw [hW] at HC
  clear hm hW es
  go_enter Tryd.func12, Tryd.ntmps12
  go_wp2_with (go_at_call 16; refine HC.out.mono ?_; rintro e1 w1 ⟨rfl, hb1⟩; rw [← HW.out] at hb1; have HB1 := hide hb1; clear HC hb1)
  go_ret2
  exact ⟨rfl, HB.out.trans (HB1.out.mono HB.out.size)⟩

set_option maxHeartbeats 8000000 in
theorem refPutH_ok (w : World) (v : Value) (h : Hd) (hv : HdV w v h) (hmay : mayB h.p h.ms h.us.length = true) :
    Calls Tryd.prog 12 #[v] w fun r w' => ∃ a n c, r = .returned (.tuple #[.slice a n c, .int .i64 0]) ∧ ownB w' w.heap.size (.slice a n c) (bearS h.p h.ms h.us) ∧ Below w.heap.size w w' := by
  obtain ⟨ma, mc, ua, uc, rfl, hm, hu, he⟩ := hv
  obtain ⟨e, p, ms, us⟩ := h
  simp only at hm hu he hmay ⊢
  unfold hdV
  obtain ⟨M, hM⟩ : ∃ M, M = ms.length := ⟨_, rfl⟩
  obtain ⟨N, hN⟩ : ∃ N, N = us.length := ⟨_, rfl⟩
  have HC0 := fun wx hmx => refCheckH_any wx e p ma ua mc us.length uc ms hmx
  rw [hcheckS_zero.2 hmay] at HC0
  rw [← hM] at hm HC0 ⊢
  rw [← hN] at hu HC0 ⊢
  obtain ⟨W, hW⟩ : ∃ W, W = w.alloc (.cells #[.int .u64 e, .int .i64 p, .slice ma M mc, .slice ua N uc] 26) := ⟨_, rfl⟩
  have hbW : Below w.heap.size w W := by rw [hW]; exact (Below.refl _ w).alloc (Nat.le_refl _) _
  have hbx : Blk W w.heap.size 26 [.int .u64 e, .int .i64 p, .slice ma M mc, .slice ua N uc] := by rw [hW]; exact Blk.new w _ _
  have HC := hide (HC0 W (hm.below hbW))
  have hml := may_len hmay
  have hp8 := (mayB_iff.1 hmay).1
  have hul := (mayB_iff.1 hmay).2.2
  have HE := hide (may_each hmay)
  have HRL := hide (may_raw hmay)
  obtain ⟨P, rfl⟩ : ∃ P : Nat, p = P := ⟨p.toNat, by omega⟩
  have HM := hide (hm.below hbW)
  have HU := hide (hu.below hbW)
  have HB := hide hbW
  have HBX := hide hbx
  have HW := hide hW
  rw [hW] at HC
  have HR : Hid (rawS (P : Int) ms us = ((numBytes P 2 ++ [(M : Int)]) ++ numsS ms) ++ [(N : Int)] ++ us) := by
    show rawS _ _ _ = _
    rw [hM, hN]
    unfold rawS txt
    simp only [Int.toNat_natCast, List.append_assoc, List.cons_append, List.nil_append]
  have HBE : Hid (bearS (P : Int) ms us = padTo 240 (rawS (P : Int) ms us)) := rfl
  rw [← hM] at hml
  rw [← hN] at hul
  have hcap := HM.out.cap.2
  unfold maxLen at hcap
  have okU : ByteOk us := hu.bytes
  have HMM := hide hM
  have HNN := hide hN
  have HW8 : Hid (IntKind.u8.wrap (M : Int) = (M : Int)) := by show (M : Int) % 256 = (M : Int); omega
  have HN8 : Hid (IntKind.u8.wrap (N : Int) = (N : Int)) := by show (N : Int) % 256 = (N : Int); omega
  clear HC0 hm hu he hmay hbW hbx hW hM hN
  go_enter Tryd.func12, Tryd.ntmps12
  go_wp2_with (go_at_call 16; refine HC.out.mono ?_; rintro e1 w1 ⟨rfl, hb1⟩; rw [← HW.out] at hb1; have HB1 := hide hb1; have HX1 := hide (HBX.out.below hb1 HBX.out.lt); have HM1 := hide (HM.out.below hb1); have HU1 := hide (HU.out.below hb1); have hsz1 : w.heap.size < w1.heap.size := Nat.lt_of_lt_of_le HBX.out.lt hb1.size; clear HC HBX HM HU hb1)
  have HCX : Hid (∀ wx, Below w1.heap.size w1 wx → Blk wx w.heap.size 26 [.int .u64 e, .int .i64 (P : Int), .slice ma M mc, .slice ua N uc]) := fun wx hb => HX1.out.below hb HX1.out.lt
  refine wp_region_kp w1.heap.size (numBytes P 2 ++ [(M : Int)]) [isV (.pointer (some ⟨w.heap.size, 1, none⟩)), isV (.int .i64 (P : Int)), isRow w1.heap.size (numBytes P 2), isV (.pointer (some ⟨w.heap.size, 2, none⟩)), isV (.slice ma M mc), isV (.int .i64 (M : Int)), isV (.int .u8 (M : Int)), isRow w1.heap.size [(M : Int)], isRow w1.heap.size (numBytes P 2 ++ [(M : Int)])] 52 9 (by kernel_rfl) (by kernel_rfl) (by kernel_rfl) (by kernel_rfl) rfl ?_ ?_ ?_
  · exact allKp_isV (allKp_isV (allKp_isRow (.inr (List.prefix_append _ _)) (allKp_isV (allKp_isV (allKp_isV (allKp_isV (allKp_isRow (.inl (by simp)) (allKp_isRow (.inr (List.prefix_refl _)) (trivial)))))))))
  · refine ⟨?_, ?_, ?_, ?_, ?_, ?_, ?_, ?_, ?_, trivial⟩
    · intro act wx h
      have e1 : act.eval (.tmp 1) = .pointer (some ⟨w.heap.size, 0, none⟩) := h.old 1 (by kernel_rfl)
      have hrel := h.rel
      clear h
      refine gives_by rfl act.eval rfl ?_
      generalize act.eval = ρ at *
      intro hf hc
      go_simp
      exact ⟨Kp.refl _ _ _, rfl⟩
    · intro act wx h
      obtain ⟨v12, e12, f12⟩ := h.val 0 12 (by kernel_rfl)
      obtain rfl : v12 = .pointer (some ⟨w.heap.size, 1, none⟩) := f12
      have hrel := h.rel
      clear h
      have hbw : Below w1.heap.size w1 wx := hrel.only.below (Nat.le_refl _) (fun k hk h => by omega)
      obtain ⟨x0, x1, x2, x3⟩ := box_cells (HCX.out wx hbw)
      refine gives_by rfl act.eval rfl ?_
      generalize act.eval = ρ at *
      intro hf hc
      go_simp
      exact ⟨Kp.refl _ _ _, rfl⟩
    · intro act wx h
      obtain ⟨v13, e13, f13⟩ := h.val 1 13 (by kernel_rfl)
      obtain rfl : v13 = .int .i64 (P : Int) := f13
      have hrel := h.rel
      clear h
      refine gives_by rfl act.eval rfl ?_
      generalize act.eval = ρ at *
      intro hf hc
      go_simp
      refine (two_any wx w1.heap.size none 0 0 [] P (own_nil _ _ _) (by omega) (by simp) hrel.only.size).mono ?_
      rintro r wy ⟨a', n', c', rfl, ho, hon⟩
      rw [List.nil_append] at ho
      exact ⟨_, rfl, Kp.of_quiet (hon.mono (fun k _ h => by cases h)), a', n', c', rfl, ho⟩
    · intro act wx h
      have e1 : act.eval (.tmp 1) = .pointer (some ⟨w.heap.size, 0, none⟩) := h.old 1 (by kernel_rfl)
      have hrel := h.rel
      clear h
      refine gives_by rfl act.eval rfl ?_
      generalize act.eval = ρ at *
      intro hf hc
      go_simp
      exact ⟨Kp.refl _ _ _, rfl⟩
    · intro act wx h
      obtain ⟨v15, e15, f15⟩ := h.val 3 15 (by kernel_rfl)
      obtain rfl : v15 = .pointer (some ⟨w.heap.size, 2, none⟩) := f15
      have hrel := h.rel
      clear h
      have hbw : Below w1.heap.size w1 wx := hrel.only.below (Nat.le_refl _) (fun k hk h => by omega)
      obtain ⟨x0, x1, x2, x3⟩ := box_cells (HCX.out wx hbw)
      refine gives_by rfl act.eval rfl ?_
      generalize act.eval = ρ at *
      intro hf hc
      go_simp
      exact ⟨Kp.refl _ _ _, rfl⟩
    · intro act wx h
      obtain ⟨v16, e16, f16⟩ := h.val 4 16 (by kernel_rfl)
      obtain rfl : v16 = .slice ma M mc := f16
      have hrel := h.rel
      clear h
      refine gives_by rfl act.eval rfl ?_
      generalize act.eval = ρ at *
      intro hf hc
      go_simp
      exact ⟨Kp.refl _ _ _, rfl⟩
    · intro act wx h
      obtain ⟨v17, e17, f17⟩ := h.val 5 17 (by kernel_rfl)
      obtain rfl : v17 = .int .i64 (M : Int) := f17
      have hrel := h.rel
      clear h
      refine gives_by rfl act.eval rfl ?_
      generalize act.eval = ρ at *
      intro hf hc
      go_simp
      rw [HW8.out]
      exact ⟨Kp.refl _ _ _, rfl⟩
    · intro act wx h
      obtain ⟨v18, e18, f18⟩ := h.val 6 18 (by kernel_rfl)
      obtain rfl : v18 = .int .u8 (M : Int) := f18
      have hrel := h.rel
      clear h
      refine gives_by rfl act.eval rfl ?_
      generalize act.eval = ρ at *
      intro hf hc
      go_simp
      exact ⟨Kp.of_below ((Below.refl _ wx).alloc (Nat.le_refl _) _), _, _, _, rfl, lit_row wx w1.heap.size [(M : Int)] (by have := hrel.only.size; omega) (by simp)⟩
    · intro act wx h
      obtain ⟨v14, e14, f14⟩ := h.val 2 14 (by kernel_rfl)
      obtain ⟨a14, n14, c14, rfl, O14⟩ := f14
      obtain ⟨v19, e19, f19⟩ := h.val 7 19 (by kernel_rfl)
      obtain ⟨a19, n19, c19, rfl, O19⟩ := f19
      have hrel := h.rel
      clear h
      obtain ⟨a', n', c', wy, r9, o9, k9⟩ := append_kp wx w1.heap.size (numBytes P 2 ++ [(M : Int)]) a14 n14 c14 (numBytes P 2) [(M : Int)] O14 (by rw [numBytes_len]; omega) (List.prefix_refl _) a19 n19 c19 (sl_of_own_len O19 (by intro z hz; simp at hz; omega)) (by rw [List.length_append, numBytes_len]; simp) hrel.only.size
      exact gives_of_run rfl (exec_append (.tmp 14) (.tmp 19) 24 rfl _ _ e14 e19 _ r9) ⟨k9, a', n', c', rfl, o9⟩
  · intro oL hoL vals w2 hk2 hv
    simp only [List.getElem?_toArray, List.getElem?_cons_succ, List.getElem?_cons_zero, Option.some.injEq] at hoL
    subst hoL
    generalize hact : putAll _ vals 0 _ = act
    obtain ⟨a2, n2, l2, hv8, O2⟩ : isRow w1.heap.size (numBytes P 2 ++ [(M : Int)]) (vals 8) w2 := hv 8 20 (by decide) (by kernel_rfl)
    clear hv
    have hb2 : Below w1.heap.size w1 w2 := hk2.only.below (Nat.le_refl _) (fun k hk h => by omega)
    have HO2 := hide O2
    have HB2 := hide hb2
    obtain ⟨c0, c1, c2, c3⟩ := box_cells (HCX.out w2 hb2)
    clear O2 hb2 hk2
    subst hact
    simp only [List.dropLast, putAll, Act.put, List.setIfInBounds_toArray, List.set_cons_zero, List.set_cons_succ, hv8, Nat.zero_add, Nat.reduceAdd]
    clear hv8
    refine gives_by rfl _ rfl ?_
    intro hf hc
    go_simp
    simp only [gUpon]
    go_wp2
    go_loopg [5, 6] M (fun g b i wr => ∃ (j : Nat) (a' : Option Addr) (n' c' : Nat), g + j = M ∧ i = .int .i64 j ∧ b = .slice a' n' c' ∧ ownB wr w1.heap.size (.slice a' n' c') ((numBytes P 2 ++ [(M : Int)]) ++ numsS (ms.take j)) ∧ Below w1.heap.size w1 wr)
    case atStart => exact ⟨0, _, _, _, by omega, rfl, rfl, by simpa [numsS] using HO2.out, HB2.out⟩
    case round =>
      obtain ⟨j, a', n', c', hj, rfl, rfl, hown, hbr⟩ := hrel
      have HBR := hide hbr
      have hlr : ((numBytes P 2 ++ [(M : Int)]) ++ numsS (ms.take j)).length ≤ 100 := by
        rw [List.length_append, List.length_append, numBytes_len, numsS_len, List.length_take]
        simp only [List.length_cons, List.length_nil]
        omega
      have HOW := hide hown
      have hMr := HM1.out.below hbr
      have hUr := HU1.out.below hbr
      clear c0 c1 c2 c3
      obtain ⟨c0, c1, c2, c3⟩ := box_cells (HCX.out wr hbr)
      have HUR := hide hUr
      have HMR := hide hMr
      clear HO2 HB2 hown hbr hUr hMr
      cases gk with
      | zero =>
        obtain rfl : j = M := by omega
        have hall : ms.take j = ms := List.take_of_length_le (by have := HMM.out; omega)
        rw [hall] at hlr HOW
        obtain ⟨Z, hZ⟩ : ∃ Z, Z = (numBytes P 2 ++ [(j : Int)]) ++ numsS ms := ⟨_, rfl⟩
        have hZl : 1 ≤ Z.length := by rw [hZ, List.length_append, List.length_append, numBytes_len]; omega
        rw [← hZ] at HOW hlr HR
        have hrl : (Z ++ [(N : Int)] ++ us).length ≤ 40 := by
          have := HRL.out
          rwa [HR.out] at this
        have hszr : w1.heap.size ≤ wr.heap.size := HBR.out.size
        clear hZ hall
        go_wp2
        refine wp_region_kp w1.heap.size (Z ++ [(N : Int)] ++ us) [isV (.slice a' n' c'), isV (.pointer (some ⟨w.heap.size, 3, none⟩)), isV (.slice ua N uc), isV (.int .i64 (N : Int)), isV (.int .u8 (N : Int)), isRow w1.heap.size [(N : Int)], isRow w1.heap.size (Z ++ [(N : Int)]), isV (.pointer (some ⟨w.heap.size, 3, none⟩)), isV (.slice ua N uc), isRow w1.heap.size (Z ++ [(N : Int)] ++ us)] 52 10 (by kernel_rfl) (by kernel_rfl) (by kernel_rfl) (by kernel_rfl) rfl ?_ ?_ ?_
        · exact allKp_isV (allKp_isV (allKp_isV (allKp_isV (allKp_isV (allKp_isRow (.inl (by simp)) (allKp_isRow (.inr (List.prefix_append _ _)) (allKp_isV (allKp_isV (allKp_isRow (.inr (List.prefix_refl _)) (trivial))))))))))
        · refine ⟨?_, ?_, ?_, ?_, ?_, ?_, ?_, ?_, ?_, ?_, trivial⟩
          · intro act wx h
            have e5 : act.eval (.tmp 5) = .slice a' n' c' := h.old 5 (by kernel_rfl)
            have hrel := h.rel
            clear h
            refine gives_by rfl act.eval rfl ?_
            generalize act.eval = ρ at *
            intro hf hc
            go_simp
            exact ⟨Kp.refl _ _ _, rfl⟩
          · intro act wx h
            have e1 : act.eval (.tmp 1) = .pointer (some ⟨w.heap.size, 0, none⟩) := h.old 1 (by kernel_rfl)
            have hrel := h.rel
            clear h
            refine gives_by rfl act.eval rfl ?_
            generalize act.eval = ρ at *
            intro hf hc
            go_simp
            exact ⟨Kp.refl _ _ _, rfl⟩
          · intro act wx h
            obtain ⟨v36, e36, f36⟩ := h.val 1 36 (by kernel_rfl)
            obtain rfl : v36 = .pointer (some ⟨w.heap.size, 3, none⟩) := f36
            have hrel := h.rel
            clear h
            have hbw : Below w1.heap.size w1 wx := HBR.out.trans (hrel.only.below hszr (fun k hk h => by omega))
            obtain ⟨x0, x1, x2, x3⟩ := box_cells (HCX.out wx hbw)
            refine gives_by rfl act.eval rfl ?_
            generalize act.eval = ρ at *
            intro hf hc
            go_simp
            exact ⟨Kp.refl _ _ _, rfl⟩
          · intro act wx h
            obtain ⟨v37, e37, f37⟩ := h.val 2 37 (by kernel_rfl)
            obtain rfl : v37 = .slice ua N uc := f37
            have hrel := h.rel
            clear h
            refine gives_by rfl act.eval rfl ?_
            generalize act.eval = ρ at *
            intro hf hc
            go_simp
            exact ⟨Kp.refl _ _ _, rfl⟩
          · intro act wx h
            obtain ⟨v38, e38, f38⟩ := h.val 3 38 (by kernel_rfl)
            obtain rfl : v38 = .int .i64 (N : Int) := f38
            have hrel := h.rel
            clear h
            refine gives_by rfl act.eval rfl ?_
            generalize act.eval = ρ at *
            intro hf hc
            go_simp
            rw [HN8.out]
            exact ⟨Kp.refl _ _ _, rfl⟩
          · intro act wx h
            obtain ⟨v39, e39, f39⟩ := h.val 4 39 (by kernel_rfl)
            obtain rfl : v39 = .int .u8 (N : Int) := f39
            have hrel := h.rel
            clear h
            refine gives_by rfl act.eval rfl ?_
            generalize act.eval = ρ at *
            intro hf hc
            go_simp
            exact ⟨Kp.of_below ((Below.refl _ wx).alloc (Nat.le_refl _) _), _, _, _, rfl, lit_row wx w1.heap.size [(N : Int)] (by have := hrel.only.size; omega) (by simp)⟩
          · intro act wx h
            obtain ⟨v35, e35, f35⟩ := h.val 0 35 (by kernel_rfl)
            obtain rfl : v35 = .slice a' n' c' := f35
            obtain ⟨v40, e40, f40⟩ := h.val 5 40 (by kernel_rfl)
            obtain ⟨a40, n40, c40, rfl, O40⟩ := f40
            have hrel := h.rel
            clear h
            obtain ⟨a2', n2', c2', wy, r9, o9, k9⟩ := append_kp wx w1.heap.size (Z ++ [(N : Int)] ++ us) a' n' c' Z [(N : Int)] (hrel.keep _ _ (.inr ⟨[(N : Int)] ++ us, by rw [List.append_assoc]⟩) HOW.out) hZl (List.prefix_append _ _) a40 n40 c40 (sl_of_own_len O40 (by intro z hz; simp at hz; omega)) (by omega) (by have := hrel.only.size; omega)
            exact gives_of_run rfl (exec_append (.tmp 35) (.tmp 40) 24 rfl _ _ e35 e40 _ r9) ⟨k9, a2', n2', c2', rfl, o9⟩
          · intro act wx h
            have e1 : act.eval (.tmp 1) = .pointer (some ⟨w.heap.size, 0, none⟩) := h.old 1 (by kernel_rfl)
            have hrel := h.rel
            clear h
            refine gives_by rfl act.eval rfl ?_
            generalize act.eval = ρ at *
            intro hf hc
            go_simp
            exact ⟨Kp.refl _ _ _, rfl⟩
          · intro act wx h
            obtain ⟨v42, e42, f42⟩ := h.val 7 42 (by kernel_rfl)
            obtain rfl : v42 = .pointer (some ⟨w.heap.size, 3, none⟩) := f42
            have hrel := h.rel
            clear h
            have hbw : Below w1.heap.size w1 wx := HBR.out.trans (hrel.only.below hszr (fun k hk h => by omega))
            obtain ⟨x0, x1, x2, x3⟩ := box_cells (HCX.out wx hbw)
            refine gives_by rfl act.eval rfl ?_
            generalize act.eval = ρ at *
            intro hf hc
            go_simp
            exact ⟨Kp.refl _ _ _, rfl⟩
          · intro act wx h
            obtain ⟨v41, e41, f41⟩ := h.val 6 41 (by kernel_rfl)
            obtain ⟨a41, n41, c41, rfl, O41⟩ := f41
            obtain ⟨v43, e43, f43⟩ := h.val 8 43 (by kernel_rfl)
            obtain rfl : v43 = .slice ua N uc := f43
            have hrel := h.rel
            clear h
            have hbw : Below w1.heap.size w1 wx := HBR.out.trans (hrel.only.below hszr (fun k hk h => by omega))
            obtain ⟨a2', n2', c2', wy, r9, o9, k9⟩ := append_kp wx w1.heap.size (Z ++ [(N : Int)] ++ us) a41 n41 c41 (Z ++ [(N : Int)]) us O41 (by rw [List.length_append]; omega) (List.prefix_refl _) ua N uc (HU1.out.below hbw) (by omega) (by have := hrel.only.size; omega)
            exact gives_of_run rfl (exec_append (.tmp 41) (.tmp 43) 24 rfl _ _ e41 e43 _ r9) ⟨k9, a2', n2', c2', rfl, o9⟩
        · intro oL hoL vals9 w5 hk5 hv
          simp only [List.getElem?_toArray, List.getElem?_cons_succ, List.getElem?_cons_zero, Option.some.injEq] at hoL
          subst hoL
          generalize hact : putAll _ vals9 0 _ = act
          obtain ⟨a5, n5, l5, hv9, O5⟩ : isRow w1.heap.size (Z ++ [(N : Int)] ++ us) (vals9 9) w5 := hv 9 44 (by decide) (by kernel_rfl)
          clear hv
          have hb5 : Below w1.heap.size w1 w5 := HBR.out.trans (hk5.only.below hszr (fun k hk h => by omega))
          have HO5 := hide O5
          have HB5 := hide hb5
          obtain ⟨RW, hRW⟩ : ∃ Z', Z' = Z ++ [(N : Int)] ++ us := ⟨_, rfl⟩
          rw [← hRW] at HO5 hrl HR
          clear O5 hb5 hk5 HOW HBR c0 c1 c2 c3 hRW
          subst hact
          simp only [List.dropLast, putAll, Act.put, List.setIfInBounds_toArray, List.set_cons_zero, List.set_cons_succ, hv9, Nat.zero_add, Nat.reduceAdd]
          clear hv9
          refine gives_by rfl _ rfl ?_
          intro hf hc
          go_simp
          simp only [gUpon]
          have hn5 : n5 = RW.length := by obtain ⟨_, _, hh⟩ := own_slice HO5.out; simp only [Value.slice.injEq] at hh; exact hh.2.1
          obtain ⟨K, hK⟩ : ∃ K, K = RW.length := ⟨_, rfl⟩
          rw [← hK] at hn5 hrl
          have HK := hide hK
          subst hn5
          clear hK
          go_wp2
          go_loopg [5] (240 - n5) (fun g b wr2 => ∃ (t : Nat) (a' : Option Addr) (c' : Nat), g + t = 240 - n5 ∧ b = .slice a' (n5 + t) c' ∧ ownB wr2 w1.heap.size (.slice a' (n5 + t) c') (RW ++ List.replicate t 0) ∧ Below w1.heap.size w1 wr2)
          case atStart => exact ⟨0, _, _, by omega, rfl, by simpa using HO5.out, HB5.out⟩
          case round =>
            obtain ⟨t, a7, c7, ht, rfl, hown7, hb7⟩ := hrel
            have HO7 := hide hown7
            have HB7 := hide hb7
            clear HO5 HB5 hown7
            cases gk with
            | zero =>
              have hnot : decide (((n5 + t : Nat) : Int) < 240) = false := decide_eq_false (by omega)
              obtain ⟨T, hT⟩ : ∃ T, T = n5 + t := ⟨_, rfl⟩
              rw [← hT] at hnot HO7 ⊢
              have HTT := hide hT
              clear hb7 hT
              go_wp2
              go_ret2
              refine ⟨_, _, _, rfl, ?_, HB.out.trans ((HB1.out.trans (HB7.out.mono HB1.out.size)).mono HB.out.size)⟩
              have hfin : RW ++ List.replicate t 0 = bearS (P : Int) ms us := by
                rw [HBE.out, HR.out]
                unfold padTo
                rw [← HK.out]
                congr 2
                omega
              have := HO7.out
              rw [hfin] at this
              exact own_of_le this (by have := HB.out.size; have := HB1.out.size; omega)
            | succ gl =>
              have hyes : ((n5 + t : Nat) : Int) < 240 := by omega
              have hS0 : Sl (wr.alloc (.cells #[.int .u8 0] 5)) (.slice (some ⟨wr.heap.size, 0, none⟩) 1 1) [0] := by
                have := sl_lit wr 5 [0] (by intro z hz; simp at hz; omega) (by simp [maxLen])
                simpa using this
              have hO8 : ownB (wr.alloc (.cells #[.int .u8 0] 5)) w1.heap.size (.slice a7 (n5 + t) c7) (RW ++ List.replicate t 0) := own_keep HO7.out ((Below.refl _ wr).alloc (Nat.le_refl _) _)
              have hlen8 : (RW ++ List.replicate t 0).length = n5 + t := by rw [List.length_append, List.length_replicate, ← HK.out]
              obtain ⟨v8, w8, r8, o8, g8, _⟩ := append_keep _ w1.heap.size a7 (n5 + t) c7 _ [0] hO8 (some ⟨wr.heap.size, 0, none⟩) 1 1 hS0 (by rw [hlen8]; simp; omega) (by have := hb7.size; simp; omega)
              have e8 : RW ++ List.replicate t 0 ++ [0] = RW ++ List.replicate (t + 1) 0 := by rw [List.append_assoc, ← List.replicate_succ']
              rw [e8] at o8
              obtain ⟨a8, c8, rfl⟩ := own_slice o8
              have hl8 : (RW ++ List.replicate (t + 1) 0).length = n5 + (t + 1) := by rw [List.length_append, List.length_replicate, ← HK.out]
              rw [hl8] at r8 o8
              have hb8 : Below w1.heap.size w1 w8 := (hb7.alloc hb7.size _).grown g8 (by have := hb7.size; simp; omega) (fun k hk => (hO8.lt k hk).1)
              have HR8 := hide r8
              have HO8 := hide o8
              have HB8 := hide hb8
              obtain ⟨T, hT⟩ : ∃ T, T = n5 + t := ⟨_, rfl⟩
              rw [← hT] at hyes HR8 ⊢
              have HTT := hide hT
              clear hS0 hO8 hlen8 r8 o8 g8 e8 hl8 hb8 hb7 hT HO7
              go_wp2_with (at_builtin; refine wpList_append_run _ rfl (.tmp 48) (.tmp 49) 24 rfl _ _ rfl rfl _ _ HR8.out ?_)
              go_roundg gl
              case measure => omega
              case rel => exact ⟨t + 1, a8, c8, by omega, rfl, HO8.out, HB8.out⟩
      | succ gl =>
        have hjl : j < ms.length := by have := HMM.out; omega
        have hji : (j : Int) < (M : Int) := by omega
        obtain ⟨b, off, rfl, cj⟩ := HMR.out.at j hjl
        have hxr := HE.out (ms.getD j 0) (by rw [getD_lt ms hjl]; exact List.getElem_mem hjl)
        have htk : numsS (ms.take (j + 1)) = numsS (ms.take j) ++ numBytes (ms.getD j 0).toNat 2 := by rw [take_getD ms hjl, numsS_snoc]
        obtain ⟨X, hX⟩ : ∃ X : Nat, ms.getD j 0 = (X : Int) := ⟨(ms.getD j 0).toNat, by omega⟩
        rw [hX] at cj htk hxr
        rw [show ((X : Int)).toNat = X by omega] at htk
        have HT2 := hide (two_any wr w1.heap.size a' n' c' _ X HOW.out (by omega) (by omega) HBR.out.size)
        have HLT := hide (fun k (hk : (Value.slice a' n' c').ownBlock = some k) => (HOW.out.lt k hk).1)
        rw [List.append_assoc _ (numsS (ms.take j)), ← htk] at HT2
        clear hX htk
        go_wp2_with (go_at_call 32; refine HT2.out.mono ?_; rintro e1 w3 ⟨a3, n3, l3, rfl, O3, o3⟩; have HO3 := hide O3; have HB3 := hide (HBR.out.trans (o3.below HBR.out.size (fun k hk h => by have := HLT.out k h; omega))); clear HT2 O3 o3)
        go_roundg gl
        case measure => omega
        case rel => exact ⟨j + 1, a3, n3, l3, by omega, by go_num, rfl, HO3.out, HB3.out⟩

end Go.Proofs.YtmeiahmolmneeaaDoor
