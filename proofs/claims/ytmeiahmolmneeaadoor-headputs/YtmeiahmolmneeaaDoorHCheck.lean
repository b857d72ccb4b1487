/- Contracts: which heads may be, by package head (head.mapsMayBe, head.mayBe, head.Check); a head's page (head.Page). -/
import Derived.Test.YtmeiahmolmneeaaDoorFWant
import Derived.Test.YtmeiahmolmneeaaDoorHMath
namespace Go.Proofs.YtmeiahmolmneeaaDoor
set_option maxRecDepth 20000
open Go.RowKit
set_option linter.unusedVariables false

theorem tyInts : Tryd.prog.underlying 23 = some (.slice (Tryd.prog.elem 23)) := by kernel_rfl
theorem szInts (wx : World) : (Go.sizeOf (Tryd.prog.elem 23)).run Tryd.prog wx = .ok 1 wx := by kernel_rfl
/-- l[:h] of numbers -/
theorem cut_ints (ao : Option Addr) (n cap h : Nat) (h2 : h ≤ cap) (wx : World) :
    (Instr.slice 23 (.slice ao n cap) none (some (.int .i64 h)) none).run Tryd.prog wx = .ok (.slice ao h cap) wx := by
  rw [run_slice_h wx 23 ao n cap tyInts .i64 h (by omega) (by omega), szInts]
  simp only [Result.andThen, sliced, Int.toNat_natCast]
  by_cases hc : cap = 0
  · rw [if_pos hc]; rfl
  · rw [if_neg hc]
    cases ao with
    | none => rfl
    | some x => simp [Addr.add]
theorem Is.take {w : World} {ao : Option Addr} {cap : Nat} {ks : List Int} (h : Is w (.slice ao ks.length cap) ks) (n : Nat) (hn : n ≤ ks.length) : Is w (.slice ao n cap) (ks.take n) := by
  obtain ⟨ao', cap', he, h1, h2, h3⟩ := h
  simp only [Value.slice.injEq, true_and] at he
  obtain ⟨rfl, rfl⟩ := he
  have hl : (ks.take n).length = n := by simp; omega
  refine ⟨ao, cap, by rw [hl], by omega, h2, fun hne => ?_⟩
  obtain ⟨b, off, rfl, hc⟩ := h3 (by intro e; simp [e] at hne)
  refine ⟨b, off, rfl, fun i hi => ?_⟩
  rw [getD_take ks n i (by omega)]
  exact hc i (by omega)
theorem Is.cap {w : World} {ao : Option Addr} {n cap : Nat} {ks : List Int} (h : Is w (.slice ao n cap) ks) : n = ks.length ∧ ks.length ≤ cap ∧ cap ≤ maxLen := by
  obtain ⟨ao', cap', he, h1, h2, h3⟩ := h
  simp only [Value.slice.injEq] at he
  obtain ⟨rfl, rfl, rfl⟩ := he
  exact ⟨rfl, h1, h2⟩
theorem Is.at {w : World} {ao : Option Addr} {n cap : Nat} {ks : List Int} (h : Is w (.slice ao n cap) ks) (i : Nat) (hi : i < ks.length) : ∃ b off, ao = some ⟨b, off, none⟩ ∧ w.cell? ⟨b, off + i, none⟩ = some (.int .i64 (ks.getD i 0)) := by
  obtain ⟨ao', cap', he, h1, h2, h3⟩ := h
  simp only [Value.slice.injEq] at he
  obtain ⟨rfl, rfl, rfl⟩ := he
  obtain ⟨b, off, rfl, hc⟩ := h3 (by intro e; simp [e] at hi)
  exact ⟨b, off, rfl, hc i hi⟩
theorem Is.alloc {w : World} {v : Value} {ks : List Int} (h : Is w v ks) (o : Obj) : Is (w.alloc o) v ks := h.below ((Below.refl _ w).alloc (Nat.le_refl _) o)

theorem mem_take {ks : List Int} {j : Nat} {x : Int} (hj : j ≤ ks.length) : x ∈ ks.take j ↔ ∃ i, i < j ∧ ks.getD i 0 = x := by
  constructor
  · intro h
    obtain ⟨i, hi⟩ := List.getElem?_of_mem h
    obtain ⟨hl, he⟩ := List.getElem?_eq_some_iff.1 hi
    have hl' : i < j := by simp at hl; omega
    refine ⟨i, hl', ?_⟩
    rw [← getD_take ks j i hl', getD_lt _ hl]
    exact he
  · rintro ⟨i, hi, rfl⟩
    have hl : i < (ks.take j).length := by simp; omega
    rw [← getD_take ks j i hi, getD_lt _ hl]
    exact List.getElem_mem hl

theorem quo1024 (p : Int) (h : 8 ≤ p ∧ p ≤ 2048) : 1 + (p - 1) / 1024 = (needS p : Int) := by
  unfold needS
  split <;> omega

set_option maxHeartbeats 1000000 in
theorem mapsMay_any (w : World) (e : Nat) (p : Int) (ma ua : Option Addr) (mc un uc : Nat) (ms : List Int) (hm : Is w (.slice ma ms.length mc) ms) (hp : 8 ≤ p ∧ p ≤ 2048) :
    Calls Tryd.prog 56 #[.agg #[.int .u64 e, .int .i64 p, .slice ma ms.length mc, .slice ua un uc]] w fun r w' => r = .returned (.bool (mapsB p ms)) ∧ Below w.heap.size w w' := by
  have hcap := hm.cap.2
  unfold maxLen at hcap
  have hq := quo1024 p hp
  have HN := hide (mapsB_iff (p := p) (ms := ms))
  obtain ⟨W, hW⟩ : ∃ W, W = w.alloc (.cells #[.int .u64 e, .int .i64 p, .slice ma ms.length mc, .slice ua un uc] 26) := ⟨_, rfl⟩
  have hbx : Blk W w.heap.size 26 [.int .u64 e, .int .i64 p, .slice ma ms.length mc, .slice ua un uc] := by rw [hW]; exact Blk.new w _ _
  have HB : Hid (Below w.heap.size w W) := by show Below _ _ _; rw [hW]; exact (Below.refl _ w).alloc (Nat.le_refl _) _
  have HM := hide (hm.below HB.out)
  obtain ⟨c0, c1, c2, c3⟩ := box_cells hbx
  have HW := hide hW
  clear hm hbx hW
  by_cases hl : ms.length = needS p
  · have hneq : ((ms.length : Int) != 1 + (p - 1) / 1024) = false := by rw [hq, hl]; simp
    have HL := hide hl
    clear hl hq
    go_enter Tryd.func56, Tryd.ntmps56
    go_wp2
    rw [← HW.out]
    clear hneq
    go_loopg [17] ms.length (fun g i wr => ∃ j : Nat, g + j = ms.length ∧ i = .int .i64 j ∧ (∀ i, i < j → 2 ≤ ms.getD i 0 ∧ ms.getD i 0 < p ∧ ∀ k, k < i → ms.getD k 0 ≠ ms.getD i 0) ∧ W = wr)
    case atStart => exact ⟨0, by omega, rfl, fun i hi => by omega, rfl⟩
    case round =>
      obtain ⟨j, hj, rfl, hall, rfl⟩ := hrel
      have HA := hide hall
      clear hall
      cases gk with
      | zero =>
        obtain rfl : j = ms.length := by omega
        go_wp2
        go_ret
        exact ⟨ret_bool (HN.out.2 ⟨HL.out, HA.out⟩).symm, HB.out⟩
      | succ g =>
        have hjl : j < ms.length := by omega
        have hji : (j : Int) < (ms.length : Int) := by omega
        obtain ⟨b, off, rfl, cj⟩ := HM.out.at j hjl
        have HC := hide (contains_any W _ (ms.take j) (ms.getD j 0) (HM.out.take j (by omega)))
        have hcut := cut_ints (some ⟨b, off, none⟩) ms.length mc j (by omega)
        have HMEM := hide (mem_take (ks := ms) (j := j) (x := ms.getD j 0) (by omega))
        obtain ⟨x, hx⟩ : ∃ x, x = ms.getD j 0 := ⟨_, rfl⟩
        rw [← hx] at cj HC HMEM
        have HX := hide hx
        clear hx
        by_cases h2 : x < 2
        · go_wp2
          go_ret
          refine ⟨ret_bool ?_, HB.out⟩
          symm
          rw [← Bool.not_eq_true]
          intro h
          have := (HN.out.1 h).2 j hjl
          rw [← HX.out] at this
          omega
        · have d2 : decide (x < 2) = false := decide_eq_false h2
          by_cases h3 : p ≤ x
          · go_wp2
            go_ret
            refine ⟨ret_bool ?_, HB.out⟩
            symm
            rw [← Bool.not_eq_true]
            intro h
            have := (HN.out.1 h).2 j hjl
            rw [← HX.out] at this
            omega
          · have d3 : decide (p ≤ x) = false := decide_eq_false h3
            by_cases h4 : x ∈ ms.take j
            · rw [decide_eq_true h4] at HC
              go_wp2_with (go_at_call 72; refine HC.out.mono ?_; rintro e1 w1 ⟨rfl, hw⟩; subst w1; clear HC)
              go_ret
              refine ⟨ret_bool ?_, HB.out⟩
              symm
              rw [← Bool.not_eq_true]
              intro h
              obtain ⟨i, hi, he⟩ := HMEM.out.1 h4
              exact ((HN.out.1 h).2 j hjl).2.2 i hi (by rw [← HX.out]; exact he)
            · rw [decide_eq_false h4] at HC
              go_wp2_with (go_at_call 72; refine HC.out.mono ?_; rintro e1 w1 ⟨rfl, hw⟩; subst w1; clear HC)
              go_roundg g
              case measure => omega
              case rel =>
                refine ⟨j + 1, by omega, by go_num, fun i hi => ?_, rfl⟩
                rcases Nat.lt_or_ge i j with h | h
                · exact HA.out i h
                · obtain rfl : i = j := by omega
                  rw [← HX.out]
                  exact ⟨by omega, by omega, fun k hk he => h4 (HMEM.out.2 ⟨k, hk, he⟩)⟩
  · have hneq : ((ms.length : Int) != 1 + (p - 1) / 1024) = true := by rw [hq]; simp; omega
    clear hq
    go_enter Tryd.func56, Tryd.ntmps56
    go_wp2
    go_ret
    rw [← HW.out]
    refine ⟨ret_bool ?_, HB.out⟩
    symm
    rw [← Bool.not_eq_true]
    intro h
    exact hl (HN.out.1 h).1

/-- head.mayBe from the first question that Check asks -/
theorem mayBe_any (w : World) (e : Nat) (p : Int) (ma ua : Option Addr) (mc un uc : Nat) (ms : List Int) (hm : Is w (.slice ma ms.length mc) ms) :
    Calls Tryd.prog 35 #[.agg #[.int .u64 e, .int .i64 p, .slice ma ms.length mc, .slice ua un uc], .int .i64 1] w fun r w' => r = .returned (.bool (mayB p ms un)) ∧ Below w.heap.size w w' := by
  have HI := hide (mayB_iff (p := p) (ms := ms) (n := un))
  have HNO : Hid (¬ ((8 ≤ p ∧ p ≤ 2048) ∧ mapsB p ms = true ∧ un ≤ 32) → mayB p ms un = false) := fun h => by
    rw [← Bool.not_eq_true]
    exact fun hh => h (HI.out.1 hh)
  obtain ⟨W, hW⟩ : ∃ W, W = w.alloc (.cells #[.int .u64 e, .int .i64 p, .slice ma ms.length mc, .slice ua un uc] 26) := ⟨_, rfl⟩
  have HB : Hid (Below w.heap.size w W) := by show Below _ _ _; rw [hW]; exact (Below.refl _ w).alloc (Nat.le_refl _) _
  have HM := hide (fun hp => mapsMay_any W e p ma ua mc un uc ms (hm.below HB.out) hp)
  have hbx : Blk W w.heap.size 26 [.int .u64 e, .int .i64 p, .slice ma ms.length mc, .slice ua un uc] := by rw [hW]; exact Blk.new w _ _
  have HX := hide hbx
  have HW := hide hW
  rw [hW] at HM
  clear hm hbx hW
  by_cases h1 : p < 8
  · go_enter Tryd.func35, Tryd.ntmps35
    go_wp2
    go_ret
    rw [← HW.out]
    exact ⟨ret_bool (HNO.out (by omega)).symm, HB.out⟩
  · have d1 : decide (p < 8) = false := decide_eq_false h1
    by_cases h2 : 2048 < p
    · go_enter Tryd.func35, Tryd.ntmps35
      go_wp2
      go_ret
      rw [← HW.out]
      exact ⟨ret_bool (HNO.out (by omega)).symm, HB.out⟩
    · have d2 : decide (2048 < p) = false := decide_eq_false h2
      have HM2 := hide (HM.out (by omega))
      clear HM
      cases h3 : mapsB p ms with
      | false =>
        rw [h3] at HM2
        go_enter Tryd.func35, Tryd.ntmps35
        go_wp2_with (go_at_call 56; refine HM2.out.mono ?_; rintro e1 w1 ⟨rfl, hb1⟩; clear HM2; rw [← HW.out] at hb1)
        go_ret
        exact ⟨ret_bool (HNO.out (by rw [h3]; simp)).symm, HB.out.trans (hb1.mono HB.out.size)⟩
      | true =>
        rw [h3] at HM2
        go_enter Tryd.func35, Tryd.ntmps35
        go_wp2_with (go_at_call 56; refine HM2.out.mono ?_; rintro e1 w1 ⟨rfl, hb1⟩; clear HM2; rw [← HW.out] at hb1; obtain ⟨c0, c1, c2, c3⟩ := box_cells (HX.out.below hb1 HX.out.lt))
        go_ret
        refine ⟨ret_bool ?_, HB.out.trans (hb1.mono HB.out.size)⟩
        rw [Bool.eq_iff_iff, HI.out, h3]
        simp
        omega

theorem hcheck_any (w : World) (e : Nat) (p : Int) (ma ua : Option Addr) (mc un uc : Nat) (ms : List Int) (hm : Is w (.slice ma ms.length mc) ms) :
    Calls Tryd.prog 15 #[.agg #[.int .u64 e, .int .i64 p, .slice ma ms.length mc, .slice ua un uc]] w fun r w' => r = .returned (.int .i64 (hcheckS p ms un)) ∧ Below w.heap.size w w' := by
  obtain ⟨W, hW⟩ : ∃ W, W = w.alloc (.cells #[.int .u64 e, .int .i64 p, .slice ma ms.length mc, .slice ua un uc] 26) := ⟨_, rfl⟩
  have HB : Hid (Below w.heap.size w W) := by show Below _ _ _; rw [hW]; exact (Below.refl _ w).alloc (Nat.le_refl _) _
  have HM := hide (mayBe_any W e p ma ua mc un uc ms (hm.below HB.out))
  have HW := hide hW
  rw [hW] at HM
  unfold hcheckS
  clear hm hW
  cases h3 : mayB p ms un with
  | false =>
    rw [h3] at HM
    go_enter Tryd.func15, Tryd.ntmps15
    go_wp2_with (go_at_call 35; refine HM.out.mono ?_; rintro e1 w1 ⟨rfl, hb1⟩; clear HM; rw [← HW.out] at hb1)
    go_ret
    exact ⟨by simp, HB.out.trans (hb1.mono HB.out.size)⟩
  | true =>
    rw [h3] at HM
    go_enter Tryd.func15, Tryd.ntmps15
    go_wp2_with (go_at_call 35; refine HM.out.mono ?_; rintro e1 w1 ⟨rfl, hb1⟩; clear HM; rw [← HW.out] at hb1)
    go_ret
    exact ⟨by simp, HB.out.trans (hb1.mono HB.out.size)⟩

theorem hpage_any (w : World) (e : Nat) : Calls Tryd.prog 20 #[.int .u64 e] w fun r w' => r = .returned (.int .i64 (e % 2 : Nat)) ∧ w' = w := by
  go_enter Tryd.func20, Tryd.ntmps20
  go_wp2
  go_ret
  exact ⟨ret_int (by omega), rfl⟩

end Go.Proofs.YtmeiahmolmneeaaDoor
