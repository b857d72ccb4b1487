/- Contracts: rising; unwritten, as an iterator. -/
import Derived.Test.YtoplhehcjgldeaaGreatJCRange
import Derived.Test.YtoplhehcjgldeaaGreatJCRoom
import Derived.Test.YtoplhehcjgldeaaGreatRegion
import Derived.Shelf.Slices.SearchI
import Derived.Shelf.Slices.Empties
namespace Go.Proofs.YtoplhehcjgldeaaGreat
open Go.RowKit Go.Shelf Go.Sort
set_option linter.unusedVariables false
set_option maxRecDepth 100000
attribute [local go_sem] Oper.semAt_some

abbrev srt (os : List Int) : List Int := os.mergeSort fun x y => decide (x ≤ y)

theorem enters_val : ∀ args w, (callFunc 92 args).run Tryz.prog w = .ok (.enter 92 args) w := enters_of Tryz.func92 (by kernel_rfl) rfl
theorem enters_un : ∀ args w, (callFunc 81 args).run Tryz.prog w = .ok (.enter 81 args) w := enters_of Tryz.func81 (by kernel_rfl) rfl

section
variable (w : World) (c b : Nat) (H : Nat → Prop) (size : Nat) (os : List Int) (l : List Hd) (hits misses : Nat)
theorem rising_any (h : CachH w c b H size os l hits misses) :
    Calls Tryz.prog 75 #[dp c] w fun e w' => ∃ v, e = .returned v ∧ Ints w' w.heap.size v (srt os) ∧ Below w.heap.size w w' := by
  obtain ⟨mb, vo, D, sl, h⟩ := h
  have HM := hide (cmade_any w c b h.blk.c0)
  have c3 := h.blk.c3
  have hfew := h.few
  obtain ⟨ao, cap, rfl⟩ := h.order.shape
  have HS : Hid (Calls Tryz.prog 84 #[.func (.func 92) #[] #[.pointer (some ⟨w.heap.size, 0, none⟩)]] (w.alloc (.cells #[.slice ao os.length cap] 59)) fun e w' => ∃ v, e = .returned v ∧ Ints w' w.heap.size v (srt os) ∧ Below w.heap.size w w') := by
    have hb := (Below.refl w.heap.size w).alloc (Nat.le_refl _) (.cells #[.slice ao os.length cap] 59)
    have hB := Blk.new w 59 [.slice ao os.length cap]
    refine (sorted_any _ 92 #[.pointer (some ⟨w.heap.size, 0, none⟩)] os (ValV w.heap.size (.slice ao os.length cap) os) enters_val (values_iter _ _ _ (by omega)) (fun k W' ho => ⟨(hB.only ho (fun h => h)).cell 0, (h.order.below hb).only ho (fun _ _ h => h)⟩) (by omega)).mono ?_
    rintro e w' ⟨v, rfl, hi, hb'⟩
    exact ⟨v, rfl, hi.base (by simp), after_alloc hb'⟩
  clear h hfew
  generalize os.length = n at *
  go_enter Tryz.func75, Tryz.ntmps75
  go_wp2_with (first
    | (go_at_call 53; refine HM.out.mono ?_; rintro e w1 ⟨rfl, hw⟩; subst w1; clear HM)
    | (go_at_call 85; refine (values_any w ao n cap).mono ?_; rintro e w1 ⟨rfl, hw⟩; subst w1)
    | (go_at_call 84; refine HS.out.mono ?_; rintro e w2 ⟨v2, rfl, hi2, hb2⟩; have HI2 := hide hi2; have HB2 := hide hb2; clear HS hi2 hb2))
  go_ret
  exact ⟨_, rfl, HI2.out, HB2.out⟩
end

theorem unwritten_any (w : World) (p : Option Addr) : Calls Tryz.prog 66 #[.pointer p] w fun e w' => e = .returned (.func (.func 81) #[] #[.pointer (some ⟨w.heap.size, 0, none⟩)]) ∧ w' = w.alloc (.cells #[.pointer p] 31) := by
  go_enter Tryz.func66, Tryz.ntmps66
  go_wp2
  go_ret
  exact ⟨rfl, rfl⟩

/-- what the iterator over changed pages reads, k of them having been told -/
def UnV (Bc c b : Nat) (os : List Int) (f : Int → Bool) (k : Nat) (W : World) : Prop := W.cell? ⟨Bc, 0, none⟩ = some (dp c) ∧ ∃ H size l hits misses, CachH W c b H size os l hits misses ∧ (∀ p ∈ os, ∃ h ∈ l, (h.p : Int) = p) ∧ (∀ h ∈ l, (h.p : Int) ∈ ((srt os).filter f).drop k → h.ch = true) ∧ (∀ h ∈ l, f h.p = false → h.ch = false)

theorem filt_step (R : List Int) (f : Int → Bool) (j : Nat) (hj : j < R.length) : (R.take (j + 1)).filter f = (R.take j).filter f ++ (if f R[j] = true then [R[j]] else []) := by
  rw [List.take_succ_eq_append_getElem hj, List.filter_append]
  congr 1
  rw [List.filter_cons]
  split <;> rfl
theorem filt_at (R : List Int) (f : Int → Bool) (j : Nat) (hj : j < R.length) (hf : f R[j] = true) : ∃ hk : ((R.take j).filter f).length < (R.filter f).length, (R.filter f)[((R.take j).filter f).length] = R[j] := by
  have e : R.filter f = (R.take j).filter f ++ (R[j] :: (R.drop (j + 1)).filter f) := by
    conv => lhs; rw [← List.take_append_drop j R, List.drop_eq_getElem_cons hj, List.filter_append, List.filter_cons, if_pos hf]
  have hk : ((R.take j).filter f).length < (R.filter f).length := by rw [e]; simp
  refine ⟨hk, ?_⟩
  have : (R.filter f)[((R.take j).filter f).length]? = some R[j] := by
    rw [e, List.getElem?_append_right (Nat.le_refl _)]; simp
  rw [List.getElem?_eq_getElem hk] at this
  exact Option.some.inj this

set_option maxHeartbeats 2000000 in
theorem un_iter (Bc c b : Nat) (os : List Int) (f : Int → Bool) : Iter Tryz.prog 81 #[.pointer (some ⟨Bc, 0, none⟩)] enc1 ((srt os).filter f) (UnV Bc c b os f) := by
  intro l J Jx hJ hV hY Y W h0
  obtain ⟨hc, H, size, ls, hits, misses, hC, _⟩ := hV Y 0 W h0
  have HR := hide (rising_any W c b H size os ls hits misses hC)
  have HJ := hide hJ
  have HV := hide hV
  have HY := hide hY
  have H0 := hide h0
  have hlen : os.length ≤ 1000 := by obtain ⟨_, _, _, _, h⟩ := hC; exact h.few
  clear hC hJ hV hY h0
  refine callsIn_of_wp Tryz.func81 rfl trivial ?_ rfl
  simp only [Tryz.ntmps81, List.size_toArray, List.length_cons, List.length_nil, Nat.reduceAdd, Nat.reduceSub, Array.replicate_succ, Array.replicate_zero, List.push_toArray, List.append_toArray, List.nil_append, List.cons_append]
  obtain ⟨R, hR⟩ : ∃ R, srt os = R := ⟨_, rfl⟩
  have hRl : R.length ≤ 1000 := by rw [← hR, List.length_mergeSort]; exact hlen
  have hRm : ∀ x ∈ R, x ∈ os := fun x hx => by rw [← hR] at hx; exact (List.mem_mergeSort).1 hx
  rw [hR] at HR HY ⊢
  have HRM := hide hRm
  have HRE := hide hR
  clear hRm hR
  gi_wp2_with (first
    | (refine ⟨trivial, ?_⟩; gi_at_call 75; refine (callsIn_wide.2 HR.out).mono ?_; rintro e W1 ⟨v1, rfl, hi1, hb1⟩; have hJ1 := HJ.out Y 0 W W1 H0.out hb1; obtain ⟨ao, cap, rfl⟩ := hi1.shape; have HI1 := hide hi1; have HB1 := hide hb1; have HJ1 := hide hJ1; clear HR hi1 hb1 hJ1))
  have hcap : R.length ≤ cap ∧ cap ≤ 9223372036854775807 := by
    have := own_len HI1.out
    unfold maxLen at this
    exact this
  obtain ⟨hcap1, hcap2⟩ := hcap
  clear hc HJ H0
  gi_loopw [4, 8] (fun pp i wr => ∃ (j k : Nat) (Z : Nat → Prop), j ≤ R.length ∧ i = .int .i64 j ∧ k = ((R.take j).filter f).length ∧ J Z k wr ∧ Ints wr W.heap.size (.slice ao R.length cap) R ∧ (∀ q, (Value.slice ao R.length cap).ownBlock = some q → Z q)) (fun _ i _ => R.length - (intOf i).toNat)
  case atStart =>
    refine ⟨0, 0, _, Nat.zero_le _, rfl, by simp, HJ1.out, HI1.out, fun q hq => .inr ?_⟩
    have := HI1.out.lt q hq
    exact this
  case round =>
    obtain ⟨j, k, Z, hj, rfl, hkj, hjz, hi, hz⟩ := hrel
    have HJZ := hide hjz
    have HI := hide hi
    have HZ := hide hz
    have HK := hide hkj
    clear hjz hi hz hkj HJ1 HI1 HB1
    by_cases hjl : j < R.length
    · have hji : (j : Int) < (R.length : Int) := by omega
      obtain ⟨x, hx⟩ : ∃ x, R[j] = x := ⟨_, rfl⟩
      obtain ⟨hc, H', size', l', hits', misses', hC', hall, hyes, hno⟩ := HV.out Z k wr HJZ.out
      obtain ⟨y, hy, hyp⟩ := hall x (HRM.out x (hx ▸ List.getElem_mem hjl))
      obtain ⟨mb, vo, D, sl, hC⟩ := hC'
      have c2 := hC.blk.c2
      have hlk := hC.slots.look hy
      rw [hyp] at hlk
      have hB := hC.slots.slot y hy
      have hok := (hC.slots.ok y hy).2
      have c256 : wr.cell? ⟨sl y.p, 256, none⟩ = some (.bool y.ch) := (hB.cell 256).trans (sc_ch hok)
      obtain ⟨s, hs⟩ : ∃ s, sl y.p = s := ⟨_, rfl⟩
      rw [hs] at hlk c256
      obtain ⟨g, rfl, hcell⟩ : ∃ g, ao = some ⟨g, 0, none⟩ ∧ wr.cell? ⟨g, j, none⟩ = some (.int .i64 x) := by
        rcases HI.out.form with ⟨e, e2⟩ | ⟨g, cap', sp, e, _, _, _, hBR, _⟩
        · rw [e2] at hjl; simp at hjl
        · simp only [Value.slice.injEq] at e
          refine ⟨g, e.1, ?_⟩
          have := iv_cell hBR j hjl
          rw [Nat.zero_add, getD_lt R hjl, hx] at this
          exact this
      cases hfx : f x with
      | true =>
        obtain ⟨hk1, hk2⟩ := filt_at R f j hjl (by rw [hx]; exact hfx)
        have hk1' : k < (R.filter f).length := by rw [HK.out]; exact hk1
        have hk2' : (R.filter f)[k] = x := by rw [← hx, ← hk2]; congr 1
        have hych : y.ch = true := hyes y hy (by
          rw [HRE.out, hyp, ← hk2']
          exact List.mem_iff_getElem.2 ⟨0, by simp; omega, by simp⟩)
        rw [hych] at c256
        have hy0 := HY.out Z k hk1' wr HJZ.out
        rw [hk2'] at hy0
        obtain ⟨fn, tmps, assign, body, hyy, hR⟩ := hy0
        have HRR := hide hR
        have HKN : Hid (k + 1 = ((R.take (j + 1)).filter f).length) := by show _ = _; rw [filt_step R f j hjl, hx, if_pos hfx, HK.out]; simp
        clear hR hC hB hok hall hyes hno hx hk1 hk2 hk2' hych hyp hy hs
        gi_wp2
        refine HRR.out.mono ?_
        rintro e W3 (⟨rfl, hJ3, hkY⟩ | ⟨rfl, hJx3⟩)
        · have HJ3 := hide hJ3
          have HI3 : Hid (Ints W3 W.heap.size (.slice (some ⟨g, 0, none⟩) R.length cap) R) := by
            show Ints _ _ _ _
            refine ⟨HI.out.1, ?_⟩
            rcases HI.out.2 with h | ⟨g', cap', cur, e, hb, hg, r⟩
            · exact .inl h
            · refine .inr ⟨g', cap', cur, e, hb, (hkY g' (HZ.out g' (by rw [e]; rfl))).trans hg, r⟩
          clear hJ3 hkY HRR hyy c2 c256 hlk hcell hc
          gi_wp2
          go_roundw
          case rel => exact ⟨j + 1, k + 1, Z, by omega, by go_num, HKN.out, HJ3.out, HI3.out, HZ.out⟩
          case measure => simp [intOf]; omega
        · have HJ3 := hide hJx3
          clear hJx3 HRR hyy c2 c256 hlk hcell hc
          gi_wp2
          refine bodyPost_ret (results_none rfl _ _ _) rfl ?_
          exact ⟨⟨_, rfl⟩, Z, .inr ⟨k, hk1', HJ3.out⟩⟩
      | false =>
        have hych : y.ch = false := hno y hy (by rw [hyp]; exact hfx)
        rw [hych] at c256
        have HKN : Hid (k = ((R.take (j + 1)).filter f).length) := by show _ = _; rw [filt_step R f j hjl, hx, if_neg (by rw [hfx]; decide), HK.out]; simp
        clear hC hB hok hall hyes hno hx hych hyp hy hs
        gi_wp2
        refine ⟨fun _ h => (by cases h), ?_⟩
        gi_wp2
        go_roundw
        case rel => exact ⟨j + 1, k, Z, by omega, by go_num, HKN.out, HJZ.out, HI.out, HZ.out⟩
        case measure => simp [intOf]; omega
    · obtain rfl : j = R.length := by omega
      have hkk : k = (R.filter f).length := by rw [HK.out, List.take_of_length_le (Nat.le_refl _)]
      subst hkk
      gi_wp2
      go_end0
      exact ⟨⟨_, rfl⟩, Z, .inl HJZ.out⟩

end Go.Proofs.YtoplhehcjgldeaaGreat
/- Contracts: slices.BinarySearch; All, as an iterator. -/
namespace Go.Proofs.YtoplhehcjgldeaaGreat
open Go.RowKit Go.Shelf Go.Sort
set_option linter.unusedVariables false
set_option maxRecDepth 100000
attribute [local go_sem] Oper.semAt_some

theorem search_any (w : World) (base : Nat) (v : Value) (zs : List Int) (x : Int) (h : Ints w base v zs) (hs : zs.Pairwise (· ≤ ·)) (hl : zs.length ≤ 100000) : Calls Tryz.prog 76 #[v, .int .i64 x] w fun e w' => ∃ n : Int, e = .returned (.tuple #[.int .i64 n, .bool (zs.contains x)]) ∧ ∃ q, w' = w.drewN q := by
  rcases h.form with ⟨rfl, rfl⟩ | ⟨g, cap, sp, rfl, _, hc, hm, hB, _⟩
  · refine (Any.slices_BinarySearch_int_empty laySearch none 0 x w).mono ?_
    rintro e w' ⟨rfl, rfl⟩
    exact ⟨_, rfl, 0, rfl⟩
  · refine (Any.slices_BinarySearch_int laySearch g 0 zs.length cap zs x w (Nat.le_refl _) (by omega) (fun j hj => iv_cell hB j hj) (by rw [List.take_length]; exact hs)).mono ?_
    rintro e w' ⟨rfl, q, rfl⟩
    rw [List.take_length]
    exact ⟨_, rfl, q, rfl⟩

theorem all_any (w : World) (p : Option Addr) : Calls Tryz.prog 43 #[.pointer p] w fun e w' => e = .returned (.func (.func 74) #[] #[.pointer (some ⟨w.heap.size, 0, none⟩)]) ∧ w' = w.alloc (.cells #[.pointer p] 31) := by
  go_enter Tryz.func43, Tryz.ntmps43
  go_wp2
  go_ret
  exact ⟨rfl, rfl⟩
theorem enters_all : ∀ args w, (callFunc 74 args).run Tryz.prog w = .ok (.enter 74 args) w := enters_of Tryz.func74 (by kernel_rfl) rfl

abbrev enc2 : Int × Bool → Array Value := fun x => #[.int .i64 x.1, .bool x.2]
abbrev pairs (R C : List Int) : List (Int × Bool) := R.map (fun p => (p, C.contains p))
/-- what the iterator over the pages reads: at its beginning alone -/
def AllV (Bc : Nat) (pv : Option Addr) (R C : List Int) (k : Nat) (W : World) : Prop := k = 0 → ∀ W', Below W.heap.size W W' → W'.cell? ⟨Bc, 0, none⟩ = some (.pointer pv) ∧
  (Calls Tryz.prog 75 #[.pointer pv] W' fun e w' => ∃ v, e = .returned v ∧ Ints w' W'.heap.size v R ∧ Below W'.heap.size W' w') ∧
  (Calls Tryz.prog 44 #[.pointer pv] W' fun e w' => ∃ v, e = .returned v ∧ Ints w' W'.heap.size v C ∧ Below W'.heap.size W' w')

def isI (B : Nat) (zs : List Int) : Value → World → Prop := fun v w => Ints w B v zs
theorem stable_isI (B : Nat) (zs : List Int) : ∀ v w w', Below w.heap.size w w' → isI B zs v w → isI B zs v w' := fun v w w' hb h => h.below hb

set_option maxHeartbeats 2000000 in
theorem all_iter (Bc : Nat) (pv : Option Addr) (R C : List Int) (hR : R.length ≤ 1000) (hCl : C.length ≤ 1000) (hC : C.Pairwise (· ≤ ·)) : Iter Tryz.prog 74 #[.pointer (some ⟨Bc, 0, none⟩)] enc2 (pairs R C) (AllV Bc pv R C) := by
  intro l J Jx hJ hV hY Y W h0
  have HV0 := hide (hV Y 0 W h0 rfl)
  have HJ := hide hJ
  have HY := hide hY
  have H0 := hide h0
  have HC := hide hC
  clear hJ hV hY h0 hC
  refine callsIn_of_wp Tryz.func74 rfl trivial ?_ rfl
  simp only [Tryz.ntmps74, List.size_toArray, List.length_cons, List.length_nil, Nat.reduceAdd, Nat.reduceSub, Array.replicate_succ, Array.replicate_zero, List.push_toArray, List.append_toArray, List.nil_append, List.cons_append]
  gi_wp2
  refine wpIn_wide.2 ?_
  refine wp_region_facts (FL [isV (.pointer pv), isI W.heap.size R, isV (.pointer pv), isI W.heap.size C, isI W.heap.size R, isI W.heap.size C]) 31 (by kernel_rfl) (by kernel_rfl) (by kernel_rfl) rfl (FL_stable _ (by repeat (first | exact trivial | refine ⟨stable_isV _, ?_⟩ | refine ⟨stable_isI _ _, ?_⟩))) ?_ ?_
  · refine ⟨?_, ?_, ?_, ?_, ?_, ?_, trivial⟩
    · intro a w h
      have e1 : a.eval (.tmp 1) = .pointer (some ⟨Bc, 0, none⟩) := h.old 1 (by kernel_rfl)
      have hbel := h.below
      clear h
      have c0 := (HV0.out w hbel).1
      refine gives_by rfl a.eval rfl ?_
      generalize a.eval = ρ at *
      intro hf hc
      go_simp
      exact ⟨Below.refl _ _, rfl⟩
    · intro a w h
      obtain ⟨v9, e9, f9⟩ := h.val 0 9 (by kernel_rfl)
      obtain rfl : v9 = .pointer pv := f9
      have hbel := h.below
      clear h
      have c0 := (HV0.out w hbel).1
      refine gives_by rfl a.eval rfl ?_
      generalize a.eval = ρ at *
      intro hf hc
      go_simp
      refine (HV0.out w hbel).2.1.mono ?_
      rintro e wy ⟨v, rfl, hi, hb⟩
      exact ⟨_, rfl, hb, hi.base hbel.size⟩
    · intro a w h
      have e1 : a.eval (.tmp 1) = .pointer (some ⟨Bc, 0, none⟩) := h.old 1 (by kernel_rfl)
      have hbel := h.below
      clear h
      have c0 := (HV0.out w hbel).1
      refine gives_by rfl a.eval rfl ?_
      generalize a.eval = ρ at *
      intro hf hc
      go_simp
      exact ⟨Below.refl _ _, rfl⟩
    · intro a w h
      obtain ⟨v11, e11, f11⟩ := h.val 2 11 (by kernel_rfl)
      obtain rfl : v11 = .pointer pv := f11
      have hbel := h.below
      clear h
      have c0 := (HV0.out w hbel).1
      refine gives_by rfl a.eval rfl ?_
      generalize a.eval = ρ at *
      intro hf hc
      go_simp
      refine (HV0.out w hbel).2.2.mono ?_
      rintro e wy ⟨v, rfl, hi, hb⟩
      exact ⟨_, rfl, hb, hi.base hbel.size⟩
    · intro a w h
      obtain ⟨v10, e10, f10⟩ := h.val 1 10 (by kernel_rfl)
      obtain _ := f10
      have hbel := h.below
      clear h
      have c0 := (HV0.out w hbel).1
      refine gives_by rfl a.eval rfl ?_
      generalize a.eval = ρ at *
      intro hf hc
      go_simp
      exact ⟨Below.refl _ _, f10⟩
    · intro a w h
      obtain ⟨v12, e12, f12⟩ := h.val 3 12 (by kernel_rfl)
      obtain _ := f12
      have hbel := h.below
      clear h
      have c0 := (HV0.out w hbel).1
      refine gives_by rfl a.eval rfl ?_
      generalize a.eval = ρ at *
      intro hf hc
      go_simp
      exact ⟨Below.refl _ _, f12⟩
  · intro vals W1 hb1 hv
    have hv4 : isI W.heap.size R (vals 4) W1 := hv 4 3 (by kernel_rfl)
    have hv5 : isI W.heap.size C (vals 5) W1 := hv 5 4 (by kernel_rfl)
    clear hv
    generalize hact : putAll _ vals 0 _ = act
    obtain ⟨ao, cap, hq4⟩ := Ints.shape hv4
    obtain ⟨aoc, capc, hq5⟩ := Ints.shape hv5
    rw [hq4] at hv4
    rw [hq5] at hv5
    have HI := hide hv4
    have HIC := hide hv5
    have HJ1 := hide (HJ.out Y 0 W W1 H0.out hb1)
    have HB1 := hide hb1
    have hcap : R.length ≤ cap ∧ cap ≤ 9223372036854775807 := by
      have := own_len hv4
      unfold maxLen at this
      exact this
    obtain ⟨hcap1, hcap2⟩ := hcap
    clear hv4 hv5 hb1 HV0 H0
    subst hact
    simp only [putAll, Act.put, List.setIfInBounds_toArray, List.set_cons_zero, List.set_cons_succ, hq4, hq5, Nat.zero_add, Nat.reduceAdd]
    clear hq4 hq5
    gi_wp2
    gi_loopw [6, 7, 8, 15] (fun pp nn ii i wr => ∃ (j : Nat) (Z : Nat → Prop), j ≤ R.length ∧ i = .int .i64 j ∧ J Z j wr ∧ Ints wr W.heap.size (.slice ao R.length cap) R ∧ Ints wr W.heap.size (.slice aoc C.length capc) C ∧ (∀ q, (Value.slice ao R.length cap).ownBlock = some q ∨ (Value.slice aoc C.length capc).ownBlock = some q → Z q)) (fun _ _ _ i _ => R.length - (intOf i).toNat)
    case atStart =>
      refine ⟨0, _, Nat.zero_le _, rfl, HJ1.out, HI.out, HIC.out, fun q hq => .inr ?_⟩
      rcases hq with hq | hq
      · exact HI.out.lt q hq
      · exact HIC.out.lt q hq
    case round =>
      obtain ⟨j, Z, hj, rfl, hjz, hi, hic, hz⟩ := hrel
      have HJZ := hide hjz
      have HI2 := hide hi
      have HIC2 := hide hic
      have HZ := hide hz
      clear hjz hi hic hz HI HIC HJ1 HB1
      by_cases hjl : j < R.length
      · have hji : (j : Int) < (R.length : Int) := by omega
        obtain ⟨x, hx⟩ : ∃ x, R[j] = x := ⟨_, rfl⟩
        obtain ⟨g, rfl, hcell⟩ : ∃ g, ao = some ⟨g, 0, none⟩ ∧ wr.cell? ⟨g, j, none⟩ = some (.int .i64 x) := by
          rcases HI2.out.form with ⟨e, e2⟩ | ⟨g, cap', sp, e, _, _, _, hBR, _⟩
          · rw [e2] at hjl; simp at hjl
          · simp only [Value.slice.injEq] at e
            refine ⟨g, e.1, ?_⟩
            have := iv_cell hBR j hjl
            rw [Nat.zero_add, getD_lt R hjl, hx] at this
            exact this
        have HS := hide (search_any wr W.heap.size _ C x HIC2.out HC.out (by omega))
        have HXX := hide hx
        clear hx
        obtain ⟨q, hq⟩ : ∃ q, C.contains x = q := ⟨_, rfl⟩
        rw [hq] at HS
        have HQ := hide hq
        clear hq
        have HSY : Hid (∀ W2 dr, W2 = wr.drewN dr → ∃ fn tmps assign body, (Instr.yield l #[.int .i64 x, .bool q]).run Tryz.prog W2 = .ok (.round l fn tmps assign body) W2 ∧ Hid (RoundIn Fence.wide 1 Tryz.prog l fn tmps assign body W2 fun e W' => (e = .returned (.bool true) ∧ J (more Z wr W2) (j + 1) W' ∧ KeepsY (more Z wr W2) W2 W') ∨ (e = .returned (.bool false) ∧ Jx (more Z wr W2) (j + 1) W')) ∧ Hid (Ints W2 W.heap.size (.slice (some ⟨g, 0, none⟩) R.length cap) R) ∧ Hid (Ints W2 W.heap.size (.slice aoc C.length capc) C)) := by
          rintro W2 dr rfl
          have hb2 : Below wr.heap.size wr (wr.drewN dr) := ((Only.refl (fun _ => False) wr).drewN dr).below (Nat.le_refl _) (fun _ _ h => h)
          have hy0 := HY.out _ j (by simpa using hjl) _ (HJ.out Z j wr _ HJZ.out hb2)
          have hpx : (pairs R C)[j]'(by simpa using hjl) = (x, q) := by simp only [pairs, List.getElem_map]; rw [HXX.out, HQ.out]
          rw [hpx] at hy0
          obtain ⟨fn, tmps, assign, body, hyy, hRR⟩ := hy0
          exact ⟨fn, tmps, assign, body, hyy, hRR, HI2.out.below hb2, HIC2.out.below hb2⟩
        gi_wp2_with (first
          | (refine ⟨trivial, ?_⟩; gi_at_call 76; refine (callsIn_wide.2 HS.out).mono ?_; rintro e W2 ⟨nn, rfl, dr, hdr⟩; obtain ⟨fn, tmps, assign, body, hyy, HRR, HI3, HIC3⟩ := HSY.out W2 dr hdr; clear HS HSY hdr))
        refine HRR.out.mono ?_
        rintro e W3 (⟨rfl, hJ3, hkY⟩ | ⟨rfl, hJx3⟩)
        · have HJ3 := hide hJ3
          have keepI : ∀ {v : Value} {zs : List Int}, Ints W2 W.heap.size v zs → (∀ q, v.ownBlock = some q → Z q) → Ints W3 W.heap.size v zs := fun {v zs} h hzq => by
            refine ⟨h.1, ?_⟩
            rcases h.2 with h | ⟨g', cap', cur, e, hb, hg, r⟩
            · exact .inl h
            · refine .inr ⟨g', cap', cur, e, hb, (hkY g' (.inl (hzq g' (by rw [e]; rfl)))).trans hg, r⟩
          have HI4 := hide (keepI HI3.out (fun q hq => HZ.out q (.inl hq)))
          have HIC4 := hide (keepI HIC3.out (fun q hq => HZ.out q (.inr hq)))
          clear hJ3 hkY HRR hyy hcell keepI
          gi_wp2
          go_roundw
          case rel => exact ⟨j + 1, _, by omega, by go_num, HJ3.out, HI4.out, HIC4.out, fun q hq => .inl (HZ.out q hq)⟩
          case measure => simp [intOf]; omega
        · have HJ3 := hide hJx3
          clear hJx3 HRR hyy hcell
          gi_wp2
          refine bodyPost_ret (results_none rfl _ _ _) rfl ?_
          exact ⟨⟨_, rfl⟩, _, .inr ⟨j, by simpa using hjl, HJ3.out⟩⟩
      · obtain rfl : j = R.length := by omega
        have HL : Hid ((pairs R C).length = R.length) := by show _ = _; simp
        gi_wp2
        go_end0
        exact ⟨⟨_, rfl⟩, Z, .inl (by rw [HL.out]; exact HJZ.out)⟩

end Go.Proofs.YtoplhehcjgldeaaGreat
/- Contract: pages that are told, at most so many (incipitlaw05.told), over whatever iterator. -/
namespace Go.Proofs.YtoplhehcjgldeaaGreat
open Go.RowKit Go.Shelf Go.Sort
set_option linter.unusedVariables false
set_option maxRecDepth 100000
attribute [local go_sem] Oper.semAt_some

def one2 (x : Int × Bool) : List Value := [.int .i64 x.1, .bool x.2]
def oneRow (xs : List (Int × Bool)) : List Value := (xs.map one2).flatten
theorem oneRow_snoc (xs : List (Int × Bool)) (x : Int × Bool) : oneRow (xs ++ [x]) = oneRow xs ++ one2 x := by simp [oneRow]
theorem infoOne : (Tryz.prog.info? 78).map (fun i => (i.zero, i.size, i.bytes)) = some (some (.agg #[.int .i64 0, .bool false]), 2, 16) := by kernel_rfl
/-- a []one that is owned -/
def Ones (w : World) (base : Nat) (v : Value) (xs : List (Int × Bool)) : Prop := w.ownsRow base 78 2 v xs.length (oneRow xs)
theorem Ones.only {S : Nat → Prop} {w w' : World} {base : Nat} {v : Value} {xs : List (Int × Bool)} (h : Ones w base v xs) (ho : Only S w w') (hn : ∀ k, v.ownBlock = some k → ¬ S k) : Ones w' base v xs := ownsRow_only h ho hn
theorem Ones.shape {w : World} {base : Nat} {v : Value} {xs : List (Int × Bool)} (h : Ones w base v xs) : ∃ ao cap, v = .slice ao xs.length cap := own_form' h
theorem Ones.lt {w : World} {base : Nat} {v : Value} {xs : List (Int × Bool)} (h : Ones w base v xs) (k : Nat) (hk : v.ownBlock = some k) : base ≤ k ∧ k < w.heap.size := World.ownsRow.lt h k hk

theorem run_append_one (w : World) (base : Nat) (v : Value) (xs : List (Int × Bool)) (h : Ones w base v xs) (x : Int × Bool) (hl : xs.length + 1 ≤ 1000000) (hb : base ≤ w.heap.size) :
    ∃ v' w', (Builtin.append_ #[73, 73] 73 #[v, .slice (some ⟨w.heap.size, 0, none⟩) 1 1]).run Tryz.prog (w.alloc (.cells #[.int .i64 x.1, .bool x.2] 78)) = .ok v' w' ∧ Ones w' base v' (xs ++ [x]) ∧ (w.alloc (.cells #[.int .i64 x.1, .bool x.2] 78)).grownBy w' v.ownBlock ∧ (v'.ownBlock = v.ownBlock ∨ v'.ownBlock = some (w.heap.size + 1)) ∧ ∃ ao cap, v' = .slice ao (xs.length + 1) cap := by
  obtain ⟨i0, hi, hz, hs, hby⟩ := info_parts infoOne
  obtain ⟨v', w', hr, h1, h2, _, h4⟩ := run_append_own_at (P := Tryz.prog) (w.alloc (.cells #[.int .i64 x.1, .bool x.2] 78)) base 73 73 78 i0 _ 2 16 Tryz.underlying73 hi hz hs hby rfl (by decide) v xs.length (oneRow xs) (World.ownsRow.alloc h _) ⟨w.heap.size, 0, none⟩ 1 1 (one2 x) rfl
    (fun j u hj => by
      have hB := Blk.new w 78 (one2 x)
      rw [Addr.add_mid, Nat.zero_add]
      exact (hB.cell j).trans hj) (by intro u hu; simp [one2] at hu; rcases hu with rfl | rfl <;> rfl) (by unfold maxLen; omega) (by omega) (by simp; omega)
  refine ⟨v', w', hr, ?_, h2, ?_, ?_⟩
  · unfold Ones
    rw [oneRow_snoc]
    simpa using h1
  · simpa using h4
  · exact own_form' h1

theorem eqlF (gf : Nat) (lb : Array Value) (w : World) : (binOp .eql 81 (.func (.func gf) #[] lb) .nilFunc).run Tryz.prog w = .ok (.bool false) w := by kernel_rfl

structure ToI (w : World) (most : Int) (xs : List (Int × Bool)) (Y : Nat → Prop) (k : Nat) (W : World) : Prop where
  b1 : Blk W w.heap.size 3 [.int .i64 most]
  box : ∃ v, Blk W (w.heap.size + 1) 73 [v] ∧ Ones W w.heap.size v (xs.take k) ∧ ∀ j, v.ownBlock = some j → w.heap.size + 4 ≤ j ∧ ¬ Y j
  below : Below w.heap.size w W
  size : w.heap.size + 4 ≤ W.heap.size
  ys : ∀ j, Y j → w.heap.size + 4 ≤ j ∧ j < W.heap.size

theorem ToI.keep {w : World} {most : Int} {xs : List (Int × Bool)} {Y : Nat → Prop} {k : Nat} {W W' : World} (h : ToI w most xs Y k W) (ho : Only (fun j => j = w.heap.size + 2 ∨ j = w.heap.size + 2 + 1) W W') : ToI w most xs Y k W' := by
  obtain ⟨v, h1, h2, h3⟩ := h.box
  exact ⟨h.b1.only ho (by omega), ⟨v, h1.only ho (by omega), h2.only ho (fun j hj e => by have := (h3 j hj).1; omega), h3⟩, h.below.trans (ho.below h.below.size (fun j hj e => by omega)), Nat.le_trans h.size ho.size, fun j hj => ⟨(h.ys j hj).1, Nat.lt_of_lt_of_le (h.ys j hj).2 ho.size⟩⟩
theorem ToI.grow {w : World} {most : Int} {xs : List (Int × Bool)} {Y : Nat → Prop} {k : Nat} {W W' : World} (h : ToI w most xs Y k W) (hb : Below W.heap.size W W') : ToI w most xs (more Y W W') k W' := by
  obtain ⟨v, h1, h2, h3⟩ := h.box
  have hs := h.size
  have ho := Only.of_below (fun _ => False) hb
  refine ⟨h.b1.only ho (fun h => h), ⟨v, h1.only ho (fun h => h), h2.only ho (fun _ _ h => h), fun j hj => ⟨(h3 j hj).1, fun hy => hy.elim (h3 j hj).2 (fun hy => by have := (h2.lt j hj).2; omega)⟩⟩, h.below.trans (hb.mono h.below.size), Nat.le_trans h.size hb.size, fun j hj => ?_⟩
  rcases hj with hj | hj
  · exact ⟨(h.ys j hj).1, Nat.lt_of_lt_of_le (h.ys j hj).2 hb.size⟩
  · exact ⟨by omega, hj.2⟩

set_option maxHeartbeats 2000000 in
theorem told_any (w : World) (gf : Nat) (lb : Array Value) (xs : List (Int × Bool)) (V : Nat → World → Prop) (eg : ∀ args w, (callFunc gf args).run Tryz.prog w = .ok (.enter gf args) w) (hit : Iter Tryz.prog gf lb enc2 xs V) (hV : ∀ k W', Only (fun _ => False) w W' → V k W') (hl : xs.length ≤ 100000) (M : Nat) (hM : M ≤ 2000000) :
    Calls Tryz.prog 42 #[.func (.func gf) #[] lb, .int .i64 M] w fun e w' => ∃ v, e = .returned v ∧ Ones w' w.heap.size v (xs.take M) ∧ Below w.heap.size w w' := by
  have hfe := eqlF gf lb
  refine (callsIn_wide (n := 3)).1 ?_
  refine callsIn_of_wp_marks Tryz.func42 rfl trivial ?_ rfl
  simp only [Tryz.ntmps42, List.size_toArray, List.length_cons, List.length_nil, Nat.reduceAdd, Nat.reduceSub, Array.replicate_succ, Array.replicate_zero, List.push_toArray, List.append_toArray, List.nil_append, List.cons_append]
  gi_wp2
  obtain ⟨w2, hw2⟩ : ∃ w2, (w.alloc (.cells #[.int .i64 M] 3)).alloc (.cells #[.slice none 0 0] 73) = w2 := ⟨_, rfl⟩
  have hs2 : w2.heap.size = w.heap.size + 2 := by rw [← hw2]; simp
  have hA : Blk w2 w.heap.size 3 [.int .i64 M] := by rw [← hw2]; exact (Blk.new w _ _).alloc _
  have hB : Blk w2 (w.heap.size + 1) 73 [.slice none 0 0] := by
    rw [← hw2]
    have := Blk.new (w.alloc (.cells #[.int .i64 M] 3)) 73 [.slice none 0 0]
    rw [World.size_alloc] at this
    exact this
  have hb2 : Below w.heap.size w w2 := by rw [← hw2]; exact ((Below.refl _ w).alloc (Nat.le_refl _) _).alloc (by simp) _
  rw [hw2]
  clear hfe
  refine wp_range5 (gf := gf) (lb := lb) (xs := xs) (encs := enc2) (V := V) rfl eg hit (fun _ => rfl) (fun Y k W => k ≤ M ∧ ToI w M xs Y k W) (fun cc k W => cc = .exit 0 ∧ ToI w M xs (fun _ => False) M W) ?_ ?_ ?_ ?_ ?_
    (fun x => { tmps := #[.func (.func gf) #[] lb, .int .i64 M, undef, .pointer (some ⟨w.heap.size, 0, none⟩), .slice none 0 0, .pointer (some ⟨w.heap.size + 1, 0, none⟩), .int .i64 x.1, .bool x.2, .func (.func gf) #[] lb, .bool false, .func (.func gf) #[] lb, .int .i64 x.1, .bool x.2, undef, undef, undef, undef, undef, undef, undef, undef, undef, undef, undef], defers := [] }) ?assign ?body ?done ?stop
  · rintro Y k W W' ⟨h0, h⟩ ho
    exact ⟨h0, h.keep (by rw [hs2] at ho; exact ho)⟩
  · rintro Y k W W' ⟨h0, h⟩ hb
    exact ⟨h0, h.grow hb⟩
  · rintro cc k W W' ⟨rfl, h⟩ ho
    exact ⟨rfl, h.keep (by rw [hs2] at ho; exact ho)⟩
  · rintro Y k W ⟨h0, h⟩
    exact hV k W (Only.of_below _ h.below)
  · intro W1 ho hs
    refine ⟨Nat.zero_le _, hA.only ho (fun h => h), ⟨_, hB.only ho (fun h => h), ?_, (fun j hj => by cases hj)⟩, hb2.trans ((ho.below (Nat.le_refl _) (fun _ _ h => h)).mono (by omega)), by omega, (fun _ h => h.elim)⟩
    rw [List.take_zero]
    exact World.ownsRow_nil _ _ _ _
  case assign =>
    intro l k hk W K hK
    gi_wp2
    exact hK
  case body =>
    rintro l Y k hk W ⟨h0, h⟩
    have HYS := hide h.ys
    obtain ⟨x, hx⟩ : ∃ x, xs[k] = x := ⟨_, rfl⟩
    rw [hx]
    obtain ⟨hb1, ⟨v, h1, h2, h3⟩, h4, h5, _⟩ := h
    have cM : W.cell? ⟨w.heap.size, 0, none⟩ = some (.int .i64 M) := hb1.cell 0
    have c0 : W.cell? ⟨w.heap.size + 1, 0, none⟩ = some v := h1.cell 0
    have f0 := h1.frozen 0
    obtain ⟨v2, w3, hr, hi2, hg2, hv2, ao2, cap2, rfl⟩ := run_append_one W w.heap.size v _ h2 x (by simp; omega) (by omega)
    have hB2 : Blk w3 (w.heap.size + 1) 73 [v] := (hg2.block _ (by simp; omega) (fun e => by have := (h3 _ e.symm).1; omega)).trans (h1.alloc _)
    have c2 : w3.cell? ⟨w.heap.size + 1, 0, none⟩ = some v := hB2.cell 0
    have f2 := hB2.frozen 0
    obtain ⟨ao1, cap1, hv1⟩ := h2.shape
    have HO2 := hide h2
    have HW1 := hide h1
    have HR := hide hr
    have HI2 := hide hi2
    have HG2 := hide hg2
    have HV2 := hide hv2
    have HB2 := hide hB2
    have H1 := hide hb1
    have H3 := hide h3
    have H4 := hide h4
    have HX := hide hx
    have hn1 : (xs.take k).length = k := by simp; omega
    rw [hn1] at hv1 HR HI2 HV2
    subst hv1
    obtain ⟨p, q⟩ := x
    clear hr hi2 hg2 hv2 hB2 h1 h2 h3 h4 hx hb1 hn1
    by_cases hkM : k < M
    · have hkMi : ¬ (M : Int) ≤ (k : Int) := by omega
      gi_wp2_with (first
        | (gi_at_builtin; (with_reducible refine wpListIn_append_run _ rfl (.tmp 17) (.tmp 21) 73 rfl _ _ ?_ ?_ _ _ HR.out ?_); exact rfl; exact rfl; clear HR))
      have hoA : Only (fun j => (Value.slice ao1 k cap1).ownBlock = some j) W w3 := ((Only.refl _ W).alloc _).grown HG2.out (fun j e _ => e)
      have hoB : Only (· = w.heap.size + 1) w3 (w3.setCell ⟨w.heap.size + 1, 0, none⟩ (.slice ao2 (k + 1) cap2)) := (Only.refl (· = w.heap.size + 1) w3).setCell ⟨w.heap.size + 1, 0, none⟩ _ (fun _ => rfl)
      have hv3 : ∀ j, (Value.slice ao2 (k + 1) cap2).ownBlock = some j → w.heap.size + 4 ≤ j ∧ ¬ Y j := fun j hj => by
        rcases HV2.out with e | e
        · exact H3.out j (e ▸ hj)
        · rw [e] at hj
          have := Option.some.inj hj
          exact ⟨by omega, fun hy => by have := (HYS.out j hy).2; omega⟩
      refine ⟨?_, ?_, by omega, (H1.out.only hoA (fun e => by have := (H3.out _ e).1; omega)).only hoB (by omega), ⟨_, HB2.out.set 0 _, ?_, hv3⟩, ?_, ?_, ?_⟩
      · refine (Keeps2.of_only hoA ?_ ?_).trans (Keeps2.of_only hoB (by omega) (by omega))
        · intro e; have := (H3.out _ e).1; omega
        · intro e; have := (H3.out _ e).1; omega
      · intro j hj
        have hjs := HYS.out j hj
        exact (hoB.block j (by have := hoA.size; omega) (by omega)).trans (hoA.block j hjs.2 (fun e => (H3.out j e).2 hj))
      · rw [take_snoc xs k hk, HX.out]
        exact HI2.out.only hoB (fun j hj e => by have := (hv3 j hj).1; omega)
      · refine (H4.out.trans (hoA.below (by omega) (fun j hj e => by have := (H3.out j e).1; omega))).trans (hoB.below (by have := hoA.size; omega) (fun j hj e => by omega))
      · have := hoA.size
        have := hoB.size
        omega
      · intro j hj
        have := hoA.size
        have := hoB.size
        have hjs := HYS.out j hj
        exact ⟨hjs.1, by omega⟩
    · have hkMi : (M : Int) ≤ (k : Int) := by omega
      have hkM' : k = M := by omega
      gi_wp2
      subst hkM'
      exact ⟨Keeps2.refl _ _, rfl, H1.out, ⟨_, HW1.out, HO2.out, fun j hj => ⟨(H3.out j hj).1, fun h => h⟩⟩, H4.out, h5, (fun _ h => h.elim)⟩
  case done =>
    rintro Y W ⟨h0, h⟩ hD
    obtain ⟨hb1, ⟨v, h1, h2, h3⟩, h4, h5, _⟩ := h
    rw [List.take_of_length_le (Nat.le_refl _)] at h2
    have HEX : Hid (xs.take M = xs) := List.take_of_length_le h0
    have c0 : W.cell? ⟨w.heap.size + 1, 0, none⟩ = some v := h1.cell 0
    obtain ⟨ao1, cap1, hv1⟩ := h2.shape
    have H2 := hide h2
    have H3 := hide h3
    have H4 := hide h4
    have HD := hide hD
    generalize hq1 : xs.length = n1 at hv1
    subst hv1
    clear h1 h2 h3 h4 hD hq1
    gi_wp2
    refine ⟨by simp, .inl ⟨_, _, rfl, run_takeDeferred HD.out, ?_⟩⟩
    have hoD : Only (· = w2.heap.size) W (W.putObj w2.heap.size (.deferred none)) := only_put1 W _ _ _ rfl
    exact ⟨_, results_tmp (t := 4) rfl _ _ _, .slice ao1 n1 cap1, rfl, by rw [HEX.out]; exact H2.out.only hoD (fun j hj e => by have := (H3.out j hj).1; omega), H4.out.trans (hoD.below (by omega) (fun j hj e => by omega))⟩
  case stop =>
    rintro cc k W hk ⟨rfl, h⟩ hD
    obtain ⟨hb1, ⟨v, h1, h2, h3⟩, h4, h5, _⟩ := h
    have c0 : W.cell? ⟨w.heap.size + 1, 0, none⟩ = some v := h1.cell 0
    obtain ⟨ao1, cap1, hv1⟩ := h2.shape
    have H2 := hide h2
    have H3 := hide h3
    have H4 := hide h4
    have HD := hide hD
    generalize hq1 : (xs.take M).length = n1 at hv1
    subst hv1
    clear h1 h2 h3 h4 hD hq1
    gi_wp2
    refine ⟨by simp, .inl ⟨_, _, rfl, run_takeDeferred HD.out, ?_⟩⟩
    have hoD : Only (· = w2.heap.size) W (W.putObj w2.heap.size (.deferred none)) := only_put1 W _ _ _ rfl
    exact ⟨_, results_tmp (t := 4) rfl _ _ _, .slice ao1 n1 cap1, rfl, H2.out.only hoD (fun j hj e => by have := (H3.out j hj).1; omega), H4.out.trans (hoD.below (by omega) (fun j hj e => by omega))⟩

end Go.Proofs.YtoplhehcjgldeaaGreat
