/- Contracts: slices.BinarySearch; All, as an iterator. -/
import Derived.Test.YtoplhehcjgldeaaCUn
import Derived.Test.YtoplhehcjgldeaaRegion
import Derived.Shelf.Slices.SearchI
import Derived.Shelf.Slices.Empties
namespace Go.Proofs.Ytoplhehcjgldeaa
open Go.RowKit Go.Shelf Go.Sort
set_option linter.unusedVariables false
set_option maxRecDepth 100000
attribute [local go_sem] Oper.semAt_some

theorem search_any (w : World) (base : Nat) (v : Value) (zs : List Int) (x : Int) (h : Ints w base v zs) (hs : zs.Pairwise (· ≤ ·)) (hl : zs.length ≤ 100000) : Calls Try.prog 50 #[v, .int .i64 x] w fun e w' => ∃ n : Int, e = .returned (.tuple #[.int .i64 n, .bool (zs.contains x)]) ∧ ∃ q, w' = w.drewN q := by
  rcases h.form with ⟨rfl, rfl⟩ | ⟨g, cap, sp, rfl, _, hc, hm, hB, _⟩
  · refine (Any.slices_BinarySearch_int_empty laySearch none 0 x w).mono ?_
    rintro e w' ⟨rfl, rfl⟩
    exact ⟨_, rfl, 0, rfl⟩
  · refine (Any.slices_BinarySearch_int laySearch g 0 zs.length cap zs x w (Nat.le_refl _) (by omega) (fun j hj => iv_cell hB j hj) (by rw [List.take_length]; exact hs)).mono ?_
    rintro e w' ⟨rfl, q, rfl⟩
    rw [List.take_length]
    exact ⟨_, rfl, q, rfl⟩

theorem all_any (w : World) (p : Option Addr) : Calls Try.prog 26 #[.pointer p] w fun e w' => e = .returned (.func (.func 48) #[] #[.pointer (some ⟨w.heap.size, 0, none⟩)]) ∧ w' = w.alloc (.cells #[.pointer p] 27) := by
  go_enter Try.func26, Try.ntmps26
  go_wp2
  go_ret
  exact ⟨rfl, rfl⟩
theorem enters_all : ∀ args w, (callFunc 48 args).run Try.prog w = .ok (.enter 48 args) w := enters_of Try.func48 (by kernel_rfl) rfl

abbrev enc2 : Int × Bool → Array Value := fun x => #[.int .i64 x.1, .bool x.2]
abbrev pairs (R C : List Int) : List (Int × Bool) := R.map (fun p => (p, C.contains p))
/-- what the iterator over the pages reads: at its beginning alone -/
def AllV (Bc : Nat) (pv : Option Addr) (R C : List Int) (k : Nat) (W : World) : Prop := k = 0 → ∀ W', Below W.heap.size W W' → W'.cell? ⟨Bc, 0, none⟩ = some (.pointer pv) ∧
  (Calls Try.prog 49 #[.pointer pv] W' fun e w' => ∃ v, e = .returned v ∧ Ints w' W'.heap.size v R ∧ Below W'.heap.size W' w') ∧
  (Calls Try.prog 13 #[.pointer pv] W' fun e w' => ∃ v, e = .returned v ∧ Ints w' W'.heap.size v C ∧ Below W'.heap.size W' w')

def isI (B : Nat) (zs : List Int) : Value → World → Prop := fun v w => Ints w B v zs
theorem stable_isI (B : Nat) (zs : List Int) : ∀ v w w', Below w.heap.size w w' → isI B zs v w → isI B zs v w' := fun v w w' hb h => h.below hb

set_option maxHeartbeats 2000000 in
theorem all_iter (Bc : Nat) (pv : Option Addr) (R C : List Int) (hR : R.length ≤ 1000) (hCl : C.length ≤ 1000) (hC : C.Pairwise (· ≤ ·)) : Iter Try.prog 48 #[.pointer (some ⟨Bc, 0, none⟩)] enc2 (pairs R C) (AllV Bc pv R C) := by
  intro l J Jx hJ hV hY Y W h0
  have HV0 := hide (hV Y 0 W h0 rfl)
  have HJ := hide hJ
  have HY := hide hY
  have H0 := hide h0
  have HC := hide hC
  clear hJ hV hY h0 hC
  refine callsIn_of_wp Try.func48 rfl trivial ?_ rfl
  simp only [Try.ntmps48, List.size_toArray, List.length_cons, List.length_nil, Nat.reduceAdd, Nat.reduceSub, Array.replicate_succ, Array.replicate_zero, List.push_toArray, List.append_toArray, List.nil_append, List.cons_append]
  gi_wp2
  refine wpIn_wide.2 ?_
  refine wp_region_facts (FL [isV (.pointer pv), isI W.heap.size R, isV (.pointer pv), isI W.heap.size C, isI W.heap.size R, isI W.heap.size C]) 31 (by kernel_rfl) (by kernel_rfl) (by kernel_rfl) rfl (FL_stable _ (by repeat (first | exact trivial | refine ⟨stable_isV _, ?_⟩ | refine ⟨stable_isI _ _, ?_⟩))) ?_ ?_
  · refine ⟨?_, ?_, ?_, ?_, ?_, ?_, trivial⟩
    · intro a w h
      have e1 : a.eval (.tmp 1) = .pointer (some ⟨Bc, 0, none⟩) := h.old 1 (by kernel_rfl)
      have hbel := h.below
      clear h
      have c0 := (HV0.out w hbel).1
      refine gives_by rfl a.eval rfl ?_
      generalize a.eval = ρ at *
      intro hf hc
      go_simp
      exact ⟨Below.refl _ _, rfl⟩
    · intro a w h
      obtain ⟨v9, e9, f9⟩ := h.val 0 9 (by kernel_rfl)
      obtain rfl : v9 = .pointer pv := f9
      have hbel := h.below
      clear h
      have c0 := (HV0.out w hbel).1
      refine gives_by rfl a.eval rfl ?_
      generalize a.eval = ρ at *
      intro hf hc
      go_simp
      refine (HV0.out w hbel).2.1.mono ?_
      rintro e wy ⟨v, rfl, hi, hb⟩
      exact ⟨_, rfl, hb, hi.base hbel.size⟩
    · intro a w h
      have e1 : a.eval (.tmp 1) = .pointer (some ⟨Bc, 0, none⟩) := h.old 1 (by kernel_rfl)
      have hbel := h.below
      clear h
      have c0 := (HV0.out w hbel).1
      refine gives_by rfl a.eval rfl ?_
      generalize a.eval = ρ at *
      intro hf hc
      go_simp
      exact ⟨Below.refl _ _, rfl⟩
    · intro a w h
      obtain ⟨v11, e11, f11⟩ := h.val 2 11 (by kernel_rfl)
      obtain rfl : v11 = .pointer pv := f11
      have hbel := h.below
      clear h
      have c0 := (HV0.out w hbel).1
      refine gives_by rfl a.eval rfl ?_
      generalize a.eval = ρ at *
      intro hf hc
      go_simp
      refine (HV0.out w hbel).2.2.mono ?_
      rintro e wy ⟨v, rfl, hi, hb⟩
      exact ⟨_, rfl, hb, hi.base hbel.size⟩
    · intro a w h
      obtain ⟨v10, e10, f10⟩ := h.val 1 10 (by kernel_rfl)
      obtain _ := f10
      have hbel := h.below
      clear h
      have c0 := (HV0.out w hbel).1
      refine gives_by rfl a.eval rfl ?_
      generalize a.eval = ρ at *
      intro hf hc
      go_simp
      exact ⟨Below.refl _ _, f10⟩
    · intro a w h
      obtain ⟨v12, e12, f12⟩ := h.val 3 12 (by kernel_rfl)
      obtain _ := f12
      have hbel := h.below
      clear h
      have c0 := (HV0.out w hbel).1
      refine gives_by rfl a.eval rfl ?_
      generalize a.eval = ρ at *
      intro hf hc
      go_simp
      exact ⟨Below.refl _ _, f12⟩
  · intro vals W1 hb1 hv
    have hv4 : isI W.heap.size R (vals 4) W1 := hv 4 3 (by kernel_rfl)
    have hv5 : isI W.heap.size C (vals 5) W1 := hv 5 4 (by kernel_rfl)
    clear hv
    generalize hact : putAll _ vals 0 _ = act
    obtain ⟨ao, cap, hq4⟩ := Ints.shape hv4
    obtain ⟨aoc, capc, hq5⟩ := Ints.shape hv5
    rw [hq4] at hv4
    rw [hq5] at hv5
    have HI := hide hv4
    have HIC := hide hv5
    have HJ1 := hide (HJ.out Y 0 W W1 H0.out hb1)
    have HB1 := hide hb1
    have hcap : R.length ≤ cap ∧ cap ≤ 9223372036854775807 := by
      have := own_len hv4
      unfold maxLen at this
      exact this
    obtain ⟨hcap1, hcap2⟩ := hcap
    clear hv4 hv5 hb1 HV0 H0
    subst hact
    simp only [putAll, Act.put, List.setIfInBounds_toArray, List.set_cons_zero, List.set_cons_succ, hq4, hq5, Nat.zero_add, Nat.reduceAdd]
    clear hq4 hq5
    gi_wp2
    gi_loopw [6, 7, 8, 15] (fun pp nn ii i wr => ∃ (j : Nat) (Z : Nat → Prop), j ≤ R.length ∧ i = .int .i64 j ∧ J Z j wr ∧ Ints wr W.heap.size (.slice ao R.length cap) R ∧ Ints wr W.heap.size (.slice aoc C.length capc) C ∧ (∀ q, (Value.slice ao R.length cap).ownBlock = some q ∨ (Value.slice aoc C.length capc).ownBlock = some q → Z q)) (fun _ _ _ i _ => R.length - (intOf i).toNat)
    case atStart =>
      refine ⟨0, _, Nat.zero_le _, rfl, HJ1.out, HI.out, HIC.out, fun q hq => .inr ?_⟩
      rcases hq with hq | hq
      · exact HI.out.lt q hq
      · exact HIC.out.lt q hq
    case round =>
      obtain ⟨j, Z, hj, rfl, hjz, hi, hic, hz⟩ := hrel
      have HJZ := hide hjz
      have HI2 := hide hi
      have HIC2 := hide hic
      have HZ := hide hz
      clear hjz hi hic hz HI HIC HJ1 HB1
      by_cases hjl : j < R.length
      · have hji : (j : Int) < (R.length : Int) := by omega
        obtain ⟨x, hx⟩ : ∃ x, R[j] = x := ⟨_, rfl⟩
        obtain ⟨g, rfl, hcell⟩ : ∃ g, ao = some ⟨g, 0, none⟩ ∧ wr.cell? ⟨g, j, none⟩ = some (.int .i64 x) := by
          rcases HI2.out.form with ⟨e, e2⟩ | ⟨g, cap', sp, e, _, _, _, hBR, _⟩
          · rw [e2] at hjl; simp at hjl
          · simp only [Value.slice.injEq] at e
            refine ⟨g, e.1, ?_⟩
            have := iv_cell hBR j hjl
            rw [Nat.zero_add, getD_lt R hjl, hx] at this
            exact this
        have HS := hide (search_any wr W.heap.size _ C x HIC2.out HC.out (by omega))
        have HXX := hide hx
        clear hx
        obtain ⟨q, hq⟩ : ∃ q, C.contains x = q := ⟨_, rfl⟩
        rw [hq] at HS
        have HQ := hide hq
        clear hq
        have HSY : Hid (∀ W2 dr, W2 = wr.drewN dr → ∃ fn tmps assign body, (Instr.yield l #[.int .i64 x, .bool q]).run Try.prog W2 = .ok (.round l fn tmps assign body) W2 ∧ Hid (RoundIn Fence.wide 1 Try.prog l fn tmps assign body W2 fun e W' => (e = .returned (.bool true) ∧ J (more Z wr W2) (j + 1) W' ∧ KeepsY (more Z wr W2) W2 W') ∨ (e = .returned (.bool false) ∧ Jx (more Z wr W2) (j + 1) W')) ∧ Hid (Ints W2 W.heap.size (.slice (some ⟨g, 0, none⟩) R.length cap) R) ∧ Hid (Ints W2 W.heap.size (.slice aoc C.length capc) C)) := by
          rintro W2 dr rfl
          have hb2 : Below wr.heap.size wr (wr.drewN dr) := ((Only.refl (fun _ => False) wr).drewN dr).below (Nat.le_refl _) (fun _ _ h => h)
          have hy0 := HY.out _ j (by simpa using hjl) _ (HJ.out Z j wr _ HJZ.out hb2)
          have hpx : (pairs R C)[j]'(by simpa using hjl) = (x, q) := by simp only [pairs, List.getElem_map]; rw [HXX.out, HQ.out]
          rw [hpx] at hy0
          obtain ⟨fn, tmps, assign, body, hyy, hRR⟩ := hy0
          exact ⟨fn, tmps, assign, body, hyy, hRR, HI2.out.below hb2, HIC2.out.below hb2⟩
        gi_wp2_with (first
          | (refine ⟨trivial, ?_⟩; gi_at_call 50; refine (callsIn_wide.2 HS.out).mono ?_; rintro e W2 ⟨nn, rfl, dr, hdr⟩; obtain ⟨fn, tmps, assign, body, hyy, HRR, HI3, HIC3⟩ := HSY.out W2 dr hdr; clear HS HSY hdr))
        refine HRR.out.mono ?_
        rintro e W3 (⟨rfl, hJ3, hkY⟩ | ⟨rfl, hJx3⟩)
        · have HJ3 := hide hJ3
          have keepI : ∀ {v : Value} {zs : List Int}, Ints W2 W.heap.size v zs → (∀ q, v.ownBlock = some q → Z q) → Ints W3 W.heap.size v zs := fun {v zs} h hzq => by
            refine ⟨h.1, ?_⟩
            rcases h.2 with h | ⟨g', cap', cur, e, hb, hg, r⟩
            · exact .inl h
            · refine .inr ⟨g', cap', cur, e, hb, (hkY g' (.inl (hzq g' (by rw [e]; rfl)))).trans hg, r⟩
          have HI4 := hide (keepI HI3.out (fun q hq => HZ.out q (.inl hq)))
          have HIC4 := hide (keepI HIC3.out (fun q hq => HZ.out q (.inr hq)))
          clear hJ3 hkY HRR hyy hcell keepI
          gi_wp2
          go_roundw
          case rel => exact ⟨j + 1, _, by omega, by go_num, HJ3.out, HI4.out, HIC4.out, fun q hq => .inl (HZ.out q hq)⟩
          case measure => simp [intOf]; omega
        · have HJ3 := hide hJx3
          clear hJx3 HRR hyy hcell
          gi_wp2
          refine bodyPost_ret (results_none rfl _ _ _) rfl ?_
          exact ⟨⟨_, rfl⟩, _, .inr ⟨j, by simpa using hjl, HJ3.out⟩⟩
      · obtain rfl : j = R.length := by omega
        have HL : Hid ((pairs R C).length = R.length) := by show _ = _; simp
        gi_wp2
        go_end0
        exact ⟨⟨_, rfl⟩, Z, .inl (by rw [HL.out]; exact HJZ.out)⟩

end Go.Proofs.Ytoplhehcjgldeaa
