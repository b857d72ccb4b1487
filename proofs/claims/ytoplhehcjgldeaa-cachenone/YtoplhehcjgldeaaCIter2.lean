/- slices.AppendSeq, Collect, Sorted at ints, over whatever iterator. -/
import Derived.Test.YtoplhehcjgldeaaCIter
namespace Go.Proofs.Ytoplhehcjgldeaa
open Go.RowKit Go.Shelf Go.Sort
set_option linter.unusedVariables false
set_option maxRecDepth 100000
attribute [local go_sem] Oper.semAt_some

/-- between two rounds of AppendSeq -/
structure ApI (w : World) (xs : List Int) (Y : Nat → Prop) (k : Nat) (W : World) : Prop where
  box : ∃ v, Blk W w.heap.size 38 [v] ∧ Ints W w.heap.size v (xs.take k) ∧ ∀ j, v.ownBlock = some j → w.heap.size + 3 ≤ j ∧ ¬ Y j
  below : Below w.heap.size w W
  size : w.heap.size + 3 ≤ W.heap.size
  ys : ∀ j, Y j → w.heap.size + 3 ≤ j ∧ j < W.heap.size

theorem ApI.keep {w : World} {xs : List Int} {Y : Nat → Prop} {k : Nat} {W W' : World} (h : ApI w xs Y k W) (ho : Only (fun j => j = w.heap.size + 1 ∨ j = w.heap.size + 1 + 1) W W') : ApI w xs Y k W' := by
  obtain ⟨v, h1, h2, h3⟩ := h.box
  exact ⟨⟨v, h1.only ho (by omega), h2.only ho (fun j hj e => by have := (h3 j hj).1; omega), h3⟩, h.below.trans (ho.below h.below.size (fun j hj e => by omega)), Nat.le_trans h.size ho.size, fun j hj => ⟨(h.ys j hj).1, Nat.lt_of_lt_of_le (h.ys j hj).2 ho.size⟩⟩
theorem ApI.grow {w : World} {xs : List Int} {Y : Nat → Prop} {k : Nat} {W W' : World} (h : ApI w xs Y k W) (hb : Below W.heap.size W W') : ApI w xs (more Y W W') k W' := by
  obtain ⟨v, h1, h2, h3⟩ := h.box
  have hs := h.size
  have ho := Only.of_below (fun _ => False) hb
  refine ⟨⟨v, h1.only ho (fun h => h), h2.only ho (fun _ _ h => h), fun j hj => ⟨(h3 j hj).1, fun hy => hy.elim (h3 j hj).2 (fun hy => by have := (h2.lt j hj).2; omega)⟩⟩, h.below.trans (hb.mono h.below.size), Nat.le_trans h.size hb.size, fun j hj => ?_⟩
  rcases hj with hj | hj
  · exact ⟨(h.ys j hj).1, Nat.lt_of_lt_of_le (h.ys j hj).2 hb.size⟩
  · exact ⟨by omega, hj.2⟩

theorem take_snoc {α : Type} (xs : List α) (k : Nat) (hk : k < xs.length) : xs.take (k + 1) = xs.take k ++ [xs[k]] := by rw [List.take_succ_eq_append_getElem hk]

set_option maxHeartbeats 1000000 in
theorem appendSeq_any (w : World) (gf : Nat) (lb : Array Value) (xs : List Int) (V : Nat → World → Prop) (eg : ∀ args w, (callFunc gf args).run Try.prog w = .ok (.enter gf args) w) (hit : Iter Try.prog gf lb enc1 xs V) (hV : ∀ k W', Only (fun _ => False) w W' → V k W') (hl : xs.length ≤ 100000) :
    Calls Try.prog 55 #[.slice none 0 0, .func (.func gf) #[] lb] w fun e w' => ∃ v, e = .returned v ∧ Ints w' w.heap.size v xs ∧ Below w.heap.size w w' := by
  refine (callsIn_wide (n := 3)).1 ?_
  refine callsIn_of_wp_marks Try.func55 rfl trivial ?_ rfl
  simp only [Try.ntmps55, List.size_toArray, List.length_cons, List.length_nil, Nat.reduceAdd, Nat.reduceSub, Array.replicate_succ, Array.replicate_zero, List.push_toArray, List.append_toArray, List.nil_append, List.cons_append]
  gi_wp2
  obtain ⟨w1, hw1⟩ : ∃ w1, w.alloc (.cells #[.slice none 0 0] 38) = w1 := ⟨_, rfl⟩
  have hs1 : w1.heap.size = w.heap.size + 1 := by rw [← hw1]; simp
  have hB1 : Blk w1 w.heap.size 38 [.slice none 0 0] := by rw [← hw1]; exact Blk.new w _ _
  have hb1 : Below w.heap.size w w1 := by rw [← hw1]; exact (Below.refl _ w).alloc (Nat.le_refl _) _
  rw [hw1]
  refine wp_range5 (gf := gf) (lb := lb) (xs := xs) (encs := enc1) (V := V) rfl eg hit (fun _ => rfl) (ApI w xs) (fun _ _ _ => False) ?_ (fun Y k W W' h hb => h.grow hb) (fun _ _ _ _ h _ => h) ?_ ?_
    (fun x => { tmps := #[.slice none 0 0, .func (.func gf) #[] lb, .pointer (some ⟨w.heap.size, 0, none⟩), undef, .slice none 0 0, .int .i64 x, .func (.func gf) #[] lb, .int .i64 x, undef, undef, undef, undef, undef], defers := [] }) ?assign ?body ?done (fun _ _ _ _ h _ => h.elim)
  · intro Y k W W' h ho
    exact h.keep (by rw [hs1] at ho; exact ho)
  · intro Y k W h
    exact hV k W (Only.of_below _ h.below)
  · intro W1 ho hs
    refine ⟨⟨_, hB1.only ho (fun h => h), by rw [List.take_zero]; exact Ints.nil _ _, (fun j hj => by cases hj)⟩, hb1.trans ((ho.below (Nat.le_refl _) (fun _ _ h => h)).mono (by omega)), by omega, (fun _ h => h.elim)⟩
  case assign =>
    intro l k hk W K hK
    gi_wp2
    exact hK
  case body =>
    intro l Y k hk W h
    have HYS := hide h.ys
    obtain ⟨x, hx⟩ : ∃ x, xs[k] = x := ⟨_, rfl⟩
    rw [hx]
    obtain ⟨⟨v, h1, h2, h3⟩, h4, h5, _⟩ := h
    have c0 : W.cell? ⟨w.heap.size, 0, none⟩ = some v := h1.cell 0
    have f0 := h1.frozen 0
    obtain ⟨v2, w2, hr, hi2, hg2, hv2, ao2, cap2, rfl⟩ := run_append_int W w.heap.size v _ h2 x (by simp; omega) (by omega)
    have hB2 : Blk w2 w.heap.size 38 [v] := (hg2.block _ (by simp; omega) (fun e => by have := (h3 _ e.symm).1; omega)).trans (h1.alloc _)
    have c2 : w2.cell? ⟨w.heap.size, 0, none⟩ = some v := hB2.cell 0
    have f2 := hB2.frozen 0
    obtain ⟨ao1, cap1, hv1⟩ := h2.shape
    have HR := hide hr
    have HI2 := hide hi2
    have HG2 := hide hg2
    have HV2 := hide hv2
    have HB2 := hide hB2
    have H3 := hide h3
    have H4 := hide h4
    have HX := hide hx
    generalize hq1 : (xs.take k).length = n1 at *
    subst hv1
    clear hr hi2 hg2 hv2 hB2 h1 h2 h3 h4 hx
    gi_wp2_with (first
      | (gi_at_builtin; (with_reducible refine wpListIn_append_run _ rfl (.tmp 8) (.tmp 10) 38 rfl _ _ ?_ ?_ _ _ HR.out ?_); exact rfl; exact rfl; clear HR))
    have hoA : Only (fun j => (Value.slice ao1 n1 cap1).ownBlock = some j) W w2 := ((Only.refl _ W).alloc _).grown HG2.out (fun j e _ => e)
    have hoB : Only (· = w.heap.size) w2 (w2.setCell ⟨w.heap.size, 0, none⟩ (.slice ao2 (n1 + 1) cap2)) := (Only.refl (· = w.heap.size) w2).setCell ⟨w.heap.size, 0, none⟩ _ (fun _ => rfl)
    have hv3 : ∀ j, (Value.slice ao2 (n1 + 1) cap2).ownBlock = some j → w.heap.size + 3 ≤ j ∧ ¬ Y j := fun j hj => by
      rcases HV2.out with e | e
      · exact H3.out j (e ▸ hj)
      · rw [e] at hj
        have := Option.some.inj hj
        exact ⟨by omega, fun hy => by have := (HYS.out j hy).2; omega⟩
    refine ⟨?_, ?_, ⟨⟨_, HB2.out.set 0 _, ?_, hv3⟩, ?_, ?_, ?_⟩⟩
    · rw [hs1]
      refine (Keeps2.of_only hoA ?_ ?_).trans (Keeps2.of_only hoB (by omega) (by omega))
      · intro e; have := (H3.out _ e).1; omega
      · intro e; have := (H3.out _ e).1; omega
    · intro j hj
      have hjs := HYS.out j hj
      exact (hoB.block j (by have := hoA.size; omega) (by omega)).trans (hoA.block j hjs.2 (fun e => (H3.out j e).2 hj))
    · rw [take_snoc xs k hk, HX.out]
      exact HI2.out.only hoB (fun j hj e => by have := (hv3 j hj).1; omega)
    · refine (H4.out.trans (hoA.below (by omega) (fun j hj e => by have := (H3.out j e).1; omega))).trans (hoB.below (by have := hoA.size; omega) (fun j hj e => by omega))
    · have := hoA.size
      have := hoB.size
      omega
    · intro j hj
      have := hoA.size
      have := hoB.size
      have hjs := HYS.out j hj
      exact ⟨hjs.1, by omega⟩
  case done =>
    intro Y W h hD
    obtain ⟨⟨v, h1, h2, h3⟩, h4, h5, _⟩ := h
    have c0 : W.cell? ⟨w.heap.size, 0, none⟩ = some v := h1.cell 0
    obtain ⟨ao1, cap1, hv1⟩ := h2.shape
    rw [List.take_of_length_le (Nat.le_refl _)] at h2 hv1
    have H2 := hide h2
    have H3 := hide h3
    have H4 := hide h4
    have HD := hide hD
    generalize hq1 : xs.length = n1 at hv1
    subst hv1
    clear h1 h2 h3 h4 hD hq1
    gi_wp2
    refine ⟨by simp, .inl ⟨_, _, rfl, run_takeDeferred HD.out, ?_⟩⟩
    have hoD : Only (· = w1.heap.size) W (W.putObj w1.heap.size (.deferred none)) := only_put1 W _ _ _ rfl
    exact ⟨_, results_tmp (t := 4) rfl _ _ _, .slice ao1 n1 cap1, rfl, H2.out.only hoD (fun j hj e => by have := (H3.out j hj).1; omega), H4.out.trans (hoD.below (by omega) (fun j hj e => by omega))⟩

theorem collect_any (w : World) (gf : Nat) (lb : Array Value) (xs : List Int) (V : Nat → World → Prop) (eg : ∀ args w, (callFunc gf args).run Try.prog w = .ok (.enter gf args) w) (hit : Iter Try.prog gf lb enc1 xs V) (hV : ∀ k W', Only (fun _ => False) w W' → V k W') (hl : xs.length ≤ 100000) :
    Calls Try.prog 37 #[.func (.func gf) #[] lb] w fun e w' => ∃ v, e = .returned v ∧ Ints w' w.heap.size v xs ∧ Below w.heap.size w w' := by
  have HA := hide (appendSeq_any w gf lb xs V eg hit hV hl)
  clear hit hV eg
  go_enter Try.func37, Try.ntmps37
  go_wp2_with (go_at_call 55; refine HA.out.mono ?_; rintro e w1 ⟨v1, rfl, hi1, hb1⟩; have HI := hide hi1; have HB := hide hb1; clear HA hi1 hb1)
  go_ret
  exact ⟨_, rfl, HI.out, HB.out⟩

theorem len64_0 (w : World) : Calls Try.prog 77 #[.int .u64 0] w fun e w' => e = .returned (.int .i64 0) ∧ w' = w := by
  go_enter Try.func77, Try.ntmps77
  go_wp2
  go_ret
  exact ⟨ret_int (by decide +kernel), rfl⟩
theorem len_0 (w : World) : Calls Try.prog 67 #[.int .u64 0] w fun e w' => e = .returned (.int .i64 0) ∧ w' = w := by
  go_enter Try.func67, Try.ntmps67
  go_wp2_with (go_at_call 77; refine (len64_0 _).mono ?_; rintro e w1 ⟨rfl, hw⟩; subst w1)
  go_ret
  exact ⟨rfl, rfl⟩
theorem insertion_0 (w : World) : Calls Try.prog 68 #[.slice none 0 0, .int .i64 0, .int .i64 0] w fun e w' => e = .returned (.tuple #[]) ∧ w' = w := by
  go_enter Try.func68, Try.ntmps68
  go_wp2
  go_loopg [6, 7] 0 (fun g i j wr => i = .int .i64 1 ∧ wr = w)
  case atStart => exact ⟨rfl, rfl⟩
  case round =>
    obtain ⟨rfl, rfl⟩ := hrel
    go_wp2
    go_end0
    exact ⟨rfl, rfl⟩
theorem pdq_0 (w : World) : Calls Try.prog 66 #[.slice none 0 0, .int .i64 0, .int .i64 0, .int .i64 0] w fun e w' => e = .returned (.tuple #[]) ∧ w' = w := by
  go_enter Try.func66, Try.ntmps66
  go_wp2
  refine wp_loop_rounds 1 ?_
  rw [rounds_succ]
  go_wp2_with (go_at_call 68; refine (insertion_0 _).mono ?_; rintro e w1 ⟨rfl, hw⟩; subst w1)
  (try simp only [Exit.inBlock, Exit.then]); refine bodyPost_ret (results_none rfl _ _ _) rfl ?_
  exact ⟨rfl, rfl⟩
theorem sort_0 (w : World) : Calls Try.prog 63 #[.slice none 0 0] w fun e w' => e = .returned (.tuple #[]) ∧ w' = w := by
  go_enter Try.func63, Try.ntmps63
  go_wp2_with (first
    | (go_at_call 67; refine (len_0 _).mono ?_; rintro e w1 ⟨rfl, hw⟩; subst w1)
    | (go_at_call 66; refine (pdq_0 _).mono ?_; rintro e w1 ⟨rfl, hw⟩; subst w1))
  go_end0
  exact ⟨rfl, rfl⟩

theorem sort_any (w : World) (base : Nat) (v : Value) (zs : List Int) (h : Ints w base v zs) (hl : zs.length ≤ 100000) :
    Calls Try.prog 63 #[v] w fun e w' => e = .returned (.tuple #[]) ∧ Ints w' base v (zs.mergeSort fun x y => decide (x ≤ y)) ∧ Only (fun k => v.ownBlock = some k) w w' := by
  rcases h.form with ⟨rfl, rfl⟩ | ⟨g, cap, sp, rfl, hb, hc, hm, hB, hs⟩
  · refine (sort_0 w).mono ?_
    rintro e w' ⟨rfl, rfl⟩
    exact ⟨rfl, by simpa using Ints.nil w' base, Only.refl _ _⟩
  · refine (Any.slices_Sort_int laySort g 0 cap zs w (iv_holds hB) hB.lt (by omega)).mono ?_
    rintro e w' ⟨rfl, q, os, rfl⟩
    refine ⟨rfl, ?_, (Only.refl _ w).grown (grownBy_sortedI _) (fun k e _ => by cases e; rfl)⟩
    unfold Ints
    rw [List.length_mergeSort]
    have h1 : w.heap[g]? = some (.cells (iv zs ++ sp).toArray 3 (0, 0)) := hB
    exact ownsRow_sortedI (by simp) hb h1 hc hm (by simp; omega)

theorem sorted_any (w : World) (gf : Nat) (lb : Array Value) (xs : List Int) (V : Nat → World → Prop) (eg : ∀ args w, (callFunc gf args).run Try.prog w = .ok (.enter gf args) w) (hit : Iter Try.prog gf lb enc1 xs V) (hV : ∀ k W', Only (fun _ => False) w W' → V k W') (hl : xs.length ≤ 100000) :
    Calls Try.prog 57 #[.func (.func gf) #[] lb] w fun e w' => ∃ v, e = .returned v ∧ Ints w' w.heap.size v (xs.mergeSort fun x y => decide (x ≤ y)) ∧ Below w.heap.size w w' := by
  have HC := hide (collect_any w gf lb xs V eg hit hV hl)
  clear hit hV eg
  go_enter Try.func57, Try.ntmps57
  go_wp2_with (first
    | (go_at_call 37; refine HC.out.mono ?_; rintro e w1 ⟨v1, rfl, hi1, hb1⟩; have HI := hide hi1; have HB := hide hb1; clear HC hi1 hb1)
    | (go_at_call 63; refine (sort_any w1 w.heap.size v1 xs HI.out hl).mono ?_; rintro e w2 ⟨rfl, hi2, ho2⟩; have HI2 := hide hi2; have HO2 := hide ho2; clear hi2 ho2))
  go_ret
  exact ⟨_, rfl, HI2.out, HB.out.trans (HO2.out.below HB.out.size (fun k hk e => by have := (HI.out.lt k e).1; omega))⟩

end Go.Proofs.Ytoplhehcjgldeaa
