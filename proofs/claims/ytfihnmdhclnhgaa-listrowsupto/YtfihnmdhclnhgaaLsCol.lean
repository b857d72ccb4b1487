/- Contracts: documents that are told, at most so many (incipitlaw16.told), over whatever iterator; slices.AppendSeq, Collect at uint32. -/
import Derived.Test.YtfihnmdhclnhgaaLsCom
namespace Go.Proofs.Ytfihnmdhclnhgaa
set_option maxRecDepth 20000
open Go.RowKit Go.Shelf
set_option linter.unusedVariables false
set_option linter.unusedSimpArgs false
set_option maxRecDepth 100000
attribute [local go_sem] Oper.semAt_some

theorem wpListIn_append_run {F : Fence} {n : Nat} {P : Program} (w : World) {ops : Array Oper} {rest : List Oper} {o : Oper} {a : Act} {Q : Exit → Act → World → Prop} (hg : o.guard = none) (s x : Operand) (t : TypeId)
    (hop : o.op = .call { callee := .builtin .append, args := #[s, x], argTypes := #[t, t] }) (v y : Value) (hs : a.eval s = v) (hx : a.eval x = y) (v' : Value) (w' : World)
    (hr : (Builtin.append_ #[t, t] o.type #[v, y]).run P w = .ok v' w') (h : wpListIn F n P ops Q rest (a.put o.dst v') w') : wpListIn F n P ops Q (o :: rest) a w := by
  refine wpListIn_plain hg fun K hK' => ?_
  unfold Oper.wpIn
  refine ⟨?_, ?_⟩
  · simp [Oper.about, hop, resolve, Target.leads, Sem.run_pure]
  · rw [Oper.semAt_plain F _ _ (by rw [hop]; intro c hc'; cases hc')]
    simp [execOp, hop, resolve, invoke, builtin, hs, hx, hr, Result.andThen]
    exact hK' _ _ h


theorem eqlF1 (gf : Nat) (lb : Array Value) (w : World) : (binOp .eql 40 (.func (.func gf) #[] lb) .nilFunc).run Try.prog w = .ok (.bool false) w := by kernel_rfl

structure PgI (w : World) (most : Int) (xs : List Int) (Y : Nat → Prop) (k : Nat) (W : World) : Prop where
  b1 : Blk W w.heap.size 3 [.int .i64 most]
  box : ∃ v, Blk W (w.heap.size + 1) 23 [v] ∧ Un W w.heap.size v (xs.take k) ∧ ∀ j, v.ownBlock = some j → w.heap.size + 4 ≤ j ∧ ¬ Y j
  below : Below w.heap.size w W
  size : w.heap.size + 4 ≤ W.heap.size
  ys : ∀ j, Y j → w.heap.size + 4 ≤ j ∧ j < W.heap.size
theorem PgI.keep {w : World} {most : Int} {xs : List Int} {Y : Nat → Prop} {k : Nat} {W W' : World} (h : PgI w most xs Y k W) (ho : Only (fun j => j = w.heap.size + 2 ∨ j = w.heap.size + 2 + 1) W W') : PgI w most xs Y k W' := by
  obtain ⟨v, h1, h2, h3⟩ := h.box
  exact ⟨h.b1.only ho (by omega), ⟨v, h1.only ho (by omega), h2.only ho (fun j hj e => by have := (h3 j hj).1; omega), h3⟩, h.below.trans (ho.below h.below.size (fun j hj e => by omega)), Nat.le_trans h.size ho.size, fun j hj => ⟨(h.ys j hj).1, Nat.lt_of_lt_of_le (h.ys j hj).2 ho.size⟩⟩
theorem PgI.grow {w : World} {most : Int} {xs : List Int} {Y : Nat → Prop} {k : Nat} {W W' : World} (h : PgI w most xs Y k W) (ho : Only Y W W') : PgI w most xs (more Y W W') k W' := by
  obtain ⟨v, h1, h2, h3⟩ := h.box
  have hs := h.size
  have hy := h.ys
  refine ⟨h.b1.only ho (fun e => by have := (hy _ e).1; omega), ⟨v, h1.only ho (fun e => by have := (hy _ e).1; omega), h2.only ho (fun j hj e => (h3 j hj).2 e), fun j hj => ⟨(h3 j hj).1, fun hy => hy.elim (h3 j hj).2 (fun hy => by have := (h2.lt j hj).2; omega)⟩⟩, h.below.trans (ho.below h.below.size (fun j hj e => by have := (hy _ e).1; omega)), Nat.le_trans h.size ho.size, fun j hj => ?_⟩
  rcases hj with hj | hj
  · exact ⟨(hy j hj).1, Nat.lt_of_lt_of_le (hy j hj).2 ho.size⟩
  · exact ⟨by omega, hj.2⟩

set_option maxHeartbeats 2000000 in
theorem toldU_any (w : World) (gf : Nat) (lb : Array Value) (xs : List Int) (V : Nat → World → Prop) (eg : ∀ args w, (callFunc gf args).run Try.prog w = .ok (.enter gf args) w) (hit : Iter2 Try.prog gf lb encU xs V) (hV : ∀ k W', Only (fun _ => False) w W' → V k W') (hl : xs.length ≤ 100000) (M : Nat) (hM : M ≤ 2000000) :
    Calls Try.prog 22 #[.func (.func gf) #[] lb, .int .i64 M] w fun e w' => ∃ v, e = .returned v ∧ Un w' w.heap.size v (xs.take M) ∧ Below w.heap.size w w' := by
  have hfe := eqlF1 gf lb
  refine (callsIn_wide (n := 3)).1 ?_
  refine callsIn_of_wp_marks Try.func22 rfl trivial ?_ rfl
  simp only [Try.ntmps22, List.size_toArray, List.length_cons, List.length_nil, Nat.reduceAdd, Nat.reduceSub, Array.replicate_succ, Array.replicate_zero, List.push_toArray, List.append_toArray, List.nil_append, List.cons_append]
  gi_wp2
  obtain ⟨w2, hw2⟩ : ∃ w2, (w.alloc (.cells #[.int .i64 M] 3)).alloc (.cells #[.slice none 0 0] 23) = w2 := ⟨_, rfl⟩
  have hs2 : w2.heap.size = w.heap.size + 2 := by rw [← hw2]; simp
  have hA : Blk w2 w.heap.size 3 [.int .i64 M] := by rw [← hw2]; exact (Blk.new w _ _).alloc _
  have hB : Blk w2 (w.heap.size + 1) 23 [.slice none 0 0] := by
    rw [← hw2]
    have := Blk.new (w.alloc (.cells #[.int .i64 M] 3)) 23 [.slice none 0 0]
    rw [World.size_alloc] at this
    exact this
  have hb2 : Below w.heap.size w w2 := by rw [← hw2]; exact ((Below.refl _ w).alloc (Nat.le_refl _) _).alloc (by simp) _
  rw [hw2]
  clear hfe
  refine wp_range6 (gf := gf) (lb := lb) (xs := xs) (encs := encU) (V := V) rfl eg hit (fun _ => rfl) (fun Y k W => k ≤ M ∧ PgI w M xs Y k W) (fun Y cc k W => cc = .exit 0 ∧ PgI w M xs Y M W ∧ M ≤ xs.length) ?_ ?_ ?_ ?_ ?_ ?_
    (fun x => { tmps := #[.func (.func gf) #[] lb, .int .i64 M, undef, .pointer (some ⟨w.heap.size, 0, none⟩), .slice none 0 0, .pointer (some ⟨w.heap.size + 1, 0, none⟩), .int .u32 x, .func (.func gf) #[] lb, .bool false, .func (.func gf) #[] lb, .int .u32 x, undef, undef, undef, undef, undef, undef, undef, undef, undef], defers := [] }) ?assign ?body ?done ?stop
  · rintro Y k W W' ⟨h0, h⟩ ho
    exact ⟨h0, h.keep (by rw [hs2] at ho; exact ho)⟩
  · rintro Y k W W' ⟨h0, h⟩ hb
    exact ⟨h0, h.grow hb⟩
  · rintro Y cc k W W' ⟨rfl, h, hm⟩ ho
    exact ⟨rfl, h.keep (by rw [hs2] at ho; exact ho), hm⟩
  · rintro Y cc k W W' ⟨rfl, h, hm⟩ ho
    exact ⟨rfl, h.grow ho, hm⟩
  · rintro Y k W ⟨h0, h⟩
    exact hV k W (Only.of_below _ h.below)
  · intro W1 ho hs
    refine ⟨Nat.zero_le _, hA.only ho (fun h => h), ⟨_, hB.only ho (fun h => h), ?_, (fun j hj => by cases hj)⟩, hb2.trans ((ho.below (Nat.le_refl _) (fun _ _ h => h)).mono (by omega)), by omega, (fun _ h => h.elim)⟩
    rw [List.take_zero]
    exact World.ownsRow_nil _ _ _ _
  case assign =>
    intro l k hk W K hK
    gi_wp2
    exact hK
  case body =>
    rintro l Y k hk W ⟨h0, h⟩
    have HYS := hide h.ys
    obtain ⟨x, hx⟩ : ∃ x, xs[k] = x := ⟨_, rfl⟩
    rw [hx]
    obtain ⟨hb1, ⟨v, h1, h2, h3⟩, h4, h5, _⟩ := h
    have cM : W.cell? ⟨w.heap.size, 0, none⟩ = some (.int .i64 M) := hb1.cell 0
    have c0 : W.cell? ⟨w.heap.size + 1, 0, none⟩ = some v := h1.cell 0
    have f0 := h1.frozen 0
    have hn1 : (xs.take k).length = k := List.length_take_of_le (by omega)
    obtain ⟨v2, w3, hr, hi2, hg2, hv2, ao2, cap2, rfl⟩ := run_append_u W w.heap.size v _ h2 x (by rw [hn1]; omega) (by omega)
    have hB2 : Blk w3 (w.heap.size + 1) 23 [v] := (hg2.block _ (by simp; omega) (fun e => by have := (h3 _ e.symm).1; omega)).trans (h1.alloc _)
    have c2 : w3.cell? ⟨w.heap.size + 1, 0, none⟩ = some v := hB2.cell 0
    have f2 := hB2.frozen 0
    obtain ⟨ao1, cap1, hv1⟩ := h2.shape
    have HO2 := hide h2
    have HW1 := hide h1
    have HR := hide hr
    have HI2 := hide hi2
    have HG2 := hide hg2
    have HV2 := hide hv2
    have HB2 := hide hB2
    have H1 := hide hb1
    have H3 := hide h3
    have H4 := hide h4
    have HX := hide hx
    rw [hn1] at hv1 HR HI2 HV2
    subst hv1
    clear hr hi2 hg2 hv2 hB2 h1 h2 h3 h4 hx hb1 hn1
    by_cases hkM : k < M
    · have hkMi : ¬ (M : Int) ≤ (k : Int) := by omega
      gi_wp2_with (first
        | (gi_at_builtin; (with_reducible refine wpListIn_append_run _ rfl (.tmp 15) (.tmp 17) 23 rfl _ _ ?_ ?_ _ _ HR.out ?_); exact rfl; exact rfl; clear HR))
      have hoA : Only (fun j => (Value.slice ao1 k cap1).ownBlock = some j) W w3 := ((Only.refl _ W).alloc _).grown HG2.out (fun j e _ => e)
      have hoB : Only (· = w.heap.size + 1) w3 (w3.setCell ⟨w.heap.size + 1, 0, none⟩ (.slice ao2 (k + 1) cap2)) := (Only.refl (· = w.heap.size + 1) w3).setCell ⟨w.heap.size + 1, 0, none⟩ _ (fun _ => rfl)
      have hv3 : ∀ j, (Value.slice ao2 (k + 1) cap2).ownBlock = some j → w.heap.size + 4 ≤ j ∧ ¬ Y j := fun j hj => by
        rcases HV2.out with e | e
        · exact H3.out j (e ▸ hj)
        · rw [e] at hj
          have := Option.some.inj hj
          exact ⟨by omega, fun hy => by have := (HYS.out j hy).2; omega⟩
      refine ⟨?_, ?_, by omega, (H1.out.only hoA (fun e => by have := (H3.out _ e).1; omega)).only hoB (by omega), ⟨_, HB2.out.set 0 _, ?_, hv3⟩, ?_, ?_, ?_⟩
      · refine (Keeps2.of_only hoA ?_ ?_).trans (Keeps2.of_only hoB (by omega) (by omega))
        · intro e; have := (H3.out _ e).1; omega
        · intro e; have := (H3.out _ e).1; omega
      · intro j hj
        have hjs := HYS.out j hj
        exact (hoB.block j (by have := hoA.size; omega) (by omega)).trans (hoA.block j hjs.2 (fun e => (H3.out j e).2 hj))
      · rw [take_snoc xs k hk, HX.out]
        exact HI2.out.only hoB (fun j hj e => by have := (hv3 j hj).1; omega)
      · refine (H4.out.trans (hoA.below (by omega) (fun j hj e => by have := (H3.out j e).1; omega))).trans (hoB.below (by have := hoA.size; omega) (fun j hj e => by omega))
      · have := hoA.size
        have := hoB.size
        omega
      · intro j hj
        have := hoA.size
        have := hoB.size
        have hjs := HYS.out j hj
        exact ⟨hjs.1, by omega⟩
    · have hkMi : (M : Int) ≤ (k : Int) := by omega
      have hkM' : k = M := by omega
      gi_wp2
      subst hkM'
      exact ⟨Keeps2.refl _ _, KeepsY.refl _ _, rfl, ⟨H1.out, ⟨_, HW1.out, HO2.out, H3.out⟩, H4.out, h5, HYS.out⟩, by omega⟩
  case done =>
    rintro Y W ⟨h0, h⟩ hD
    obtain ⟨hb1, ⟨v, h1, h2, h3⟩, h4, h5, _⟩ := h
    rw [List.take_of_length_le (Nat.le_refl _)] at h2
    have HEX : Hid (xs.take M = xs) := List.take_of_length_le h0
    have c0 : W.cell? ⟨w.heap.size + 1, 0, none⟩ = some v := h1.cell 0
    obtain ⟨ao1, cap1, hv1⟩ := h2.shape
    have H2 := hide h2
    have H3 := hide h3
    have H4 := hide h4
    have HD := hide hD
    generalize hq1 : xs.length = n1 at hv1
    subst hv1
    clear h1 h2 h3 h4 hD hq1
    gi_wp2
    refine ⟨by simp, .inl ⟨_, _, rfl, run_takeDeferred HD.out, ?_⟩⟩
    have hoD : Only (· = w2.heap.size) W (W.putObj w2.heap.size (.deferred none)) := only_put1 W _ _ _ rfl
    exact ⟨_, results_tmp (t := 4) rfl _ _ _, .slice ao1 n1 cap1, rfl, by rw [HEX.out]; exact H2.out.only hoD (fun j hj e => by have := (H3.out j hj).1; omega), H4.out.trans (hoD.below (by omega) (fun j hj e => by omega))⟩
  case stop =>
    rintro Y cc k W hk ⟨rfl, h, hMx⟩ hD
    obtain ⟨hb1, ⟨v, h1, h2, h3⟩, h4, h5, _⟩ := h
    have c0 : W.cell? ⟨w.heap.size + 1, 0, none⟩ = some v := h1.cell 0
    obtain ⟨ao1, cap1, hv1⟩ := h2.shape
    have H2 := hide h2
    have H3 := hide h3
    have H4 := hide h4
    have HD := hide hD
    generalize hq1 : (xs.take M).length = n1 at hv1
    subst hv1
    clear h1 h2 h3 h4 hD hq1
    gi_wp2
    refine ⟨by simp, .inl ⟨_, _, rfl, run_takeDeferred HD.out, ?_⟩⟩
    have hoD : Only (· = w2.heap.size) W (W.putObj w2.heap.size (.deferred none)) := only_put1 W _ _ _ rfl
    exact ⟨_, results_tmp (t := 4) rfl _ _ _, .slice ao1 n1 cap1, rfl, H2.out.only hoD (fun j hj e => by have := (H3.out j hj).1; omega), H4.out.trans (hoD.below (by omega) (fun j hj e => by omega))⟩

structure ApI (w : World) (xs : List Int) (Y : Nat → Prop) (k : Nat) (W : World) : Prop where
  box : ∃ v, Blk W w.heap.size 23 [v] ∧ Un W w.heap.size v (xs.take k) ∧ ∀ j, v.ownBlock = some j → w.heap.size + 3 ≤ j ∧ ¬ Y j
  below : Below w.heap.size w W
  size : w.heap.size + 3 ≤ W.heap.size
  ys : ∀ j, Y j → w.heap.size + 3 ≤ j ∧ j < W.heap.size

theorem ApI.keep {w : World} {xs : List Int} {Y : Nat → Prop} {k : Nat} {W W' : World} (h : ApI w xs Y k W) (ho : Only (fun j => j = w.heap.size + 1 ∨ j = w.heap.size + 1 + 1) W W') : ApI w xs Y k W' := by
  obtain ⟨v, h1, h2, h3⟩ := h.box
  exact ⟨⟨v, h1.only ho (by omega), h2.only ho (fun j hj e => by have := (h3 j hj).1; omega), h3⟩, h.below.trans (ho.below h.below.size (fun j hj e => by omega)), Nat.le_trans h.size ho.size, fun j hj => ⟨(h.ys j hj).1, Nat.lt_of_lt_of_le (h.ys j hj).2 ho.size⟩⟩
theorem ApI.grow {w : World} {xs : List Int} {Y : Nat → Prop} {k : Nat} {W W' : World} (h : ApI w xs Y k W) (ho : Only Y W W') : ApI w xs (more Y W W') k W' := by
  obtain ⟨v, h1, h2, h3⟩ := h.box
  have hs := h.size
  have hy := h.ys
  refine ⟨⟨v, h1.only ho (fun e => by have := (hy _ e).1; omega), h2.only ho (fun j hj e => (h3 j hj).2 e), fun j hj => ⟨(h3 j hj).1, fun hy => hy.elim (h3 j hj).2 (fun hy => by have := (h2.lt j hj).2; omega)⟩⟩, h.below.trans (ho.below h.below.size (fun j hj e => by have := (hy _ e).1; omega)), Nat.le_trans h.size ho.size, fun j hj => ?_⟩
  rcases hj with hj | hj
  · exact ⟨(hy j hj).1, Nat.lt_of_lt_of_le (hy j hj).2 ho.size⟩
  · exact ⟨by omega, hj.2⟩

set_option maxHeartbeats 1000000 in
theorem appendSeqU_any (w : World) (gf : Nat) (lb : Array Value) (xs : List Int) (V : Nat → World → Prop) (eg : ∀ args w, (callFunc gf args).run Try.prog w = .ok (.enter gf args) w) (hit : Iter2 Try.prog gf lb encU xs V) (hV : ∀ k W', Only (fun _ => False) w W' → V k W') (hl : xs.length ≤ 100000) :
    Calls Try.prog 63 #[.slice none 0 0, .func (.func gf) #[] lb] w fun e w' => ∃ v, e = .returned v ∧ Un w' w.heap.size v xs ∧ Below w.heap.size w w' := by
  refine (callsIn_wide (n := 3)).1 ?_
  refine callsIn_of_wp_marks Try.func63 rfl trivial ?_ rfl
  simp only [Try.ntmps63, List.size_toArray, List.length_cons, List.length_nil, Nat.reduceAdd, Nat.reduceSub, Array.replicate_succ, Array.replicate_zero, List.push_toArray, List.append_toArray, List.nil_append, List.cons_append]
  gi_wp2
  obtain ⟨w1, hw1⟩ : ∃ w1, w.alloc (.cells #[.slice none 0 0] 23) = w1 := ⟨_, rfl⟩
  have hs1 : w1.heap.size = w.heap.size + 1 := by rw [← hw1]; simp
  have hB1 : Blk w1 w.heap.size 23 [.slice none 0 0] := by rw [← hw1]; exact Blk.new w _ _
  have hb1 : Below w.heap.size w w1 := by rw [← hw1]; exact (Below.refl _ w).alloc (Nat.le_refl _) _
  rw [hw1]
  refine wp_range6 (gf := gf) (lb := lb) (xs := xs) (encs := encU) (V := V) rfl eg hit (fun _ => rfl) (ApI w xs) (fun _ _ _ _ => False) ?_ (fun Y k W W' h hb => h.grow hb) (fun _ _ _ _ _ h _ => h) (fun _ _ _ _ _ h _ => h) ?_ ?_
    (fun x => { tmps := #[.slice none 0 0, .func (.func gf) #[] lb, .pointer (some ⟨w.heap.size, 0, none⟩), undef, .slice none 0 0, .int .u32 x, .func (.func gf) #[] lb, .int .u32 x, undef, undef, undef, undef, undef], defers := [] }) ?assign ?body ?done (fun _ _ _ _ _ h _ => h.elim)
  · intro Y k W W' h ho
    exact h.keep (by rw [hs1] at ho; exact ho)
  · intro Y k W h
    exact hV k W (Only.of_below _ h.below)
  · intro W1 ho hs
    refine ⟨⟨_, hB1.only ho (fun h => h), by rw [List.take_zero]; exact Un.nil _ _, (fun j hj => by cases hj)⟩, hb1.trans ((ho.below (Nat.le_refl _) (fun _ _ h => h)).mono (by omega)), by omega, (fun _ h => h.elim)⟩
  case assign =>
    intro l k hk W K hK
    gi_wp2
    exact hK
  case body =>
    intro l Y k hk W h
    have HYS := hide h.ys
    obtain ⟨x, hx⟩ : ∃ x, xs[k] = x := ⟨_, rfl⟩
    rw [hx]
    obtain ⟨⟨v, h1, h2, h3⟩, h4, h5, _⟩ := h
    have c0 : W.cell? ⟨w.heap.size, 0, none⟩ = some v := h1.cell 0
    have f0 := h1.frozen 0
    obtain ⟨v2, w2, hr, hi2, hg2, hv2, ao2, cap2, rfl⟩ := run_append_u W w.heap.size v _ h2 x (by rw [List.length_take_of_le (by omega)]; omega) (by omega)
    have hB2 : Blk w2 w.heap.size 23 [v] := (hg2.block _ (by simp; omega) (fun e => by have := (h3 _ e.symm).1; omega)).trans (h1.alloc _)
    have c2 : w2.cell? ⟨w.heap.size, 0, none⟩ = some v := hB2.cell 0
    have f2 := hB2.frozen 0
    obtain ⟨ao1, cap1, hv1⟩ := h2.shape
    have HR := hide hr
    have HI2 := hide hi2
    have HG2 := hide hg2
    have HV2 := hide hv2
    have HB2 := hide hB2
    have H3 := hide h3
    have H4 := hide h4
    have HX := hide hx
    generalize hq1 : (xs.take k).length = n1 at *
    subst hv1
    clear hr hi2 hg2 hv2 hB2 h1 h2 h3 h4 hx
    gi_wp2_with (first
      | (gi_at_builtin; (with_reducible refine wpListIn_append_run _ rfl (.tmp 8) (.tmp 10) 23 rfl _ _ ?_ ?_ _ _ HR.out ?_); exact rfl; exact rfl; clear HR))
    have hoA : Only (fun j => (Value.slice ao1 n1 cap1).ownBlock = some j) W w2 := ((Only.refl _ W).alloc _).grown HG2.out (fun j e _ => e)
    have hoB : Only (· = w.heap.size) w2 (w2.setCell ⟨w.heap.size, 0, none⟩ (.slice ao2 (n1 + 1) cap2)) := (Only.refl (· = w.heap.size) w2).setCell ⟨w.heap.size, 0, none⟩ _ (fun _ => rfl)
    have hv3 : ∀ j, (Value.slice ao2 (n1 + 1) cap2).ownBlock = some j → w.heap.size + 3 ≤ j ∧ ¬ Y j := fun j hj => by
      rcases HV2.out with e | e
      · exact H3.out j (e ▸ hj)
      · rw [e] at hj
        have := Option.some.inj hj
        exact ⟨by omega, fun hy => by have := (HYS.out j hy).2; omega⟩
    refine ⟨?_, ?_, ⟨⟨_, HB2.out.set 0 _, ?_, hv3⟩, ?_, ?_, ?_⟩⟩
    · rw [hs1]
      refine (Keeps2.of_only hoA ?_ ?_).trans (Keeps2.of_only hoB (by omega) (by omega))
      · intro e; have := (H3.out _ e).1; omega
      · intro e; have := (H3.out _ e).1; omega
    · intro j hj
      have hjs := HYS.out j hj
      exact (hoB.block j (by have := hoA.size; omega) (by omega)).trans (hoA.block j hjs.2 (fun e => (H3.out j e).2 hj))
    · rw [take_snoc xs k hk, HX.out]
      exact HI2.out.only hoB (fun j hj e => by have := (hv3 j hj).1; omega)
    · refine (H4.out.trans (hoA.below (by omega) (fun j hj e => by have := (H3.out j e).1; omega))).trans (hoB.below (by have := hoA.size; omega) (fun j hj e => by omega))
    · have := hoA.size
      have := hoB.size
      omega
    · intro j hj
      have := hoA.size
      have := hoB.size
      have hjs := HYS.out j hj
      exact ⟨hjs.1, by omega⟩
  case done =>
    intro Y W h hD
    obtain ⟨⟨v, h1, h2, h3⟩, h4, h5, _⟩ := h
    have c0 : W.cell? ⟨w.heap.size, 0, none⟩ = some v := h1.cell 0
    obtain ⟨ao1, cap1, hv1⟩ := h2.shape
    rw [List.take_of_length_le (Nat.le_refl _)] at h2 hv1
    have H2 := hide h2
    have H3 := hide h3
    have H4 := hide h4
    have HD := hide hD
    generalize hq1 : xs.length = n1 at hv1
    subst hv1
    clear h1 h2 h3 h4 hD hq1
    gi_wp2
    refine ⟨by simp, .inl ⟨_, _, rfl, run_takeDeferred HD.out, ?_⟩⟩
    have hoD : Only (· = w1.heap.size) W (W.putObj w1.heap.size (.deferred none)) := only_put1 W _ _ _ rfl
    exact ⟨_, results_tmp (t := 4) rfl _ _ _, .slice ao1 n1 cap1, rfl, H2.out.only hoD (fun j hj e => by have := (H3.out j hj).1; omega), H4.out.trans (hoD.below (by omega) (fun j hj e => by omega))⟩

theorem collectU_any (w : World) (gf : Nat) (lb : Array Value) (xs : List Int) (V : Nat → World → Prop) (eg : ∀ args w, (callFunc gf args).run Try.prog w = .ok (.enter gf args) w) (hit : Iter2 Try.prog gf lb encU xs V) (hV : ∀ k W', Only (fun _ => False) w W' → V k W') (hl : xs.length ≤ 100000) :
    Calls Try.prog 37 #[.func (.func gf) #[] lb] w fun e w' => ∃ v, e = .returned v ∧ Un w' w.heap.size v xs ∧ Below w.heap.size w w' := by
  have HA := hide (appendSeqU_any w gf lb xs V eg hit hV hl)
  clear hit hV eg
  go_enter Try.func37, Try.ntmps37
  go_wp2_with (go_at_call 63; refine HA.out.mono ?_; rintro e w1 ⟨v1, rfl, hi1, hb1⟩; have HI := hide hi1; have HB := hide hb1; clear HA hi1 hb1)
  go_ret
  exact ⟨_, rfl, HI.out, HB.out⟩

end Go.Proofs.Ytfihnmdhclnhgaa
