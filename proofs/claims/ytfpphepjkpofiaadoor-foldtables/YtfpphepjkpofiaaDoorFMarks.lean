/- Contract: runes that are told, at most so many (incipitlaw13.marks), over whatever iterator. -/
import Derived.Test.YtfpphepjkpofiaaDoorFCount
import Derived.Maps.AppendAt
namespace Go.Proofs.YtfpphepjkpofiaaDoor
set_option maxRecDepth 20000
open Go.RowKit Go.Shelf
set_option linter.unusedVariables false
set_option maxRecDepth 100000
attribute [local go_sem] Oper.semAt_some

theorem wpListIn_append_run {F : Fence} {n : Nat} {P : Program} (w : World) {ops : Array Oper} {rest : List Oper} {o : Oper} {a : Act} {Q : Exit → Act → World → Prop} (hg : o.guard = none) (s x : Operand) (t : TypeId)
    (hop : o.op = .call { callee := .builtin .append, args := #[s, x], argTypes := #[t, t] }) (v y : Value) (hs : a.eval s = v) (hx : a.eval x = y) (v' : Value) (w' : World)
    (hr : (Builtin.append_ #[t, t] o.type #[v, y]).run P w = .ok v' w') (h : wpListIn F n P ops Q rest (a.put o.dst v') w') : wpListIn F n P ops Q (o :: rest) a w := by
  refine wpListIn_plain hg fun K hK' => ?_
  unfold Oper.wpIn
  refine ⟨?_, ?_⟩
  · simp [Oper.about, hop, resolve, Target.leads, Sem.run_pure]
  · rw [Oper.semAt_plain F _ _ (by rw [hop]; intro c hc'; cases hc')]
    simp [execOp, hop, resolve, invoke, builtin, hs, hx, hr, Result.andThen]
    exact hK' _ _ h
def mark2 (x : Nat × Nat) : List Value := [.int .i64 (x.1 : Int), .int .i32 (x.2 : Int)]
def markRow (xs : List (Nat × Nat)) : List Value := (xs.map mark2).flatten
theorem markRow_snoc (xs : List (Nat × Nat)) (x : Nat × Nat) : markRow (xs ++ [x]) = markRow xs ++ mark2 x := by simp [markRow]
theorem infoMark : (Tryd.prog.info? 28).map (fun i => (i.zero, i.size, i.bytes)) = some (some (.agg #[.int .i64 0, .int .i32 0]), 2, 16) := by kernel_rfl
/-- a []one that is owned -/
def Marks (w : World) (base : Nat) (v : Value) (xs : List (Nat × Nat)) : Prop := w.ownsRow base 28 2 v xs.length (markRow xs)
theorem Marks.only {S : Nat → Prop} {w w' : World} {base : Nat} {v : Value} {xs : List (Nat × Nat)} (h : Marks w base v xs) (ho : Only S w w') (hn : ∀ k, v.ownBlock = some k → ¬ S k) : Marks w' base v xs := ownsRow_only h ho hn
theorem Marks.shape {w : World} {base : Nat} {v : Value} {xs : List (Nat × Nat)} (h : Marks w base v xs) : ∃ ao cap, v = .slice ao xs.length cap := own_form' h
theorem Marks.lt {w : World} {base : Nat} {v : Value} {xs : List (Nat × Nat)} (h : Marks w base v xs) (k : Nat) (hk : v.ownBlock = some k) : base ≤ k ∧ k < w.heap.size := World.ownsRow.lt h k hk

theorem run_append_mark (w : World) (base : Nat) (v : Value) (xs : List (Nat × Nat)) (h : Marks w base v xs) (x : Nat × Nat) (hl : xs.length + 1 ≤ 1000000) (hb : base ≤ w.heap.size) :
    ∃ v' w', (Builtin.append_ #[24, 24] 24 #[v, .slice (some ⟨w.heap.size, 0, none⟩) 1 1]).run Tryd.prog (w.alloc (.cells #[.int .i64 (x.1 : Int), .int .i32 (x.2 : Int)] 28)) = .ok v' w' ∧ Marks w' base v' (xs ++ [x]) ∧ (w.alloc (.cells #[.int .i64 (x.1 : Int), .int .i32 (x.2 : Int)] 28)).grownBy w' v.ownBlock ∧ (v'.ownBlock = v.ownBlock ∨ v'.ownBlock = some (w.heap.size + 1)) ∧ ∃ ao cap, v' = .slice ao (xs.length + 1) cap := by
  obtain ⟨i0, hi, hz, hs, hby⟩ := info_parts infoMark
  obtain ⟨v', w', hr, h1, h2, _, h4⟩ := run_append_own_at (P := Tryd.prog) (w.alloc (.cells #[.int .i64 (x.1 : Int), .int .i32 (x.2 : Int)] 28)) base 24 24 28 i0 _ 2 16 Tryd.underlying24 hi hz hs hby rfl (by decide) v xs.length (markRow xs) (World.ownsRow.alloc h _) ⟨w.heap.size, 0, none⟩ 1 1 (mark2 x) rfl
    (fun j u hj => by
      have hB := Blk.new w 28 (mark2 x)
      rw [Addr.add_mid, Nat.zero_add]
      exact (hB.cell j).trans hj) (by intro u hu; simp [mark2] at hu; rcases hu with rfl | rfl <;> rfl) (by unfold maxLen; omega) (by omega) (by simp; omega)
  refine ⟨v', w', hr, ?_, h2, ?_, ?_⟩
  · unfold Marks
    rw [markRow_snoc]
    simpa using h1
  · simpa using h4
  · exact own_form' h1

theorem eqlF (gf : Nat) (lb : Array Value) (w : World) : (binOp .eql 31 (.func (.func gf) #[] lb) .nilFunc).run Tryd.prog w = .ok (.bool false) w := by kernel_rfl

structure MkI (w : World) (most : Int) (xs : List (Nat × Nat)) (Y : Nat → Prop) (k : Nat) (W : World) : Prop where
  b1 : Blk W w.heap.size 3 [.int .i64 most]
  box : ∃ v, Blk W (w.heap.size + 1) 24 [v] ∧ Marks W w.heap.size v (xs.take k) ∧ ∀ j, v.ownBlock = some j → w.heap.size + 4 ≤ j ∧ ¬ Y j
  below : Below w.heap.size w W
  size : w.heap.size + 4 ≤ W.heap.size
  ys : ∀ j, Y j → w.heap.size + 4 ≤ j ∧ j < W.heap.size

theorem MkI.keep {w : World} {most : Int} {xs : List (Nat × Nat)} {Y : Nat → Prop} {k : Nat} {W W' : World} (h : MkI w most xs Y k W) (ho : Only (fun j => j = w.heap.size + 2 ∨ j = w.heap.size + 2 + 1) W W') : MkI w most xs Y k W' := by
  obtain ⟨v, h1, h2, h3⟩ := h.box
  exact ⟨h.b1.only ho (by omega), ⟨v, h1.only ho (by omega), h2.only ho (fun j hj e => by have := (h3 j hj).1; omega), h3⟩, h.below.trans (ho.below h.below.size (fun j hj e => by omega)), Nat.le_trans h.size ho.size, fun j hj => ⟨(h.ys j hj).1, Nat.lt_of_lt_of_le (h.ys j hj).2 ho.size⟩⟩
theorem MkI.grow {w : World} {most : Int} {xs : List (Nat × Nat)} {Y : Nat → Prop} {k : Nat} {W W' : World} (h : MkI w most xs Y k W) (ho : Only Y W W') : MkI w most xs (more Y W W') k W' := by
  obtain ⟨v, h1, h2, h3⟩ := h.box
  have hs := h.size
  have hy := h.ys
  refine ⟨h.b1.only ho (fun e => by have := (hy _ e).1; omega), ⟨v, h1.only ho (fun e => by have := (hy _ e).1; omega), h2.only ho (fun j hj e => (h3 j hj).2 e), fun j hj => ⟨(h3 j hj).1, fun hy => hy.elim (h3 j hj).2 (fun hy => by have := (h2.lt j hj).2; omega)⟩⟩, h.below.trans (ho.below h.below.size (fun j hj e => by have := (hy _ e).1; omega)), Nat.le_trans h.size ho.size, fun j hj => ?_⟩
  rcases hj with hj | hj
  · exact ⟨(h.ys j hj).1, Nat.lt_of_lt_of_le (h.ys j hj).2 ho.size⟩
  · exact ⟨by omega, hj.2⟩
theorem take_snoc {α : Type} (xs : List α) (k : Nat) (hk : k < xs.length) : xs.take (k + 1) = xs.take k ++ [xs[k]] := by rw [List.take_succ_eq_append_getElem hk]

set_option maxHeartbeats 2000000 in
theorem marks_any (w : World) (gf : Nat) (lb : Array Value) (xs : List (Nat × Nat)) (V : Nat → World → Prop) (eg : ∀ args w, (callFunc gf args).run Tryd.prog w = .ok (.enter gf args) w) (hit : Iter4 Tryd.prog gf lb encN xs V) (hV : ∀ k W', Only (fun _ => False) w W' → V k W') (hl : xs.length ≤ 100000) (M : Nat) (hM : M ≤ 2000000) :
    Calls Tryd.prog 11 #[.func (.func gf) #[] lb, .int .i64 M] w fun e w' => ∃ v, e = .returned v ∧ Marks w' w.heap.size v (xs.take M) ∧ Below w.heap.size w w' := by
  have hfe := eqlF gf lb
  refine (callsIn_wide (n := 3)).1 ?_
  refine callsIn_of_wp_marks Tryd.func11 rfl trivial ?_ rfl
  simp only [Tryd.ntmps11, List.size_toArray, List.length_cons, List.length_nil, Nat.reduceAdd, Nat.reduceSub, Array.replicate_succ, Array.replicate_zero, List.push_toArray, List.append_toArray, List.nil_append, List.cons_append]
  gi_wp2
  obtain ⟨w2, hw2⟩ : ∃ w2, (w.alloc (.cells #[.int .i64 M] 3)).alloc (.cells #[.slice none 0 0] 24) = w2 := ⟨_, rfl⟩
  have hs2 : w2.heap.size = w.heap.size + 2 := by rw [← hw2]; simp
  have hA : Blk w2 w.heap.size 3 [.int .i64 M] := by rw [← hw2]; exact (Blk.new w _ _).alloc _
  have hB : Blk w2 (w.heap.size + 1) 24 [.slice none 0 0] := by
    rw [← hw2]
    have := Blk.new (w.alloc (.cells #[.int .i64 M] 3)) 24 [.slice none 0 0]
    rw [World.size_alloc] at this
    exact this
  have hb2 : Below w.heap.size w w2 := by rw [← hw2]; exact ((Below.refl _ w).alloc (Nat.le_refl _) _).alloc (by simp) _
  rw [hw2]
  clear hfe
  refine wp_range8 (gf := gf) (lb := lb) (xs := xs) (encs := encN) (V := V) rfl eg hit (fun _ => rfl) (fun Y k W => k ≤ M ∧ MkI w M xs Y k W) (fun Y cc k W => cc = .exit 0 ∧ MkI w M xs Y M W) ?_ ?_ ?_ ?_ ?_ ?_
    (fun x => { tmps := #[.func (.func gf) #[] lb, .int .i64 M, undef, .pointer (some ⟨w.heap.size, 0, none⟩), .slice none 0 0, .pointer (some ⟨w.heap.size + 1, 0, none⟩), .int .i64 (x.1 : Int), .int .i32 (x.2 : Int), .func (.func gf) #[] lb, .bool false, .func (.func gf) #[] lb, .int .i64 (x.1 : Int), .int .i32 (x.2 : Int), undef, undef, undef, undef, undef, undef, undef, undef, undef, undef, undef], defers := [] }) ?assign ?body ?done ?stop
  · rintro Y k W W' ⟨h0, h⟩ ho
    exact ⟨h0, h.keep (by rw [hs2] at ho; exact ho)⟩
  · rintro Y k W W' ⟨h0, h⟩ hb _
    exact ⟨h0, h.grow hb⟩
  · rintro Y cc k W W' ⟨rfl, h⟩ ho
    exact ⟨rfl, h.keep (by rw [hs2] at ho; exact ho)⟩
  · rintro Y cc k W W' ⟨rfl, h⟩ ho _
    exact ⟨rfl, h.grow ho⟩
  · rintro Y k W ⟨h0, h⟩
    exact hV k W (Only.of_below _ h.below)
  · intro W1 ho hs
    refine ⟨Nat.zero_le _, hA.only ho (fun h => h), ⟨_, hB.only ho (fun h => h), ?_, (fun j hj => by cases hj)⟩, hb2.trans ((ho.below (Nat.le_refl _) (fun _ _ h => h)).mono (by omega)), by omega, (fun _ h => h.elim)⟩
    rw [List.take_zero]
    exact World.ownsRow_nil _ _ _ _
  case assign =>
    intro l k hk W K hK
    gi_wp2
    exact hK
  case body =>
    rintro l Y k hk W ⟨h0, h⟩
    have HYS := hide h.ys
    obtain ⟨x, hx⟩ : ∃ x, xs[k] = x := ⟨_, rfl⟩
    rw [hx]
    obtain ⟨hb1, ⟨v, h1, h2, h3⟩, h4, h5, _⟩ := h
    have cM : W.cell? ⟨w.heap.size, 0, none⟩ = some (.int .i64 M) := hb1.cell 0
    have c0 : W.cell? ⟨w.heap.size + 1, 0, none⟩ = some v := h1.cell 0
    have f0 := h1.frozen 0
    obtain ⟨v2, w3, hr, hi2, hg2, hv2, ao2, cap2, rfl⟩ := run_append_mark W w.heap.size v _ h2 x (by simp; omega) (by omega)
    have hB2 : Blk w3 (w.heap.size + 1) 24 [v] := (hg2.block _ (by simp; omega) (fun e => by have := (h3 _ e.symm).1; omega)).trans (h1.alloc _)
    have c2 : w3.cell? ⟨w.heap.size + 1, 0, none⟩ = some v := hB2.cell 0
    have f2 := hB2.frozen 0
    obtain ⟨ao1, cap1, hv1⟩ := h2.shape
    have HO2 := hide h2
    have HW1 := hide h1
    have HR := hide hr
    have HI2 := hide hi2
    have HG2 := hide hg2
    have HV2 := hide hv2
    have HB2 := hide hB2
    have H1 := hide hb1
    have H3 := hide h3
    have H4 := hide h4
    have HX := hide hx
    have hn1 : (xs.take k).length = k := by simp; omega
    rw [hn1] at hv1 HR HI2 HV2
    subst hv1
    obtain ⟨p, q⟩ := x
    clear hr hi2 hg2 hv2 hB2 h1 h2 h3 h4 hx hb1 hn1
    by_cases hkM : k < M
    · have hkMi : ¬ (M : Int) ≤ (k : Int) := by omega
      gi_wp2_with (first
        | (gi_at_builtin; (with_reducible refine wpListIn_append_run _ rfl (.tmp 17) (.tmp 21) 24 rfl _ _ ?_ ?_ _ _ HR.out ?_); exact rfl; exact rfl; clear HR))
      have hoA : Only (fun j => (Value.slice ao1 k cap1).ownBlock = some j) W w3 := ((Only.refl _ W).alloc _).grown HG2.out (fun j e _ => e)
      have hoB : Only (· = w.heap.size + 1) w3 (w3.setCell ⟨w.heap.size + 1, 0, none⟩ (.slice ao2 (k + 1) cap2)) := (Only.refl (· = w.heap.size + 1) w3).setCell ⟨w.heap.size + 1, 0, none⟩ _ (fun _ => rfl)
      have hv3 : ∀ j, (Value.slice ao2 (k + 1) cap2).ownBlock = some j → w.heap.size + 4 ≤ j ∧ ¬ Y j := fun j hj => by
        rcases HV2.out with e | e
        · exact H3.out j (e ▸ hj)
        · rw [e] at hj
          have := Option.some.inj hj
          exact ⟨by omega, fun hy => by have := (HYS.out j hy).2; omega⟩
      refine ⟨?_, ?_, by omega, (H1.out.only hoA (fun e => by have := (H3.out _ e).1; omega)).only hoB (by omega), ⟨_, HB2.out.set 0 _, ?_, hv3⟩, ?_, ?_, ?_⟩
      · refine (Keeps2.of_only hoA ?_ ?_).trans (Keeps2.of_only hoB (by omega) (by omega))
        · intro e; have := (H3.out _ e).1; omega
        · intro e; have := (H3.out _ e).1; omega
      · intro j hj
        have hjs := HYS.out j hj
        exact (hoB.block j (by have := hoA.size; omega) (by omega)).trans (hoA.block j hjs.2 (fun e => (H3.out j e).2 hj))
      · rw [take_snoc xs k hk, HX.out]
        exact HI2.out.only hoB (fun j hj e => by have := (hv3 j hj).1; omega)
      · refine (H4.out.trans (hoA.below (by omega) (fun j hj e => by have := (H3.out j e).1; omega))).trans (hoB.below (by have := hoA.size; omega) (fun j hj e => by omega))
      · have := hoA.size
        have := hoB.size
        omega
      · intro j hj
        have := hoA.size
        have := hoB.size
        have hjs := HYS.out j hj
        exact ⟨hjs.1, by omega⟩
    · have hkMi : (M : Int) ≤ (k : Int) := by omega
      have hkM' : k = M := by omega
      gi_wp2
      subst hkM'
      exact ⟨Keeps2.refl _ _, KeepsY.refl _ _, rfl, H1.out, ⟨_, HW1.out, HO2.out, fun j hj => H3.out j hj⟩, H4.out, h5, HYS.out⟩
  case done =>
    rintro Y W ⟨h0, h⟩ hD
    obtain ⟨hb1, ⟨v, h1, h2, h3⟩, h4, h5, _⟩ := h
    rw [List.take_of_length_le (Nat.le_refl _)] at h2
    have HEX : Hid (xs.take M = xs) := List.take_of_length_le h0
    have c0 : W.cell? ⟨w.heap.size + 1, 0, none⟩ = some v := h1.cell 0
    obtain ⟨ao1, cap1, hv1⟩ := h2.shape
    have H2 := hide h2
    have H3 := hide h3
    have H4 := hide h4
    have HD := hide hD
    generalize hq1 : xs.length = n1 at hv1
    subst hv1
    clear h1 h2 h3 h4 hD hq1
    gi_wp2
    refine ⟨by simp, .inl ⟨_, _, rfl, run_takeDeferred HD.out, ?_⟩⟩
    have hoD : Only (· = w2.heap.size) W (W.putObj w2.heap.size (.deferred none)) := only_put1 W _ _ _ rfl
    exact ⟨_, results_tmp (t := 4) rfl _ _ _, .slice ao1 n1 cap1, rfl, by rw [HEX.out]; exact H2.out.only hoD (fun j hj e => by have := (H3.out j hj).1; omega), H4.out.trans (hoD.below (by omega) (fun j hj e => by omega))⟩
  case stop =>
    rintro Y cc k W hk ⟨rfl, h⟩ hD
    obtain ⟨hb1, ⟨v, h1, h2, h3⟩, h4, h5, _⟩ := h
    have c0 : W.cell? ⟨w.heap.size + 1, 0, none⟩ = some v := h1.cell 0
    obtain ⟨ao1, cap1, hv1⟩ := h2.shape
    have H2 := hide h2
    have H3 := hide h3
    have H4 := hide h4
    have HD := hide hD
    generalize hq1 : (xs.take M).length = n1 at hv1
    subst hv1
    clear h1 h2 h3 h4 hD hq1
    gi_wp2
    refine ⟨by simp, .inl ⟨_, _, rfl, run_takeDeferred HD.out, ?_⟩⟩
    have hoD : Only (· = w2.heap.size) W (W.putObj w2.heap.size (.deferred none)) := only_put1 W _ _ _ rfl
    exact ⟨_, results_tmp (t := 4) rfl _ _ _, .slice ao1 n1 cap1, rfl, H2.out.only hoD (fun j hj e => by have := (H3.out j hj).1; omega), H4.out.trans (hoD.below (by omega) (fun j hj e => by omega))⟩

end Go.Proofs.YtfpphepjkpofiaaDoor
