/- Contract: package node's Clone. -/
import Derived.Test.YtoamdbjailpgdaaNCl
import Derived.Test.YtoamdbjailpgdaaNFew
import Derived.Test.YtoamdbjailpgdaaRegionR
namespace Go.Proofs.Ytoamdbjailpgdaa
set_option maxRecDepth 20000
open Go.RowKit Go.Shelf
set_option linter.unusedVariables false
set_option linter.unusedSimpArgs false
set_option maxRecDepth 100000
attribute [local go_sem] Oper.semAt_some

/-! ### region 2 -/
def isIn (B : Nat) (cs : List Int) : Value → World → Prop := fun v w => ∃ a n c, v = .slice a n c ∧ Ints w B (.slice a n c) cs
def isAg (B : Nat) (lf : Bool) (cs : List Int) : Value → World → Prop := fun v w => ∃ a n c, v = .agg #[.bool lf, .slice none 0 0, .slice none 0 0, .slice a n c] ∧ Ints w B (.slice a n c) cs
def isGN (B : Nat) : Value → World → Prop := fun v w => ∃ g, v = .pointer (some ⟨g, 0, none⟩) ∧ B ≤ g ∧ Blk w g 26 [.bool false, .slice none 0 0, .slice none 0 0, .slice none 0 0]
theorem stS_isIn (B : Nat) (cs : List Int) : StS (fun _ => False) (isIn B cs) := fun v w w' ho ⟨a, n, c, h1, h2⟩ => ⟨a, n, c, h1, h2.only ho (fun _ _ h => h)⟩
theorem stS_isAg (B : Nat) (lf : Bool) (cs : List Int) : StS (fun _ => False) (isAg B lf cs) := fun v w w' ho ⟨a, n, c, h1, h2⟩ => ⟨a, n, c, h1, h2.only ho (fun _ _ h => h)⟩
theorem stS_isGN (B : Nat) : StS (fun _ => False) (isGN B) := fun v w w' ho ⟨g, h1, h2, h3⟩ => ⟨g, h1, h2, h3.only ho (fun h => h)⟩
/-- how far the pairs are -/
structure ClI (w : World) (bk cb eb : Nat) (bx : List Value) (lf : Bool) (pv cv : Value) (cs : List Int) (ps : List (List Int × List Int)) (Y : Nat → Prop) (m : Nat) (W : World) : Prop where
  st : ∃ v p xs ex, Cl (w.heap.size + 2) cb (bk + 2) w.heap.size lf p nilS cv cs (600 * m) v p nilS xs [] ex W ∧ xs.length = m ∧ (∀ i, i < m → ((xs.getD i nil2).1, (ps.getD i ([], [])).1) ∈ ex ∧ ((xs.getD i nil2).2, (ps.getD i ([], [])).2) ∈ ex) ∧ (∀ j, v.ownBlock = some j → ¬ Y j) ∧ (∀ j, p.ownBlock = some j → ¬ Y j)
  b0 : Blk W w.heap.size 26 bx
  b1 : Blk W (w.heap.size + 1) 26 [.bool false, .slice none 0 0, .slice none 0 0, .slice none 0 0]
  be : Blk W eb 22 [pv]
  below : Below w.heap.size w W
  size : bk + 2 ≤ W.heap.size
  ys : ∀ j, Y j → bk + 2 ≤ j ∧ j < W.heap.size
theorem ClI.keep {w : World} {bk cb eb : Nat} {bx : List Value} {lf : Bool} {pv cv : Value} {cs : List Int} {ps : List (List Int × List Int)} {Y : Nat → Prop} {m : Nat} {W W' : World} (hcb : cb < bk) (heb : eb < bk) (hh : w.heap.size + 2 < bk) (hcv : ∀ j, cv.ownBlock = some j → j < bk) (h : ClI w bk cb eb bx lf pv cv cs ps Y m W) (ho : Only (fun j => j = bk ∨ j = bk + 1) W W') : ClI w bk cb eb bx lf pv cv cs ps Y m W' := by
  obtain ⟨v, p, xs, ex, h1, h2, h3, h4, h5⟩ := h.st
  exact ⟨⟨v, p, xs, ex, h1.only ho (by omega) (by omega) (fun j hj => by omega) (fun j hj e => by have := hcv j hj; omega), h2, h3, h4, h5⟩, h.b0.only ho (by omega), h.b1.only ho (by omega), h.be.only ho (by omega), h.below.trans (ho.below h.below.size (fun j hj e => by omega)), Nat.le_trans h.size ho.size, fun j hj => ⟨(h.ys j hj).1, Nat.lt_of_lt_of_le (h.ys j hj).2 ho.size⟩⟩
theorem ClI.grow {w : World} {bk cb eb : Nat} {bx : List Value} {lf : Bool} {pv cv : Value} {cs : List Int} {ps : List (List Int × List Int)} {Y : Nat → Prop} {m : Nat} {W W' : World} (h : ClI w bk cb eb bx lf pv cv cs ps Y m W) (hb : Below W.heap.size W W') : ClI w bk cb eb bx lf pv cv cs ps (more Y W W') m W' := by
  obtain ⟨v, p, xs, ex, h1, h2, h3, h4, h5⟩ := h.st
  have ho := Only.of_below (fun _ => False) hb
  have hs := h.size
  obtain ⟨XS, a1, _⟩ := h1.row
  refine ⟨⟨v, p, xs, ex, h1.below hb, h2, h3, fun j hj hy => hy.elim (h4 j hj) (fun hy => ?_), fun j hj hy => hy.elim (h5 j hj) (fun hy => ?_)⟩, h.b0.only ho (fun h => h), h.b1.only ho (fun h => h), h.be.only ho (fun h => h), h.below.trans (hb.mono h.below.size), Nat.le_trans h.size hb.size, fun j hj => ?_⟩
  · obtain ⟨_, cs', hB⟩ := row_blk a1 hj
    have := hB.lt
    omega
  · obtain ⟨_, cs', hB⟩ := row_blk h1.prow hj
    have := hB.lt
    omega
  · rcases hj with hj | hj
    · exact ⟨(h.ys j hj).1, Nat.lt_of_lt_of_le (h.ys j hj).2 hb.size⟩
    · exact ⟨by omega, hj.2⟩

/-! ### region 6: one pair -/
def Fp (sb cb : Nat) (v0 p0 : Value) (W w : World) (v p : Value) : Prop := Only (fun j => j = sb ∨ j = cb ∨ v0.ownBlock = some j ∨ p0.ownBlock = some j) W w ∧ (∀ j, v.ownBlock = some j → v0.ownBlock = some j ∨ W.heap.size ≤ j) ∧ ∀ j, p.ownBlock = some j → p0.ownBlock = some j ∨ W.heap.size ≤ j
theorem Fp.refl (sb cb : Nat) (v p : Value) (W w : World) (h : Only (fun _ => False) W w) : Fp sb cb v p W w v p := ⟨h.mono (fun _ _ h => h.elim), fun _ h => .inl h, fun _ h => .inl h⟩
theorem Fp.step {sb cb : Nat} {v0 p0 v p v' p' : Value} {W w w' : World} (h : Fp sb cb v0 p0 W w v p) (ho : Only (fun j => j = sb ∨ j = cb ∨ v.ownBlock = some j ∨ p.ownBlock = some j) w w') (hv : ∀ j, v'.ownBlock = some j → v.ownBlock = some j ∨ w.heap.size ≤ j) (hp : ∀ j, p'.ownBlock = some j → p.ownBlock = some j ∨ w.heap.size ≤ j) : Fp sb cb v0 p0 W w' v' p' := by
  obtain ⟨a, b, c⟩ := h
  have hz := a.size
  refine ⟨a.trans ho (fun i hi hs => ?_), fun j hj => ?_, fun j hj => ?_⟩
  · rcases hs with e | e | e | e
    · exact .inl e
    · exact .inr (.inl e)
    · exact (b i e).elim (fun h => .inr (.inr (.inl h))) (fun h => by omega)
    · exact (c i e).elim (fun h => .inr (.inr (.inr h))) (fun h => by omega)
  · exact (hv j hj).elim (b j) (fun h => .inr (by omega))
  · exact (hp j hj).elim (c j) (fun h => .inr (by omega))
def ClS (W : World) (sb cb base base0 : Nat) (lf : Bool) (cv : Value) (cs : List Int) (L : Nat) (v0 p0 : Value) (xs : List (Value × Value)) (ex : List (Value × List Int)) (q1 q2 : List Int) : Nat → (Nat → Value) → World → Prop := fun i vals w => match i with
  | 0 => ∃ v, Cl sb cb base base0 lf p0 nilS cv cs L v p0 nilS xs [] ex w ∧ Fp sb cb v0 p0 W w v p0
  | 1 => ∃ v, Cl sb cb base base0 lf p0 nilS cv cs (L + q1.length) v p0 nilS xs [] (ex ++ [(vals 3, q1)]) w ∧ Fp sb cb v0 p0 W w v p0
  | 2 => ∃ v, Cl sb cb base base0 lf p0 nilS cv cs (L + q1.length + q2.length) v p0 nilS xs [] (ex ++ [(vals 3, q1)] ++ [(vals 5, q2)]) w ∧ Fp sb cb v0 p0 W w v p0
  | 3 => (∃ v, Cl sb cb base base0 lf p0 nilS cv cs (L + q1.length + q2.length) v p0 nilS xs [] (ex ++ [(vals 3, q1)] ++ [(vals 5, q2)]) w ∧ Fp sb cb v0 p0 W w v p0) ∧ vals 6 = .agg #[vals 3, vals 5]
  | 4 => (∃ v, Cl sb cb base base0 lf p0 nilS cv cs (L + q1.length + q2.length) v p0 nilS xs [] (ex ++ [(vals 3, q1)] ++ [(vals 5, q2)]) w ∧ Fp sb cb v0 p0 W w v p0) ∧ ∃ g, vals 7 = .slice (some ⟨g, 0, none⟩) 1 1 ∧ Blk w g 36 [vals 3, vals 5]
  | 5 => (∃ v, Cl sb cb base base0 lf p0 nilS cv cs (L + q1.length + q2.length) v (vals 8) nilS (xs ++ [(vals 3, vals 5)]) [] (ex ++ [(vals 3, q1)] ++ [(vals 5, q2)]) w ∧ Fp sb cb v0 p0 W w v (vals 8)) ∧ ∃ a n c, vals 8 = .slice a n c
  | _ => (∃ v, Cl sb cb base base0 lf (vals 8) nilS cv cs (L + q1.length + q2.length) v (vals 8) nilS (xs ++ [(vals 3, vals 5)]) [] (ex ++ [(vals 3, q1)] ++ [(vals 5, q2)]) w ∧ Fp sb cb v0 p0 W w v (vals 8))
theorem ClS.cell {W : World} {sb cb base base0 : Nat} {lf : Bool} {cv : Value} {cs : List Int} {L : Nat} {v0 p0 : Value} {xs : List (Value × Value)} {ex : List (Value × List Int)} {q1 q2 : List Int} {i : Nat} {vals : Nat → Value} {w : World} (h : ClS W sb cb base base0 lf cv cs L v0 p0 xs ex q1 q2 i vals w) (hi : i < 6) : w.cell? ⟨cb, 1, none⟩ = some p0 := by
  match i, hi, h with
  | 0, _, ⟨v, h, _⟩ => exact h.cbox.cell 1
  | 1, _, ⟨v, h, _⟩ => exact h.cbox.cell 1
  | 2, _, ⟨v, h, _⟩ => exact h.cbox.cell 1
  | 3, _, ⟨⟨v, h, _⟩, _⟩ => exact h.cbox.cell 1
  | 4, _, ⟨⟨v, h, _⟩, _⟩ => exact h.cbox.cell 1
  | 5, _, ⟨⟨v, h, _⟩, _⟩ => exact h.cbox.cell 1

/-! ### region 10: one key -/
structure KlJ (w : World) (bk cb : Nat) (bx : List Value) (lf : Bool) (cv : Value) (cs : List Int) (ps : List (List Int × List Int)) (ks : List (List Int)) (m : Nat) (W : World) : Prop where
  st : ∃ v p k xs ys ex, Cl (w.heap.size + 2) cb (bk + 2) w.heap.size lf p k cv cs (600 * ps.length + 300 * m) v p k xs ys ex W ∧ xs.length = ps.length ∧ (∀ i, i < ps.length → ((xs.getD i nil2).1, (ps.getD i ([], [])).1) ∈ ex ∧ ((xs.getD i nil2).2, (ps.getD i ([], [])).2) ∈ ex) ∧ ys.length = m ∧ ∀ i, i < m → (ys.getD i nilS, ks.getD i []) ∈ ex
  b0 : Blk W w.heap.size 26 bx
  b1 : Blk W (w.heap.size + 1) 26 [.bool false, .slice none 0 0, .slice none 0 0, .slice none 0 0]
  below : Below w.heap.size w W
  size : bk + 2 ≤ W.heap.size
  dfr : W.heap[bk]? = some (.deferred (some []))
def ClK (W : World) (sb cb base base0 : Nat) (lf : Bool) (cv : Value) (cs : List Int) (L : Nat) (v0 p k0 : Value) (xs : List (Value × Value)) (ys : List Value) (ex : List (Value × List Int)) (q : List Int) : Nat → (Nat → Value) → World → Prop := fun i vals w => match i with
  | 0 => ∃ v, Cl sb cb base base0 lf p k0 cv cs L v p k0 xs ys ex w ∧ Fp sb cb v0 k0 W w v k0
  | 1 => ∃ v, Cl sb cb base base0 lf p k0 cv cs (L + q.length) v p k0 xs ys (ex ++ [(vals 3, q)]) w ∧ Fp sb cb v0 k0 W w v k0
  | 2 => (∃ v, Cl sb cb base base0 lf p k0 cv cs (L + q.length) v p k0 xs ys (ex ++ [(vals 3, q)]) w ∧ Fp sb cb v0 k0 W w v k0) ∧ ∃ g, vals 4 = .slice (some ⟨g, 0, none⟩) 1 1 ∧ Blk w g 34 [vals 3]
  | 3 => (∃ v, Cl sb cb base base0 lf p k0 cv cs (L + q.length) v p (vals 5) xs (ys ++ [vals 3]) (ex ++ [(vals 3, q)]) w ∧ Fp sb cb v0 k0 W w v (vals 5)) ∧ ∃ a n c, vals 5 = .slice a n c
  | _ => ∃ v, Cl sb cb base base0 lf p (vals 5) cv cs (L + q.length) v p (vals 5) xs (ys ++ [vals 3]) (ex ++ [(vals 3, q)]) w ∧ Fp sb cb v0 k0 W w v (vals 5)
theorem ClK.cell {W : World} {sb cb base base0 : Nat} {lf : Bool} {cv : Value} {cs : List Int} {L : Nat} {v0 p k0 : Value} {xs : List (Value × Value)} {ys : List Value} {ex : List (Value × List Int)} {q : List Int} {i : Nat} {vals : Nat → Value} {w : World} (h : ClK W sb cb base base0 lf cv cs L v0 p k0 xs ys ex q i vals w) (hi : i < 4) : w.cell? ⟨cb, 2, none⟩ = some k0 := by
  match i, hi, h with
  | 0, _, ⟨v, h, _⟩ => exact h.cbox.cell 2
  | 1, _, ⟨v, h, _⟩ => exact h.cbox.cell 2
  | 2, _, ⟨⟨v, h, _⟩, _⟩ => exact h.cbox.cell 2
  | 3, _, ⟨⟨v, h, _⟩, _⟩ => exact h.cbox.cell 2
set_option maxHeartbeats 4000000 in
theorem ndClone_any (w : World) (v : Value) (n : Nd) (h : NdV w v n) (hf : few1 n = true) :
    Calls Try.prog 11 #[v] w fun e w' => ∃ u, e = .returned u ∧ NdN w' w.heap.size u n ∧ Below w.heap.size w w' := by
  simp only [few1, Bool.and_eq_true, decide_eq_true_iff, List.all_eq_true] at hf
  obtain ⟨⟨⟨⟨m1, m2⟩, m3⟩, m4⟩, m5⟩ := hf
  obtain ⟨pa, pc, ka, kc, ca, cc, xs, ys, rfl, hp1, hk1, hc1, hp2, hk2, hc2, hP, hK, hC⟩ := h.open
  obtain ⟨lf, ps, ks, cs⟩ := n
  simp only at hp1 hk1 hc1 hp2 hk2 hc2 hP hK hC m1 m2 m3 m4 m5 ⊢
  have HP := hide hP
  have HK := hide hK
  have HC := hide hC
  have HM4 := hide m4
  have HM5 := hide m5
  clear hP hK hC h m4 m5
  unfold ndv
  obtain ⟨np, hnp⟩ : ∃ m, ps.length = m := ⟨_, rfl⟩
  obtain ⟨nk, hnk⟩ : ∃ m, ks.length = m := ⟨_, rfl⟩
  obtain ⟨nc, hnc⟩ : ∃ m, cs.length = m := ⟨_, rfl⟩
  have HNP := hide hnp
  have HNK := hide hnk
  have HNC := hide hnc
  rw [hnp] at hp1 HP m1 ⊢
  rw [hnk] at hk1 HK m2 ⊢
  rw [hnc] at hc1 HC m3 ⊢
  clear hnp hnk hnc
  obtain ⟨bx, hbx⟩ : ∃ bx : List Value, bx = [.bool lf, .slice pa np pc, .slice ka nk kc, .slice ca nc cc] := ⟨_, rfl⟩
  refine (callsIn_wide (n := 3)).1 ?_
  refine callsIn_of_wp_marks Try.func11 rfl trivial ?_ rfl
  simp only [Try.ntmps11, List.size_toArray, List.length_cons, List.length_nil, Nat.reduceAdd, Nat.reduceSub, Array.replicate_succ, Array.replicate_zero, List.push_toArray, List.append_toArray, List.nil_append, List.cons_append]
  obtain ⟨w1, hw1⟩ : ∃ w1, ((w.alloc (.cells #[.bool lf, .slice pa np pc, .slice ka nk kc, .slice ca nc cc] 26)).alloc (.cells #[.bool false, .slice none 0 0, .slice none 0 0, .slice none 0 0] 26)).alloc (.cells #[.slice none 0 0] 65) = w1 := ⟨_, rfl⟩
  have hs1 : w1.heap.size = w.heap.size + 3 := by rw [← hw1]; simp
  have hA : Blk w1 w.heap.size 26 bx := by rw [← hw1, hbx]; exact ((Blk.new w _ _).alloc _).alloc _
  have hB : Blk w1 (w.heap.size + 1) 26 [.bool false, .slice none 0 0, .slice none 0 0, .slice none 0 0] := by
    rw [← hw1]
    have := Blk.new (w.alloc (.cells #[.bool lf, .slice pa np pc, .slice ka nk kc, .slice ca nc cc] 26)) 26 [.bool false, .slice none 0 0, .slice none 0 0, .slice none 0 0]
    rw [World.size_alloc] at this
    exact Blk.alloc this _
  have hD : Blk w1 (w.heap.size + 2) 65 [nilS] := by
    rw [← hw1]
    have := Blk.new ((w.alloc (.cells #[.bool lf, .slice pa np pc, .slice ka nk kc, .slice ca nc cc] 26)).alloc (.cells #[.bool false, .slice none 0 0, .slice none 0 0, .slice none 0 0] 26)) 65 [nilS]
    rw [World.size_alloc, World.size_alloc] at this
    exact this
  have hb1 : Below w.heap.size w w1 := by rw [← hw1]; exact (((Below.refl _ w).alloc (Nat.le_refl _) _).alloc (by simp) _).alloc (by simp; omega) _
  have HA := hide hA
  have HB := hide hB
  have HD := hide hD
  have HB1 := hide hb1
  have HBX := hide hbx
  have HS1 := hide hs1
  clear hA hB hD hb1 hbx hs1
  gi_wp2
  clear hw1
  refine wpIn_wide.2 ?_
  refine wp_region_only (fun _ => False) [isV (.pointer (some ⟨w.heap.size, 0, none⟩)), isV (.bool lf), isV (.pointer (some ⟨w.heap.size, 3, none⟩)), isV (.slice ca nc cc), isIn w.heap.size cs, isAg w.heap.size lf cs, isGN w1.heap.size] 99 46 7 (by kernel_rfl) (by kernel_rfl) (by kernel_rfl) (by kernel_rfl) rfl ?_ ?_ ?_
  · repeat (first | exact trivial | refine allStL_isV ?_ | refine ⟨stS_isIn _ _, fun _ => stS_isIn _ _, ?_⟩ | refine ⟨stS_isAg _ _ _, fun _ => stS_isAg _ _ _, ?_⟩ | refine ⟨stS_isGN _, fun _ => stS_isGN _, ?_⟩)
  · refine ⟨?_, ?_, ?_, ?_, ?_, ?_, ?_, trivial⟩
    · intro act wx h
      have e1 : act.eval (.tmp 1) = .pointer (some ⟨w.heap.size, 0, none⟩) := h.old 1 (by kernel_rfl)
      have hrel := h.rel
      clear h
      refine gives_by rfl act.eval rfl ?_
      generalize act.eval = ρ at *
      intro hf hc
      go_simp
      exact ⟨relM_quiet (by decide) (Only.refl _ _), rfl⟩
    · intro act wx h
      obtain ⟨v9, e9, f9⟩ := h.val 0 9 (by kernel_rfl)
      obtain rfl : v9 = .pointer (some ⟨w.heap.size, 0, none⟩) := f9
      have hrel := h.rel
      clear h
      have hx := HA.out.only hrel (fun h => h)
      have cx0 : wx.cell? ⟨w.heap.size, 0, none⟩ = some (.bool lf) := by rw [hx.cell 0, HBX.out]; rfl
      have cx3 : wx.cell? ⟨w.heap.size, 3, none⟩ = some (.slice ca nc cc) := by rw [hx.cell 3, HBX.out]; rfl
      refine gives_by rfl act.eval rfl ?_
      generalize act.eval = ρ at *
      intro hf hc
      go_simp
      exact ⟨relM_quiet (by decide) (Only.refl _ _), rfl⟩
    · intro act wx h
      have e1 : act.eval (.tmp 1) = .pointer (some ⟨w.heap.size, 0, none⟩) := h.old 1 (by kernel_rfl)
      have hrel := h.rel
      clear h
      refine gives_by rfl act.eval rfl ?_
      generalize act.eval = ρ at *
      intro hf hc
      go_simp
      exact ⟨relM_quiet (by decide) (Only.refl _ _), rfl⟩
    · intro act wx h
      obtain ⟨v11, e11, f11⟩ := h.val 2 11 (by kernel_rfl)
      obtain rfl : v11 = .pointer (some ⟨w.heap.size, 3, none⟩) := f11
      have hrel := h.rel
      clear h
      have hx := HA.out.only hrel (fun h => h)
      have cx0 : wx.cell? ⟨w.heap.size, 0, none⟩ = some (.bool lf) := by rw [hx.cell 0, HBX.out]; rfl
      have cx3 : wx.cell? ⟨w.heap.size, 3, none⟩ = some (.slice ca nc cc) := by rw [hx.cell 3, HBX.out]; rfl
      refine gives_by rfl act.eval rfl ?_
      generalize act.eval = ρ at *
      intro hf hc
      go_simp
      exact ⟨relM_quiet (by decide) (Only.refl _ _), rfl⟩
    · intro act wx h
      obtain ⟨v12, e12, f12⟩ := h.val 3 12 (by kernel_rfl)
      obtain rfl : v12 = .slice ca nc cc := f12
      have hrel := h.rel
      clear h
      refine gives_by rfl act.eval rfl ?_
      generalize act.eval = ρ at *
      intro hf hc
      go_simp
      refine (sClone_any wx _ cs ((HC.out.below HB1.out).below (hrel.below (Nat.le_refl _) (fun _ _ h => h))) (by have := HNC.out; omega)).mono ?_
      rintro e w' ⟨u, rfl, hu, hb⟩
      obtain ⟨a, c, rfl⟩ := hu.shape
      exact ⟨_, rfl, relM_quiet (by decide) (Only.of_below _ hb), a, _, c, rfl, hu.base (by have := HB1.out.size; have := hrel.size; omega)⟩
    · intro act wx h
      obtain ⟨v10, e10, f10⟩ := h.val 1 10 (by kernel_rfl)
      obtain rfl : v10 = .bool lf := f10
      obtain ⟨v13, e13, f13⟩ := h.val 4 13 (by kernel_rfl)
      obtain ⟨a13, n13, c13, rfl, O13⟩ := f13
      have hrel := h.rel
      clear h
      refine gives_by rfl act.eval rfl ?_
      generalize act.eval = ρ at *
      intro hf hc
      go_simp
      exact ⟨relM_quiet (by decide) (Only.refl _ _), a13, n13, c13, rfl, O13⟩
    · intro act wx h
      have hrel := h.rel
      clear h
      refine gives_by rfl act.eval rfl ?_
      generalize act.eval = ρ at *
      intro hf hc
      go_simp
      exact ⟨relM_quiet (by decide) ((Only.refl _ wx).alloc _), _, rfl, hrel.size, Blk.new wx _ [.bool false, .slice none 0 0, .slice none 0 0, .slice none 0 0]⟩
  · intro oL hoL vals w3 ho3 hv
    simp only [List.getElem?_toArray, List.getElem?_cons_succ, List.getElem?_cons_zero, Option.some.injEq] at hoL
    subst hoL
    have hG1 : isAg w.heap.size lf cs (vals 5) w3 := hv 5 14 (by decide) (by kernel_rfl)
    have hG2 : isGN w1.heap.size (vals 6) w3 := hv 6 4 (by decide) (by kernel_rfl)
    clear hv
    generalize hact : putAll _ vals 0 _ = act
    obtain ⟨va, vn, vcp, hv5, hcv⟩ := hG1
    obtain ⟨cb, hv6, hcb, hbk⟩ := hG2
    have hth := hbk.there 0 4 (by simp)
    have hb4 := store_node (x0 := .bool lf) (x1 := .slice none 0 0) (x2 := .slice none 0 0) (x3 := .slice va vn vcp) hbk
    have on4 := Only.setCells cb [.bool lf, .slice none 0 0, .slice none 0 0, .slice va vn vcp] 0 w3 (S := fun k => k = cb) (Only.refl _ w3) (fun _ => rfl)
    have hcv4 : Ints (w3.setCells cb 0 [.bool lf, .slice none 0 0, .slice none 0 0, .slice va vn vcp]) w.heap.size (.slice va vn vcp) cs := hcv.only on4 (fun j hj e => row_not_blk hcv hbk (by decide) (e ▸ hj))
    have hcvlt : ∀ j, (Value.slice va vn vcp).ownBlock = some j → j < w3.heap.size := fun j hj => (hcv.lt j hj).2
    have hs1 := HS1.out
    have hA4 := (HA.out.only ho3 (fun h => h)).only on4 (by omega)
    have hB4 := (HB.out.only ho3 (fun h => h)).only on4 (by omega)
    have hD4 := (HD.out.only ho3 (fun h => h)).only on4 (by omega)
    have hbl4 : Below w.heap.size w _ := (HB1.out.trans (ho3.below (by omega) (fun _ _ h => h))).trans (on4.below (by have := ho3.size; omega) (fun j hj e => by omega))
    have hcb4 : cb < w3.heap.size := hbk.lt
    obtain ⟨W3, hW3⟩ : ∃ W, W = w3.setCells cb 0 [.bool lf, .slice none 0 0, .slice none 0 0, .slice va vn vcp] := ⟨_, rfl⟩
    rw [← hW3] at hb4 on4 hcv4 hA4 hB4 hD4 hbl4
    have hz3 : w3.heap.size ≤ W3.heap.size := on4.size
    have HA4 := hide hA4
    have HB4 := hide hB4
    have HD4 := hide hD4
    have HBL := hide hbl4
    have HCV := hide hcv4
    have HCL := hide hcvlt
    have HC4 := hide hb4
    have HEA := hide (fun w1 => each_any w1 pa np pc)
    subst hact
    simp only [List.dropLast, putAll, Act.put, List.setIfInBounds_toArray, List.set_cons_zero, List.set_cons_succ, hv5, hv6, Nat.zero_add, Nat.reduceAdd]
    refine gives_of_skip (w' := W3) rfl (by rw [hW3]; exact exec_store_mid 26 (.tmp 4) (.tmp 14) rfl cb 0 #[.bool lf, .slice none 0 0, .slice none 0 0, .slice va vn vcp] rfl rfl hth sizeNode (by simp [Value.oneCell'])) ?_
    clear hv5 hv6 hth hW3 hb4 on4 hcv4 hA4 hB4 hD4 hbl4 hcvlt hcv hbk ho3 HA HB HD HB1
    have z1 : W3.cell? ⟨w.heap.size, 1, none⟩ = some (.slice pa np pc) := by rw [HA4.out.cell 1, HBX.out]; rfl
    gi_wp2_with (first
      | (refine ⟨trivial, ?_⟩; gi_at_call 47; refine (callsIn_wide.2 (HEA.out _)).mono ?_; rintro e w1 ⟨rfl, hw⟩; subst w1; clear HEA))
    obtain ⟨w2, hw2⟩ : ∃ w2, W3.alloc (.cells #[.slice pa np pc] 22) = w2 := ⟨_, rfl⟩
    have hs2 : w2.heap.size = W3.heap.size + 1 := by rw [← hw2]; simp
    have hbE : Below W3.heap.size W3 w2 := by rw [← hw2]; exact (Below.refl _ W3).alloc (Nat.le_refl _) _
    have hE2 : Blk w2 W3.heap.size 22 [.slice pa np pc] := by rw [← hw2]; exact Blk.new W3 _ _
    have hwz : w.heap.size + 3 ≤ w3.heap.size := by omega
    have HBE := hide hbE
    have HE2 := hide hE2
    rw [hw2]
    clear hbE hE2 z1 hw2
    have hI0 : ∀ W1, Only (fun _ => False) w2 W1 → W1.heap.size = w2.heap.size + 2 → ClI w w2.heap.size cb W3.heap.size bx lf (.slice pa np pc) (.slice va vn vcp) cs ps (fun _ => False) 0 W1 := fun W1 ho hs => by
      have h13 : Below W3.heap.size W3 W1 := HBE.out.trans (ho.below (Nat.le_of_lt (by omega)) (fun _ _ h => h))
      refine ⟨⟨nilS, nilS, [], [], ⟨HD4.out.below h13 HD4.out.lt, ⟨[], ⟨rfl, .inl ⟨rfl, rfl⟩⟩, by simp⟩, fun q hq => (by cases hq), HC4.out.below h13 HC4.out.lt, ⟨rfl, .inl ⟨rfl, rfl⟩⟩, ⟨rfl, .inl ⟨rfl, rfl⟩⟩, HCV.out.below h13⟩, rfl, fun i hi => absurd hi (Nat.not_lt_zero _), (fun j hj => by cases hj), (fun j hj => by cases hj)⟩, HA4.out.below h13 HA4.out.lt, HB4.out.below h13 HB4.out.lt, HE2.out.only ho (fun h => h), HBL.out.trans (h13.mono HBL.out.size), by omega, (fun _ h => h.elim)⟩
    have HI0 := hide hI0
    have hs2lt : W3.heap.size < w2.heap.size := by omega
    clear hI0 hs2
    refine wp_range5 (gf := 84) (lb := #[.pointer (some ⟨W3.heap.size, 0, none⟩)]) (xs := xs) (encs := encV) (V := EachV W3.heap.size (.slice pa np pc) xs ps) rfl enters_each (each_iter _ _ _ _) (fun _ => rfl) (fun Y k W => ClI w w2.heap.size cb W3.heap.size bx lf (.slice pa np pc) (.slice va vn vcp) cs ps Y k W) (fun c k W => False) ?_ ?_ ?_ ?_ HI0.out
      (fun x => { tmps := #[.agg #[.bool lf, .slice pa np pc, .slice ka nk kc, .slice ca nc cc], .pointer (some ⟨w.heap.size, 0, none⟩), .pointer (some ⟨w.heap.size + 1, 0, none⟩), .pointer (some ⟨w.heap.size + 1 + 1, 0, none⟩), .pointer (some ⟨cb, 0, none⟩), x.1, x.2, undef, undef, vals 0, vals 1, vals 2, vals 3, vals 4, .agg #[.bool lf, .slice none 0 0, .slice none 0 0, .slice va vn vcp], .pointer (some ⟨w.heap.size, 1, none⟩), .slice pa np pc, .func (.func 84) #[] #[.pointer (some ⟨W3.heap.size, 0, none⟩)], x.1, x.2, undef, undef, undef, undef, undef, undef, undef, undef, undef, undef, undef, undef, undef, undef, undef, undef, undef, undef, undef, undef, undef, undef, undef, undef, undef, undef], defers := [] }) ?assign ?body ?done ?stop
    · intro Y k W W' h ho
      exact h.keep (by omega) (by omega) (by omega) (fun j hj => by have := HCL.out j hj; omega) ho
    · intro Y k W W' h hb
      exact h.grow hb
    · intro c k W W' h ho
      exact h
    · intro Y k W h
      exact ⟨fun _ => h.be.cell 0, HP.out.below h.below⟩
    case assign =>
      intro l k hk W G hG
      gi_wp2
      exact hG
    case body =>
      intro l Y k hk W h
      have hkp : k < ps.length := by rw [← HP.out.len]; exact hk
      obtain ⟨_, _, _, _, hsk, hsv⟩ := HP.out.at k hkp
      have hxe : xs.getD k nil2 = xs[k] := by simp [List.getD, hk]
      have hpe : ps.getD k ([], []) = ps[k] := by simp [List.getD, hkp]
      have hle := HM4.out ps[k] (List.getElem_mem hkp)
      rw [hxe, hpe] at hsk hsv
      have HPE := hide hpe
      generalize xs[k] = x at *
      generalize ps[k] = qq at *
      obtain ⟨u1, u2⟩ := x
      obtain ⟨q1, q2⟩ := qq
      simp only [fewP, Bool.and_eq_true, decide_eq_true_iff] at hsk hsv hle
      obtain ⟨v0, p0, zs, ex, h1, h2, h3, h4, h5⟩ := h.st
      have hv0 : ∀ j, v0.ownBlock = some j → w2.heap.size + 2 ≤ j := fun j hj => by obtain ⟨XS, b1, _⟩ := h1.row; exact (row_blk b1 hj).1
      have hp0 : ∀ j, p0.ownBlock = some j → w2.heap.size + 2 ≤ j := fun j hj => (row_blk h1.prow hj).1
      have HFB : Hid (∀ wx vv pp, Fp (w.heap.size + 2) cb v0 p0 W wx vv pp → Below w.heap.size w wx) := fun wx vv pp hf => h.below.trans (hf.1.below h.below.size (fun j hj e => by
        rcases e with e | e | e | e
        · omega
        · omega
        · have := hv0 j e; omega
        · have := hp0 j e; omega))
      have HSK := hide hsk
      have HSV := hide hsv
      obtain ⟨a1, n1, c1, rfl⟩ := sl_form hsk
      obtain ⟨a2, n2, c2, rfl⟩ := sl_form hsv
      have HH := hide h
      have H1 := hide h1
      have HV0 := hide hv0
      have HP0 := hide hp0
      have hWz := h.size
      have hm1 : k < 300 := by have := HNP.out; omega
      obtain ⟨pa0, pc0, hp0f⟩ := own_form' h1.prow
      rw [h2] at hp0f
      subst hp0f
      have hzl : zs.length ≤ 1000 := by omega
      clear hsk hsv hxe hpe h h1 hv0 hp0
      gi_wp2
      refine wpIn_region_chain [some (.pointer (some ⟨cb, 1, none⟩)), some (.slice pa0 k pc0), some (.slice a1 n1 c1), none, some (.slice a2 n2 c2), none, none, none, none, some (.pointer (some ⟨cb, 1, none⟩)), none] [3, 5, 6, 7, 8, 10] (ClS W (w.heap.size + 2) cb (w2.heap.size + 2) w.heap.size lf (.slice va vn vcp) cs (600 * k) v0 (.slice pa0 k pc0) zs ex q1 q2) 46 (by kernel_rfl) (by kernel_rfl) (by kernel_rfl) (by kernel_rfl) (by kernel_rfl) rfl ?_ ?_ ?_
      · intro vals0
        exact (⟨v0, H1.out.below ((Below.refl _ W).drew), Fp.refl _ _ _ _ _ _ ((Only.refl _ W).drew)⟩ : ∃ v, Cl (w.heap.size + 2) cb (w2.heap.size + 2) w.heap.size lf (.slice pa0 k pc0) nilS (.slice va vn vcp) cs (600 * k) v (.slice pa0 k pc0) nilS zs [] ex W.drew ∧ Fp (w.heap.size + 2) cb v0 (.slice pa0 k pc0) W W.drew v (.slice pa0 k pc0))
      · refine ⟨?_, ?_, ?_, ?_, ?_, ?_, ?_, ?_, ?_, ?_, ?_, trivial⟩
        · intro k vals act wx hk h hs
          have e4 : act.eval (.tmp 4) = .pointer (some ⟨cb, 0, none⟩) := h.old 4 (by kernel_rfl)
          clear h
          refine gives_by rfl act.eval rfl ?_
          generalize act.eval = ρ at *
          intro hf hc
          go_simp
          exact ⟨rfl, hs⟩
        · intro k vals act wx hk h hs
          have e20 : act.eval (.tmp 20) = .pointer (some ⟨cb, 1, none⟩) := h.q 0 20 (by kernel_rfl) rfl
          clear h
          have cx := ClS.cell hs hk
          refine gives_by rfl act.eval rfl ?_
          generalize act.eval = ρ at *
          intro hf hc
          go_simp
          exact ⟨rfl, hs⟩
        · intro k vals act wx hk h hs
          have e5 : act.eval (.tmp 5) = .slice a1 n1 c1 := h.old 5 (by kernel_rfl)
          clear h
          refine gives_by rfl act.eval rfl ?_
          generalize act.eval = ρ at *
          intro hf hc
          go_simp
          exact ⟨rfl, hs⟩
        · intro vals act wx h hs
          have e3 : act.eval (.tmp 3) = .pointer (some ⟨w.heap.size + 1 + 1, 0, none⟩) := h.old 3 (by kernel_rfl)
          have e22 : act.eval (.tmp 22) = .slice a1 n1 c1 := h.q 2 22 (by kernel_rfl) rfl
          clear h
          obtain ⟨vv, hcl, hfp⟩ : ∃ v, Cl (w.heap.size + 2) cb (w2.heap.size + 2) w.heap.size lf (.slice pa0 k pc0) nilS (.slice va vn vcp) cs (600 * k) v (.slice pa0 k pc0) nilS (zs) [] (ex) wx ∧ Fp (w.heap.size + 2) cb v0 (.slice pa0 k pc0) W wx v (.slice pa0 k pc0) := hs
          have hbl := HFB.out _ _ _ hfp
          have hz := hfp.1.size
          refine gives_by rfl act.eval rfl ?_
          generalize act.eval = ρ at *
          intro hf hc
          go_simp
          refine (keep_cl hcl (.slice a1 n1 c1) q1 (HSK.out.below hbl) (by omega) (by omega)).mono ?_
          rintro e w' ⟨v', r, he, hc', ho', hw'⟩
          exact ⟨r, he, (⟨v', hc', hfp.step (ho'.mono (fun j _ e => e.elim .inl (fun e => .inr (.inr (.inl e))))) hw' (fun j hj => .inl hj)⟩ : ∃ v, Cl (w.heap.size + 2) cb (w2.heap.size + 2) w.heap.size lf (.slice pa0 k pc0) nilS (.slice va vn vcp) cs (600 * k + q1.length) v (.slice pa0 k pc0) nilS (zs) [] (ex ++ [(r, q1)]) w' ∧ Fp (w.heap.size + 2) cb v0 (.slice pa0 k pc0) W w' v (.slice pa0 k pc0))⟩
        · intro k vals act wx hk h hs
          have e6 : act.eval (.tmp 6) = .slice a2 n2 c2 := h.old 6 (by kernel_rfl)
          clear h
          refine gives_by rfl act.eval rfl ?_
          generalize act.eval = ρ at *
          intro hf hc
          go_simp
          exact ⟨rfl, hs⟩
        · intro vals act wx h hs
          have e3 : act.eval (.tmp 3) = .pointer (some ⟨w.heap.size + 1 + 1, 0, none⟩) := h.old 3 (by kernel_rfl)
          have e24 : act.eval (.tmp 24) = .slice a2 n2 c2 := h.q 4 24 (by kernel_rfl) rfl
          clear h
          obtain ⟨vv, hcl, hfp⟩ : ∃ v, Cl (w.heap.size + 2) cb (w2.heap.size + 2) w.heap.size lf (.slice pa0 k pc0) nilS (.slice va vn vcp) cs (600 * k + q1.length) v (.slice pa0 k pc0) nilS (zs) [] (ex ++ [(vals 3, q1)]) wx ∧ Fp (w.heap.size + 2) cb v0 (.slice pa0 k pc0) W wx v (.slice pa0 k pc0) := hs
          have hbl := HFB.out _ _ _ hfp
          have hz := hfp.1.size
          refine gives_by rfl act.eval rfl ?_
          generalize act.eval = ρ at *
          intro hf hc
          go_simp
          refine (keep_cl hcl (.slice a2 n2 c2) q2 (HSV.out.below hbl) (by omega) (by omega)).mono ?_
          rintro e w' ⟨v', r, he, hc', ho', hw'⟩
          exact ⟨r, he, (⟨v', hc', hfp.step (ho'.mono (fun j _ e => e.elim .inl (fun e => .inr (.inr (.inl e))))) hw' (fun j hj => .inl hj)⟩ : ∃ v, Cl (w.heap.size + 2) cb (w2.heap.size + 2) w.heap.size lf (.slice pa0 k pc0) nilS (.slice va vn vcp) cs (600 * k + q1.length + q2.length) v (.slice pa0 k pc0) nilS (zs) [] (ex ++ [(vals 3, q1)] ++ [(r, q2)]) w' ∧ Fp (w.heap.size + 2) cb v0 (.slice pa0 k pc0) W w' v (.slice pa0 k pc0))⟩
        · intro vals act wx h hs
          have e23 : act.eval (.tmp 23) = vals 3 := h.val 3 23 (by kernel_rfl)
          have e25 : act.eval (.tmp 25) = vals 5 := h.val 5 25 (by kernel_rfl)
          clear h
          have hs' : ∃ v, Cl (w.heap.size + 2) cb (w2.heap.size + 2) w.heap.size lf (.slice pa0 k pc0) nilS (.slice va vn vcp) cs (600 * k + q1.length + q2.length) v (.slice pa0 k pc0) nilS (zs) [] (ex ++ [(vals 3, q1)] ++ [(vals 5, q2)]) wx ∧ Fp (w.heap.size + 2) cb v0 (.slice pa0 k pc0) W wx v (.slice pa0 k pc0) := hs
          obtain ⟨vv, hcl, hfp⟩ := hs'
          obtain ⟨b1, m1', d1, hf1⟩ := sl_form (hcl.ex (vals 3, q1) (by simp)).1
          obtain ⟨b2, m2', d2, hf2⟩ := sl_form (hcl.ex (vals 5, q2) (by simp)).1
          simp only at hf1 hf2
          rw [hf1] at e23
          rw [hf2] at e25
          refine gives_by rfl act.eval rfl ?_
          generalize act.eval = ρ at *
          intro hf hc
          go_simp
          exact (⟨⟨vv, hcl, hfp⟩, by rw [hf1, hf2]⟩ : (∃ v, Cl (w.heap.size + 2) cb (w2.heap.size + 2) w.heap.size lf (.slice pa0 k pc0) nilS (.slice va vn vcp) cs (600 * k + q1.length + q2.length) v (.slice pa0 k pc0) nilS (zs) [] (ex ++ [(vals 3, q1)] ++ [(vals 5, q2)]) wx ∧ Fp (w.heap.size + 2) cb v0 (.slice pa0 k pc0) W wx v (.slice pa0 k pc0)) ∧ (.agg #[.slice b1 m1' d1, .slice b2 m2' d2] : Value) = .agg #[vals 3, vals 5])
        · intro vals act wx h hs
          have e26 : act.eval (.tmp 26) = vals 6 := h.val 6 26 (by kernel_rfl)
          clear h
          obtain ⟨⟨vv, hcl, hfp⟩, h6⟩ : (∃ v, Cl (w.heap.size + 2) cb (w2.heap.size + 2) w.heap.size lf (.slice pa0 k pc0) nilS (.slice va vn vcp) cs (600 * k + q1.length + q2.length) v (.slice pa0 k pc0) nilS (zs) [] (ex ++ [(vals 3, q1)] ++ [(vals 5, q2)]) wx ∧ Fp (w.heap.size + 2) cb v0 (.slice pa0 k pc0) W wx v (.slice pa0 k pc0)) ∧ vals 6 = .agg #[vals 3, vals 5] := hs
          rw [h6] at e26
          obtain ⟨i0, hi, hz0, hz1, hz2⟩ := info_parts infoPair
          have hr := run_build_one (P := Try.prog) wx 22 36 i0 _ [vals 3, vals 5] Try.underlying22 hi hz0 hz1 (by simp) (by simp)
          refine gives_of_run rfl (exec_buildSlice1 22 1 (.tmp 26) rfl _ _ e26 hr) ?_
          have hbn : Below wx.heap.size wx (wx.alloc (.cells [vals 3, vals 5].toArray 36)) := (Below.refl _ wx).alloc (Nat.le_refl _) _
          exact (⟨⟨vv, hcl.below hbn, hfp.step (Only.of_below _ hbn) (fun j hj => .inl hj) (fun j hj => .inl hj)⟩, wx.heap.size, rfl, Blk.new wx _ [vals 3, vals 5]⟩ : (∃ v, Cl (w.heap.size + 2) cb (w2.heap.size + 2) w.heap.size lf (.slice pa0 k pc0) nilS (.slice va vn vcp) cs (600 * k + q1.length + q2.length) v (.slice pa0 k pc0) nilS (zs) [] (ex ++ [(vals 3, q1)] ++ [(vals 5, q2)]) (wx.alloc (.cells [vals 3, vals 5].toArray 36)) ∧ Fp (w.heap.size + 2) cb v0 (.slice pa0 k pc0) W (wx.alloc (.cells [vals 3, vals 5].toArray 36)) v (.slice pa0 k pc0)) ∧ ∃ g, (.slice (some ⟨wx.heap.size, 0, none⟩) 1 1 : Value) = .slice (some ⟨g, 0, none⟩) 1 1 ∧ Blk (wx.alloc (.cells [vals 3, vals 5].toArray 36)) g 36 [vals 3, vals 5])
        · intro vals act wx h hs
          have e21 : act.eval (.tmp 21) = .slice pa0 k pc0 := h.q 1 21 (by kernel_rfl) rfl
          have e27 : act.eval (.tmp 27) = vals 7 := h.val 7 27 (by kernel_rfl)
          clear h
          obtain ⟨⟨vv, hcl, hfp⟩, g, h7, hg⟩ : (∃ v, Cl (w.heap.size + 2) cb (w2.heap.size + 2) w.heap.size lf (.slice pa0 k pc0) nilS (.slice va vn vcp) cs (600 * k + q1.length + q2.length) v (.slice pa0 k pc0) nilS (zs) [] (ex ++ [(vals 3, q1)] ++ [(vals 5, q2)]) wx ∧ Fp (w.heap.size + 2) cb v0 (.slice pa0 k pc0) W wx v (.slice pa0 k pc0)) ∧ ∃ g, vals 7 = .slice (some ⟨g, 0, none⟩) 1 1 ∧ Blk wx g 36 [vals 3, vals 5] := hs
          rw [h7] at e27
          have hz := hfp.1.size
          obtain ⟨b1, m1', d1, hf1⟩ := sl_form (hcl.ex (vals 3, q1) (by simp)).1
          obtain ⟨b2, m2', d2, hf2⟩ := sl_form (hcl.ex (vals 5, q2) (by simp)).1
          simp only at hf1 hf2
          rw [hf1, hf2] at hg
          obtain ⟨p', w', hr, hc', ho', hw', a', c', hp'⟩ := push_pair hcl g b1 b2 m1' m2' d1 d2 hg (by omega) (by omega)
          rw [← hf1, ← hf2] at hc'
          refine gives_of_run rfl (exec_append (.tmp 21) (.tmp 27) 22 rfl _ _ e21 e27 _ hr) ?_
          exact (⟨⟨vv, hc', hfp.step (ho'.mono (fun j _ e => .inr (.inr (.inr e)))) (fun j hj => .inl hj) hw'⟩, a', _, c', hp'⟩ : (∃ v, Cl (w.heap.size + 2) cb (w2.heap.size + 2) w.heap.size lf (.slice pa0 k pc0) nilS (.slice va vn vcp) cs (600 * k + q1.length + q2.length) v (p') nilS (zs ++ [(vals 3, vals 5)]) [] (ex ++ [(vals 3, q1)] ++ [(vals 5, q2)]) w' ∧ Fp (w.heap.size + 2) cb v0 (.slice pa0 k pc0) W w' v (p')) ∧ ∃ a n c, p' = .slice a n c)
        · intro k vals act wx hk h hs
          have e4 : act.eval (.tmp 4) = .pointer (some ⟨cb, 0, none⟩) := h.old 4 (by kernel_rfl)
          clear h
          refine gives_by rfl act.eval rfl ?_
          generalize act.eval = ρ at *
          intro hf hc
          go_simp
          exact ⟨rfl, hs⟩
        · intro vals act wx h hs
          have e29 : act.eval (.tmp 29) = .pointer (some ⟨cb, 1, none⟩) := h.q 9 29 (by kernel_rfl) rfl
          have e28 : act.eval (.tmp 28) = vals 8 := h.val 8 28 (by kernel_rfl)
          clear h
          obtain ⟨⟨vv, hcl, hfp⟩, a', n', c', h8⟩ : (∃ v, Cl (w.heap.size + 2) cb (w2.heap.size + 2) w.heap.size lf (.slice pa0 k pc0) nilS (.slice va vn vcp) cs (600 * k + q1.length + q2.length) v (vals 8) nilS (zs ++ [(vals 3, vals 5)]) [] (ex ++ [(vals 3, q1)] ++ [(vals 5, q2)]) wx ∧ Fp (w.heap.size + 2) cb v0 (.slice pa0 k pc0) W wx v (vals 8)) ∧ ∃ a n c, vals 8 = .slice a n c := hs
          rw [h8] at e28
          have c0 : wx.cell? ⟨cb, 1, none⟩ = some (.slice pa0 k pc0) := hcl.cbox.cell 1
          have f0 : wx.frozen? ⟨cb, 1, none⟩ = false := hcl.cbox.frozen 1
          obtain ⟨hcl2, ho2⟩ := hcl.put 1 (.slice a' n' c') (.slice a' n' c') nilS rfl
          have hfin : ∃ v, Cl (w.heap.size + 2) cb (w2.heap.size + 2) w.heap.size lf (vals 8) nilS (.slice va vn vcp) cs (600 * k + q1.length + q2.length) v (vals 8) nilS (zs ++ [(vals 3, vals 5)]) [] (ex ++ [(vals 3, q1)] ++ [(vals 5, q2)]) (wx.setCell ⟨cb, 1, none⟩ (.slice a' n' c')) ∧ Fp (w.heap.size + 2) cb v0 (.slice pa0 k pc0) W (wx.setCell ⟨cb, 1, none⟩ (.slice a' n' c')) v (vals 8) := ⟨vv, by rw [h8] at hcl2 ⊢; exact hcl2, by rw [h8] at hfp ⊢; exact hfp.step (ho2.mono (fun j _ e => .inr (.inl e))) (fun j hj => .inl hj) (fun j hj => .inl hj)⟩
          clear hcl hcl2 hfp ho2 h8
          refine gives_by rfl act.eval rfl ?_
          generalize act.eval = ρ at *
          intro hf hc
          go_simp
          exact hfin
      · intro vals1 w' hq hs
        obtain ⟨vv, hcl, hfp⟩ : ∃ v, Cl (w.heap.size + 2) cb (w2.heap.size + 2) w.heap.size lf (vals1 8) nilS (.slice va vn vcp) cs (600 * k + q1.length + q2.length) v (vals1 8) nilS (zs ++ [(vals1 3, vals1 5)]) [] (ex ++ [(vals1 3, q1)] ++ [(vals1 5, q2)]) w' ∧ Fp (w.heap.size + 2) cb v0 (.slice pa0 k pc0) W w' v (vals1 8) := hs
        generalize putAll _ vals1 0 _ = act
        have hh := HH.out
        have hon := hfp.1
        have hsz := hon.size
        have nS : ∀ j, j < w2.heap.size + 2 → j ≠ w.heap.size + 2 → j ≠ cb → ¬ (j = w.heap.size + 2 ∨ j = cb ∨ v0.ownBlock = some j ∨ (Value.slice pa0 k pc0).ownBlock = some j) := fun j hj e1 e2 e => by
          rcases e with e | e | e | e
          · exact e1 e
          · exact e2 e
          · have := HV0.out j e; omega
          · have := HP0.out j e; omega
        have nY : ∀ j, Y j → ¬ (j = w.heap.size + 2 ∨ j = cb ∨ v0.ownBlock = some j ∨ (Value.slice pa0 k pc0).ownBlock = some j) := fun j hj e => by
          have := (hh.ys j hj).1
          rcases e with e | e | e | e
          · omega
          · omega
          · exact h4 j e hj
          · exact h5 j e hj
        refine ⟨Keeps2.of_only hon (nS _ (by omega) (by omega) (by omega)) (nS _ (by omega) (by omega) (by omega)), fun j hj => hon.block j (hh.ys j hj).2 (nY j hj), ⟨vv, vals1 8, zs ++ [(vals1 3, vals1 5)], ex ++ [(vals1 3, q1)] ++ [(vals1 5, q2)], ?_, by rw [List.length_append, h2]; rfl, fun i hi => ?_, fun j hj hy => ?_, fun j hj hy => ?_⟩, hh.b0.only hon (nS _ (by omega) (by omega) (by omega)), hh.b1.only hon (nS _ (by omega) (by omega) (by omega)), hh.be.only hon (nS _ (by omega) (by omega) (by omega)), HFB.out _ _ _ hfp, by omega, fun j hj => ⟨(hh.ys j hj).1, by have := (hh.ys j hj).2; omega⟩⟩
        · obtain ⟨XS, c1', c2'⟩ := hcl.row
          exact ⟨hcl.sbox, ⟨XS, c1', by omega⟩, hcl.ex, hcl.cbox, hcl.prow, hcl.krow, hcl.ints⟩
        · by_cases hik : i < k
          · have e1 : (zs ++ [(vals1 3, vals1 5)]).getD i nil2 = zs.getD i nil2 := by simp [List.getD, List.getElem?_append_left (show i < zs.length by omega)]
            rw [e1]
            exact ⟨List.mem_append_left _ (List.mem_append_left _ (h3 i hik).1), List.mem_append_left _ (List.mem_append_left _ (h3 i hik).2)⟩
          · obtain rfl : i = k := by omega
            have e1 : (zs ++ [(vals1 3, vals1 5)]).getD i nil2 = (vals1 3, vals1 5) := by rw [← h2]; simp [List.getD]
            rw [e1, HPE.out]
            exact ⟨by simp, by simp⟩
        · exact (hfp.2.1 j hj).elim (fun e => h4 j e hy) (fun e => by have := (hh.ys j hy).2; omega)
        · exact (hfp.2.2 j hj).elim (fun e => h5 j e hy) (fun e => by have := (hh.ys j hy).2; omega)
    case done =>
      intro Y W h hD
      have hxl : xs.length = ps.length := HP.out.len
      rw [hxl] at h
      have hJ : KlJ w w2.heap.size cb bx lf (.slice va vn vcp) cs ps ks 0 W := by
        obtain ⟨v, p, zs, ex, g1, g2, g3, _, _⟩ := h.st
        exact ⟨⟨v, p, nilS, zs, [], ex, g1, g2, g3, rfl, fun i hi => absurd hi (Nat.not_lt_zero _)⟩, h.b0, h.b1, h.below, h.size, hD⟩
      have z2 : W.cell? ⟨w.heap.size, 2, none⟩ = some (.slice ka nk kc) := by rw [h.b0.cell 2, HBX.out]; rfl
      have HJ := hide hJ
      clear hJ h hD hxl
      gi_wp2
      clear z2
      gi_loopw [33] (fun i wr => ∃ k : Nat, i = .int .i64 (k : Int) ∧ k ≤ nk ∧ KlJ w w2.heap.size cb bx lf (.slice va vn vcp) cs ps ks k wr) (fun i _ => nk + 1 - (intOf i).toNat)
      case atStart => exact ⟨0, rfl, Nat.zero_le _, HJ.out⟩
      case round =>
        obtain ⟨m, rfl, hm, hj⟩ := hrel
        clear HJ
        by_cases hmn : m < nk
        · have hmi : (m : Int) < (nk : Int) := by omega
          have hml : m < ks.length := by rw [HNK.out]; exact hmn
          obtain ⟨b, off, rfl, hq, hsq⟩ := (HK.out.below hj.below).at m hml
          have hle := HM5.out (ks.getD m []) (by simp only [List.getD, List.getElem?_eq_getElem hml]; exact List.getElem_mem hml)
          have hsw : Sl w (ys.getD m nilS) (ks.getD m []) := by obtain ⟨_, _, _, _, h⟩ := HK.out.at m hml; exact h
          obtain ⟨qm, hqm⟩ : ∃ qm, ks.getD m [] = qm := ⟨_, rfl⟩
          have HQM := hide hqm
          rw [hqm] at hsq hle hsw
          generalize ys.getD m nilS = u at *
          simp only [fewK, decide_eq_true_iff] at hle
          obtain ⟨v0, p0, k0, zs, us, ex, g1, g2, g3, g4, g5⟩ := hj.st
          have hv0 : ∀ j, v0.ownBlock = some j → w2.heap.size + 2 ≤ j := fun j hj => by obtain ⟨XS, b1, _⟩ := g1.row; exact (row_blk b1 hj).1
          have hk0 : ∀ j, k0.ownBlock = some j → w2.heap.size + 2 ≤ j := fun j hj => (row_blk g1.krow hj).1
          have HFB : Hid (∀ wx vv pp, Fp (w.heap.size + 2) cb v0 k0 wr wx vv pp → Below w.heap.size w wx) := fun wx vv pp hf => hj.below.trans (hf.1.below hj.below.size (fun j hj e => by
            rcases e with e | e | e | e
            · omega
            · omega
            · have := hv0 j e; omega
            · have := hk0 j e; omega))
          have HSW := hide hsw
          obtain ⟨a1, n1, c1, rfl⟩ := sl_form hsq
          have HH := hide hj
          have H1 := hide g1
          have HV0 := hide hv0
          have HK0 := hide hk0
          have hWz := hj.size
          have hpl : ps.length ≤ 300 := by rw [HNP.out]; exact m1
          obtain ⟨ka0, kc0, hk0f⟩ := own_form' g1.krow
          rw [g4] at hk0f
          subst hk0f
          have hzl : us.length ≤ 1000 := by omega
          clear hsq hsw hj g1 hv0 hk0 hqm
          gi_wp2
          refine wpIn_wide.2 ?_
          refine wp_region_chain [some (.pointer (some ⟨cb, 2, none⟩)), some (.slice ka0 m kc0), some (.slice a1 n1 c1), none, none, none, some (.pointer (some ⟨cb, 2, none⟩)), none] [3, 4, 5, 7] (ClK wr (w.heap.size + 2) cb (w2.heap.size + 2) w.heap.size lf (.slice va vn vcp) cs (600 * ps.length + 300 * m) v0 p0 (.slice ka0 m kc0) zs us ex qm) 46 (by kernel_rfl) (by kernel_rfl) (by kernel_rfl) (by kernel_rfl) rfl ?_ ?_ ?_
          · intro vals0
            exact (⟨v0, H1.out.below ((Below.refl _ wr).drew), Fp.refl _ _ _ _ _ _ ((Only.refl _ wr).drew)⟩ : ∃ v, Cl (w.heap.size + 2) cb (w2.heap.size + 2) w.heap.size lf p0 (.slice ka0 m kc0) (.slice va vn vcp) cs (600 * ps.length + 300 * m) v p0 (.slice ka0 m kc0) zs us ex wr.drew ∧ Fp (w.heap.size + 2) cb v0 (.slice ka0 m kc0) wr wr.drew v (.slice ka0 m kc0))
          · refine ⟨?_, ?_, ?_, ?_, ?_, ?_, ?_, ?_, trivial⟩
            · intro k vals act wx hk h hs
              have e4 : act.eval (.tmp 4) = .pointer (some ⟨cb, 0, none⟩) := h.old 4 (by kernel_rfl)
              clear h
              refine gives_by rfl act.eval rfl ?_
              generalize act.eval = ρ at *
              intro hf hc
              go_simp
              exact ⟨rfl, hs⟩
            · intro k vals act wx hk h hs
              have e37 : act.eval (.tmp 37) = .pointer (some ⟨cb, 2, none⟩) := h.q 0 37 (by kernel_rfl) rfl
              clear h
              have cx := ClK.cell hs hk
              refine gives_by rfl act.eval rfl ?_
              generalize act.eval = ρ at *
              intro hf hc
              go_simp
              exact ⟨rfl, hs⟩
            · intro k vals act wx hk h hs
              have e8 : act.eval (.tmp 8) = .slice a1 n1 c1 := h.old 8 (by kernel_rfl)
              clear h
              refine gives_by rfl act.eval rfl ?_
              generalize act.eval = ρ at *
              intro hf hc
              go_simp
              exact ⟨rfl, hs⟩
            · intro vals act wx h hs
              have e3 : act.eval (.tmp 3) = .pointer (some ⟨w.heap.size + 1 + 1, 0, none⟩) := h.old 3 (by kernel_rfl)
              have e39 : act.eval (.tmp 39) = .slice a1 n1 c1 := h.q 2 39 (by kernel_rfl) rfl
              clear h
              obtain ⟨vv, hcl, hfp⟩ : ∃ v, Cl (w.heap.size + 2) cb (w2.heap.size + 2) w.heap.size lf p0 (.slice ka0 m kc0) (.slice va vn vcp) cs (600 * ps.length + 300 * m) v p0 (.slice ka0 m kc0) zs (us) (ex) wx ∧ Fp (w.heap.size + 2) cb v0 (.slice ka0 m kc0) wr wx v (.slice ka0 m kc0) := hs
              have hbl := HFB.out _ _ _ hfp
              have hz := hfp.1.size
              refine gives_by rfl act.eval rfl ?_
              generalize act.eval = ρ at *
              intro hf hc
              go_simp
              refine (keep_cl hcl (.slice a1 n1 c1) qm (HSW.out.below hbl) (by omega) (by omega)).mono ?_
              rintro e w' ⟨v', r, he, hc', ho', hw'⟩
              exact ⟨r, he, (⟨v', hc', hfp.step (ho'.mono (fun j _ e => e.elim .inl (fun e => .inr (.inr (.inl e))))) hw' (fun j hj => .inl hj)⟩ : ∃ v, Cl (w.heap.size + 2) cb (w2.heap.size + 2) w.heap.size lf p0 (.slice ka0 m kc0) (.slice va vn vcp) cs (600 * ps.length + 300 * m + qm.length) v p0 (.slice ka0 m kc0) zs (us) (ex ++ [(r, qm)]) w' ∧ Fp (w.heap.size + 2) cb v0 (.slice ka0 m kc0) wr w' v (.slice ka0 m kc0))⟩
            · intro vals act wx h hs
              have e40 : act.eval (.tmp 40) = vals 3 := h.val 3 40 (by kernel_rfl)
              clear h
              obtain ⟨vv, hcl, hfp⟩ : ∃ v, Cl (w.heap.size + 2) cb (w2.heap.size + 2) w.heap.size lf p0 (.slice ka0 m kc0) (.slice va vn vcp) cs (600 * ps.length + 300 * m + qm.length) v p0 (.slice ka0 m kc0) zs (us) (ex ++ [(vals 3, qm)]) wx ∧ Fp (w.heap.size + 2) cb v0 (.slice ka0 m kc0) wr wx v (.slice ka0 m kc0) := hs
              obtain ⟨b1, m1', d1, hf1⟩ := sl_form (hcl.ex (vals 3, qm) (by simp)).1
              simp only at hf1
              rw [hf1] at e40
              refine gives_of_run rfl (exec_buildSlice1 23 1 (.tmp 40) rfl _ _ e40 (build_row wx b1 m1' d1)) ?_
              have hbn : Below wx.heap.size wx (wx.alloc (.cells #[.slice b1 m1' d1] 34)) := (Below.refl _ wx).alloc (Nat.le_refl _) _
              exact (⟨⟨vv, hcl.below hbn, hfp.step (Only.of_below _ hbn) (fun j hj => .inl hj) (fun j hj => .inl hj)⟩, wx.heap.size, rfl, by rw [hf1]; exact Blk.new wx _ [.slice b1 m1' d1]⟩ : (∃ v, Cl (w.heap.size + 2) cb (w2.heap.size + 2) w.heap.size lf p0 (.slice ka0 m kc0) (.slice va vn vcp) cs (600 * ps.length + 300 * m + qm.length) v p0 (.slice ka0 m kc0) zs (us) (ex ++ [(vals 3, qm)]) (wx.alloc (.cells #[.slice b1 m1' d1] 34)) ∧ Fp (w.heap.size + 2) cb v0 (.slice ka0 m kc0) wr (wx.alloc (.cells #[.slice b1 m1' d1] 34)) v (.slice ka0 m kc0)) ∧ ∃ g, (.slice (some ⟨wx.heap.size, 0, none⟩) 1 1 : Value) = .slice (some ⟨g, 0, none⟩) 1 1 ∧ Blk (wx.alloc (.cells #[.slice b1 m1' d1] 34)) g 34 [vals 3])
            · intro vals act wx h hs
              have e38 : act.eval (.tmp 38) = .slice ka0 m kc0 := h.q 1 38 (by kernel_rfl) rfl
              have e41 : act.eval (.tmp 41) = vals 4 := h.val 4 41 (by kernel_rfl)
              clear h
              obtain ⟨⟨vv, hcl, hfp⟩, g, h7, hg⟩ : (∃ v, Cl (w.heap.size + 2) cb (w2.heap.size + 2) w.heap.size lf p0 (.slice ka0 m kc0) (.slice va vn vcp) cs (600 * ps.length + 300 * m + qm.length) v p0 (.slice ka0 m kc0) zs (us) (ex ++ [(vals 3, qm)]) wx ∧ Fp (w.heap.size + 2) cb v0 (.slice ka0 m kc0) wr wx v (.slice ka0 m kc0)) ∧ ∃ g, vals 4 = .slice (some ⟨g, 0, none⟩) 1 1 ∧ Blk wx g 34 [vals 3] := hs
              rw [h7] at e41
              have hz := hfp.1.size
              obtain ⟨b1, m1', d1, hf1⟩ := sl_form (hcl.ex (vals 3, qm) (by simp)).1
              simp only at hf1
              rw [hf1] at hg
              obtain ⟨p', w', hr, hc', ho', hw', a', c', hp'⟩ := push_key hcl g b1 m1' d1 hg (by omega) (by omega)
              rw [← hf1] at hc'
              refine gives_of_run rfl (exec_append (.tmp 38) (.tmp 41) 23 rfl _ _ e38 e41 _ hr) ?_
              exact (⟨⟨vv, hc', hfp.step (ho'.mono (fun j _ e => .inr (.inr (.inr e)))) (fun j hj => .inl hj) hw'⟩, a', _, c', hp'⟩ : (∃ v, Cl (w.heap.size + 2) cb (w2.heap.size + 2) w.heap.size lf p0 (.slice ka0 m kc0) (.slice va vn vcp) cs (600 * ps.length + 300 * m + qm.length) v p0 (p') zs (us ++ [vals 3]) (ex ++ [(vals 3, qm)]) w' ∧ Fp (w.heap.size + 2) cb v0 (.slice ka0 m kc0) wr w' v (p')) ∧ ∃ a n c, p' = .slice a n c)
            · intro k vals act wx hk h hs
              have e4 : act.eval (.tmp 4) = .pointer (some ⟨cb, 0, none⟩) := h.old 4 (by kernel_rfl)
              clear h
              refine gives_by rfl act.eval rfl ?_
              generalize act.eval = ρ at *
              intro hf hc
              go_simp
              exact ⟨rfl, hs⟩
            · intro vals act wx h hs
              have e43 : act.eval (.tmp 43) = .pointer (some ⟨cb, 2, none⟩) := h.q 6 43 (by kernel_rfl) rfl
              have e42 : act.eval (.tmp 42) = vals 5 := h.val 5 42 (by kernel_rfl)
              clear h
              obtain ⟨⟨vv, hcl, hfp⟩, a', n', c', h8⟩ : (∃ v, Cl (w.heap.size + 2) cb (w2.heap.size + 2) w.heap.size lf p0 (.slice ka0 m kc0) (.slice va vn vcp) cs (600 * ps.length + 300 * m + qm.length) v p0 (vals 5) zs (us ++ [vals 3]) (ex ++ [(vals 3, qm)]) wx ∧ Fp (w.heap.size + 2) cb v0 (.slice ka0 m kc0) wr wx v (vals 5)) ∧ ∃ a n c, vals 5 = .slice a n c := hs
              rw [h8] at e42
              have c0 : wx.cell? ⟨cb, 2, none⟩ = some (.slice ka0 m kc0) := hcl.cbox.cell 2
              have f0 : wx.frozen? ⟨cb, 2, none⟩ = false := hcl.cbox.frozen 2
              obtain ⟨hcl2, ho2⟩ := hcl.put 2 (.slice a' n' c') p0 (.slice a' n' c') rfl
              have hfin : ∃ v, Cl (w.heap.size + 2) cb (w2.heap.size + 2) w.heap.size lf p0 (vals 5) (.slice va vn vcp) cs (600 * ps.length + 300 * m + qm.length) v p0 (vals 5) zs (us ++ [vals 3]) (ex ++ [(vals 3, qm)]) (wx.setCell ⟨cb, 2, none⟩ (.slice a' n' c')) ∧ Fp (w.heap.size + 2) cb v0 (.slice ka0 m kc0) wr (wx.setCell ⟨cb, 2, none⟩ (.slice a' n' c')) v (vals 5) := ⟨vv, by rw [h8] at hcl2 ⊢; exact hcl2, by rw [h8] at hfp ⊢; exact hfp.step (ho2.mono (fun j _ e => .inr (.inl e))) (fun j hj => .inl hj) (fun j hj => .inl hj)⟩
              clear hcl hcl2 hfp ho2 h8
              refine gives_by rfl act.eval rfl ?_
              generalize act.eval = ρ at *
              intro hf hc
              go_simp
              exact hfin
          · intro vals1 w' hq hs
            obtain ⟨vv, hcl, hfp⟩ : ∃ v, Cl (w.heap.size + 2) cb (w2.heap.size + 2) w.heap.size lf p0 (vals1 5) (.slice va vn vcp) cs (600 * ps.length + 300 * m + qm.length) v p0 (vals1 5) zs (us ++ [vals1 3]) (ex ++ [(vals1 3, qm)]) w' ∧ Fp (w.heap.size + 2) cb v0 (.slice ka0 m kc0) wr w' v (vals1 5) := hs
            have hh := HH.out
            have hon := hfp.1
            have hsz := hon.size
            have nS : ∀ j, j < w2.heap.size + 2 → j ≠ w.heap.size + 2 → j ≠ cb → ¬ (j = w.heap.size + 2 ∨ j = cb ∨ v0.ownBlock = some j ∨ (Value.slice ka0 m kc0).ownBlock = some j) := fun j hj e1 e2 e => by
              rcases e with e | e | e | e
              · exact e1 e
              · exact e2 e
              · have := HV0.out j e; omega
              · have := HK0.out j e; omega
            have HNX : Hid (KlJ w w2.heap.size cb bx lf (.slice va vn vcp) cs ps ks (m + 1) w') := by
              refine ⟨⟨vv, p0, vals1 5, zs, us ++ [vals1 3], ex ++ [(vals1 3, qm)], ?_, g2, fun i hi => ⟨List.mem_append_left _ (g3 i hi).1, List.mem_append_left _ (g3 i hi).2⟩, by rw [List.length_append, g4]; rfl, fun i hi => ?_⟩, hh.b0.only hon (nS _ (by omega) (by omega) (by omega)), hh.b1.only hon (nS _ (by omega) (by omega) (by omega)), HFB.out _ _ _ hfp, by omega, (hon.block _ (by omega) (nS _ (by omega) (by omega) (by omega))).trans hh.dfr⟩
              · obtain ⟨XS, c1', c2'⟩ := hcl.row
                exact ⟨hcl.sbox, ⟨XS, c1', by omega⟩, hcl.ex, hcl.cbox, hcl.prow, hcl.krow, hcl.ints⟩
              · by_cases him : i < m
                · have e1 : (us ++ [vals1 3]).getD i nilS = us.getD i nilS := by simp [List.getD, List.getElem?_append_left (show i < us.length by omega)]
                  rw [e1]
                  exact List.mem_append_left _ (g5 i him)
                · obtain rfl : i = m := by omega
                  have e1 : (us ++ [vals1 3]).getD i nilS = vals1 3 := by rw [← g4]; simp [List.getD]
                  rw [e1, HQM.out]
                  simp
            clear hcl hfp hq hon nS hh
            simp only [putAll, Act.put, List.setIfInBounds_toArray, List.set_cons_zero, List.set_cons_succ, Nat.zero_add, Nat.reduceAdd]
            gi_wp2
            go_roundw
            case rel => exact ⟨m + 1, by go_num, by omega, HNX.out⟩
            case measure => simp [intOf]; omega
        · obtain rfl : m = nk := by omega
          obtain ⟨v0, p0, k0, zs, us, ex, g1, g2, g3, g4, g5⟩ := hj.st
          have t0 : wr.cell? ⟨cb, 0, none⟩ = some (.bool lf) := g1.cbox.cell 0
          have t1 : wr.cell? ⟨cb, 1, none⟩ = some p0 := g1.cbox.cell 1
          have t2 : wr.cell? ⟨cb, 2, none⟩ = some k0 := g1.cbox.cell 2
          have t3 : wr.cell? ⟨cb, 3, none⟩ = some (.slice va vn vcp) := g1.cbox.cell 3
          obtain ⟨pa0, pc0, hp0f⟩ := own_form' g1.prow
          obtain ⟨ka0, kc0, hk0f⟩ := own_form' g1.krow
          rw [g4] at hk0f
          rw [g2] at hp0f
          generalize hpl : ps.length = PL at *
          subst hk0f
          subst hp0f
          have r0 : wr.cell? ⟨w.heap.size + 1, 0, none⟩ = some (.bool false) := hj.b1.cell 0
          have r1 : wr.cell? ⟨w.heap.size + 1, 1, none⟩ = some (.slice none 0 0) := hj.b1.cell 1
          have r2 : wr.cell? ⟨w.heap.size + 1, 2, none⟩ = some (.slice none 0 0) := hj.b1.cell 2
          have r3 : wr.cell? ⟨w.heap.size + 1, 3, none⟩ = some (.slice none 0 0) := hj.b1.cell 3
          have f0 : wr.frozen? ⟨w.heap.size + 1, 0, none⟩ = false := hj.b1.frozen 0
          have f1 : wr.frozen? ⟨w.heap.size + 1, 1, none⟩ = false := hj.b1.frozen 1
          have f2 : wr.frozen? ⟨w.heap.size + 1, 2, none⟩ = false := hj.b1.frozen 2
          have f3 : wr.frozen? ⟨w.heap.size + 1, 3, none⟩ = false := hj.b1.frozen 3
          have HH := hide hj
          have H1 := hide g1
          have HG2 := hide g2
          have HG4 := hide g4
          clear hj g1 g2 g4
          gi_wp2
          clear t0 t1 t2 t3 r0 r1 r2 r3 f0 f1 f2 f3
          have hB1 := (((HH.out.b1.set 0 (.bool lf)).set 1 (.slice pa0 PL pc0)).set 2 (.slice ka0 m kc0)).set 3 (.slice va vn vcp)
          have hoR : Only (· = w.heap.size + 1) wr ((((wr.setCell ⟨w.heap.size + 1, 0, none⟩ (.bool lf)).setCell ⟨w.heap.size + 1, 1, none⟩ (.slice pa0 PL pc0)).setCell ⟨w.heap.size + 1, 2, none⟩ (.slice ka0 m kc0)).setCell ⟨w.heap.size + 1, 3, none⟩ (.slice va vn vcp)) :=
            ((((Only.refl (· = w.heap.size + 1) wr).setCell ⟨w.heap.size + 1, 0, none⟩ _ (fun _ => rfl)).setCell ⟨w.heap.size + 1, 1, none⟩ _ (fun _ => rfl)).setCell ⟨w.heap.size + 1, 2, none⟩ _ (fun _ => rfl)).setCell ⟨w.heap.size + 1, 3, none⟩ _ (fun _ => rfl)
          generalize (((wr.setCell ⟨w.heap.size + 1, 0, none⟩ (.bool lf)).setCell ⟨w.heap.size + 1, 1, none⟩ (.slice pa0 PL pc0)).setCell ⟨w.heap.size + 1, 2, none⟩ (.slice ka0 m kc0)).setCell ⟨w.heap.size + 1, 3, none⟩ (.slice va vn vcp) = R at *
          have hzz := HH.out.size
          have hzr := hoR.size
          have hD3 := (hoR.block w2.heap.size (by omega) (by omega)).trans HH.out.dfr
          refine ⟨by simp, .inl ⟨_, _, rfl, run_takeDeferred hD3, ?_⟩⟩
          have hoD : Only (· = w2.heap.size) R (R.putObj w2.heap.size (.deferred none)) := only_put1 R _ _ _ rfl
          have hB2 := hB1.only hoD (by omega)
          have c3 := (H1.out.only hoR (by omega) (by omega) (fun j hj => by omega) (fun j hj e => by have := (H1.out.ints.lt j hj).1; subst e; exact row_not_blk H1.out.ints HH.out.b1 (by decide) hj)).only hoD (by omega) (by omega) (fun j hj => by omega) (fun j hj e => by have := HCL.out j hj; omega)
          refine ⟨_, results_cell_row rfl _ _ (w.heap.size + 1) 26 #[.bool lf, .slice pa0 PL pc0, .slice ka0 m kc0, .slice va vn vcp] (0, 0) _ rfl hB2 Try.underlying26 rfl sizeNode, _, rfl, ?_, (HH.out.below.trans (hoR.below HH.out.below.size (fun j hj e => by omega))).trans (hoD.below (by have := HH.out.below.size; omega) (fun j hj e => by omega))⟩
          refine ⟨_, _, _, zs, us, v0, rfl, ?_, ?_, c3.ints, by rw [HG2.out]; exact hpl.symm, fun i hi => ?_, fun i hi => ?_⟩
          · have := own_le' c3.prow (base' := w.heap.size) (by omega)
            rw [HG2.out, ← hpl] at this
            rw [← hpl]
            exact this
          · have := own_le' c3.krow (base' := w.heap.size) (by omega)
            rw [HG4.out, ← HNK.out] at this
            rw [← HNK.out]
            exact this
          · have e1 := c3.ex _ (g3 i (by rw [← hpl]; exact hi)).1
            have e2 := c3.ex _ (g3 i (by rw [← hpl]; exact hi)).2
            exact ⟨⟨e1.1, fun j hj => ⟨by have := (e1.2 j hj).1; omega, (e1.2 j hj).2⟩⟩, e2.1, fun j hj => ⟨by have := (e2.2 j hj).1; omega, (e2.2 j hj).2⟩⟩
          · have e1 := c3.ex _ (g5 i (by rw [← HNK.out]; exact hi))
            exact ⟨e1.1, fun j hj => ⟨by have := (e1.2 j hj).1; omega, (e1.2 j hj).2⟩⟩
    case stop =>
      intro c k W hk h
      exact h.elim

end Go.Proofs.Ytoamdbjailpgdaa
