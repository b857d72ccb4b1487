/- Contract: package extent's Run. -/
import Derived.Test.YtibgkmbdnelbeaaDoorERuns
import Derived.Scope
import Derived.WalkMore
import Derived.ControlIn
namespace Go.Proofs.YtibgkmbdnelbeaaDoor
set_option maxRecDepth 20000
open Go.RowKit Go.Shelf
set_option linter.unusedVariables false
set_option maxRecDepth 100000
attribute [local go_sem] Oper.semAt_some

def runR (xs : List (Nat × Nat)) (K : Int) : Int := if K < 1 then -1 else runI xs K
structure RnI (w : World) (pv : Option Addr) (K : Int) (fd : Int) (Y : Nat → Prop) (W : World) : Prop where
  b1 : Blk W w.heap.size 3 [.int .i64 K]
  b2 : Blk W (w.heap.size + 1) 3 [.int .i64 fd]
  b3 : Blk W (w.heap.size + 2) 23 [.pointer pv]
  below : Below w.heap.size w W
  size : w.heap.size + 5 ≤ W.heap.size
  ys : ∀ j, Y j → w.heap.size + 5 ≤ j ∧ j < W.heap.size
theorem RnI.keep {w : World} {pv : Option Addr} {K fd : Int} {Y : Nat → Prop} {W W' : World} (h : RnI w pv K fd Y W) (ho : Only (fun j => j = w.heap.size + 3 ∨ j = w.heap.size + 3 + 1) W W') : RnI w pv K fd Y W' :=
  ⟨h.b1.only ho (by omega), h.b2.only ho (by omega), h.b3.only ho (by omega), h.below.trans (ho.below h.below.size (fun j hj e => by omega)), Nat.le_trans h.size ho.size, fun j hj => ⟨(h.ys j hj).1, Nat.lt_of_lt_of_le (h.ys j hj).2 ho.size⟩⟩
theorem RnI.grow {w : World} {pv : Option Addr} {K fd : Int} {Y : Nat → Prop} {W W' : World} (h : RnI w pv K fd Y W) (hb : Below W.heap.size W W') : RnI w pv K fd (more Y W W') W' := by
  have hs := h.size
  have ho := Only.of_below (fun _ => False) hb
  refine ⟨h.b1.only ho (fun h => h), h.b2.only ho (fun h => h), h.b3.only ho (fun h => h), h.below.trans (hb.mono h.below.size), Nat.le_trans h.size hb.size, fun j hj => ?_⟩
  rcases hj with hj | hj
  · exact ⟨(h.ys j hj).1, Nat.lt_of_lt_of_le (h.ys j hj).2 hb.size⟩
  · exact ⟨by omega, hj.2⟩

set_option maxHeartbeats 4000000 in
theorem run_any (w : World) (pv : Option Addr) (xs : List (Nat × Nat)) (V : Nat → Nat → World → Prop) (hit : ∀ Bs, Iter Tryd.prog 40 #[.pointer (some ⟨Bs, 0, none⟩)] encR xs (V Bs)) (hV : ∀ Bs k W', Below w.heap.size w W' → W'.cell? ⟨Bs, 0, none⟩ = some (.pointer pv) → V Bs k W') (K : Int) :
    Calls Tryd.prog 23 #[.pointer pv, .int .i64 K] w fun e w' => e = .returned (.int .i64 (runR xs K)) ∧ Below w.heap.size w w' := by
  have HRS := hide (fun w => runs_of w pv)
  refine (callsIn_wide (n := 3)).1 ?_
  refine callsIn_of_wp_marks Tryd.func23 rfl trivial ?_ rfl
  simp only [Tryd.ntmps23, List.size_toArray, List.length_cons, List.length_nil, Nat.reduceAdd, Nat.reduceSub, Array.replicate_succ, Array.replicate_zero, List.push_toArray, List.append_toArray, List.nil_append, List.cons_append]
  gi_wp2
  refine wpIn_wide.2 ?_
  apply wp_scope_straight
  refine (wpIn_wide (n := 3)).1 ?_
  gi_wp2
  apply wpIn_label
  gi_wp2_with (first
    | (refine ⟨trivial, ?_⟩; gi_at_call 20; refine (callsIn_wide.2 (HRS.out _)).mono ?_; rintro e w1 ⟨rfl, hw⟩; subst w1; clear HRS))
  obtain ⟨w2, hw2⟩ : ∃ w2, ((w.alloc (.cells #[.int .i64 K] 3)).alloc (.cells #[.int .i64 (-1)] 3)).alloc (.cells #[.pointer pv] 23) = w2 := ⟨_, rfl⟩
  have hs2 : w2.heap.size = w.heap.size + 3 := by rw [← hw2]; simp
  have hA : Blk w2 w.heap.size 3 [.int .i64 K] := by rw [← hw2]; exact ((Blk.new w _ _).alloc _).alloc _
  have hB : Blk w2 (w.heap.size + 1) 3 [.int .i64 (-1)] := by
    rw [← hw2]
    have := Blk.new (w.alloc (.cells #[.int .i64 K] 3)) 3 [.int .i64 (-1)]
    rw [World.size_alloc] at this
    exact Blk.alloc this _
  have hC : Blk w2 (w.heap.size + 2) 23 [.pointer pv] := by
    rw [← hw2]
    have := Blk.new ((w.alloc (.cells #[.int .i64 K] 3)).alloc (.cells #[.int .i64 (-1)] 3)) 23 [.pointer pv]
    rw [World.size_alloc, World.size_alloc] at this
    exact this
  have hb2 : Below w.heap.size w w2 := by rw [← hw2]; exact (((Below.refl _ w).alloc (Nat.le_refl _) _).alloc (by simp) _).alloc (by simp; omega) _
  rw [hw2]
  refine wp_range5 (gf := 40) (lb := #[.pointer (some ⟨w.heap.size + 1 + 1, 0, none⟩)]) (xs := xs) (encs := encR) (V := V (w.heap.size + 1 + 1)) rfl enters_runs (hit _) (fun _ => rfl) (fun Y k W => (k = 0 ∨ 1 ≤ K) ∧ runI (xs.drop k) K = runI xs K ∧ RnI w pv K (-1) Y W) (fun cc k W => cc = .exit 0 ∧ RnI w pv K (runR xs K) (fun _ => False) W) ?_ ?_ ?_ ?_ ?_
    (fun x => { tmps := #[.pointer pv, .int .i64 K, undef, .pointer (some ⟨w.heap.size, 0, none⟩), .int .i64 0, .pointer (some ⟨w.heap.size + 1, 0, none⟩), .int .i64 (x.1 : Int), .int .i64 (x.2 : Int), .pointer pv, .func (.func 40) #[] #[.pointer (some ⟨w.heap.size + 1 + 1, 0, none⟩)], .int .i64 (x.1 : Int), .int .i64 (x.2 : Int), undef, undef, undef, undef, undef, undef, undef, undef, undef], defers := [] }) ?assign ?body ?done ?stop
  · rintro Y k W W' ⟨h0, h1, h⟩ ho
    exact ⟨h0, h1, h.keep (by rw [hs2] at ho; exact ho)⟩
  · rintro Y k W W' ⟨h0, h1, h⟩ hb
    exact ⟨h0, h1, h.grow hb⟩
  · rintro cc k W W' ⟨rfl, h⟩ ho
    exact ⟨rfl, h.keep (by rw [hs2] at ho; exact ho)⟩
  · rintro Y k W ⟨h0, h1, h⟩
    exact hV _ k W h.below (h.b3.cell 0)
  · intro W1 ho hs
    exact ⟨.inl rfl, rfl, hA.only ho (fun h => h), hB.only ho (fun h => h), hC.only ho (fun h => h), hb2.trans ((ho.below (Nat.le_refl _) (fun _ _ h => h)).mono (by omega)), by omega, (fun _ h => h.elim)⟩
  case assign =>
    intro l k hk W G hG
    gi_wp2
    exact hG
  case body =>
    rintro l Y k hk W ⟨h0, h1, h⟩
    obtain ⟨x, hx⟩ : ∃ x, xs[k] = x := ⟨_, rfl⟩
    rw [hx]
    have cK : W.cell? ⟨w.heap.size, 0, none⟩ = some (.int .i64 K) := h.b1.cell 0
    have cF : W.cell? ⟨w.heap.size + 1, 0, none⟩ = some (.int .i64 (-1)) := h.b2.cell 0
    have fF := h.b2.frozen 0
    have hd : xs.drop k = x :: xs.drop (k + 1) := by rw [List.drop_eq_getElem_cons hk, hx]
    rw [hd] at h1
    have HH := hide h
    have H1 := hide h1
    obtain ⟨x1, x2⟩ := x
    simp only
    clear h hx hd h1
    by_cases hK : K < 1
    · have HR : Hid (runR xs K = -1) := by show _ = _; rw [runR, if_pos hK]
      gi_wp2
      refine ⟨Keeps2.refl _ _, rfl, ?_⟩
      rw [HR.out]
      exact ⟨HH.out.b1, HH.out.b2, HH.out.b3, HH.out.below, HH.out.size, fun _ h => h.elim⟩
    · by_cases hL : K ≤ (x2 : Int)
      · have HR : Hid (runR xs K = (x1 : Int)) := by show _ = _; rw [runR, if_neg hK, ← H1.out, runI_yes _ _ _ hL]
        gi_wp2
        have hoB : Only (· = w.heap.size + 1) W (W.setCell ⟨w.heap.size + 1, 0, none⟩ (.int .i64 (x1 : Int))) := (Only.refl (· = w.heap.size + 1) W).setCell ⟨w.heap.size + 1, 0, none⟩ _ (fun _ => rfl)
        have hh := HH.out
        refine ⟨Keeps2.of_only hoB (by omega) (by omega), rfl, ?_⟩
        rw [HR.out]
        exact ⟨hh.b1.only hoB (by omega), hh.b2.set 0 _, hh.b3.only hoB (by omega), hh.below.trans (hoB.below hh.below.size (fun j hj e => by omega)), Nat.le_trans hh.size hoB.size, fun _ h => h.elim⟩
      · have HR : Hid (runI (xs.drop (k + 1)) K = runI xs K) := by show _ = _; rw [← H1.out, runI_no _ _ _ hL]
        gi_wp2
        refine ⟨Keeps2.refl _ _, KeepsY.refl _ _, ?_⟩
        first
          | exact ⟨.inr (by omega), HR.out, HH.out⟩
          | exact ⟨HR.out, HH.out⟩
  case done =>
    rintro Y W ⟨h0, h1, h⟩ hD
    have cF : W.cell? ⟨w.heap.size + 1, 0, none⟩ = some (.int .i64 (-1)) := h.b2.cell 0
    have hR : runR xs K = -1 := by
      unfold runR
      split
      · rfl
      · rw [List.drop_of_length_le (Nat.le_refl _)] at h1
        exact h1.symm
    have HR := hide hR
    have HH := hide h
    have HD := hide hD
    clear hD h h1 hR
    gi_wp2
    rw [Exit.noGoto_ret]
    refine ⟨by simp, .inl ⟨_, _, rfl, run_takeDeferred HD.out, ?_⟩⟩
    have hoD : Only (· = w2.heap.size) W (W.putObj w2.heap.size (.deferred none)) := only_put1 W _ _ _ rfl
    exact ⟨_, results_tmp (t := 4) rfl _ _ _, ret_int HR.out.symm, HH.out.below.trans (hoD.below HH.out.below.size (fun j hj e => by omega))⟩
  case stop =>
    rintro cc k W hk ⟨rfl, h⟩ hD
    have cF : W.cell? ⟨w.heap.size + 1, 0, none⟩ = some (.int .i64 (runR xs K)) := h.b2.cell 0
    obtain ⟨R, hR⟩ : ∃ R, runR xs K = R := ⟨_, rfl⟩
    rw [hR] at cF
    have HR := hide hR
    have HH := hide h
    have HD := hide hD
    clear hD h hR
    gi_wp2
    rw [Exit.noGoto_ret]
    refine ⟨by simp, .inl ⟨_, _, rfl, run_takeDeferred HD.out, ?_⟩⟩
    have hoD : Only (· = w2.heap.size) W (W.putObj w2.heap.size (.deferred none)) := only_put1 W _ _ _ rfl
    exact ⟨_, results_tmp (t := 4) rfl _ _ _, ret_int HR.out.symm, HH.out.below.trans (hoD.below HH.out.below.size (fun j hj e => by omega))⟩

end Go.Proofs.YtibgkmbdnelbeaaDoor
