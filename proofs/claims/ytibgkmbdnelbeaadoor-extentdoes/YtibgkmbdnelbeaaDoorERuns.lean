/- Contract: runs that are told, at most so many (incipitlaw07.runs), over whatever iterator. -/
import Derived.Test.YtibgkmbdnelbeaaDoorEPages
namespace Go.Proofs.YtibgkmbdnelbeaaDoor
set_option maxRecDepth 20000
open Go.RowKit Go.Shelf
set_option linter.unusedVariables false
set_option maxRecDepth 100000
attribute [local go_sem] Oper.semAt_some

theorem eqlF2 (gf : Nat) (lb : Array Value) (w : World) : (binOp .eql 43 (.func (.func gf) #[] lb) .nilFunc).run Tryd.prog w = .ok (.bool false) w := by kernel_rfl
/-- first pages; how many -/
def r1 (xs : List (Nat × Nat)) : List Int := xs.map (fun (x : Nat × Nat) => (x.1 : Int))
def r2 (xs : List (Nat × Nat)) : List Int := xs.map (fun (x : Nat × Nat) => (x.2 : Int))
theorem r1_length (xs : List (Nat × Nat)) : (r1 xs).length = xs.length := by simp [r1]
theorem r2_length (xs : List (Nat × Nat)) : (r2 xs).length = xs.length := by simp [r2]
theorem r1_snoc (xs : List (Nat × Nat)) (k : Nat) (hk : k < xs.length) : r1 (xs.take (k + 1)) = r1 (xs.take k) ++ [(xs[k].1 : Int)] := by rw [take_snoc xs k hk, r1, List.map_append]; rfl
theorem r2_snoc (xs : List (Nat × Nat)) (k : Nat) (hk : k < xs.length) : r2 (xs.take (k + 1)) = r2 (xs.take k) ++ [(xs[k].2 : Int)] := by rw [take_snoc xs k hk, r2, List.map_append]; rfl

structure RuI (w : World) (most : Int) (xs : List (Nat × Nat)) (Y : Nat → Prop) (k : Nat) (W : World) : Prop where
  b1 : Blk W w.heap.size 3 [.int .i64 most]
  box : ∃ v u, Blk W (w.heap.size + 1) 37 [v] ∧ Blk W (w.heap.size + 2) 37 [u] ∧ Ints W w.heap.size v (r1 (xs.take k)) ∧ Ints W w.heap.size u (r2 (xs.take k)) ∧ (∀ j, v.ownBlock = some j → w.heap.size + 5 ≤ j ∧ ¬ Y j ∧ u.ownBlock ≠ some j) ∧ (∀ j, u.ownBlock = some j → w.heap.size + 5 ≤ j ∧ ¬ Y j)
  below : Below w.heap.size w W
  size : w.heap.size + 5 ≤ W.heap.size
  ys : ∀ j, Y j → w.heap.size + 5 ≤ j ∧ j < W.heap.size
theorem RuI.keep {w : World} {most : Int} {xs : List (Nat × Nat)} {Y : Nat → Prop} {k : Nat} {W W' : World} (h : RuI w most xs Y k W) (ho : Only (fun j => j = w.heap.size + 3 ∨ j = w.heap.size + 3 + 1) W W') : RuI w most xs Y k W' := by
  obtain ⟨v, u, h1, h1', h2, h2', h3, h3'⟩ := h.box
  exact ⟨h.b1.only ho (by omega), ⟨v, u, h1.only ho (by omega), h1'.only ho (by omega), h2.only ho (fun j hj e => by have := (h3 j hj).1; omega), h2'.only ho (fun j hj e => by have := (h3' j hj).1; omega), h3, h3'⟩, h.below.trans (ho.below h.below.size (fun j hj e => by omega)), Nat.le_trans h.size ho.size, fun j hj => ⟨(h.ys j hj).1, Nat.lt_of_lt_of_le (h.ys j hj).2 ho.size⟩⟩
theorem RuI.grow {w : World} {most : Int} {xs : List (Nat × Nat)} {Y : Nat → Prop} {k : Nat} {W W' : World} (h : RuI w most xs Y k W) (hb : Below W.heap.size W W') : RuI w most xs (more Y W W') k W' := by
  obtain ⟨v, u, h1, h1', h2, h2', h3, h3'⟩ := h.box
  have hs := h.size
  have ho := Only.of_below (fun _ => False) hb
  refine ⟨h.b1.only ho (fun h => h), ⟨v, u, h1.only ho (fun h => h), h1'.only ho (fun h => h), h2.only ho (fun _ _ h => h), h2'.only ho (fun _ _ h => h), fun j hj => ⟨(h3 j hj).1, fun hy => hy.elim (h3 j hj).2.1 (fun hy => by have := (h2.lt j hj).2; omega), (h3 j hj).2.2⟩, fun j hj => ⟨(h3' j hj).1, fun hy => hy.elim (h3' j hj).2 (fun hy => by have := (h2'.lt j hj).2; omega)⟩⟩, h.below.trans (hb.mono h.below.size), Nat.le_trans h.size hb.size, fun j hj => ?_⟩
  rcases hj with hj | hj
  · exact ⟨(h.ys j hj).1, Nat.lt_of_lt_of_le (h.ys j hj).2 hb.size⟩
  · exact ⟨by omega, hj.2⟩

set_option maxHeartbeats 4000000 in
theorem runs_any (w : World) (gf : Nat) (lb : Array Value) (xs : List (Nat × Nat)) (V : Nat → World → Prop) (eg : ∀ args w, (callFunc gf args).run Tryd.prog w = .ok (.enter gf args) w) (hit : Iter Tryd.prog gf lb encR xs V) (hV : ∀ k W', Only (fun _ => False) w W' → V k W') (hl : xs.length ≤ 100000) (M : Nat) (hM : M ≤ 2000000) :
    Calls Tryd.prog 19 #[.func (.func gf) #[] lb, .int .i64 M] w fun e w' => ∃ v u, e = .returned (.tuple #[v, u]) ∧ Ints w' w.heap.size v (r1 (xs.take M)) ∧ Ints w' w.heap.size u (r2 (xs.take M)) ∧ Below w.heap.size w w' := by
  have hfe := eqlF2 gf lb
  refine (callsIn_wide (n := 3)).1 ?_
  refine callsIn_of_wp_marks Tryd.func19 rfl trivial ?_ rfl
  simp only [Tryd.ntmps19, List.size_toArray, List.length_cons, List.length_nil, Nat.reduceAdd, Nat.reduceSub, Array.replicate_succ, Array.replicate_zero, List.push_toArray, List.append_toArray, List.nil_append, List.cons_append]
  gi_wp2
  obtain ⟨w2, hw2⟩ : ∃ w2, ((w.alloc (.cells #[.int .i64 M] 3)).alloc (.cells #[.slice none 0 0] 37)).alloc (.cells #[.slice none 0 0] 37) = w2 := ⟨_, rfl⟩
  have hs2 : w2.heap.size = w.heap.size + 3 := by rw [← hw2]; simp
  have hA : Blk w2 w.heap.size 3 [.int .i64 M] := by rw [← hw2]; exact ((Blk.new w _ _).alloc _).alloc _
  have hB : Blk w2 (w.heap.size + 1) 37 [.slice none 0 0] := by
    rw [← hw2]
    have := Blk.new (w.alloc (.cells #[.int .i64 M] 3)) 37 [.slice none 0 0]
    rw [World.size_alloc] at this
    exact Blk.alloc this _
  have hC : Blk w2 (w.heap.size + 2) 37 [.slice none 0 0] := by
    rw [← hw2]
    have := Blk.new ((w.alloc (.cells #[.int .i64 M] 3)).alloc (.cells #[.slice none 0 0] 37)) 37 [.slice none 0 0]
    rw [World.size_alloc, World.size_alloc] at this
    exact this
  have hb2 : Below w.heap.size w w2 := by rw [← hw2]; exact (((Below.refl _ w).alloc (Nat.le_refl _) _).alloc (by simp) _).alloc (by simp; omega) _
  rw [hw2]
  clear hfe
  refine wp_range5 (gf := gf) (lb := lb) (xs := xs) (encs := encR) (V := V) rfl eg hit (fun _ => rfl) (fun Y k W => k ≤ M ∧ RuI w M xs Y k W) (fun cc k W => cc = .exit 0 ∧ RuI w M xs (fun _ => False) M W ∧ M ≤ xs.length) ?_ ?_ ?_ ?_ ?_
    (fun x => { tmps := #[.func (.func gf) #[] lb, .int .i64 M, undef, .pointer (some ⟨w.heap.size, 0, none⟩), .slice none 0 0, .slice none 0 0, .pointer (some ⟨w.heap.size + 1, 0, none⟩), .pointer (some ⟨w.heap.size + 2, 0, none⟩), .int .i64 (x.1 : Int), .int .i64 (x.2 : Int), .func (.func gf) #[] lb, .bool false, .func (.func gf) #[] lb, .int .i64 (x.1 : Int), .int .i64 (x.2 : Int), undef, undef, undef, undef, undef, undef, undef, undef, undef, undef, undef, undef, undef, undef], defers := [] }) ?assign ?body ?done ?stop
  · rintro Y k W W' ⟨h0, h⟩ ho
    exact ⟨h0, h.keep (by rw [hs2] at ho; exact ho)⟩
  · rintro Y k W W' ⟨h0, h⟩ hb
    exact ⟨h0, h.grow hb⟩
  · rintro cc k W W' ⟨rfl, h, hm⟩ ho
    exact ⟨rfl, h.keep (by rw [hs2] at ho; exact ho), hm⟩
  · rintro Y k W ⟨h0, h⟩
    exact hV k W (Only.of_below _ h.below)
  · intro W1 ho hs
    refine ⟨Nat.zero_le _, hA.only ho (fun h => h), ⟨_, _, hB.only ho (fun h => h), hC.only ho (fun h => h), ?_, ?_, (fun j hj => by cases hj), (fun j hj => by cases hj)⟩, hb2.trans ((ho.below (Nat.le_refl _) (fun _ _ h => h)).mono (by omega)), by omega, (fun _ h => h.elim)⟩
    · rw [List.take_zero]
      exact World.ownsRow_nil _ _ _ _
    · rw [List.take_zero]
      exact World.ownsRow_nil _ _ _ _
  case assign =>
    intro l k hk W K hK
    gi_wp2
    exact hK
  case body =>
    rintro l Y k hk W ⟨h0, h⟩
    have HYS := hide h.ys
    obtain ⟨x, hx⟩ : ∃ x, xs[k] = x := ⟨_, rfl⟩
    rw [hx]
    obtain ⟨hb1, ⟨v, u, h1, h1', h2, h2', h3, h3'⟩, h4, h5, _⟩ := h
    have cM : W.cell? ⟨w.heap.size, 0, none⟩ = some (.int .i64 M) := hb1.cell 0
    have c0 : W.cell? ⟨w.heap.size + 1, 0, none⟩ = some v := h1.cell 0
    have hn1 : (r1 (xs.take k)).length = k := by rw [r1_length]; simp; omega
    have hn2 : (r2 (xs.take k)).length = k := by rw [r2_length]; simp; omega
    obtain ⟨v2, w3, hr, hi2, hg2, hv2, ao2, cap2, rfl⟩ := run_append_int W w.heap.size v _ h2 (x.1 : Int) (by rw [hn1]; omega) (by omega)
    have hoA : Only (fun j => v.ownBlock = some j) W w3 := ((Only.refl _ W).alloc _).grown hg2 (fun j e _ => e)
    have hB2 : Blk w3 (w.heap.size + 1) 37 [v] := h1.only hoA (fun e => by have := (h3 _ e).1; omega)
    have c2 : w3.cell? ⟨w.heap.size + 1, 0, none⟩ = some v := hB2.cell 0
    have f2 := hB2.frozen 0
    rw [hn1] at hr hi2 hv2
    obtain ⟨V2, hV2⟩ : ∃ V2, Value.slice ao2 (k + 1) cap2 = V2 := ⟨_, rfl⟩
    have hoB : Only (· = w.heap.size + 1) w3 (w3.setCell ⟨w.heap.size + 1, 0, none⟩ (.slice ao2 (k + 1) cap2)) := (Only.refl (· = w.heap.size + 1) w3).setCell ⟨w.heap.size + 1, 0, none⟩ _ (fun _ => rfl)
    -- the second one, behind the first store
    have hU4 : Ints (w3.setCell ⟨w.heap.size + 1, 0, none⟩ (.slice ao2 (k + 1) cap2)) w.heap.size u (r2 (xs.take k)) := (h2'.only hoA (fun j hj e => (h3 j e).2.2 hj)).only hoB (fun j hj e => by have := (h3' j hj).1; omega)
    have hC4 : Blk (w3.setCell ⟨w.heap.size + 1, 0, none⟩ (.slice ao2 (k + 1) cap2)) (w.heap.size + 2) 37 [u] := (h1'.only hoA (fun e => by have := (h3 _ e).1; omega)).only hoB (by omega)
    have hs3 := hoA.size
    obtain ⟨u2, w5, hr5, hi5, hg5, hv5, ao5, cap5, rfl⟩ := run_append_int (w3.setCell ⟨w.heap.size + 1, 0, none⟩ (.slice ao2 (k + 1) cap2)) w.heap.size u _ hU4 (x.2 : Int) (by rw [hn2]; omega) (by simp; omega)
    have hoC : Only (fun j => u.ownBlock = some j) (w3.setCell ⟨w.heap.size + 1, 0, none⟩ (.slice ao2 (k + 1) cap2)) w5 := ((Only.refl _ _).alloc _).grown hg5 (fun j e _ => e)
    rw [hn2] at hr5 hi5 hv5
    simp only [World.size_setCell] at hr5 hv5
    have hC5 : Blk w5 (w.heap.size + 2) 37 [u] := hC4.only hoC (fun e => by have := (h3' _ e).1; omega)
    have d4 : w3.cell? ⟨w.heap.size + 2, 0, none⟩ = some u := ((h1'.only hoA (fun e => by have := (h3 _ e).1; omega))).cell 0
    have d5 : w5.cell? ⟨w.heap.size + 2, 0, none⟩ = some u := hC5.cell 0
    have g5 := hC5.frozen 0
    have hoD : Only (· = w.heap.size + 2) w5 (w5.setCell ⟨w.heap.size + 2, 0, none⟩ (.slice ao5 (k + 1) cap5)) := (Only.refl (· = w.heap.size + 2) w5).setCell ⟨w.heap.size + 2, 0, none⟩ _ (fun _ => rfl)
    have hs5 := hoC.size
    simp only [World.size_setCell] at hs5
    -- what holds behind both
    have hvb : ∀ j, (Value.slice ao2 (k + 1) cap2).ownBlock = some j → w.heap.size + 5 ≤ j ∧ ¬ Y j ∧ u.ownBlock ≠ some j ∧ j < w3.heap.size := fun j hj => by
      rcases hv2 with e | e
      · rw [e] at hj
        exact ⟨(h3 j hj).1, (h3 j hj).2.1, (h3 j hj).2.2, Nat.lt_of_lt_of_le (h2.lt j hj).2 hs3⟩
      · have hlt := (hi2.lt j hj).2
        rw [e] at hj
        have := Option.some.inj hj
        exact ⟨by omega, fun hy => by have := (HYS.out j hy).2; omega, fun e2 => by have := (h2'.lt j e2).2; omega, hlt⟩
    have hub : ∀ j, (Value.slice ao5 (k + 1) cap5).ownBlock = some j → (w.heap.size + 5 ≤ j ∧ ¬ Y j) ∧ (Value.slice ao2 (k + 1) cap2).ownBlock ≠ some j := fun j hj => by
      rcases hv5 with e | e
      · rw [e] at hj
        exact ⟨h3' j hj, fun e2 => (hvb j e2).2.2.1 hj⟩
      · rw [e] at hj
        have := Option.some.inj hj
        exact ⟨⟨by omega, fun hy => by have := (HYS.out j hy).2; omega⟩, fun e2 => by have := (hvb j e2).2.2.2; omega⟩
    have hall : ∀ j, (j = w.heap.size ∨ j = w.heap.size + 3 ∨ j = w.heap.size + 4 ∨ Y j ∨ j < w.heap.size) → j < W.heap.size → (w5.setCell ⟨w.heap.size + 2, 0, none⟩ (.slice ao5 (k + 1) cap5)).heap[j]? = W.heap[j]? := fun j hj hlt => by
      have n1 : ¬ v.ownBlock = some j := fun e => by
        rcases hj with h | h | h | h | h
        · have := (h3 j e).1; omega
        · have := (h3 j e).1; omega
        · have := (h3 j e).1; omega
        · exact (h3 j e).2.1 h
        · have := (h3 j e).1; omega
      have n2 : ¬ u.ownBlock = some j := fun e => by
        rcases hj with h | h | h | h | h
        · have := (h3' j e).1; omega
        · have := (h3' j e).1; omega
        · have := (h3' j e).1; omega
        · exact (h3' j e).2 h
        · have := (h3' j e).1; omega
      have n3 : j ≠ w.heap.size + 1 ∧ j ≠ w.heap.size + 2 := by
        rcases hj with h | h | h | h | h
        · omega
        · omega
        · omega
        · have := (HYS.out j h).1; omega
        · omega
      rw [hoD.block j (by omega) n3.2, hoC.block j (by simp; omega) n2, hoB.block j (by omega) n3.1, hoA.block j hlt n1]
    have HALL := hide hall
    have HFIN : Hid (RuI w M xs Y (k + 1) (w5.setCell ⟨w.heap.size + 2, 0, none⟩ (.slice ao5 (k + 1) cap5))) := by
      have hsz : w.heap.size + 5 ≤ (w5.setCell ⟨w.heap.size + 2, 0, none⟩ (.slice ao5 (k + 1) cap5)).heap.size := by simp; omega
      have a1 := (hB2.set 0 (.slice ao2 (k + 1) cap2)).only hoC (fun e => by have := (h3' _ e).1; omega)
      have a2 := a1.only hoD (by omega)
      have b2 := hC5.set 0 (.slice ao5 (k + 1) cap5)
      have i1 : Ints (w5.setCell ⟨w.heap.size + 2, 0, none⟩ (.slice ao5 (k + 1) cap5)) w.heap.size (.slice ao2 (k + 1) cap2) (r1 (xs.take (k + 1))) := by
        rw [r1_snoc xs k hk, hx]
        exact ((hi2.only hoB (fun j hj e => by have := (hvb j hj).1; omega)).only hoC (fun j hj e => (hvb j hj).2.2.1 e)).only hoD (fun j hj e => by have := (hvb j hj).1; omega)
      have i2 : Ints (w5.setCell ⟨w.heap.size + 2, 0, none⟩ (.slice ao5 (k + 1) cap5)) w.heap.size (.slice ao5 (k + 1) cap5) (r2 (xs.take (k + 1))) := by
        rw [r2_snoc xs k hk, hx]
        exact hi5.only hoD (fun j hj e => by have := (hub j hj).1.1; omega)
      have hbl : Below w.heap.size w (w5.setCell ⟨w.heap.size + 2, 0, none⟩ (.slice ao5 (k + 1) cap5)) :=
        ((((h4.trans (hoA.below (by omega) (fun j hj e => by have := (h3 j e).1; omega))).trans (hoB.below (by omega) (fun j hj e => by omega))).trans (hoC.below (by simp; omega) (fun j hj e => by have := (h3' j e).1; omega))).trans (hoD.below (by omega) (fun j hj e => by omega)))
      refine ⟨?_, ⟨_, _, a2, b2, i1, i2, fun j hj => ⟨(hvb j hj).1, (hvb j hj).2.1, fun e => (hub j e).2 hj⟩, fun j hj => (hub j hj).1⟩, hbl, hsz, fun j hj => ⟨(HYS.out j hj).1, by have := (HYS.out j hj).2; simp; omega⟩⟩
      exact (hall w.heap.size (.inl rfl) (by omega)).trans hb1
    obtain ⟨ao1, cap1, hv1⟩ := h2.shape
    obtain ⟨ao1', cap1', hv1'⟩ := h2'.shape
    rw [hn1] at hv1
    rw [hn2] at hv1'
    have HSTOP : Hid (RuI w M xs (fun _ => False) k W) := ⟨hb1, ⟨v, u, h1, h1', h2, h2', fun j hj => ⟨(h3 j hj).1, fun h => h, (h3 j hj).2.2⟩, fun j hj => ⟨(h3' j hj).1, fun h => h⟩⟩, h4, h5, fun _ h => h.elim⟩
    have HR := hide hr
    have HR5 := hide hr5
    subst hv1
    subst hv1'
    obtain ⟨x1, x2⟩ := x
    simp only at HR HR5 ⊢
    clear hr hi2 hg2 hv2 hB2 h1 h2 h3 h4 hx hb1 hn1 hn2 hU4 hC4 hr5 hi5 hg5 hv5 hoA hoB hoC hoD hC5 hvb hub hall h1' h2' h3' hs3 hs5 hV2
    by_cases hkM : k < M
    · have hkMi : ¬ (M : Int) ≤ (k : Int) := by omega
      gi_wp2_with (first
        | (gi_at_builtin; (with_reducible refine wpListIn_append_run _ rfl (.tmp 19) (.tmp 21) 37 rfl _ _ ?_ ?_ _ _ HR.out ?_); exact rfl; exact rfl; clear HR)
        | (gi_at_builtin; (with_reducible refine wpListIn_append_run _ rfl (.tmp 23) (.tmp 25) 37 rfl _ _ ?_ ?_ _ _ HR5.out ?_); exact rfl; exact rfl; clear HR5))
      refine ⟨?_, ?_, by omega, HFIN.out⟩
      · rintro j hj o ho
        exact (HALL.out j (by omega) (Array.getElem?_eq_some_iff.1 ho).1).trans ho
      · intro j hj
        exact HALL.out j (.inr (.inr (.inr (.inl hj)))) (HYS.out j hj).2
    · have hkMi : (M : Int) ≤ (k : Int) := by omega
      have hkM' : k = M := by omega
      gi_wp2
      subst hkM'
      exact ⟨Keeps2.refl _ _, rfl, HSTOP.out, by omega⟩
  case done =>
    rintro Y W ⟨h0, h⟩ hD
    obtain ⟨hb1, ⟨v, u, h1, h1', h2, h2', h3, h3'⟩, h4, h5, _⟩ := h
    rw [List.take_of_length_le (Nat.le_refl _)] at h2 h2'
    have HEX : Hid (xs.take M = xs) := List.take_of_length_le h0
    have c0 : W.cell? ⟨w.heap.size + 1, 0, none⟩ = some v := h1.cell 0
    have d0 : W.cell? ⟨w.heap.size + 2, 0, none⟩ = some u := h1'.cell 0
    have HFIN : Hid (∀ W', Only (· = w2.heap.size) W W' → Ints W' w.heap.size v (r1 (xs.take M)) ∧ Ints W' w.heap.size u (r2 (xs.take M)) ∧ Below w.heap.size w W') := fun W' ho => by
      rw [HEX.out]
      exact ⟨h2.only ho (fun j hj e => by have := (h3 j hj).1; omega), h2'.only ho (fun j hj e => by have := (h3' j hj).1; omega), h4.trans (ho.below (by omega) (fun j hj e => by omega))⟩
    have HD := hide hD
    obtain ⟨ao1, cap1, hv1⟩ := h2.shape
    obtain ⟨ao1', cap1', hv1'⟩ := h2'.shape
    generalize (r1 xs).length = n1 at hv1
    generalize (r2 xs).length = n2 at hv1'
    subst hv1
    subst hv1'
    clear h1 h2 h3 h4 hD h1' h2' h3'
    gi_wp2
    refine wpIn_wide.2 ?_
    go_quiet (fail)
    gi_wp2
    have HD2 : (W.drewN nq).heap[w2.heap.size]? = some (.deferred (some [])) := HD.out
    refine ⟨by simp, .inl ⟨_, _, rfl, run_takeDeferred HD2, ?_⟩⟩
    have hoD : Only (· = w2.heap.size) W ((W.drewN nq).putObj w2.heap.size (.deferred none)) := (only_drewN _ W nq).trans (only_put1 (W.drewN nq) _ _ (· = w2.heap.size) rfl) (fun _ _ h => h)
    obtain ⟨q1, q2, q3⟩ := HFIN.out _ hoD
    exact ⟨_, results_tmp2 (t := 4) (u := 5) rfl _ _ _, .slice ao1 n1 cap1, .slice ao1' n2 cap1', rfl, q1, q2, q3⟩
  case stop =>
    rintro cc k W hk ⟨rfl, h, hMx⟩ hD
    obtain ⟨hb1, ⟨v, u, h1, h1', h2, h2', h3, h3'⟩, h4, h5, _⟩ := h
    have c0 : W.cell? ⟨w.heap.size + 1, 0, none⟩ = some v := h1.cell 0
    have d0 : W.cell? ⟨w.heap.size + 2, 0, none⟩ = some u := h1'.cell 0
    have HFIN : Hid (∀ W', Only (· = w2.heap.size) W W' → Ints W' w.heap.size v (r1 (xs.take M)) ∧ Ints W' w.heap.size u (r2 (xs.take M)) ∧ Below w.heap.size w W') := fun W' ho => by
      exact ⟨h2.only ho (fun j hj e => by have := (h3 j hj).1; omega), h2'.only ho (fun j hj e => by have := (h3' j hj).1; omega), h4.trans (ho.below (by omega) (fun j hj e => by omega))⟩
    have HD := hide hD
    obtain ⟨ao1, cap1, hv1⟩ := h2.shape
    obtain ⟨ao1', cap1', hv1'⟩ := h2'.shape
    generalize (r1 (xs.take M)).length = n1 at hv1
    generalize (r2 (xs.take M)).length = n2 at hv1'
    subst hv1
    subst hv1'
    clear h1 h2 h3 h4 hD h1' h2' h3'
    gi_wp2
    refine wpIn_wide.2 ?_
    go_quiet (fail)
    gi_wp2
    have HD2 : (W.drewN nq).heap[w2.heap.size]? = some (.deferred (some [])) := HD.out
    refine ⟨by simp, .inl ⟨_, _, rfl, run_takeDeferred HD2, ?_⟩⟩
    have hoD : Only (· = w2.heap.size) W ((W.drewN nq).putObj w2.heap.size (.deferred none)) := (only_drewN _ W nq).trans (only_put1 (W.drewN nq) _ _ (· = w2.heap.size) rfl) (fun _ _ h => h)
    obtain ⟨q1, q2, q3⟩ := HFIN.out _ hoD
    exact ⟨_, results_tmp2 (t := 4) (u := 5) rfl _ _ _, .slice ao1 n1 cap1, .slice ao1' n2 cap1', rfl, q1, q2, q3⟩

end Go.Proofs.YtibgkmbdnelbeaaDoor
