/- Contracts: package fold's Runes, Count. -/
import Derived.Test.YtfpphepjkpofiaaDoorFU8
namespace Go.Proofs.YtfpphepjkpofiaaDoor
set_option maxRecDepth 20000
open Go.RowKit Go.Shelf
set_option linter.unusedVariables false
set_option maxRecDepth 100000
attribute [local go_sem] Oper.semAt_some

theorem runes_any (w : World) (v : Value) (zs : List Int) (h : Sl w v zs) : Calls Tryd.prog 12 #[v] w fun e w' => e = .returned (.func (.func 32) #[] #[.pointer (some ⟨w.heap.size, 0, none⟩)]) ∧ w' = w.alloc (.cells #[.string (strOfNums zs)] 9) := by
  have hcv := run_convert_sl (P := Tryd.prog) w 22 5 9 Tryd.underlying22 Tryd.underlying5 Tryd.underlying9 v zs h
  generalize strOfNums zs = s at *
  obtain ⟨ao, n, cap, rfl⟩ := sl_form h
  clear h
  go_enter Tryd.func12, Tryd.ntmps12
  go_wp2
  go_ret
  exact ⟨rfl, rfl⟩

/-- between two rounds of Count -/
structure CtI (w : World) (s : ByteArray) (x : Nat) (Y : Nat → Prop) (W : World) : Prop where
  b1 : Blk W w.heap.size 3 [.int .i64 (x : Int)]
  b2 : Blk W (w.heap.size + 1) 9 [.string s]
  below : Below w.heap.size w W
  size : w.heap.size + 4 ≤ W.heap.size
  ys : ∀ j, Y j → w.heap.size + 4 ≤ j ∧ j < W.heap.size
theorem CtI.keep {w : World} {s : ByteArray} {x : Nat} {Y : Nat → Prop} {W W' : World} (h : CtI w s x Y W) (ho : Only (fun j => j = w.heap.size + 2 ∨ j = w.heap.size + 2 + 1) W W') : CtI w s x Y W' :=
  ⟨h.b1.only ho (by omega), h.b2.only ho (by omega), h.below.trans (ho.below h.below.size (fun j hj e => by omega)), Nat.le_trans h.size ho.size, fun j hj => ⟨(h.ys j hj).1, Nat.lt_of_lt_of_le (h.ys j hj).2 ho.size⟩⟩
theorem CtI.grow {w : World} {s : ByteArray} {x : Nat} {Y : Nat → Prop} {W W' : World} (h : CtI w s x Y W) (ho : Only Y W W') : CtI w s x (more Y W W') W' := by
  have hs := h.size
  have hy := h.ys
  refine ⟨h.b1.only ho (fun e => by have := (hy _ e).1; omega), h.b2.only ho (fun e => by have := (hy _ e).1; omega), h.below.trans (ho.below h.below.size (fun j hj e => by have := (hy _ e).1; omega)), Nat.le_trans h.size ho.size, fun j hj => ?_⟩
  rcases hj with hj | hj
  · exact ⟨(hy j hj).1, Nat.lt_of_lt_of_le (hy j hj).2 ho.size⟩
  · exact ⟨by omega, hj.2⟩

set_option maxHeartbeats 4000000 in
theorem count_any (w : World) (v : Value) (zs : List Int) (h : Sl w v zs) (hl : zs.length ≤ 1000000) : Calls Tryd.prog 13 #[v] w fun e w' => e = .returned (.int .i64 ((runesN zs).length : Nat)) ∧ Below w.heap.size w w' := by
  have hR : Calls Tryd.prog 12 #[v] (w.alloc (.cells #[.int .i64 0] 3)) fun e w' => e = .returned (.func (.func 32) #[] #[.pointer (some ⟨w.heap.size + 1, 0, none⟩)]) ∧ w' = (w.alloc (.cells #[.int .i64 0] 3)).alloc (.cells #[.string (strOfNums zs)] 9) := by
    have := runes_any (w.alloc (.cells #[.int .i64 0] 3)) v zs (h.below ((Below.refl _ w).alloc (Nat.le_refl _) _))
    rw [World.size_alloc] at this
    exact this
  have HR := hide hR
  have HIT : Hid (Iter4 Tryd.prog 32 #[.pointer (some ⟨w.heap.size + 1, 0, none⟩)] encN (runesN zs) (RnV (w.heap.size + 1) (strOfNums zs))) := runes_iter _ zs (by omega)
  have hle := runesN_len zs
  generalize strOfNums zs = s at *
  generalize runesN zs = R at *
  obtain ⟨ao, n, cap, rfl⟩ := sl_form h
  clear h hR
  refine (callsIn_wide (n := 3)).1 ?_
  refine callsIn_of_wp_marks Tryd.func13 rfl trivial ?_ rfl
  simp only [Tryd.ntmps13, List.size_toArray, List.length_cons, List.length_nil, Nat.reduceAdd, Nat.reduceSub, Array.replicate_succ, Array.replicate_zero, List.push_toArray, List.append_toArray, List.nil_append, List.cons_append]
  gi_wp2_with (refine ⟨trivial, ?_⟩; gi_at_call 12; refine (callsIn_wide.2 HR.out).mono ?_; rintro e w1 ⟨rfl, hw⟩; subst w1; clear HR)
  obtain ⟨w2, hw2⟩ : ∃ w2, (w.alloc (.cells #[.int .i64 0] 3)).alloc (.cells #[.string s] 9) = w2 := ⟨_, rfl⟩
  have hs2 : w2.heap.size = w.heap.size + 2 := by rw [← hw2]; simp
  have hA : Blk w2 w.heap.size 3 [.int .i64 0] := by rw [← hw2]; exact (Blk.new w _ _).alloc _
  have hB : Blk w2 (w.heap.size + 1) 9 [.string s] := by
    rw [← hw2]
    have := Blk.new (w.alloc (.cells #[.int .i64 0] 3)) 9 [.string s]
    rw [World.size_alloc] at this
    exact this
  have hb2 : Below w.heap.size w w2 := by rw [← hw2]; exact ((Below.refl _ w).alloc (Nat.le_refl _) _).alloc (by simp) _
  rw [hw2]
  refine wp_range8 (gf := 32) (lb := #[.pointer (some ⟨w.heap.size + 1, 0, none⟩)]) (xs := R) (encs := encN) (V := RnV (w.heap.size + 1) s) rfl enters_runes HIT.out (fun _ => rfl) (fun Y k W => CtI w s k Y W) (fun _ _ _ _ => False) ?_ ?_ (fun _ _ _ _ _ h _ => h) (fun _ _ _ _ _ h _ _ => h) ?_ ?_
    (fun x => { tmps := #[.slice ao n cap, undef, .int .i64 0, .pointer (some ⟨w.heap.size, 0, none⟩), .slice ao n cap, .func (.func 32) #[] #[.pointer (some ⟨w.heap.size + 1, 0, none⟩)], .int .i64 (x.1 : Int), .int .i32 (x.2 : Int), undef, undef, undef], defers := [] }) ?assign ?body ?done (fun _ _ _ _ _ h _ => h.elim)
  · intro Y k W W' h ho
    exact h.keep (by rw [hs2] at ho; exact ho)
  · intro Y k W W' h ho _
    exact h.grow ho
  · intro Y k W h
    exact h.b2.cell 0
  · intro W1 ho hs
    exact ⟨hA.only ho (fun h => h), hB.only ho (fun h => h), hb2.trans ((ho.below (Nat.le_refl _) (fun _ _ h => h)).mono (by omega)), by omega, (fun _ h => h.elim)⟩
  case assign =>
    intro l k hk W K hK
    gi_wp2
    simpa using hK
  case body =>
    intro l Y k hk W h
    have cx : W.cell? ⟨w.heap.size, 0, none⟩ = some (.int .i64 (k : Int)) := h.b1.cell 0
    have fx := h.b1.frozen 0
    have hk2 : (k : Int) ≤ 1000000 := by omega
    have HH := hide h
    clear h
    gi_wp2
    have hh := HH.out
    have hoB : Only (· = w.heap.size) W (W.setCell ⟨w.heap.size, 0, none⟩ (.int .i64 ((k : Int) + 1))) := (Only.refl (· = w.heap.size) W).setCell ⟨w.heap.size, 0, none⟩ _ (fun _ => rfl)
    have hb : Blk (W.setCell ⟨w.heap.size, 0, none⟩ (.int .i64 ((k : Int) + 1))) w.heap.size 3 [.int .i64 ((k + 1 : Nat) : Int)] := hh.b1.set 0 _
    exact ⟨Keeps2.of_only hoB (by omega) (by omega), fun j hj => hoB.block j (hh.ys j hj).2 (by have := (hh.ys j hj).1; omega), hb, hh.b2.only hoB (by omega), hh.below.trans (hoB.below hh.below.size (fun j hj e => by omega)), Nat.le_trans hh.size hoB.size, fun j hj => ⟨(hh.ys j hj).1, Nat.lt_of_lt_of_le (hh.ys j hj).2 hoB.size⟩⟩
  case done =>
    intro Y W h hD
    have cx : W.cell? ⟨w.heap.size, 0, none⟩ = some (.int .i64 (R.length : Int)) := h.b1.cell 0
    have HH := hide h
    have HD := hide hD
    clear h hD
    gi_wp2
    refine ⟨by simp, .inl ⟨_, _, rfl, run_takeDeferred HD.out, ?_⟩⟩
    have hoD : Only (· = w2.heap.size) W (W.putObj w2.heap.size (.deferred none)) := only_put1 W _ _ _ rfl
    exact ⟨_, results_tmp (t := 2) rfl _ _ _, rfl, HH.out.below.trans (hoD.below HH.out.below.size (fun j hj e => by omega))⟩

end Go.Proofs.YtfpphepjkpofiaaDoor
