/- Contract: package words' Count. -/
import Derived.Test.YtgeclnnhblffkaaDoorWdIt
namespace Go.Proofs.YtgeclnnhblffkaaDoor
set_option maxRecDepth 20000
open Go.RowKit Go.Shelf
set_option linter.unusedVariables false
set_option linter.unusedSimpArgs false
set_option maxRecDepth 100000
attribute [local go_sem] Oper.semAt_some

/-- between two rounds of Count -/
structure CtW (w : World) (s : ByteArray) (x : Nat) (Y : Nat → Prop) (W : World) : Prop where
  b1 : Blk W w.heap.size 3 [.int .i64 (x : Int)]
  b2 : Blk W (w.heap.size + 1) 9 [.string s]
  below : Below w.heap.size w W
  size : w.heap.size + 4 ≤ W.heap.size
  ys : ∀ j, Y j → w.heap.size + 4 ≤ j ∧ j < W.heap.size
theorem CtW.keep {w : World} {s : ByteArray} {x : Nat} {Y : Nat → Prop} {W W' : World} (h : CtW w s x Y W) (ho : Only (fun j => j = w.heap.size + 2 ∨ j = w.heap.size + 2 + 1) W W') : CtW w s x Y W' :=
  ⟨h.b1.only ho (by omega), h.b2.only ho (by omega), h.below.trans (ho.below h.below.size (fun j hj e => by omega)), Nat.le_trans h.size ho.size, fun j hj => ⟨(h.ys j hj).1, Nat.lt_of_lt_of_le (h.ys j hj).2 ho.size⟩⟩
theorem CtW.grow {w : World} {s : ByteArray} {x : Nat} {Y : Nat → Prop} {W W' : World} (h : CtW w s x Y W) (ho : Only Y W W') : CtW w s x (more Y W W') W' := by
  have hs := h.size
  have hy := h.ys
  refine ⟨h.b1.only ho (fun e => by have := (hy _ e).1; omega), h.b2.only ho (fun e => by have := (hy _ e).1; omega), h.below.trans (ho.below h.below.size (fun j hj e => by have := (hy _ e).1; omega)), Nat.le_trans h.size ho.size, fun j hj => ?_⟩
  rcases hj with hj | hj
  · exact ⟨(hy j hj).1, Nat.lt_of_lt_of_le (hy j hj).2 ho.size⟩
  · exact ⟨by omega, hj.2⟩

set_option maxHeartbeats 4000000 in
theorem countW_any (w : World) (v : Value) (zs : List Int) (h : Sl w v zs) (hl : zs.length ≤ 1000000) (hL : Let w) : Calls Tryd.prog 25 #[v] w fun e w' => e = .returned (.int .i64 ((wds (rs zs)).length : Nat)) ∧ Below w.heap.size w w' := by
  obtain ⟨w1, hw1⟩ : ∃ w1, w.alloc (.cells #[.int .i64 0] 3) = w1 := ⟨_, rfl⟩
  have hb1 : Below w.heap.size w w1 := by rw [← hw1]; exact (Below.refl _ w).alloc (Nat.le_refl _) _
  have hs1 : w1.heap.size = w.heap.size + 1 := by rw [← hw1]; simp
  have hcv := run_convert_sl (P := Tryd.prog) w1 26 5 9 Tryd.underlying26 Tryd.underlying5 Tryd.underlying9 v zs (h.below hb1)
  have HWI : Hid (∀ Bs, Iter2 Tryd.prog 80 #[.pointer (some ⟨Bs, 0, none⟩)] encW (wdsN (rs zs)) (fun _ W => W.cell? ⟨Bs, 0, none⟩ = some (.string (strOfNums zs)) ∧ Let W)) := fun Bs => words_iter Bs zs h.1 hl
  have hle : (wds (rs zs)).length ≤ 1000000 := by have := wds_len (rs zs); have := rs_len zs; omega
  have HLN : Hid ((wdsN (rs zs)).length = (wds (rs zs)).length) := wdsN_len _
  obtain ⟨s, hs⟩ : ∃ s, strOfNums zs = s := ⟨_, rfl⟩
  rw [hs] at hcv HWI
  have HWO := hide (wordsOf_any w1 s)
  obtain ⟨w2, hw2⟩ : ∃ w2, w1.alloc (.cells #[.string s] 9) = w2 := ⟨_, rfl⟩
  rw [hw2] at HWO
  have hs2 : w2.heap.size = w.heap.size + 2 := by rw [← hw2]; simp [hs1]
  have hA : Blk w2 w.heap.size 3 [.int .i64 0] := by rw [← hw2, ← hw1]; exact (Blk.new w _ _).alloc _
  have hB : Blk w2 (w.heap.size + 1) 9 [.string s] := by rw [← hw2, ← hs1]; exact Blk.new w1 _ _
  have hb2 : Below w.heap.size w w2 := by rw [← hw2]; exact hb1.alloc (by omega) _
  obtain ⟨R, hR⟩ : ∃ R, wdsN (rs zs) = R := ⟨_, rfl⟩
  rw [hR] at HWI HLN
  obtain ⟨N, hN⟩ : ∃ N, (wds (rs zs)).length = N := ⟨_, rfl⟩
  rw [hN] at HLN hle ⊢
  have HLW : Hid (∀ W, Below w.heap.size w W → Let W) := fun W hb => hL.below hb
  obtain ⟨ao, n, cap, rfl⟩ := sl_form h
  clear h hL hs hw2 hR hN hb1
  subst hw1
  refine (callsIn_wide (n := 3)).1 ?_
  refine callsIn_of_wp_marks Tryd.func25 rfl trivial ?_ rfl
  simp only [Tryd.ntmps25, List.size_toArray, List.length_cons, List.length_nil, Nat.reduceAdd, Nat.reduceSub, Array.replicate_succ, Array.replicate_zero, List.push_toArray, List.append_toArray, List.nil_append, List.cons_append]
  gi_wp2_with (refine ⟨trivial, ?_⟩; gi_at_call 58; refine (callsIn_wide.2 HWO.out).mono ?_; rintro e w9 ⟨rfl, hw⟩; subst w9; clear HWO)
  try rw [hs1]
  refine wp_range6 (gf := 80) (lb := #[.pointer (some ⟨w.heap.size + 1, 0, none⟩)]) (xs := R) (encs := encW) (V := fun _ W => W.cell? ⟨w.heap.size + 1, 0, none⟩ = some (.string s) ∧ Let W) rfl enters_words (HWI.out _) (fun _ => rfl) (fun Y k W => CtW w s k Y W) (fun _ _ _ _ => False) ?_ ?_ (fun _ _ _ _ _ h _ => h) (fun _ _ _ _ _ h _ => h) ?_ ?_
    (fun x => { tmps := #[.slice ao n cap, undef, .int .i64 0, .pointer (some ⟨w.heap.size, 0, none⟩), .slice ao n cap, .string s, .func (.func 80) #[] #[.pointer (some ⟨w.heap.size + 1, 0, none⟩)], .int .i64 (x.2 : Int), .string (strOfNums (fmL x.1)), undef, undef, undef], defers := [] }) ?assign ?body ?done (fun _ _ _ _ _ h _ => h.elim)
  · intro Y k W W' h ho
    exact h.keep (by rw [hs2] at ho; exact ho)
  · intro Y k W W' h ho
    exact h.grow ho
  · intro Y k W h
    exact ⟨h.b2.cell 0, HLW.out W h.below⟩
  · intro W1 ho hs
    exact ⟨hA.only ho (fun h => h), hB.only ho (fun h => h), hb2.trans ((ho.below (Nat.le_refl _) (fun _ _ h => h)).mono (by omega)), by omega, (fun _ h => h.elim)⟩
  case assign =>
    intro l k hk W K hK
    gi_wp2
    first | exact hK | simpa using hK
  case body =>
    intro l Y k hk W h
    have cx : W.cell? ⟨w.heap.size, 0, none⟩ = some (.int .i64 (k : Int)) := h.b1.cell 0
    have fx := h.b1.frozen 0
    have hk2 : (k : Int) ≤ 1000000 := by have := HLN.out; omega
    have HH := hide h
    clear h
    generalize strOfNums (fmL R[k].1) = S1 at *
    gi_wp2
    have hh := HH.out
    have hoB : Only (· = w.heap.size) W (W.setCell ⟨w.heap.size, 0, none⟩ (.int .i64 ((k : Int) + 1))) := (Only.refl (· = w.heap.size) W).setCell ⟨w.heap.size, 0, none⟩ _ (fun _ => rfl)
    have hb : Blk (W.setCell ⟨w.heap.size, 0, none⟩ (.int .i64 ((k : Int) + 1))) w.heap.size 3 [.int .i64 ((k + 1 : Nat) : Int)] := hh.b1.set 0 _
    exact ⟨Keeps2.of_only hoB (by omega) (by omega), fun j hj => hoB.block j (hh.ys j hj).2 (by have := (hh.ys j hj).1; omega), hb, hh.b2.only hoB (by omega), hh.below.trans (hoB.below hh.below.size (fun j hj e => by omega)), Nat.le_trans hh.size hoB.size, fun j hj => ⟨(hh.ys j hj).1, Nat.lt_of_lt_of_le (hh.ys j hj).2 hoB.size⟩⟩
  case done =>
    intro Y W h hD
    rw [HLN.out] at h
    have cx : W.cell? ⟨w.heap.size, 0, none⟩ = some (.int .i64 (N : Int)) := h.b1.cell 0
    have HH := hide h
    have HD := hide hD
    clear h hD
    gi_wp2
    refine ⟨by simp, .inl ⟨_, _, rfl, run_takeDeferred HD.out, ?_⟩⟩
    have hoD : Only (· = w2.heap.size) W (W.putObj w2.heap.size (.deferred none)) := only_put1 W _ _ _ rfl
    exact ⟨_, results_tmp (t := 2) rfl _ _ _, rfl, HH.out.below.trans (hoD.below HH.out.below.size (fun j hj e => by omega))⟩

end Go.Proofs.YtgeclnnhblffkaaDoor
