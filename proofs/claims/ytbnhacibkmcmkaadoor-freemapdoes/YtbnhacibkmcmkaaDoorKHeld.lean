/- Contracts: package freemap's Held, Taken. -/
import Derived.Test.YtbnhacibkmcmkaaDoorKAll
import Derived.Test.YtbnhacibkmcmkaaDoorKTell
namespace Go.Proofs.YtbnhacibkmcmkaaDoor
set_option maxRecDepth 20000
open Go.RowKit Go.Shelf
set_option linter.unusedVariables false
set_option maxRecDepth 100000
attribute [local go_sem] Oper.semAt_some

/-- so far: x counted -/
structure HeI (w : World) (b s : Nat) (x : Nat) (Y : Nat → Prop) (W : World) : Prop where
  b1 : Blk W w.heap.size 37 [dp b]
  b2 : Blk W (w.heap.size + 1) 3 [.int .i64 (x : Int)]
  b3 : Blk W (w.heap.size + 2) 64 [dp s]
  below : Below w.heap.size w W
  size : w.heap.size + 5 ≤ W.heap.size
  ys : ∀ j, Y j → w.heap.size + 5 ≤ j ∧ j < W.heap.size
theorem HeI.keep {w : World} {b s x : Nat} {Y : Nat → Prop} {W W' : World} (h : HeI w b s x Y W) (ho : Only (fun j => j = w.heap.size + 3 ∨ j = w.heap.size + 3 + 1) W W') : HeI w b s x Y W' :=
  ⟨h.b1.only ho (by omega), h.b2.only ho (by omega), h.b3.only ho (by omega), h.below.trans (ho.below h.below.size (fun j hj e => by omega)), Nat.le_trans h.size ho.size, fun j hj => ⟨(h.ys j hj).1, Nat.lt_of_lt_of_le (h.ys j hj).2 ho.size⟩⟩
theorem HeI.grow {w : World} {b s x : Nat} {Y : Nat → Prop} {W W' : World} (h : HeI w b s x Y W) (ho : Only Y W W') : HeI w b s x (more Y W W') W' := by
  have hs := h.size
  have hy := h.ys
  refine ⟨h.b1.only ho (fun e => by have := (hy _ e).1; omega), h.b2.only ho (fun e => by have := (hy _ e).1; omega), h.b3.only ho (fun e => by have := (hy _ e).1; omega), h.below.trans (ho.below h.below.size (fun j hj e => by have := (hy _ e).1; omega)), Nat.le_trans h.size ho.size, fun j hj => ?_⟩
  rcases hj with hj | hj
  · exact ⟨(hy j hj).1, Nat.lt_of_lt_of_le (hy j hj).2 ho.size⟩
  · exact ⟨by omega, hj.2⟩

theorem held_len (f g : Nat → Bool) (n : Nat) : ((pagesF g n).filter (fun p => !f p)).length = cntF (heF f g) n := by rw [pages_he, pagesF_len]

set_option maxHeartbeats 4000000 in
theorem mheld_any (w : World) (B b n : Nat) (f g : Nat → Bool) (h : MapE w B b n f g) : Calls Tryd.prog 32 #[dp b] w fun e w' => e = .returned (.int .i64 (cntF (heF f g) n : Nat)) ∧ Below w.heap.size w w' := by
  obtain ⟨t, s, h⟩ := h
  have HMD : Hid (∀ wx, Below w.heap.size w wx → Calls Tryd.prog 52 #[dp b] wx fun e w' => e = .returned (.bool true) ∧ w' = wx) := fun wx hb => mmade_cell wx b t (h.below hb).c0
  have HAL := hide (fun w => all_any w (some ⟨s, 0, none⟩))
  have hn := h.ts.hi
  have c1 := h.c1
  have hbl := h.blk.lt
  refine (callsIn_wide (n := 3)).1 ?_
  refine callsIn_of_wp_marks Tryd.func32 rfl trivial ?_ rfl
  simp only [Tryd.ntmps32, List.size_toArray, List.length_cons, List.length_nil, Nat.reduceAdd, Nat.reduceSub, Array.replicate_succ, Array.replicate_zero, List.push_toArray, List.append_toArray, List.nil_append, List.cons_append]
  gi_wp2_with (first
    | (refine ⟨trivial, ?_⟩; gi_at_call 52; refine (callsIn_wide.2 (HMD.out _ ((Below.refl _ w).alloc (Nat.le_refl _) _))).mono ?_; rintro e w1 ⟨rfl, hw⟩; subst w1; clear HMD)
    | (refine ⟨trivial, ?_⟩; gi_at_call 56; refine (callsIn_wide.2 (HAL.out _)).mono ?_; rintro e w1 ⟨rfl, hw⟩; subst w1; clear HAL))
  obtain ⟨w2, hw2⟩ : ∃ w2, ((w.alloc (.cells #[dp b] 37)).alloc (.cells #[.int .i64 0] 3)).alloc (.cells #[dp s] 64) = w2 := ⟨_, rfl⟩
  have hs2 : w2.heap.size = w.heap.size + 3 := by rw [← hw2]; simp
  have hA : Blk w2 w.heap.size 37 [dp b] := by rw [← hw2]; exact ((Blk.new w _ _).alloc _).alloc _
  have hB : Blk w2 (w.heap.size + 1) 3 [.int .i64 0] := by
    rw [← hw2]
    have := Blk.new (w.alloc (.cells #[dp b] 37)) 3 [.int .i64 0]
    rw [World.size_alloc] at this
    exact Blk.alloc this _
  have hC : Blk w2 (w.heap.size + 2) 64 [dp s] := by
    rw [← hw2]
    have := Blk.new ((w.alloc (.cells #[dp b] 37)).alloc (.cells #[.int .i64 0] 3)) 64 [dp s]
    rw [World.size_alloc, World.size_alloc] at this
    exact this
  have hb2 : Below w.heap.size w w2 := by rw [← hw2]; exact (((Below.refl _ w).alloc (Nat.le_refl _) _).alloc (by simp) _).alloc (by simp; omega) _
  rw [hw2]
  have HC := hide (held_len f g n)
  have HX := hide h
  clear h c1 hbl
  obtain ⟨R, hR⟩ : ∃ R, pagesF g n = R := ⟨_, rfl⟩
  have hRl : R.length ≤ 2048 := by rw [← hR]; have := pagesF_le g n; omega
  rw [hR] at HC
  have HR := hide hR
  clear hR
  refine wp_range6 (gf := 66) (lb := #[.pointer (some ⟨w.heap.size + 1 + 1, 0, none⟩)]) (xs := R) (encs := encP) (V := SetV (w.heap.size + 1 + 1) s n g) rfl enters_all (by rw [← HR.out]; exact (all_iter _ s n g).two) (fun _ => rfl) (fun Y k W => ∃ x, x = ((R.take k).filter (fun p => !f p)).length ∧ HeI w b s x Y W) (fun _ _ _ _ => False) ?_ ?_ (fun _ _ _ _ _ h _ => h) (fun _ _ _ _ _ h _ => h) ?_ ?_
    (fun x => { tmps := #[dp b, .pointer (some ⟨w.heap.size, 0, none⟩), .int .i64 0, .pointer (some ⟨w.heap.size + 1, 0, none⟩), .int .i64 (x : Int), dp b, .bool true, .bool false, dp b, .pointer (some ⟨b, 0, none⟩), .pointer (some ⟨b, 1, none⟩), dp s, .func (.func 66) #[] #[.pointer (some ⟨w.heap.size + 1 + 1, 0, none⟩)], .int .i64 (x : Int), undef, undef, undef, undef, undef, undef, undef, undef, undef, undef], defers := [] }) ?assign ?body ?done (fun _ _ _ _ _ h _ => h.elim)
  · rintro Y k W W' ⟨x, h1, h⟩ ho
    exact ⟨x, h1, h.keep (by rw [hs2] at ho; exact ho)⟩
  · rintro Y k W W' ⟨x, h1, h⟩ ho
    exact ⟨x, h1, h.grow ho⟩
  · rintro Y k W ⟨x, h1, h⟩
    have hm := HX.out.below h.below
    exact ⟨hm.tab, fun _ => ⟨h.b3.cell 0, hm.ss⟩⟩
  · intro W1 ho hs
    exact ⟨0, by simp, hA.only ho (fun h => h), hB.only ho (fun h => h), hC.only ho (fun h => h), hb2.trans ((ho.below (Nat.le_refl _) (fun _ _ h => h)).mono (by omega)), by omega, (fun _ h => h.elim)⟩
  case assign =>
    intro l k hk W K hK
    gi_wp2
    exact hK
  case body =>
    rintro l Y k hk W ⟨x, hx, h⟩
    obtain ⟨p, hp⟩ : ∃ p, R[k] = p := ⟨_, rfl⟩
    rw [hp]
    have hm := HX.out.below h.below
    have cb : W.cell? ⟨w.heap.size, 0, none⟩ = some (dp b) := h.b1.cell 0
    have cx : W.cell? ⟨w.heap.size + 1, 0, none⟩ = some (.int .i64 (x : Int)) := h.b2.cell 0
    have fx := h.b2.frozen 0
    have ct := hm.c0
    have hH := has_any W t n f (p : Int) hm.ts
    rw [show hasI f (p : Int) = f p by simp [hasI]] at hH
    have hstep := filt_step R (fun p => !f p) k hk
    rw [hp] at hstep
    have hxl : x ≤ 2048 := by
      rw [hx]
      refine Nat.le_trans (List.length_filter_le _ _) ?_
      simp; omega
    have HXX := hide hx
    have HH0 := hide h
    clear h hm hp hx
    have HD : Hid (∀ m, HeI w b s x Y (W.drewN m)) := fun m => by
      have h := HH0.out
      exact ⟨h.b1.drewN m, h.b2.drewN m, h.b3.drewN m, h.below.trans ((belowN W m).mono h.below.size), h.size, h.ys⟩
    cases hf : f p with
    | true =>
      rw [hf] at hH
      have HH := hide hH
      have HS : Hid (x = ((R.take (k + 1)).filter (fun p => !f p)).length) := by
        show _ = _
        rw [hstep, hf]
        simpa using HXX.out
      clear hH hstep hf
      gi_wp2_with (first
        | (refine ⟨trivial, ?_⟩; gi_at_call 57; refine (calls_wideR HH.out _ _).mono ?_; rintro e w1 ⟨rfl, m, hw⟩; subst w1; clear HH))
      exact ⟨Keeps2.of_only (only_drewN (fun _ => False) W m) (fun h => h) (fun h => h), fun j hj => rfl, x, HS.out, HD.out m⟩
    | false =>
      rw [hf] at hH
      have HH := hide hH
      have HS : Hid (x + 1 = ((R.take (k + 1)).filter (fun p => !f p)).length) := by
        show _ = _
        rw [hstep, hf]
        simpa using HXX.out
      clear hH hstep hf
      gi_wp2_with (first
        | (refine ⟨trivial, ?_⟩; gi_at_call 57; refine (calls_wideR HH.out _ _).mono ?_; rintro e w1 ⟨rfl, m, hw⟩; subst w1; clear HH))
      have hh := HD.out m
      have hoB : Only (· = w.heap.size + 1) (W.drewN m) ((W.drewN m).setCell ⟨w.heap.size + 1, 0, none⟩ (.int .i64 ((x : Int) + 1))) := (Only.refl (· = w.heap.size + 1) (W.drewN m)).setCell ⟨w.heap.size + 1, 0, none⟩ _ (fun _ => rfl)
      have hb : Blk ((W.drewN m).setCell ⟨w.heap.size + 1, 0, none⟩ (.int .i64 ((x : Int) + 1))) (w.heap.size + 1) 3 [.int .i64 ((x + 1 : Nat) : Int)] := hh.b2.set 0 _
      have hoA : Only (· = w.heap.size + 1) W ((W.drewN m).setCell ⟨w.heap.size + 1, 0, none⟩ (.int .i64 ((x : Int) + 1))) := (only_drewN _ W m).trans hoB (fun _ _ h => h)
      refine ⟨Keeps2.of_only hoA (by omega) (by omega), fun j hj => hoA.block j (HH0.out.ys j hj).2 (by have := (HH0.out.ys j hj).1; omega), x + 1, HS.out, hh.b1.only hoB (by omega), hb, hh.b3.only hoB (by omega), hh.below.trans (hoB.below hh.below.size (fun j hj e => by omega)), Nat.le_trans hh.size hoB.size, fun j hj => ⟨(hh.ys j hj).1, Nat.lt_of_lt_of_le (hh.ys j hj).2 hoB.size⟩⟩
  case done =>
    rintro Y W ⟨x, hx, h⟩ hD
    rw [List.take_of_length_le (Nat.le_refl _), HC.out] at hx
    subst hx
    generalize hq : cntF (heF f g) n = x at *
    have cx : W.cell? ⟨w.heap.size + 1, 0, none⟩ = some (.int .i64 (x : Int)) := h.b2.cell 0
    have HH := hide h
    have HD := hide hD
    clear h hD
    gi_wp2
    refine ⟨by simp, .inl ⟨_, _, rfl, run_takeDeferred HD.out, ?_⟩⟩
    have hoD : Only (· = w2.heap.size) W (W.putObj w2.heap.size (.deferred none)) := only_put1 W _ _ _ rfl
    exact ⟨_, results_tmp (t := 2) rfl _ _ _, by rw [hq]; rfl, HH.out.below.trans (hoD.below HH.out.below.size (fun j hj e => by omega))⟩

theorem setV_of {w : World} {b n : Nat} {f : Nat → Bool} (h : SetB w b n f) (hT : TabB w) (k : Nat) (W' : World) (ho : Only (fun _ => False) (w.alloc (.cells #[dp b] 64)) W') : SetV w.heap.size b n f k W' := by
  have hb : Below w.heap.size w (w.alloc (.cells #[dp b] 64)) := (Below.refl _ w).alloc (Nat.le_refl _) _
  have hb2 : Below (w.alloc (.cells #[dp b] 64)).heap.size _ W' := ho.below (Nat.le_refl _) (fun _ _ h => h)
  exact ⟨(hT.below hb).below hb2, fun _ => ⟨((Blk.new w 64 [dp b]).only ho (fun h => h)).cell 0, (h.below hb).below hb2⟩⟩
theorem below_on {w a b : World} (h : Below w.heap.size w a) (k : Below a.heap.size a b) : Below w.heap.size w b := h.trans (k.mono h.size)

theorem mtaken_any (w : World) (B b n : Nat) (f g : Nat → Bool) (h : MapE w B b n f g) : Calls Tryd.prog 31 #[dp b] w fun e w' => ∃ v, e = .returned v ∧ Ints w' w.heap.size v (ci (pagesF f n)) ∧ Below w.heap.size w w' := by
  have HM := hide (mmade_any w B b n f g h)
  obtain ⟨t, s, h⟩ := h
  have c0 := h.c0
  have HAL := hide (all_any w (some ⟨t, 0, none⟩))
  have hn := h.ts.hi
  have HC : Hid (Calls Tryd.prog 55 #[.func (.func 66) #[] #[.pointer (some ⟨w.heap.size, 0, none⟩)]] (w.alloc (.cells #[dp t] 64)) fun e w' => ∃ v, e = .returned v ∧ Ints w' w.heap.size v (ci (pagesF f n)) ∧ Below w.heap.size w w') := by
    refine (collect_any _ 66 #[.pointer (some ⟨w.heap.size, 0, none⟩)] (pagesF f n) (SetV w.heap.size t n f) enters_all (all_iter _ t n f).two (fun k W' ho => setV_of h.ts h.tab k W' ho) (by have := pagesF_le f n; omega)).mono ?_
    rintro e w' ⟨v, rfl, hi, hb⟩
    exact ⟨v, rfl, hi.base (by simp), after_alloc hb⟩
  clear h
  go_enter Tryd.func31, Tryd.ntmps31
  go_wp2_with (first
    | (go_at_call 52; refine HM.out.mono ?_; rintro e wx ⟨rfl, hw⟩; subst wx; clear HM)
    | (go_at_call 56; refine HAL.out.mono ?_; rintro e wx ⟨rfl, hw⟩; subst wx; clear HAL)
    | (go_at_call 55; refine HC.out.mono ?_; rintro e w2 ⟨v2, rfl, hi2, hb2⟩; have HI2 := hide hi2; have HB2 := hide hb2; clear HC hi2 hb2))
  go_ret
  exact ⟨_, rfl, HI2.out, HB2.out⟩

end Go.Proofs.YtbnhacibkmcmkaaDoor
