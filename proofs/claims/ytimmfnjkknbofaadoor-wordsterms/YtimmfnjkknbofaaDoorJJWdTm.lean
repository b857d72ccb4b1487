/- Contract: package words' Terms. -/
import Derived.Test.YtimmfnjkknbofaaDoorJJWdAll
import Derived.Test.YtimmfnjkknbofaaDoorJJWdTP
namespace Go.Proofs.YtimmfnjkknbofaaDoor
set_option maxRecDepth 20000
open Go.RowKit Go.Shelf
set_option linter.unusedVariables false
set_option linter.unusedSimpArgs false
set_option maxRecDepth 100000
attribute [local go_sem] Oper.semAt_some

theorem cell_off {W W' : World} {tb N : Nat} {e : TypeId} {sl : Value} (hB : Blk W tb e [sl]) (hN : N = W.heap.size) (ho : Only (fun j => j = tb ∨ N ≤ j) W W') {b i : Nat} {x : Value} (hx : W.cell? ⟨b, i, none⟩ = some x) (hne : x ≠ sl) : b ≠ tb ∧ W'.cell? ⟨b, i, none⟩ = some x := by
  have hb : b ≠ tb := fun e => by
    subst e
    have := hB.cell i
    rw [hx] at this
    match i, this with
    | 0, this => exact hne (Option.some.inj this)
    | i + 1, this => simp at this
  have hlt := World.block_lt_of_cell? W _ hx
  exact ⟨hb, (World.cell?_of_block (w := W) (a := ⟨b, i, none⟩) (ho.block b hlt (fun h => by have hlt : b < W.heap.size := hlt; omega))).trans hx⟩
/-- what All is made of stays, where only another box of a slice is written over -/
theorem AllW.off {g6 g5 : Nat} {C : Cn} {s : ByteArray} {W W' : World} {tb : Nat} {e : TypeId} {so : Option Addr} {sn sc : Nat} (h : AllW g6 g5 C s W) (hB : Blk W tb e [.slice so sn sc]) (ho : Only (fun j => j = tb ∨ W.heap.size ≤ j) W W') : AllW g6 g5 C s W' := by
  obtain ⟨fo, fc, so', sc', c0, c1, c2, ht, hs⟩ := h.cnf
  have k := fun (b i : Nat) (x : Value) (hx : W.cell? ⟨b, i, none⟩ = some x) (hne : x ≠ .slice so sn sc) => cell_off hB rfl ho hx hne
  obtain ⟨g5n, c2'⟩ := k _ _ _ c2 (by simp)
  have k5 : ∀ (i : Nat) (x : Value), W.cell? ⟨g5, i, none⟩ = some x → W'.cell? ⟨g5, i, none⟩ = some x := fun i x hx => by
    have hlt : g5 < W.heap.size := World.block_lt_of_cell? W _ hx
    exact (World.cell?_of_block (w := W) (a := ⟨g5, i, none⟩) (ho.block g5 hlt (fun h => by omega))).trans hx
  refine ⟨(k _ _ _ h.str (by simp)).2, ⟨fo, fc, so', sc', k5 _ _ c0, k5 _ _ c1, c2', ?_, ?_⟩, fun i hi => ?_⟩
  · obtain ⟨h0, ao, cap, e1, h1, h2, h3⟩ := ht
    refine ⟨h0, ao, cap, e1, h1, h2, fun hx => ?_⟩
    obtain ⟨b, off, e2, hc⟩ := h3 hx
    refine ⟨b, off, e2, fun i hi => ?_⟩
    obtain ⟨q0, q1, q2⟩ := hc i hi
    exact ⟨(k _ _ _ q0 (by simp)).2, (k _ _ _ q1 (by simp)).2, (k _ _ _ q2 (by simp)).2⟩
  · obtain ⟨h0, ao, cap, e1, h1, h2, h3⟩ := hs
    refine ⟨h0, ao, cap, e1, h1, h2, fun hx => ?_⟩
    obtain ⟨b, off, e2, hc⟩ := h3 hx
    exact ⟨b, off, e2, fun i hi => (k _ _ _ (hc i hi) (by simp)).2⟩
  · obtain ⟨q0, q1⟩ := h.let_ i hi
    exact ⟨(k _ _ _ q0 (by simp)).2, (k _ _ _ q1 (by simp)).2⟩

/-- the terms gathered so far: their box at tb, all else at N + 2 or behind -/
structure TmI (w w2 : World) (tb : Nat) (xs : List Tk) (Y : Nat → Prop) (k : Nat) (W : World) : Prop where
  box : ∃ v, Blk W tb 23 [v] ∧ StU W w.heap.size v ((xs.take k).map fun x => uB x.1) ∧ ∀ j, v.ownBlock = some j → w2.heap.size + 2 ≤ j ∧ ¬ Y j
  below : Below w.heap.size w W
  size : w2.heap.size + 2 ≤ W.heap.size
  ys : ∀ j, Y j → w2.heap.size + 2 ≤ j ∧ j < W.heap.size
  rel : Only (fun j => j = tb ∨ w2.heap.size ≤ j) w2 W
theorem TmI.keep {w w2 : World} {tb : Nat} {xs : List Tk} {Y : Nat → Prop} {k : Nat} {W W' : World} (ht : w.heap.size ≤ tb ∧ tb < w2.heap.size) (h : TmI w w2 tb xs Y k W) (ho : Only (fun j => j = w2.heap.size ∨ j = w2.heap.size + 1) W W') : TmI w w2 tb xs Y k W' := by
  obtain ⟨v, h1, h2, h3⟩ := h.box
  exact ⟨⟨v, h1.only ho (by omega), h2.only ho (fun j hj e => by have := (h3 j hj).1; omega), h3⟩, h.below.trans (ho.below h.below.size (fun j hj e => by omega)), Nat.le_trans h.size ho.size, fun j hj => ⟨(h.ys j hj).1, Nat.lt_of_lt_of_le (h.ys j hj).2 ho.size⟩, h.rel.trans ho (fun j hj e => by omega)⟩
theorem TmI.fresh {w w2 : World} {tb : Nat} {xs : List Tk} {Y : Nat → Prop} {k : Nat} {W W' : World} (h : TmI w w2 tb xs Y k W) (hb : Below W.heap.size W W') : TmI w w2 tb xs Y k W' := by
  obtain ⟨v, h1, h2, h3⟩ := h.box
  have ho : Only (fun _ => False) W W' := Only.of_below _ hb
  exact ⟨⟨v, h1.only ho (fun h => h), h2.only ho (fun _ _ h => h), h3⟩, h.below.trans (hb.mono h.below.size), Nat.le_trans h.size hb.size, fun j hj => ⟨(h.ys j hj).1, Nat.lt_of_lt_of_le (h.ys j hj).2 hb.size⟩, h.rel.trans ho (fun j hj e => e.elim)⟩
theorem TmI.grow {w w2 : World} {tb : Nat} {xs : List Tk} {Y : Nat → Prop} {k : Nat} {W W' : World} (ht : w.heap.size ≤ tb ∧ tb < w2.heap.size) (h : TmI w w2 tb xs Y k W) (ho : Only Y W W') : TmI w w2 tb xs (more Y W W') k W' := by
  obtain ⟨v, h1, h2, h3⟩ := h.box
  have hs := h.size
  have hy := h.ys
  refine ⟨⟨v, h1.only ho (fun e => by have := (hy _ e).1; omega), h2.only ho (fun j hj e => (h3 j hj).2 e), fun j hj => ⟨(h3 j hj).1, fun hy => hy.elim (h3 j hj).2 (fun hy => by have := (h2.lt j hj).2; omega)⟩⟩, h.below.trans (ho.below h.below.size (fun j hj e => by have := (hy _ e).1; omega)), Nat.le_trans h.size ho.size, fun j hj => ?_, h.rel.trans ho (fun j hj e => by have := (hy _ e).1; omega)⟩
  rcases hj with hj | hj
  · exact ⟨(hy j hj).1, Nat.lt_of_lt_of_le (hy j hj).2 ho.size⟩
  · exact ⟨by omega, hj.2⟩

set_option maxHeartbeats 2000000 in
theorem terms_any (w : World) (v : Value) (C : Cn) (h : CnfV w v C) (hok : CnOk C) (vt : Value) (zs : List Int) (hz : Sl w vt zs) (hl : zs.length ≤ 100000) (hL : Let w) :
    Calls Tryd.prog 20 #[v, vt] w fun e w' => ∃ u, e = .returned u ∧ StU w' w.heap.size u (insA ((tokC C (rs zs)).map fun x => uB x.1)) ∧ Below w.heap.size w w' := by
  obtain ⟨fo, fc, so, sc, w1, rfl, hw1, hb1, hB, hT, hS⟩ := box_cnf w v C h
  obtain ⟨wt, hwt⟩ : ∃ x, w1.alloc (.cells #[.slice none 0 0] 23) = x := ⟨_, rfl⟩
  have hb1t : Below w1.heap.size w1 wt := by rw [← hwt]; exact (Below.refl _ w1).alloc (Nat.le_refl _) _
  have hbt : Below w.heap.size w wt := hb1.trans (hb1t.mono hb1.size)
  have hTB : Blk wt w1.heap.size 23 [.slice none 0 0] := by rw [← hwt]; exact Blk.new w1 _ _
  have HAL := hide (all_any wt _ C (h.below hbt) hok vt zs (hz.below hbt) (hL.below hbt))
  have HIT : Hid (∀ u w2, Below wt.heap.size wt w2 → AllR C (strOfNums zs) u w2 → ∃ gf lb, u = .func (.func gf) #[] lb ∧ (∀ args w, (callFunc gf args).run Tryd.prog w = .ok (.enter gf args) w) ∧ ∃ V, Iter2 Tryd.prog gf lb encT (tokC C (rs zs)) V ∧ ∀ W k, Only (fun j => j = w1.heap.size ∨ w2.heap.size ≤ j) w2 W → V k W) := fun u w2 hb hu => by
    have hL2 := hL.below (hbt.trans (hb.mono hbt.size))
    have hB2 := hTB.below hb (by rw [← hwt]; simp)
    rcases hu with ⟨hm, rfl⟩ | ⟨hm, g6, g5, rfl, hA⟩
    · refine ⟨_, _, rfl, enters_all1, _, ?_, fun _ _ _ => trivial⟩
      rw [show tokC C (rs zs) = [] from if_neg (by rw [hm]; simp)]
      exact all1_iter
    · obtain ⟨m, h1, h2, h3, _⟩ := mayC_cap hm
      refine ⟨_, _, rfl, enters_all2, _, ?_, fun W k ho => (hA hL2).off hB2 ho⟩
      rw [show tokC C (rs zs) = tokL (useL C.fs) C.cap.toNat C.ss (rs zs) from if_pos hm, h3]
      exact all2_iter g6 g5 C hok m h1 h2 zs hz.1 (by omega)
  obtain ⟨to, tn, tc, rfl⟩ := sl_form hz
  have HLN : Hid ((tokC C (rs zs)).length ≤ 1000000) := by have := tokC_len C (rs zs); have := rs_len zs; show _ ≤ _; omega
  have HB1 := hide hbt
  have HW1 : Hid (w1.heap.size = w.heap.size + 1 ∧ wt.heap.size = w1.heap.size + 1) := ⟨by rw [← hw1]; simp, by rw [← hwt]; simp⟩
  have HTB := hide hTB
  have hBt : Blk wt w.heap.size 25 [.slice fo C.fs.length fc, .slice so C.ss.length sc, .int .i64 C.cap] := hB.below hb1t (by have := HW1.out.1; omega)
  have c0 : wt.cell? ⟨w.heap.size, 0, none⟩ = some (.slice fo C.fs.length fc) := hBt.cell 0
  have c1 : wt.cell? ⟨w.heap.size, 1, none⟩ = some (.slice so C.ss.length sc) := hBt.cell 1
  have c2 : wt.cell? ⟨w.heap.size, 2, none⟩ = some (.int .i64 C.cap) := hBt.cell 2
  generalize tokC C (rs zs) = xs at *
  generalize strOfNums zs = s at *
  obtain ⟨fn, hfn⟩ : ∃ n, C.fs.length = n := ⟨_, rfl⟩
  obtain ⟨sn, hsn⟩ : ∃ n, C.ss.length = n := ⟨_, rfl⟩
  obtain ⟨K, hK⟩ : ∃ n, C.cap = n := ⟨_, rfl⟩
  rw [hfn] at hw1 c0 HAL ⊢
  rw [hsn] at hw1 c1 HAL ⊢
  rw [hK] at hw1 c2 HAL ⊢
  clear h hT hS hB hBt hb1 hb1t hbt hTB hok hL hz hfn hsn hK hl
  refine (callsIn_wide (n := 3)).1 ?_
  refine callsIn_of_wp_marks Tryd.func20 rfl trivial ?_ rfl
  simp only [Tryd.ntmps20, List.size_toArray, List.length_cons, List.length_nil, Nat.reduceAdd, Nat.reduceSub, Array.replicate_succ, Array.replicate_zero, List.push_toArray, List.append_toArray, List.nil_append, List.cons_append]
  gi_wp2_with (first
    | (refine ⟨trivial, ?_⟩; gi_at_call 47; refine (callsIn_wide.2 HAL.out).mono ?_; rintro e w2 ⟨u, rfl, hu, hb⟩; obtain ⟨gf, lb, rfl, eg, V, hit, hV⟩ := HIT.out u w2 hb hu; have HG := hide eg; have HI := hide hit; have HV := hide hV; have HBL := hide hb; clear HAL HIT hb hu eg hit hV))
  have htb : w.heap.size ≤ w1.heap.size ∧ w1.heap.size < w2.heap.size := by have := HW1.out; have := HBL.out.size; omega
  have hB2 : Blk w2 w1.heap.size 23 [.slice none 0 0] := HTB.out.below HBL.out (by have := HW1.out; omega)
  have hb2 : Below w.heap.size w w2 := HB1.out.trans (HBL.out.mono HB1.out.size)
  have HL := hide HLN.out
  obtain ⟨tb, htbe⟩ : ∃ x, w1.heap.size = x := ⟨_, rfl⟩
  rw [htbe] at htb hB2 HV ⊢
  clear c0 c1 c2 hw1 hwt HTB HB1 HW1 HBL htbe HLN
  refine wp_range10 (gf := gf) (lb := lb) (xs := xs) (encs := encT) (V := V) rfl HG.out HI.out (fun _ => rfl) (TmI w w2 tb xs) (fun _ _ _ _ => False) ?_ (fun Y k W W' h hb => h.grow htb hb) (fun _ _ _ _ _ h _ => h) (fun _ _ _ _ _ h _ => h) ?_ ?_
    (fun x n a' W => ∃ g, TokAt x n g W ∧ a' = { tmps := #[.agg #[.slice fo fn fc, .slice so sn sc, .int .i64 K], .slice to tn tc, .pointer (some ⟨w.heap.size, 0, none⟩), undef, .slice none 0 0, .pointer (some ⟨tb, 0, none⟩), .pointer (some ⟨g, 0, none⟩), .agg #[.slice fo fn fc, .slice so sn sc, .int .i64 K], .slice to tn tc, .func (.func gf) #[] lb, .agg #[.string (strOfNums x.1), .int .i64 (x.2 : Int)], undef, undef, undef, undef, undef, undef, undef, undef, undef], defers := [] })
    ?_ (fun Y k W W' h hb => h.fresh hb) (fun Y k W h j hj => (h.ys j hj).2) ?assign ?body ?done (fun _ _ _ _ _ h _ => h.elim)
  · intro Y k W W' h ho
    exact h.keep htb ho
  · intro Y k W h
    exact HV.out W k h.rel
  · intro W1 ho hs
    refine ⟨⟨_, hB2.only ho (fun h => h), by rw [List.take_zero]; exact StU.nil _ _, (fun j hj => by cases hj)⟩, hb2.trans ((ho.below (Nat.le_refl _) (fun _ _ h => h)).mono (by omega)), by omega, (fun _ h => h.elim), ho.mono (fun _ _ h => h.elim)⟩
  · rintro x n a' W W' ⟨g, hg, rfl⟩ hn ho
    exact ⟨g, hg.only ho (by have := hg.1; omega), rfl⟩
  case assign =>
    intro l k hk W K hK
    gi_wp2
    exact hK _ _ ⟨_, ⟨Nat.le_refl _, Blk.new W _ _⟩, rfl⟩ ((Below.refl _ W).alloc (Nat.le_refl _) _)
  case body =>
    rintro l Y k hk n W _ hYn hn2 h ⟨g, hg, rfl⟩
    have HYS := hide h.ys
    have HRL := hide h.rel
    obtain ⟨x, hx⟩ : ∃ x, xs[k] = x := ⟨_, rfl⟩
    rw [hx] at hg ⊢
    obtain ⟨⟨v, h1, h2, h3⟩, h4, h5, _, _⟩ := h
    have hle : ((xs.take k).map fun x => uB x.1).length = k := by simp; omega
    have c0 : W.cell? ⟨tb, 0, none⟩ = some v := h1.cell 0
    have f0 := h1.frozen 0
    have g0 : W.cell? ⟨g, 0, none⟩ = some (.string (strOfNums x.1)) := hg.2.cell 0
    have g1 : W.cell? ⟨g, 1, none⟩ = some (.int .i64 (x.2 : Int)) := hg.2.cell 1
    obtain ⟨v2, w3, hr, hi2, hg2, hv2, ao2, cap2, rfl⟩ := push_u W w.heap.size v _ h2 x.1 (by have := HL.out; omega) (by omega)
    obtain ⟨W2, hW2⟩ : ∃ W2, W.alloc (.cells #[.string (strOfNums x.1)] 9) = W2 := ⟨_, rfl⟩
    rw [hW2] at hg2
    have hoW2 : Only (fun _ => False) W W2 := by rw [← hW2]; exact (Only.refl _ W).alloc _
    have hB2 : Blk w3 tb 23 [v] := (hg2.block _ (by have := hoW2.size; omega) (fun e => by have := (h3 _ e.symm).1; omega)).trans (h1.only hoW2 (fun h => h))
    have c2 : w3.cell? ⟨tb, 0, none⟩ = some v := hB2.cell 0
    have f2 := hB2.frozen 0
    obtain ⟨ao1, cap1, hv1⟩ := h2.shape
    have hoA : Only (fun j => v.ownBlock = some j) W w3 := (hoW2.mono (fun _ _ h => h.elim)).grown hg2 (fun j e _ => e)
    have HOA := hide hoA
    have HR := hide hr
    have HI2 := hide hi2
    have HV2 := hide hv2
    have HB2 := hide hB2
    have H3 := hide h3
    have H4 := hide h4
    have HX := hide hx
    rw [hle] at hv1 HR HI2 HV2
    subst hv1
    generalize strOfNums x.1 = s at *
    clear hr hi2 hg2 hv2 hB2 h1 h2 h3 h4 hx hW2 hoW2 hoA hle
    gi_wp2_with (first
      | (gi_at_builtin; (with_reducible refine wpListIn_append_runK _ rfl (.tmp 11) (.tmp 14) 23 rfl _ _ ?_ ?_ _ _ HR.out ?_); exact rfl; exact rfl; clear HR))
    have hoA := HOA.out
    have hoB : Only (· = tb) w3 (w3.setCell ⟨tb, 0, none⟩ (.slice ao2 (k + 1) cap2)) := (Only.refl (· = tb) w3).setCell ⟨tb, 0, none⟩ _ (fun _ => rfl)
    have hv3 : ∀ j, (Value.slice ao2 (k + 1) cap2).ownBlock = some j → w2.heap.size + 2 ≤ j ∧ ¬ Y j := fun j hj => by
      rcases HV2.out with e | e
      · exact H3.out j (e ▸ hj)
      · rw [e] at hj
        have := Option.some.inj hj
        exact ⟨by omega, fun hy => by have := (HYS.out j hy).2; omega⟩
    refine ⟨?_, ?_, ⟨⟨_, HB2.out.set 0 _, ?_, hv3⟩, ?_, ?_, ?_, ?_⟩⟩
    · refine (Keeps2.of_only hoA ?_ ?_).trans (Keeps2.of_only hoB (by omega) (by omega))
      · intro e; have := (H3.out _ e).1; omega
      · intro e; have := (H3.out _ e).1; omega
    · intro j hj
      have hjs := HYS.out j hj
      exact (hoB.block j (by have := hoA.size; omega) (by omega)).trans (hoA.block j hjs.2 (fun e => (H3.out j e).2 hj))
    · rw [take_snocK xs k hk, HX.out, List.map_append]
      exact HI2.out.only hoB (fun j hj e => by have := (hv3 j hj).1; omega)
    · refine (H4.out.trans (hoA.below (by omega) (fun j hj e => by have := (H3.out j e).1; omega))).trans (hoB.below (by have := hoA.size; omega) (fun j hj e => by omega))
    · have := hoA.size
      have := hoB.size
      omega
    · intro j hj
      have := hoA.size
      have := hoB.size
      have hjs := HYS.out j hj
      exact ⟨hjs.1, by omega⟩
    · exact (HRL.out.trans hoA (fun j hj e => by have := (H3.out j e).1; omega)).trans hoB (fun j hj e => .inl e)
  case done =>
    intro Y W h hD
    obtain ⟨⟨v, h1, h2, h3⟩, h4, h5, _, _⟩ := h
    rw [List.take_of_length_le (Nat.le_refl _)] at h2
    obtain ⟨us, hus⟩ : ∃ us, (xs.map fun x => uB x.1) = us := ⟨_, rfl⟩
    have HUS := hide hus
    have hul : us.length ≤ 1000000 := by rw [← hus]; simpa using HL.out
    rw [hus] at h2
    obtain ⟨ao1, cap1, hv1⟩ := h2.shape
    obtain ⟨n1, hn1⟩ : ∃ n, us.length = n := ⟨_, rfl⟩
    rw [hn1] at hv1
    subst hv1
    have c0 : W.cell? ⟨tb, 0, none⟩ = some (.slice ao1 n1 cap1) := h1.cell 0
    have HSO := hide (sortU_any W w.heap.size _ us h2 hul)
    obtain ⟨ss, hss⟩ : ∃ ss, (us.mergeSort fun x y => decide (x ≤ y)) = ss := ⟨_, rfl⟩
    have hsl : ss.length ≤ 1000000 := by rw [← hss]; simpa using hul
    have HSS : Hid (Lib.compact ss = insA us) := by show _ = _; rw [← hss]; exact sort_ins us
    rw [hss] at HSO
    have HCO : Hid (∀ w3, StU w3 w.heap.size (.slice ao1 n1 cap1) ss → Calls Tryd.prog 49 #[.slice ao1 n1 cap1] w3 fun e w' => ∃ v', e = .returned v' ∧ StU w' w.heap.size v' (Lib.compact ss) ∧ v'.ownBlock = (Value.slice ao1 n1 cap1).ownBlock ∧ Only (fun k => (Value.slice ao1 n1 cap1).ownBlock = some k) w3 w') := fun w3 h => compU_any w3 _ _ ss h hsl
    have HTB2 : Hid (∀ w3, Only (fun k => (Value.slice ao1 n1 cap1).ownBlock = some k) W w3 → w3.cell? ⟨tb, 0, none⟩ = some (.slice ao1 n1 cap1)) := fun w3 ho => (h1.only ho (fun e => by have := (h3 _ e).1; omega)).cell 0
    have H3 := hide h3
    have H4 := hide h4
    have H5 := hide h5
    have HD := hide hD
    clear h1 h2 h3 h4 h5 hD hus hn1 hss hul hsl
    gi_wp2_with (first
      | (refine ⟨trivial, ?_⟩; gi_at_call 48; refine (callsIn_wide.2 HSO.out).mono ?_; rintro e w3 ⟨rfl, hs3, ho3⟩; have c1 := HTB2.out _ ho3; have HS3 := hide hs3; have HO3 := hide ho3; clear HSO c0 hs3 ho3)
      | (refine ⟨trivial, ?_⟩; gi_at_call 49; refine (callsIn_wide.2 (HCO.out _ HS3.out)).mono ?_; rintro e w4 ⟨v4, rfl, hs4, hvo4, ho4⟩; have HVO := hide hvo4; have HS4 := hide hs4; have HO4 : Hid (Only (fun k => (Value.slice ao1 n1 cap1).ownBlock = some k) W w4) := HO3.out.trans ho4 (fun _ _ h => h); have HO5 := hide ho4; obtain ⟨a4, k4, hv4⟩ := hs4.shape; obtain ⟨n4, hn4⟩ : ∃ n, (Lib.compact ss).length = n := ⟨_, rfl⟩; rw [hn4] at hv4; subst hv4; clear HCO hs4 ho4 hn4 hvo4))
    have hD4 := (HO4.out.block w2.heap.size (by have := H5.out; omega) (fun e => by have := (H3.out _ e).1; omega)).trans HD.out
    refine ⟨by simp, .inl ⟨_, _, rfl, run_takeDeferred hD4, ?_⟩⟩
    have hoD : Only (· = w2.heap.size) w4 (w4.putObj w2.heap.size (.deferred none)) := only_put1 w4 _ _ _ rfl
    have hown : ∀ j, (Value.slice a4 n4 k4).ownBlock = some j → w2.heap.size + 2 ≤ j := fun j hj => by
      rw [HVO.out] at hj
      exact (H3.out j hj).1
    have hs4 := HS4.out
    rw [HSS.out] at hs4
    have hz4 := HO4.out.size
    exact ⟨_, results_tmp (t := 4) rfl _ _ _, _, rfl, by rw [HUS.out]; exact hs4.only hoD (fun j hj e => by have := hown j hj; omega), (H4.out.trans (HO4.out.below H4.out.size (fun j hj e => by have := (H3.out j e).1; omega))).trans (hoD.below (by have := H4.out.size; omega) (fun j hj e => by omega))⟩

end Go.Proofs.YtimmfnjkknbofaaDoor
