/- Contract: package posting's Find. -/
import Derived.Test.YtmjkpgmmfooajaaPoEach
import Derived.Test.YtmjkpgmmfooajaaPoRng2
namespace Go.Proofs.Ytmjkpgmmfooajaa
set_option maxRecDepth 20000
open Go.RowKit Go.Shelf
set_option linter.unusedVariables false
set_option linter.unusedSimpArgs false
set_option maxRecDepth 100000
attribute [local go_sem] Oper.semAt_some

def findL (d : Nat) : List (Nat × Po) → Po × Bool
  | [] => (noPo, false)
  | e :: l => if e.2.doc = d then (e.2, true) else if d < e.2.doc then (noPo, false) else findL d l

/-- what a loop over each keeps: all that was there -/
structure LoI (w1 : World) (Y : Nat → Prop) (W : World) : Prop where
  below : Below w1.heap.size w1 W
  size : w1.heap.size + 2 ≤ W.heap.size
  ys : ∀ j, Y j → w1.heap.size + 2 ≤ j ∧ j < W.heap.size
theorem LoI.keep {w1 : World} {Y : Nat → Prop} {W W' : World} (h : LoI w1 Y W) (ho : Only (fun j => (j = w1.heap.size ∨ j = w1.heap.size + 1) ∧ noInts W j) W W') : LoI w1 Y W' :=
  ⟨h.below.trans (ho.below h.below.size (fun j hj e => by have := e.1; omega)), Nat.le_trans h.size ho.size, fun j hj => ⟨(h.ys j hj).1, Nat.lt_of_lt_of_le (h.ys j hj).2 ho.size⟩⟩
theorem LoI.fresh {w1 : World} {Y : Nat → Prop} {W W' : World} (h : LoI w1 Y W) (hb : Below W.heap.size W W') : LoI w1 Y W' :=
  ⟨h.below.trans (hb.mono h.below.size), Nat.le_trans h.size hb.size, fun j hj => ⟨(h.ys j hj).1, Nat.lt_of_lt_of_le (h.ys j hj).2 hb.size⟩⟩
theorem LoI.grow {w1 : World} {Y : Nat → Prop} {W W' : World} (h : LoI w1 Y W) (ho : Only (fun j => Y j ∧ noInts W j) W W') : LoI w1 (more Y W W') W' := by
  have hs := h.size
  refine ⟨h.below.trans (ho.below h.below.size (fun j hj e => by have := (h.ys j e.1).1; omega)), Nat.le_trans h.size ho.size, fun j hj => ?_⟩
  rcases hj with hj | hj
  · exact ⟨(h.ys j hj).1, Nat.lt_of_lt_of_le (h.ys j hj).2 ho.size⟩
  · exact ⟨by omega, hj.2⟩

/-- Find, where it was left -/
structure FdX (w w1 : World) (r : Po × Bool) (Y : Nat → Prop) (W : World) : Prop where
  below : Below w.heap.size w W
  size : w1.heap.size + 2 ≤ W.heap.size
  ys : ∀ j, Y j → w1.heap.size + 2 ≤ j ∧ j < W.heap.size
  b1 : Blk W (w.heap.size + 1) 34 [.int .u32 0, nilS]
  b2 : ∃ u, Blk W (w.heap.size + 2) 34 [.int .u32 (r.1.doc : Int), u] ∧ PoN W 0 (.agg #[.int .u32 (r.1.doc : Int), u]) r.1
  b3 : Blk W (w.heap.size + 3) 4 [.bool r.2]
theorem FdX.keep {w w1 : World} {r : Po × Bool} {Y : Nat → Prop} {W W' : World} (hs : w1.heap.size = w.heap.size + 6) (h : FdX w w1 r Y W) (ho : Only (fun j => (j = w1.heap.size ∨ j = w1.heap.size + 1) ∧ noInts W j) W W') : FdX w w1 r Y W' := by
  obtain ⟨u, h2, h3⟩ := h.b2
  exact ⟨h.below.trans (ho.below h.below.size (fun j hj e => by have := e.1; omega)), Nat.le_trans h.size ho.size, fun j hj => ⟨(h.ys j hj).1, Nat.lt_of_lt_of_le (h.ys j hj).2 ho.size⟩, h.b1.only ho (by intro e; have := e.1; omega), ⟨u, h2.only ho (by intro e; have := e.1; omega), h3.stay ho⟩, h.b3.only ho (by intro e; have := e.1; omega)⟩
theorem FdX.grow {w w1 : World} {r : Po × Bool} {Y : Nat → Prop} {W W' : World} (hs : w1.heap.size = w.heap.size + 6) (h : FdX w w1 r Y W) (ho : Only (fun j => Y j ∧ noInts W j) W W') : FdX w w1 r (more Y W W') W' := by
  obtain ⟨u, h2, h3⟩ := h.b2
  have hz := h.size
  refine ⟨h.below.trans (ho.below h.below.size (fun j hj e => by have := (h.ys j e.1).1; omega)), Nat.le_trans h.size ho.size, fun j hj => ?_, h.b1.only ho (by intro e; have := (h.ys _ e.1).1; omega), ⟨u, h2.only ho (by intro e; have := (h.ys _ e.1).1; omega), h3.stay ho⟩, h.b3.only ho (by intro e; have := (h.ys _ e.1).1; omega)⟩
  rcases hj with hj | hj
  · exact ⟨(h.ys j hj).1, Nat.lt_of_lt_of_le (h.ys j hj).2 ho.size⟩
  · exact ⟨by omega, hj.2⟩

set_option maxHeartbeats 2000000 in
theorem find_any (w : World) (vb : Value) (zs : List Int) (hz : Sl w vb zs) (hl : zs.length ≤ 1000000) (d : Nat) (hd : d < 4294967296) :
    Calls Try.prog 24 #[vb, .int .u32 (d : Int)] w fun e w' => ∃ v, e = .returned (.tuple #[v, .bool (findL d (allP 0 zs)).2]) ∧ PoN w' 0 v (findL d (allP 0 zs)).1 ∧ Below w.heap.size w w' := by
  have HEA := hide (fun w1 => each_any w1)
  have HZ := hide hz
  obtain ⟨bo, bc, rfl⟩ := sl_form' hz
  have HIT := hide (each_iter (w.heap.size + 4) (w.heap.size + 5) (.slice bo zs.length bc) zs 0 (by omega) hl)
  obtain ⟨L, hL⟩ : ∃ L, allP 0 zs = L := ⟨_, rfl⟩
  rw [hL] at HIT ⊢
  obtain ⟨bn, hbn⟩ : ∃ n, zs.length = n := ⟨_, rfl⟩
  rw [hbn] at HIT HZ ⊢
  clear hL hz hl hbn
  refine (callsIn_wide (n := 3)).1 ?_
  refine callsIn_of_wp_marks Try.func24 rfl trivial ?_ rfl
  simp only [Try.ntmps24, List.size_toArray, List.length_cons, List.length_nil, Nat.reduceAdd, Nat.reduceSub, Array.replicate_succ, Array.replicate_zero, List.push_toArray, List.append_toArray, List.nil_append, List.cons_append]
  gi_wp2
  refine wpIn_wide.2 ?_
  apply wp_scope_straight
  refine (wpIn_wide (n := 3)).1 ?_
  gi_wp2
  apply wpIn_label
  gi_wp2_with (first
    | (refine ⟨trivial, ?_⟩; gi_at_call 43; refine (callsIn_wide.2 (HEA.out _ _ _ _ _)).mono ?_; rintro e w3 ⟨rfl, hw⟩; subst w3; clear HEA))
  obtain ⟨w1, hw1⟩ : ∃ w1, ((((((w.alloc (.cells #[.int .u32 (d : Int)] 22)).alloc (.cells #[.int .u32 0, .slice none 0 0] 34)).alloc (.cells #[.int .u32 0, .slice none 0 0] 34)).alloc (.cells #[.bool false] 4)).alloc (.cells #[.slice bo bn bc] 23)).alloc (.cells #[.int .u32 0] 22)) = w1 := ⟨_, rfl⟩
  have hs1 : w1.heap.size = w.heap.size + 6 := by rw [← hw1]; simp
  have hb1 : Below w.heap.size w w1 := by rw [← hw1]; exact ((((((Below.refl _ w).alloc (Nat.le_refl _) _).alloc (by simp) _).alloc (by simp; omega) _).alloc (by simp; omega) _).alloc (by simp; omega) _).alloc (by simp; omega) _
  have hB : Blk w1 w.heap.size 22 [.int .u32 (d : Int)] ∧ Blk w1 (w.heap.size + 1) 34 [.int .u32 0, .slice none 0 0] ∧ Blk w1 (w.heap.size + 2) 34 [.int .u32 0, .slice none 0 0] ∧ Blk w1 (w.heap.size + 3) 4 [.bool false] ∧ Blk w1 (w.heap.size + 4) 23 [.slice bo bn bc] ∧ Blk w1 (w.heap.size + 5) 22 [.int .u32 0] := by
    rw [← hw1]
    have n0 := fun (W : World) e x => Blk.new W e x
    refine ⟨(((((n0 w _ _).alloc _).alloc _).alloc _).alloc _).alloc _, ?_, ?_, ?_, ?_, ?_⟩
    · have := ((((n0 (w.alloc (.cells #[.int .u32 (d : Int)] 22)) 34 [.int .u32 0, .slice none 0 0]).alloc (.cells #[.int .u32 0, .slice none 0 0] 34)).alloc (.cells #[.bool false] 4)).alloc (.cells #[.slice bo bn bc] 23)).alloc (.cells #[.int .u32 0] 22)
      simpa using this
    · have := (((n0 ((w.alloc (.cells #[.int .u32 (d : Int)] 22)).alloc (.cells #[.int .u32 0, .slice none 0 0] 34)) 34 [.int .u32 0, .slice none 0 0]).alloc (.cells #[.bool false] 4)).alloc (.cells #[.slice bo bn bc] 23)).alloc (.cells #[.int .u32 0] 22)
      simpa using this
    · have := ((n0 (((w.alloc (.cells #[.int .u32 (d : Int)] 22)).alloc (.cells #[.int .u32 0, .slice none 0 0] 34)).alloc (.cells #[.int .u32 0, .slice none 0 0] 34)) 4 [.bool false]).alloc (.cells #[.slice bo bn bc] 23)).alloc (.cells #[.int .u32 0] 22)
      simpa using this
    · have := (n0 ((((w.alloc (.cells #[.int .u32 (d : Int)] 22)).alloc (.cells #[.int .u32 0, .slice none 0 0] 34)).alloc (.cells #[.int .u32 0, .slice none 0 0] 34)).alloc (.cells #[.bool false] 4)) 23 [.slice bo bn bc]).alloc (.cells #[.int .u32 0] 22)
      simpa using this
    · have := n0 (((((w.alloc (.cells #[.int .u32 (d : Int)] 22)).alloc (.cells #[.int .u32 0, .slice none 0 0] 34)).alloc (.cells #[.int .u32 0, .slice none 0 0] 34)).alloc (.cells #[.bool false] 4)).alloc (.cells #[.slice bo bn bc] 23)) 22 [.int .u32 0]
      simpa using this
  rw [hw1]
  have HZ1 := hide (HZ.out.keep (fun j _ hlt => hb1.block j hlt))
  obtain ⟨hB0, hB1, hB2, hB3, hB4, hB5⟩ := hB
  have HB : Hid (Blk w1 w.heap.size 22 [.int .u32 (d : Int)] ∧ Blk w1 (w.heap.size + 1) 34 [.int .u32 0, .slice none 0 0] ∧ Blk w1 (w.heap.size + 2) 34 [.int .u32 0, .slice none 0 0] ∧ Blk w1 (w.heap.size + 3) 4 [.bool false] ∧ Blk w1 (w.heap.size + 4) 23 [.slice bo bn bc] ∧ Blk w1 (w.heap.size + 5) 22 [.int .u32 0]) := ⟨hB0, hB1, hB2, hB3, hB4, hB5⟩
  have HB1 := hide hb1
  clear hw1 hB0 hB1 hB2 hB3 hB4 hB5 hb1 HZ
  refine wp_range12 (gf := 52) (lb := #[.pointer (some ⟨w.heap.size + 1 + 1 + 1 + 1, 0, none⟩), .pointer (some ⟨w.heap.size + 1 + 1 + 1 + 1 + 1, 0, none⟩)]) (xs := L) (Enc := EncPo) (V := EachV (w.heap.size + 4) (w.heap.size + 5) (.slice bo bn bc) zs 0) rfl enters_each HIT.out (by rintro x Y W args ⟨v, rfl, _⟩; rfl)
    (fun Y k W => LoI w1 Y W ∧ findL d L = findL d (L.drop k)) (fun Y cc k W => cc = .exit 0 ∧ FdX w w1 (findL d L) Y W) ?_ ?_ ?_ ?_ ?_ ?_
    (fun x Y n a' W => ∃ g uo un uc, n ≤ g ∧ Blk W g 34 [.int .u32 (x.2.doc : Int), .slice uo un uc] ∧ PoN W 0 (.agg #[.int .u32 (x.2.doc : Int), .slice uo un uc]) x.2 ∧ a' = { tmps := #[.slice bo bn bc, .int .u32 (d : Int), undef, .pointer (some ⟨w.heap.size, 0, none⟩), .pointer (some ⟨w.heap.size + 1, 0, none⟩), .bool false, .pointer (some ⟨w.heap.size + 1 + 1, 0, none⟩), .pointer (some ⟨w.heap.size + 1 + 1 + 1, 0, none⟩), undef, .pointer (some ⟨g, 0, none⟩), .slice bo bn bc, .func (.func 52) #[] #[.pointer (some ⟨w.heap.size + 1 + 1 + 1 + 1, 0, none⟩), .pointer (some ⟨w.heap.size + 1 + 1 + 1 + 1 + 1, 0, none⟩)], .int .i64 (x.1 : Int), .agg #[.int .u32 (x.2.doc : Int), .slice uo un uc], undef, undef, undef, undef, undef, undef, undef, undef, undef, undef, undef, undef, undef], defers := [] })
    ?_ (fun Y k W W' h hb => ⟨h.1.fresh hb, h.2⟩) (fun Y k W h j hj => (h.1.ys j hj).2) ?assign ?body ?done ?stop
  · rintro Y k W W' ⟨h, h1⟩ ho
    exact ⟨h.keep ho, h1⟩
  · rintro Y k W W' ⟨h, h1⟩ ho
    exact ⟨h.grow ho, h1⟩
  · rintro Y cc k W W' ⟨rfl, h⟩ ho
    exact ⟨rfl, h.keep hs1 ho⟩
  · rintro Y cc k W W' ⟨rfl, h⟩ ho
    exact ⟨rfl, h.grow hs1 ho⟩
  · rintro Y k W ⟨h, h1⟩
    have hb4 : Blk W (w.heap.size + 4) 23 [.slice bo bn bc] := (h.below.block _ (by omega)).trans HB.out.2.2.2.2.1
    have hb5 : Blk W (w.heap.size + 5) 22 [.int .u32 0] := (h.below.block _ (by omega)).trans HB.out.2.2.2.2.2
    exact ⟨hb4.cell 0, fun _ => ⟨hb5.cell 0, HZ1.out.keep (fun j _ hlt => h.below.block j hlt)⟩⟩
  · intro W1 ho hs
    exact ⟨⟨ho.below (Nat.le_refl _) (fun _ _ h => h), by omega, (fun _ h => h.elim)⟩, rfl⟩
  · rintro x Y n a' W W' ⟨g, uo, un, uc, hg, hB, hp, rfl⟩ hn ho
    exact ⟨g, uo, un, uc, hg, hB.only ho (by intro e; have := e.1; omega), hp.stay ho, rfl⟩
  case assign =>
    rintro l k hk Y W args ⟨u, rfl, hpd, hpi, _⟩ hYl K hK
    obtain ⟨uo, uc, rfl⟩ := hpi.shape
    have HP := hide hpi
    generalize L[k].snd.pos.length = un at HP
    have HN : Hid (PoN W 0 (.agg #[.int .u32 (L[k].snd.doc : Int), .slice uo un uc]) L[k].snd) := ⟨hpd, _, rfl, HP.out⟩
    clear hpi HP
    gi_wp2
    exact hK _ _ ⟨_, _, _, _, Nat.le_refl _, Blk.new W _ _, HN.out.below ((Below.refl _ W).alloc (Nat.le_refl _) _), rfl⟩ ((Below.refl _ W).alloc (Nat.le_refl _) _)
  case body =>
    rintro l Y k hk n W _ hYn hn2 ⟨h, h1⟩ ⟨g, uo, un, uc, hg, hGB, hp, rfl⟩
    obtain ⟨x, hx⟩ : ∃ x, L[k] = x := ⟨_, rfl⟩
    have hd1 : L.drop k = x :: L.drop (k + 1) := by rw [List.drop_eq_getElem_cons hk, hx]
    rw [hd1, findL] at h1
    rw [hx] at hGB hp ⊢
    obtain ⟨x1, p⟩ := x
    simp only at h1 hGB hp ⊢
    have c3 : W.cell? ⟨w.heap.size, 0, none⟩ = some (.int .u32 (d : Int)) := Blk.cell (e := 22) ((h.below.block _ (by omega)).trans HB.out.1) 0
    have hB1 : Blk W (w.heap.size + 1) 34 [.int .u32 0, .slice none 0 0] := (h.below.block _ (by omega)).trans HB.out.2.1
    have hB2 : Blk W (w.heap.size + 1 + 1) 34 [.int .u32 0, .slice none 0 0] := (h.below.block _ (by omega)).trans HB.out.2.2.1
    have hB3 : Blk W (w.heap.size + 1 + 1 + 1) 4 [.bool false] := (h.below.block _ (by omega)).trans HB.out.2.2.2.1
    obtain ⟨⟨b0, b1⟩, b2, b3⟩ := po_cells hB2
    have b4 := hB3.cell 0
    have b5 := hB3.frozen 0
    obtain ⟨⟨g0, g1⟩, _, _⟩ := po_cells hGB
    have hlow : Below w.heap.size w W := HB1.out.trans (h.below.mono (by omega))
    have HX : Hid (∀ r W', r = findL d L → Below w.heap.size w W' → w1.heap.size + 2 ≤ W'.heap.size → W.heap.size ≤ W'.heap.size → Blk W' (w.heap.size + 1) 34 [.int .u32 0, .slice none 0 0] → (∃ u, Blk W' (w.heap.size + 2) 34 [.int .u32 (r.1.doc : Int), u] ∧ PoN W' 0 (.agg #[.int .u32 (r.1.doc : Int), u]) r.1) → Blk W' (w.heap.size + 3) 4 [.bool r.2] → FdX w w1 (findL d L) Y W') := by
      rintro r W' rfl a1 a2 a3 a4 a5 a6
      exact ⟨a1, a2, fun j hj => ⟨(h.ys j hj).1, Nat.lt_of_lt_of_le (h.ys j hj).2 a3⟩, a4, a5, a6⟩
    have HH := hide h
    have H1 := hide h1
    have HPN := hide hp
    have HLO := hide hlow
    have H2 : Hid (Blk W (w.heap.size + 1) 34 [.int .u32 0, .slice none 0 0] ∧ Blk W (w.heap.size + 1 + 1) 34 [.int .u32 0, .slice none 0 0] ∧ Blk W (w.heap.size + 1 + 1 + 1) 4 [.bool false]) := ⟨hB1, hB2, hB3⟩
    clear h h1 hp hlow hB1 hB2 hB3 hd1 hx hGB
    by_cases e1 : p.doc = d
    · have HR : Hid (findL d L = (p, true)) := by show _ = _; rw [H1.out, if_pos e1]
      subst e1
      gi_wp2
      have ho : Only (fun j => j = w.heap.size + 1 + 1 ∨ j = w.heap.size + 1 + 1 + 1) W ((laidP W (w.heap.size + 1 + 1) (.int .u32 (p.doc : Int)) (.slice uo un uc)).setCell ⟨w.heap.size + 1 + 1 + 1, 0, none⟩ (.bool true)) :=
        (((Only.refl (fun j => j = w.heap.size + 1 + 1 ∨ j = w.heap.size + 1 + 1 + 1) W).setCell ⟨w.heap.size + 1 + 1, 0, none⟩ _ (fun _ => .inl rfl)).setCell ⟨w.heap.size + 1 + 1, 1, none⟩ _ (fun _ => .inl rfl)).setCell ⟨w.heap.size + 1 + 1 + 1, 0, none⟩ _ (fun _ => .inr rfl)
      have ho2 : Only (fun j => (j = w.heap.size + 1 + 1 ∨ j = w.heap.size + 1 + 1 + 1) ∧ noInts W j) W ((laidP W (w.heap.size + 1 + 1) (.int .u32 (p.doc : Int)) (.slice uo un uc)).setCell ⟨w.heap.size + 1 + 1 + 1, 0, none⟩ (.bool true)) :=
        ho.mono (fun i hi e => ⟨e, by
          rcases e with rfl | rfl
          · exact fun cs f e => by rw [H2.out.2.1] at e; simp at e
          · exact fun cs f e => by rw [H2.out.2.2] at e; simp at e⟩)
      refine ⟨Keeps2.of_only ho (by omega) (by omega), fun j hj => ho.block j (HH.out.ys j hj).2 (by have := (HH.out.ys j hj).1; omega), rfl, ?_⟩
      have hz := HH.out.size
      exact HX.out _ _ HR.out.symm (HLO.out.trans (ho.below HLO.out.size (fun j hj e => by omega))) (Nat.le_trans hz ho.size) ho.size (H2.out.1.only ho (by omega))
        ⟨_, (laidP_blk H2.out.2.1 _ _).only ((Only.refl (· = w.heap.size + 1 + 1 + 1) _).setCell ⟨w.heap.size + 1 + 1 + 1, 0, none⟩ _ (fun _ => rfl)) (by omega), HPN.out.stay ho2⟩
        ((H2.out.2.2.only (laidP_only _ _ _ _) (by omega)).set 0 (.bool true))
    · by_cases e2 : d < p.doc
      · have HR : Hid (findL d L = (noPo, false)) := by show _ = _; rw [H1.out, if_neg e1, if_pos e2]
        have e1' : ¬ (p.doc : Int) = (d : Int) := by omega
        have e2' : (d : Int) < (p.doc : Int) := by omega
        gi_wp2
        exact ⟨Keeps2.refl _ _, KeepsY.refl _ _, rfl, HX.out _ _ HR.out.symm HLO.out HH.out.size (Nat.le_refl _) H2.out.1 ⟨_, H2.out.2.1, PoN.none _ _⟩ H2.out.2.2⟩
      · have HR : Hid (findL d L = findL d (L.drop (k + 1))) := by show _ = _; rw [H1.out, if_neg e1, if_neg e2]
        have e1' : ¬ (p.doc : Int) = (d : Int) := by omega
        have e2' : ¬ (d : Int) < (p.doc : Int) := by omega
        gi_wp2
        exact ⟨Keeps2.refl _ _, KeepsY.refl _ _, HH.out, HR.out⟩
  case done =>
    rintro Y W ⟨h, h1⟩ hD
    have hR : findL d L = (noPo, false) := by rw [h1, List.drop_of_length_le (Nat.le_refl _)]; rfl
    have hX : FdX w w1 (findL d L) Y W := by
      rw [hR]
      exact ⟨HB1.out.trans (h.below.mono (by omega)), h.size, h.ys, (h.below.block _ (by omega)).trans HB.out.2.1, ⟨_, (h.below.block _ (by omega)).trans HB.out.2.2.1, PoN.none _ _⟩, (h.below.block _ (by omega)).trans HB.out.2.2.2.1⟩
    clear h h1 hR
    obtain ⟨u, hB2, hpn⟩ := hX.b2
    obtain ⟨hpd, u', hu', hpi⟩ := hpn
    obtain rfl : u = u' := by simpa using hu'
    clear hu'
    obtain ⟨uo, uc, rfl⟩ := hpi.shape
    generalize hr : findL d L = r at *
    obtain ⟨p, is⟩ := r
    have HRR := hide hr
    simp only at hB2 hpi hpd ⊢
    have HP := hide hpi
    generalize hun : p.pos.length = un at *
    have hB1 := hX.b1
    obtain ⟨⟨a0, a1⟩, a2, a3⟩ := po_cells hB1
    obtain ⟨⟨b0, b1⟩, b2, b3⟩ := po_cells (b := w.heap.size + 1 + 1) hB2
    have b4 : W.cell? ⟨w.heap.size + 1 + 1 + 1, 0, none⟩ = some (.bool is) := hX.b3.cell 0
    have HX := hide hX
    have HD := hide hD
    have HB1 := hide hB1
    clear hX hD hpi hB1 hB2 hr hun
    gi_wp2
    refine wpIn_wide.2 ?_
    go_region
    gi_wp2
    rw [Exit.noGoto_ret]
    have hoL : Only (· = w.heap.size + 1) W (laidP W (w.heap.size + 1) (.int .u32 (p.doc : Int)) (.slice uo un uc)).drew := (laidP_only _ _ _ _).drew
    have hD2 : (laidP W (w.heap.size + 1) (.int .u32 (p.doc : Int)) (.slice uo un uc)).drew.heap[w1.heap.size]? = some (.deferred (some [])) := (hoL.block _ (by have := HX.out.size; omega) (by omega)).trans HD.out
    refine ⟨by simp, .inl ⟨_, _, rfl, run_takeDeferred hD2, ?_⟩⟩
    have hoD : Only (fun j => j = w.heap.size + 1 ∨ j = w1.heap.size) W ((laidP W (w.heap.size + 1) (.int .u32 (p.doc : Int)) (.slice uo un uc)).drew.putObj w1.heap.size (.deferred none)) :=
      (hoL.mono (fun _ _ e => .inl e)).trans (only_put1 _ _ _ (fun j => j = w.heap.size + 1 ∨ j = w1.heap.size) (.inr rfl)) (fun _ _ h => h)
    have hoE : Only (fun j => (j = w.heap.size + 1 ∨ j = w1.heap.size) ∧ noInts W j) W ((laidP W (w.heap.size + 1) (.int .u32 (p.doc : Int)) (.slice uo un uc)).drew.putObj w1.heap.size (.deferred none)) :=
      hoD.mono (fun i hi e => ⟨e, by
        rcases e with rfl | rfl
        · exact fun cs f e => by rw [HB1.out] at e; simp at e
        · exact fun cs f e => by rw [HD.out] at e; simp at e⟩)
    have hBL : Blk ((laidP W (w.heap.size + 1) (.int .u32 (p.doc : Int)) (.slice uo un uc)).drew.putObj w1.heap.size (.deferred none)) (w.heap.size + 1) 34 [.int .u32 (p.doc : Int), .slice uo un uc] :=
      (laidP_blk HB1.out _ _).drew.only (only_put1 _ _ _ (fun j => j = w1.heap.size) rfl) (by omega)
    refine ⟨_, ret_po1 rfl _ _ (w.heap.size + 1) (.int .u32 (p.doc : Int)) (.slice uo un uc) (.bool is) rfl rfl hBL, .agg #[.int .u32 (p.doc : Int), .slice uo un uc], ?_, ?_, HX.out.below.trans (hoD.below HX.out.below.size (fun j hj e => by omega))⟩
    · rw [HRR.out]
    · rw [HRR.out]
      exact PoN.stay ⟨hpd, _, rfl, HP.out⟩ hoE
  case stop =>
    rintro Y cc k W hk ⟨rfl, hX⟩ hD
    obtain ⟨u, hB2, hpn⟩ := hX.b2
    obtain ⟨hpd, u', hu', hpi⟩ := hpn
    obtain rfl : u = u' := by simpa using hu'
    clear hu'
    obtain ⟨uo, uc, rfl⟩ := hpi.shape
    generalize hr : findL d L = r at *
    obtain ⟨p, is⟩ := r
    have HRR := hide hr
    simp only at hB2 hpi hpd ⊢
    have HP := hide hpi
    generalize hun : p.pos.length = un at *
    have hB1 := hX.b1
    obtain ⟨⟨a0, a1⟩, a2, a3⟩ := po_cells hB1
    obtain ⟨⟨b0, b1⟩, b2, b3⟩ := po_cells (b := w.heap.size + 1 + 1) hB2
    have b4 : W.cell? ⟨w.heap.size + 1 + 1 + 1, 0, none⟩ = some (.bool is) := hX.b3.cell 0
    have HX := hide hX
    have HD := hide hD
    have HB1 := hide hB1
    clear hX hD hpi hB1 hB2 hr hun
    gi_wp2
    refine wpIn_wide.2 ?_
    go_region
    gi_wp2
    rw [Exit.noGoto_ret]
    have hoL : Only (· = w.heap.size + 1) W (laidP W (w.heap.size + 1) (.int .u32 (p.doc : Int)) (.slice uo un uc)).drew := (laidP_only _ _ _ _).drew
    have hD2 : (laidP W (w.heap.size + 1) (.int .u32 (p.doc : Int)) (.slice uo un uc)).drew.heap[w1.heap.size]? = some (.deferred (some [])) := (hoL.block _ (by have := HX.out.size; omega) (by omega)).trans HD.out
    refine ⟨by simp, .inl ⟨_, _, rfl, run_takeDeferred hD2, ?_⟩⟩
    have hoD : Only (fun j => j = w.heap.size + 1 ∨ j = w1.heap.size) W ((laidP W (w.heap.size + 1) (.int .u32 (p.doc : Int)) (.slice uo un uc)).drew.putObj w1.heap.size (.deferred none)) :=
      (hoL.mono (fun _ _ e => .inl e)).trans (only_put1 _ _ _ (fun j => j = w.heap.size + 1 ∨ j = w1.heap.size) (.inr rfl)) (fun _ _ h => h)
    have hoE : Only (fun j => (j = w.heap.size + 1 ∨ j = w1.heap.size) ∧ noInts W j) W ((laidP W (w.heap.size + 1) (.int .u32 (p.doc : Int)) (.slice uo un uc)).drew.putObj w1.heap.size (.deferred none)) :=
      hoD.mono (fun i hi e => ⟨e, by
        rcases e with rfl | rfl
        · exact fun cs f e => by rw [HB1.out] at e; simp at e
        · exact fun cs f e => by rw [HD.out] at e; simp at e⟩)
    have hBL : Blk ((laidP W (w.heap.size + 1) (.int .u32 (p.doc : Int)) (.slice uo un uc)).drew.putObj w1.heap.size (.deferred none)) (w.heap.size + 1) 34 [.int .u32 (p.doc : Int), .slice uo un uc] :=
      (laidP_blk HB1.out _ _).drew.only (only_put1 _ _ _ (fun j => j = w1.heap.size) rfl) (by omega)
    refine ⟨_, ret_po1 rfl _ _ (w.heap.size + 1) (.int .u32 (p.doc : Int)) (.slice uo un uc) (.bool is) rfl rfl hBL, .agg #[.int .u32 (p.doc : Int), .slice uo un uc], ?_, ?_, HX.out.below.trans (hoD.below HX.out.below.size (fun j hj e => by omega))⟩
    · rw [HRR.out]
    · rw [HRR.out]
      exact PoN.stay ⟨hpd, _, rfl, HP.out⟩ hoE

end Go.Proofs.Ytmjkpgmmfooajaa
