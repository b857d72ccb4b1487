/- Contract: package posting's Parse. -/
import Derived.Test.YtmjkpgmmfooajaaPoFind
import Derived.Test.YtmjkpgmmfooajaaPoOwn
namespace Go.Proofs.Ytmjkpgmmfooajaa
set_option maxRecDepth 20000
open Go.RowKit Go.Shelf
set_option linter.unusedVariables false
set_option linter.unusedSimpArgs false
set_option maxRecDepth 100000
attribute [local go_sem] Oper.semAt_some

theorem wpListIn_append_runK {F : Fence} {n : Nat} {P : Program} (w : World) {ops : Array Oper} {rest : List Oper} {o : Oper} {a : Act} {Q : Exit → Act → World → Prop} (hg : o.guard = none) (s x : Operand) (t : TypeId)
    (hop : o.op = .call { callee := .builtin .append, args := #[s, x], argTypes := #[t, t] }) (v y : Value) (hs : a.eval s = v) (hx : a.eval x = y) (v' : Value) (w' : World)
    (hr : (Builtin.append_ #[t, t] o.type #[v, y]).run P w = .ok v' w') (h : wpListIn F n P ops Q rest (a.put o.dst v') w') : wpListIn F n P ops Q (o :: rest) a w := by
  refine wpListIn_plain hg fun K hK' => ?_
  unfold Oper.wpIn
  refine ⟨?_, ?_⟩
  · simp [Oper.about, hop, resolve, Target.leads, Sem.run_pure]
  · rw [Oper.semAt_plain F _ _ (by rw [hop]; intro c hc'; cases hc')]
    simp [execOp, hop, resolve, invoke, builtin, hs, hx, hr, Result.andThen]
    exact hK' _ _ h

/-- where the last one ends -/
def endL (l : List (Nat × Po)) : Nat := (l.getLast?.map (·.1)).getD 0
theorem endL_snoc (l : List (Nat × Po)) (x : Nat × Po) : endL (l ++ [x]) = x.1 := by simp [endL]
theorem take_snocX {α : Type} (l : List α) (k : Nat) (hk : k < l.length) : l.take (k + 1) = l.take k ++ [l[k]] := List.take_succ_eq_append_getElem hk

/-- postings gathered so far: the box at b, behind A -/
def GaB (W : World) (b A : Nat) (Y : Nat → Prop) (l : List (Nat × Po)) : Prop :=
  ∃ v es, Blk W b 24 [v] ∧ PpO W A v es ∧ es.map (·.2) = l.map (·.2) ∧ (∀ j, v.ownBlock = some j → A ≤ j ∧ ¬ Y j) ∧ ∀ e ∈ es, ∀ j, e.1.ownBlock = some j → Y j
theorem GaB.stay {S : Nat → Prop} {W W' : World} {b A : Nat} {Y : Nat → Prop} {l : List (Nat × Po)} (h : GaB W b A Y l) (ho : Only (fun j => S j ∧ noInts W j) W W') (hb : ¬ S b) (hS : ∀ j, A ≤ j → ¬ Y j → ¬ S j) : GaB W' b A Y l := by
  obtain ⟨v, es, h1, h2, h3, h4, h5⟩ := h
  exact ⟨v, es, h1.only ho (fun e => hb e.1), h2.stay ho (fun k hk => hS k (h4 k hk).1 (h4 k hk).2), h3, h4, h5⟩
theorem GaB.more {W W' : World} {b A : Nat} {Y : Nat → Prop} {l : List (Nat × Po)} (h : GaB W b A Y l) (ho : Only (fun j => Y j ∧ noInts W j) W W') (hb : ¬ Y b) : GaB W' b A (more Y W W') l := by
  obtain ⟨v, es, h1, h2, h3, h4, h5⟩ := h
  exact ⟨v, es, h1.only ho (fun e => hb e.1), h2.stay ho (fun k hk => (h4 k hk).2), h3, fun j hj => ⟨(h4 j hj).1, fun hy => hy.elim (h4 j hj).2 (fun hy => by have := (h2.lt j hj).2; omega)⟩, fun e he j hj => .inl (h5 e he j hj)⟩

structure PaI (w : World) (bv : Value) (xs : List (Nat × Po)) (Y : Nat → Prop) (k : Nat) (W : World) : Prop where
  below : Below w.heap.size w W
  size : w.heap.size + 6 ≤ W.heap.size
  ys : ∀ j, Y j → w.heap.size + 6 ≤ j ∧ j < W.heap.size
  e2 : Blk W (w.heap.size + 2) 23 [bv]
  e3 : Blk W (w.heap.size + 3) 22 [.int .u32 0]
  rd : Blk W (w.heap.size + 1) 3 [.int .i64 (endL (xs.take k) : Nat)]
  box : GaB W w.heap.size (w.heap.size + 6) Y (xs.take k)
theorem PaI.keep {w : World} {bv : Value} {xs : List (Nat × Po)} {Y : Nat → Prop} {k : Nat} {W W' : World} (h : PaI w bv xs Y k W) (ho : Only (fun j => (j = w.heap.size + 4 ∨ j = w.heap.size + 4 + 1) ∧ noInts W j) W W') : PaI w bv xs Y k W' :=
  ⟨h.below.trans (ho.below h.below.size (fun j hj e => by have := e.1; omega)), Nat.le_trans h.size ho.size, fun j hj => ⟨(h.ys j hj).1, Nat.lt_of_lt_of_le (h.ys j hj).2 ho.size⟩, h.e2.only ho (by intro e; have := e.1; omega), h.e3.only ho (by intro e; have := e.1; omega), h.rd.only ho (by intro e; have := e.1; omega), h.box.stay ho (by omega) (fun j h1 _ h2 => by omega)⟩
theorem PaI.fresh {w : World} {bv : Value} {xs : List (Nat × Po)} {Y : Nat → Prop} {k : Nat} {W W' : World} (h : PaI w bv xs Y k W) (hb : Below W.heap.size W W') : PaI w bv xs Y k W' := by
  have ho : Only (fun j => False ∧ noInts W j) W W' := (Only.of_below (fun _ => False) hb).mono (fun _ _ h => h.elim)
  exact ⟨h.below.trans (hb.mono h.below.size), Nat.le_trans h.size hb.size, fun j hj => ⟨(h.ys j hj).1, Nat.lt_of_lt_of_le (h.ys j hj).2 hb.size⟩, h.e2.only ho (fun e => e.1), h.e3.only ho (fun e => e.1), h.rd.only ho (fun e => e.1), h.box.stay ho (fun h => h) (fun _ _ _ h => h)⟩
theorem PaI.grow {w : World} {bv : Value} {xs : List (Nat × Po)} {Y : Nat → Prop} {k : Nat} {W W' : World} (h : PaI w bv xs Y k W) (ho : Only (fun j => Y j ∧ noInts W j) W W') : PaI w bv xs (more Y W W') k W' := by
  have hs := h.size
  refine ⟨h.below.trans (ho.below h.below.size (fun j hj e => by have := (h.ys j e.1).1; omega)), Nat.le_trans h.size ho.size, fun j hj => ?_, h.e2.only ho (by intro e; have := (h.ys _ e.1).1; omega), h.e3.only ho (by intro e; have := (h.ys _ e.1).1; omega), h.rd.only ho (by intro e; have := (h.ys _ e.1).1; omega), h.box.more ho (by intro e; have := (h.ys _ e).1; omega)⟩
  rcases hj with hj | hj
  · exact ⟨(h.ys j hj).1, Nat.lt_of_lt_of_le (h.ys j hj).2 ho.size⟩
  · exact ⟨by omega, hj.2⟩

def parseE (zs : List Int) : Int := if endL (allP 0 zs) < zs.length then 150 else 0
def parseR (zs : List Int) : List Po := if endL (allP 0 zs) < zs.length then [] else (allP 0 zs).map (·.2)

set_option maxHeartbeats 2000000 in
theorem parse_any (w : World) (vb : Value) (zs : List Int) (hz : Sl w vb zs) (hl : zs.length ≤ 1000000) :
    Calls Try.prog 22 #[vb] w fun e w' => ∃ u, e = .returned (.tuple #[u, .int .i64 (parseE zs)]) ∧ (∃ us, Pps w' u us (parseR zs)) ∧ Below w.heap.size w w' := by
  have HEA := hide (fun w1 => each_any w1)
  have HZ := hide hz
  have HPR : Hid (parseE zs = (if endL (allP 0 zs) < zs.length then 150 else 0) ∧ parseR zs = (if endL (allP 0 zs) < zs.length then [] else (allP 0 zs).map (·.2))) := ⟨rfl, rfl⟩
  generalize parseE zs = E at *
  generalize parseR zs = R at *
  obtain ⟨bo, bc, rfl⟩ := sl_form' hz
  have HIT := hide (each_iter (w.heap.size + 2) (w.heap.size + 3) (.slice bo zs.length bc) zs 0 (by omega) hl)
  have HLL : Hid ((allP 0 zs).length ≤ 1000000) := by have := allP_len 0 zs; show _ ≤ _; omega
  obtain ⟨L, hL⟩ : ∃ L, allP 0 zs = L := ⟨_, rfl⟩
  rw [hL] at HIT HPR HLL
  obtain ⟨bn, hbn⟩ : ∃ n, zs.length = n := ⟨_, rfl⟩
  rw [hbn] at HIT HZ HPR hl ⊢
  clear hL hz hbn
  refine (callsIn_wide (n := 3)).1 ?_
  refine callsIn_of_wp_marks Try.func22 rfl trivial ?_ rfl
  simp only [Try.ntmps22, List.size_toArray, List.length_cons, List.length_nil, Nat.reduceAdd, Nat.reduceSub, Array.replicate_succ, Array.replicate_zero, List.push_toArray, List.append_toArray, List.nil_append, List.cons_append]
  gi_wp2_with (first
    | (refine ⟨trivial, ?_⟩; gi_at_call 43; refine (callsIn_wide.2 (HEA.out _ _ _ _ _)).mono ?_; rintro e w3 ⟨rfl, hw⟩; subst w3; clear HEA))
  obtain ⟨w1, hw1⟩ : ∃ w1, ((((w.alloc (.cells #[.slice none 0 0] 24)).alloc (.cells #[.int .i64 0] 3)).alloc (.cells #[.slice bo bn bc] 23)).alloc (.cells #[.int .u32 0] 22)) = w1 := ⟨_, rfl⟩
  have hs1 : w1.heap.size = w.heap.size + 4 := by rw [← hw1]; simp
  have hb1 : Below w.heap.size w w1 := by rw [← hw1]; exact ((((Below.refl _ w).alloc (Nat.le_refl _) _).alloc (by simp) _).alloc (by simp; omega) _).alloc (by simp; omega) _
  have hB : Blk w1 w.heap.size 24 [.slice none 0 0] ∧ Blk w1 (w.heap.size + 1) 3 [.int .i64 0] ∧ Blk w1 (w.heap.size + 2) 23 [.slice bo bn bc] ∧ Blk w1 (w.heap.size + 3) 22 [.int .u32 0] := by
    rw [← hw1]
    have n0 := fun (W : World) e x => Blk.new W e x
    refine ⟨(((n0 w _ _).alloc _).alloc _).alloc _, ?_, ?_, ?_⟩
    · have := ((n0 (w.alloc (.cells #[.slice none 0 0] 24)) 3 [.int .i64 0]).alloc (.cells #[.slice bo bn bc] 23)).alloc (.cells #[.int .u32 0] 22)
      simpa using this
    · have := (n0 ((w.alloc (.cells #[.slice none 0 0] 24)).alloc (.cells #[.int .i64 0] 3)) 23 [.slice bo bn bc]).alloc (.cells #[.int .u32 0] 22)
      simpa using this
    · have := n0 (((w.alloc (.cells #[.slice none 0 0] 24)).alloc (.cells #[.int .i64 0] 3)).alloc (.cells #[.slice bo bn bc] 23)) 22 [.int .u32 0]
      simpa using this
  have HB := hide hB
  have HB1 := hide hb1
  have HZ2 := hide (fun W hb => HZ.out.keep (w' := W) (fun j _ hlt => (hb : Below w.heap.size w W).block j hlt))
  clear hB hb1
  try rw [hw1]
  clear hw1
  refine wp_range12 (gf := 52) (lb := #[.pointer (some ⟨w.heap.size + 1 + 1, 0, none⟩), .pointer (some ⟨w.heap.size + 1 + 1 + 1, 0, none⟩)]) (xs := L) (Enc := EncPo) (V := EachV (w.heap.size + 2) (w.heap.size + 3) (.slice bo bn bc) zs 0) rfl enters_each HIT.out (by rintro x Y W args ⟨v, rfl, _⟩; rfl)
    (PaI w (.slice bo bn bc) L) (fun _ _ _ _ => False) ?_ (fun Y k W W' h hb => h.grow hb) (fun _ _ _ _ _ h _ => h) (fun _ _ _ _ _ h _ => h) ?_ ?_
    (fun x Y n a' W => ∃ g uo un uc, n ≤ g ∧ Blk W g 34 [.int .u32 (x.2.doc : Int), .slice uo un uc] ∧ x.2.doc < 4294967296 ∧ Ints W 0 (.slice uo un uc) x.2.pos ∧ (∀ j, (Value.slice uo un uc).ownBlock = some j → Y j) ∧ a' = { tmps := #[.slice bo bn bc, undef, .slice none 0 0, .int .i64 0, .pointer (some ⟨w.heap.size, 0, none⟩), .pointer (some ⟨w.heap.size + 1, 0, none⟩), .int .i64 (x.1 : Int), .pointer (some ⟨g, 0, none⟩), .slice bo bn bc, .func (.func 52) #[] #[.pointer (some ⟨w.heap.size + 1 + 1, 0, none⟩), .pointer (some ⟨w.heap.size + 1 + 1 + 1, 0, none⟩)], .int .i64 (x.1 : Int), .agg #[.int .u32 (x.2.doc : Int), .slice uo un uc], undef, undef, undef, undef, undef, undef, undef, undef, undef, undef], defers := [] })
    ?_ (fun Y k W W' h hb => h.fresh hb) (fun Y k W h j hj => (h.ys j hj).2) ?assign ?body ?done (fun _ _ _ _ _ h _ => h.elim)
  · intro Y k W W' h ho
    exact h.keep (by rw [hs1] at ho; exact ho)
  · intro Y k W h
    exact ⟨h.e2.cell 0, fun _ => ⟨h.e3.cell 0, HZ2.out W h.below⟩⟩
  · intro W1 ho hs
    obtain ⟨b0, b1, b2, b3⟩ := HB.out
    exact ⟨HB1.out.trans ((ho.below (Nat.le_refl _) (fun _ _ h => h)).mono (by omega)), by omega, (fun _ h => h.elim), b2.only ho (fun h => h), b3.only ho (fun h => h), b1.only ho (fun h => h), ⟨nilS, [], b0.only ho (fun h => h), PpO.nil _ _, rfl, (fun j hj => by cases hj), fun e he => by cases he⟩⟩
  · rintro x Y n a' W W' ⟨g, uo, un, uc, hg, hB, hp, hi, hy, rfl⟩ hn ho
    exact ⟨g, uo, un, uc, hg, hB.only ho (by intro e; have := e.1; omega), hp, hi.stay ho, hy, rfl⟩
  case assign =>
    rintro l k hk Y W args ⟨u, rfl, hpd, hpi, hyo⟩ hYl K hK
    obtain ⟨uo, uc, rfl⟩ := hpi.shape
    have HP := hide hpi
    have HY := hide hyo
    generalize L[k].snd.pos.length = un at HP HY
    clear hpi hyo
    gi_wp2
    exact hK _ _ ⟨_, _, _, _, Nat.le_refl _, Blk.new W _ _, hpd, HP.out.only ((Only.refl (fun _ => False) W).alloc _) (fun _ _ h => h), HY.out, rfl⟩ ((Below.refl _ W).alloc (Nat.le_refl _) _)
  case body =>
    rintro l Y k hk n W _ hYn hn2 h ⟨g, uo, un, uc, hg, hGB, hpd, hpi, hyo, rfl⟩
    have hts := take_snocX L k hk
    obtain ⟨x, hx⟩ : ∃ x, L[k] = x := ⟨_, rfl⟩
    rw [hx] at hts hGB hpd hpi ⊢
    obtain ⟨x1, p⟩ := x
    simp only at hGB hpd hpi ⊢
    obtain ⟨v, es, b1, b2, b3, b4, b5⟩ := h.box
    have hel : es.length = k := by
      have := congrArg List.length b3
      simp at this
      omega
    obtain ⟨v2, w3, hr, hp2, hoA, hv2, ao2, cap2, rfl⟩ := push_po W (w.heap.size + 6) v es b2 (.slice uo un uc, p) hpd hpi rfl (by have := HLL.out; omega) h.size
    simp only at hr hp2
    obtain ⟨ao1, cap1, rfl⟩ := b2.shape
    have hsz := h.size
    have hBA : Blk w3 w.heap.size 24 [.slice ao1 es.length cap1] := b1.only hoA (by intro e; have := (b4 _ e.1).1; omega)
    have hBR : Blk w3 (w.heap.size + 1) 3 [.int .i64 (endL (L.take k) : Nat)] := h.rd.only hoA (by intro e; have := (b4 _ e.1).1; omega)
    have c0 : W.cell? ⟨w.heap.size, 0, none⟩ = some (.slice ao1 es.length cap1) := b1.cell 0
    obtain ⟨g0, g1⟩ := box_po hGB
    have c2 : w3.cell? ⟨w.heap.size, 0, none⟩ = some (.slice ao1 es.length cap1) := hBA.cell 0
    have f2 := hBA.frozen 0
    have c3 := hBR.cell 0
    have f3 := hBR.frozen 0
    have hn1 : (es ++ [((.slice uo un uc : Value), p)]).length = k + 1 := by simp [hel]
    rw [hn1] at hr hp2 hv2
    have HR := hide hr
    have HP2 := hide hp2
    have HOA := hide hoA
    have HV2 := hide hv2
    have HB4 := hide b4
    have HB5 := hide b5
    have HBA := hide hBA
    have HBR := hide hBR
    have HTS := hide hts
    have HH := hide h
    have HES := hide b3
    have HYO := hide hyo
    rw [hel] at HR c0 c2
    clear hr hp2 hoA hv2 b1 b2 b3 b4 b5 hBA hBR hts h hx hyo hGB hpi hn1
    gi_wp2_with (first
      | (gi_at_builtin; (with_reducible refine wpListIn_append_runK _ rfl (.tmp 12) (.tmp 14) 24 rfl _ _ ?_ ?_ _ _ HR.out ?_); exact rfl; exact rfl; clear HR))
    have hoA := HOA.out
    have h := HH.out
    have hoB : Only (fun j => j = w.heap.size ∨ j = w.heap.size + 1) w3 ((w3.setCell ⟨w.heap.size, 0, none⟩ (.slice ao2 (k + 1) cap2)).setCell ⟨w.heap.size + 1, 0, none⟩ (.int .i64 (x1 : Int))) :=
      ((Only.refl (fun j => j = w.heap.size ∨ j = w.heap.size + 1) w3).setCell ⟨w.heap.size, 0, none⟩ _ (fun _ => .inl rfl)).setCell ⟨w.heap.size + 1, 0, none⟩ _ (fun _ => .inr rfl)
    have hv3 : ∀ j, (Value.slice ao2 (k + 1) cap2).ownBlock = some j → w.heap.size + 6 ≤ j ∧ ¬ Y j := fun j hj => by
      rcases HV2.out with e | ⟨q, e, hq⟩
      · exact HB4.out j (e ▸ hj)
      · rw [e] at hj
        obtain rfl := Option.some.inj hj
        exact ⟨by omega, fun hy => by have := (h.ys _ hy).2; omega⟩
    have hpos : ∀ e ∈ es ++ [((.slice uo un uc : Value), p)], ∀ j, e.1.ownBlock = some j → Y j := fun e he j hj => by
      rcases List.mem_append.1 he with he | he
      · exact HB5.out e he j hj
      · obtain rfl := List.mem_singleton.1 he
        exact HYO.out j hj
    have hsA := hoA.size
    have hsB := hoB.size
    refine ⟨?_, ?_, ?_, by omega, ?_, ?_, ?_, ?_, ?_⟩
    · rw [hs1]
      refine (Keeps2.of_only hoA ?_ ?_).trans (Keeps2.of_only hoB (by omega) (by omega))
      · intro e; have := (HB4.out _ e.1).1; omega
      · intro e; have := (HB4.out _ e.1).1; omega
    · intro j hj
      have hjs := h.ys j hj
      exact (hoB.block j (by omega) (by omega)).trans (hoA.block j hjs.2 (fun e => (HB4.out j e.1).2 hj))
    · exact (h.below.trans (hoA.below h.below.size (fun j hj e => by have := (HB4.out j e.1).1; omega))).trans (hoB.below (by omega) (fun j hj e => by omega))
    · exact fun j hj => ⟨(h.ys j hj).1, by have := (h.ys j hj).2; omega⟩
    · exact (h.e2.only hoA (by intro e; have := (HB4.out _ e.1).1; omega)).only hoB (by omega)
    · exact (h.e3.only hoA (by intro e; have := (HB4.out _ e.1).1; omega)).only hoB (by omega)
    · rw [HTS.out, endL_snoc]
      exact (HBR.out.only ((Only.refl (· = w.heap.size) w3).setCell ⟨w.heap.size, 0, none⟩ _ (fun _ => rfl)) (by omega)).set 0 _
    · refine ⟨_, _, (HBA.out.set 0 _).only ((Only.refl (· = w.heap.size + 1) _).setCell ⟨w.heap.size + 1, 0, none⟩ _ (fun _ => rfl)) (by omega), HP2.out.only hoB (fun j hj e => by have := (hv3 j hj).1; omega) (fun e he j hj hs => by have := (h.ys j (hpos e he j hj)).1; omega), ?_, hv3, hpos⟩
      rw [HTS.out, List.map_append, List.map_append, HES.out]
      rfl
  case done =>
    rintro Y W h hD
    obtain ⟨v, es, b1, b2, b3, b4, b5⟩ := h.box
    have hrd := h.rd
    rw [List.take_length] at b3 hrd
    have c5 : W.cell? ⟨w.heap.size + 1, 0, none⟩ = some (.int .i64 (endL L : Nat)) := hrd.cell 0
    obtain ⟨ao1, cap1, rfl⟩ := b2.shape
    obtain ⟨en, hen⟩ : ∃ n, es.length = n := ⟨_, rfl⟩
    have hoD : Only (fun j => j = w1.heap.size ∧ noInts W j) W (W.putObj w1.heap.size (.deferred none)) := only_put1 W _ _ _ ⟨rfl, fun cs f e => by rw [hD] at e; cases e⟩
    have HPP : Hid (Pps (W.putObj w1.heap.size (.deferred none)) (.slice ao1 en cap1) (es.map (·.1)) (L.map (·.2))) := by
      have := (b2.stay hoD (fun j hj e => by have := (b4 j hj).1; omega)).read
      rw [b3, hen] at this
      exact this
    have HBW : Hid (Below w.heap.size w (W.putObj w1.heap.size (.deferred none))) := h.below.trans (hoD.below h.below.size (fun j hj e => by have := e.1; omega))
    have c6 : W.cell? ⟨w.heap.size, 0, none⟩ = some (.slice ao1 en cap1) := by rw [← hen]; exact b1.cell 0
    have HD := hide hD
    obtain ⟨he1, he2⟩ := HPR.out
    have HE1 := hide he1
    have HE2 := hide he2
    generalize endL L = el at *
    clear hD hoD b1 b2 b3 b4 b5 hrd h HPR hen he1 he2 hs1
    by_cases hlt : el < bn
    · have hli : (el : Int) < (bn : Int) := by omega
      gi_wp2
      refine ⟨by simp, .inl ⟨_, _, rfl, run_takeDeferred HD.out, ?_⟩⟩
      refine ⟨_, results_tmp2 (t := 2) (u := 3) rfl _ _ _, nilS, ?_, ⟨[], ?_⟩, HBW.out⟩
      · rw [HE1.out, if_pos hlt]; rfl
      · rw [HE2.out, if_pos hlt]; exact Pps.nil _
    · have hli : ¬ (el : Int) < (bn : Int) := by omega
      gi_wp2
      refine ⟨by simp, .inl ⟨_, _, rfl, run_takeDeferred HD.out, ?_⟩⟩
      refine ⟨_, results_tmp2 (t := 2) (u := 3) rfl _ _ _, .slice ao1 en cap1, ?_, ⟨es.map (·.1), ?_⟩, HBW.out⟩
      · rw [HE1.out, if_neg hlt]; rfl
      · rw [HE2.out, if_neg hlt]; exact HPP.out

end Go.Proofs.Ytmjkpgmmfooajaa
