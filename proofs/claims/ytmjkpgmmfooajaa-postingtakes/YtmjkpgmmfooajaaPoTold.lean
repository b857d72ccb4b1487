/- Contracts: package posting's All, and the law's told over it (incipitlaw15.told). -/
import Derived.Test.YtmjkpgmmfooajaaPoParse
import Derived.BigQuiet
namespace Go.Proofs.Ytmjkpgmmfooajaa
set_option maxRecDepth 20000
open Go.RowKit Go.Shelf
set_option linter.unusedVariables false
set_option linter.unusedSimpArgs false
set_option maxRecDepth 100000
attribute [local go_sem] Oper.semAt_some

/-- where they end -/
def endsL (l : List (Nat × Po)) : List Int := l.map fun e => (e.1 : Int)
theorem endsL_snoc (l : List (Nat × Po)) (x : Nat × Po) : endsL (l ++ [x]) = endsL l ++ [(x.1 : Int)] := by simp [endsL]
theorem endsL_len (l : List (Nat × Po)) : (endsL l).length = l.length := by simp [endsL]

theorem cell_belowP {w w' : World} {a : Addr} {v : Value} (hb : Below w.heap.size w w') (h : w.cell? a = some v) : w'.cell? a = some v := by
  rw [World.cell?_of_block (w := w) (hb.block a.block (World.block_lt_of_cell? w _ h))]
  exact h
/-- bytes and a document in two blocks: what each was made of -/
structure EachAt (W : World) (Bs Pv : Nat) (bv : Value) (zs : List Int) (prev : Nat) : Prop where
  c0 : W.cell? ⟨Bs, 0, none⟩ = some bv
  c1 : W.cell? ⟨Pv, 0, none⟩ = some (.int .u32 (prev : Int))
  sl : Sl W bv zs
theorem EachAt.below {W W' : World} {Bs Pv : Nat} {bv : Value} {zs : List Int} {prev : Nat} (h : EachAt W Bs Pv bv zs prev) (hb : Below W.heap.size W W') : EachAt W' Bs Pv bv zs prev :=
  ⟨cell_belowP hb h.c0, cell_belowP hb h.c1, h.sl.keep (fun j _ hlt => hb.block j hlt)⟩

set_option maxHeartbeats 1000000 in
theorem all_any (w : World) (vb : Value) (zs : List Int) (hz : Sl w vb zs) (hl : zs.length ≤ 1000000) (prev : Nat) (hp : prev < 4294967296) :
    Calls Try.prog 28 #[vb, .int .u32 (prev : Int)] w fun e w' => ∃ Bs Pv, e = .returned (.func (.func 52) #[] #[.pointer (some ⟨Bs, 0, none⟩), .pointer (some ⟨Pv, 0, none⟩)]) ∧ (∃ bv, EachAt w' Bs Pv bv zs prev) ∧ Below w.heap.size w w' := by
  have hby := hz.bytes
  have HCL := hide (cloneM_any w vb zs hz hl)
  have HEA := hide (fun w1 => each_any w1)
  obtain ⟨bo, bc, rfl⟩ := sl_form' hz
  obtain ⟨bn, hbn⟩ : ∃ n, zs.length = n := ⟨_, rfl⟩
  have HBN := hide hbn
  rw [hbn] at HCL hl ⊢
  clear hz hbn
  go_enter Try.func28, Try.ntmps28
  go_wp2_with (first
    | (go_at_call 44; refine HCL.out.mono ?_; rintro e w1 ⟨u, rfl, ho, hb⟩; obtain ⟨ao, c, rfl⟩ := own_form' ho; have HO := hide ho; have HB := hide hb; clear HCL ho hb)
    | (go_at_call 43; refine (HEA.out _ _ _ _ _).mono ?_; rintro e w2 ⟨rfl, hw⟩; subst w2; clear HEA))
  go_ret
  have ho := HO.out
  rw [← HBN.out] at ho
  have hs := sl_of_own_len ho hby
  have hz := HB.out.size
  refine ⟨_, _, rfl, ⟨.slice ao bn c, ?_, ?_, ?_⟩, (HB.out.alloc hz _).alloc (by simp; omega) _⟩
  · exact ((Blk.new w1 23 [.slice ao bn c]).alloc _).cell 0
  · have := (Blk.new (w1.alloc (.cells #[.slice ao bn c] 23)) 22 [.int .u32 (prev : Int)]).cell 0
    rw [World.size_alloc] at this
    exact this
  · rw [← HBN.out]
    exact (hs.alloc _).alloc _

theorem only_drewP (S : Nat → Prop) (W : World) (q : Nat) : Only S W (W.drewN q) := ⟨rfl, rfl, rfl, Nat.le_refl _, fun _ _ _ => rfl⟩
theorem eqlFP (gf : Nat) (lb : Array Value) (w : World) : (binOp .eql 50 (.func (.func gf) #[] lb) .nilFunc).run Try.prog w = .ok (.bool false) w := by kernel_rfl

/-- as far as it is told -/
structure ToP (w : World) (M : Int) (xs : List (Nat × Po)) (Y : Nat → Prop) (k : Nat) (W : World) : Prop where
  b1 : Blk W w.heap.size 3 [.int .i64 M]
  box : GaB W (w.heap.size + 1) (w.heap.size + 5) Y (xs.take k)
  ends : ∃ u, Blk W (w.heap.size + 2) 32 [u] ∧ Ints W (w.heap.size + 5) u (endsL (xs.take k)) ∧ ∀ j, u.ownBlock = some j → w.heap.size + 5 ≤ j ∧ ¬ Y j
  below : Below w.heap.size w W
  size : w.heap.size + 5 ≤ W.heap.size
  ys : ∀ j, Y j → w.heap.size + 5 ≤ j ∧ j < W.heap.size
theorem ToP.keep {w : World} {M : Int} {xs : List (Nat × Po)} {Y : Nat → Prop} {k : Nat} {W W' : World} (h : ToP w M xs Y k W) (ho : Only (fun j => (j = w.heap.size + 3 ∨ j = w.heap.size + 3 + 1) ∧ noInts W j) W W') : ToP w M xs Y k W' := by
  obtain ⟨u, h1, h2, h3⟩ := h.ends
  exact ⟨h.b1.only ho (by intro e; have := e.1; omega), h.box.stay ho (by omega) (fun j h1 _ h2 => by omega), ⟨u, h1.only ho (by intro e; have := e.1; omega), h2.stay ho, h3⟩, h.below.trans (ho.below h.below.size (fun j hj e => by have := e.1; omega)), Nat.le_trans h.size ho.size, fun j hj => ⟨(h.ys j hj).1, Nat.lt_of_lt_of_le (h.ys j hj).2 ho.size⟩⟩
theorem ToP.fresh {w : World} {M : Int} {xs : List (Nat × Po)} {Y : Nat → Prop} {k : Nat} {W W' : World} (h : ToP w M xs Y k W) (hb : Below W.heap.size W W') : ToP w M xs Y k W' := by
  obtain ⟨u, h1, h2, h3⟩ := h.ends
  have ho : Only (fun j => False ∧ noInts W j) W W' := (Only.of_below (fun _ => False) hb).mono (fun _ _ h => h.elim)
  exact ⟨h.b1.only ho (fun e => e.1), h.box.stay ho (fun h => h) (fun _ _ _ h => h), ⟨u, h1.only ho (fun e => e.1), h2.stay ho, h3⟩, h.below.trans (hb.mono h.below.size), Nat.le_trans h.size hb.size, fun j hj => ⟨(h.ys j hj).1, Nat.lt_of_lt_of_le (h.ys j hj).2 hb.size⟩⟩
theorem ToP.grow {w : World} {M : Int} {xs : List (Nat × Po)} {Y : Nat → Prop} {k : Nat} {W W' : World} (h : ToP w M xs Y k W) (ho : Only (fun j => Y j ∧ noInts W j) W W') : ToP w M xs (more Y W W') k W' := by
  obtain ⟨u, h1, h2, h3⟩ := h.ends
  have hs := h.size
  refine ⟨h.b1.only ho (by intro e; have := (h.ys _ e.1).1; omega), h.box.more ho (by intro e; have := (h.ys _ e).1; omega), ⟨u, h1.only ho (by intro e; have := (h.ys _ e.1).1; omega), h2.stay ho, fun j hj => ⟨(h3 j hj).1, fun hy => hy.elim (h3 j hj).2 (fun hy => by have := (h2.lt j hj).2; omega)⟩⟩, h.below.trans (ho.below h.below.size (fun j hj e => by have := (h.ys j e.1).1; omega)), Nat.le_trans h.size ho.size, fun j hj => ?_⟩
  rcases hj with hj | hj
  · exact ⟨(h.ys j hj).1, Nat.lt_of_lt_of_le (h.ys j hj).2 ho.size⟩
  · exact ⟨by omega, hj.2⟩

set_option maxHeartbeats 2000000 in
theorem toldP_any (w : World) (Bs Pv : Nat) (bv : Value) (zs : List Int) (prev : Nat) (hp : prev < 4294967296) (hl : zs.length ≤ 1000000) (hE : EachAt w Bs Pv bv zs prev) (M : Nat) (hM : M ≤ 2000000) :
    Calls Try.prog 27 #[.func (.func 52) #[] #[.pointer (some ⟨Bs, 0, none⟩), .pointer (some ⟨Pv, 0, none⟩)], .int .i64 (M : Int)] w fun e w' => ∃ v u, e = .returned (.tuple #[v, u]) ∧ (∃ us, Pps w' v us (((allP prev zs).take M).map (·.2))) ∧ Ints w' w.heap.size u (endsL ((allP prev zs).take M)) ∧ Below w.heap.size w w' := by
  have hfe := eqlFP 52 #[.pointer (some ⟨Bs, 0, none⟩), .pointer (some ⟨Pv, 0, none⟩)]
  have HIT := hide (each_iter Bs Pv bv zs prev hp hl)
  have HLL : Hid ((allP prev zs).length ≤ 1000000) := by have := allP_len prev zs; show _ ≤ _; omega
  obtain ⟨xs, hL⟩ : ∃ L, allP prev zs = L := ⟨_, rfl⟩
  rw [hL] at HIT HLL ⊢
  have HE := hide (fun W hb => hE.below (hb : Below w.heap.size w W))
  clear hL hE
  refine (callsIn_wide (n := 3)).1 ?_
  refine callsIn_of_wp_marks Try.func27 rfl trivial ?_ rfl
  simp only [Try.ntmps27, List.size_toArray, List.length_cons, List.length_nil, Nat.reduceAdd, Nat.reduceSub, Array.replicate_succ, Array.replicate_zero, List.push_toArray, List.append_toArray, List.nil_append, List.cons_append]
  gi_wp2
  obtain ⟨w1, hw1⟩ : ∃ w1, ((w.alloc (.cells #[.int .i64 (M : Int)] 3)).alloc (.cells #[.slice none 0 0] 24)).alloc (.cells #[.slice none 0 0] 32) = w1 := ⟨_, rfl⟩
  have hs1 : w1.heap.size = w.heap.size + 3 := by rw [← hw1]; simp
  have hb1 : Below w.heap.size w w1 := by rw [← hw1]; exact (((Below.refl _ w).alloc (Nat.le_refl _) _).alloc (by simp) _).alloc (by simp; omega) _
  have hB : Blk w1 w.heap.size 3 [.int .i64 (M : Int)] ∧ Blk w1 (w.heap.size + 1) 24 [.slice none 0 0] ∧ Blk w1 (w.heap.size + 2) 32 [.slice none 0 0] := by
    rw [← hw1]
    have n0 := fun (W : World) e x => Blk.new W e x
    refine ⟨((n0 w _ _).alloc _).alloc _, ?_, ?_⟩
    · have := (n0 (w.alloc (.cells #[.int .i64 (M : Int)] 3)) 24 [.slice none 0 0]).alloc (.cells #[.slice none 0 0] 32)
      simpa using this
    · have := n0 ((w.alloc (.cells #[.int .i64 (M : Int)] 3)).alloc (.cells #[.slice none 0 0] 24)) 32 [.slice none 0 0]
      simpa using this
  have HB := hide hB
  have HB1 := hide hb1
  clear hB hb1 hfe
  try rw [hw1]
  clear hw1
  refine wp_range12 (gf := 52) (lb := #[.pointer (some ⟨Bs, 0, none⟩), .pointer (some ⟨Pv, 0, none⟩)]) (xs := xs) (Enc := EncPo) (V := EachV Bs Pv bv zs prev) rfl enters_each HIT.out (by rintro x Y W args ⟨v, rfl, _⟩; rfl)
    (fun Y k W => k ≤ M ∧ ToP w M xs Y k W) (fun Y cc k W => cc = .exit 0 ∧ ToP w M xs Y M W ∧ M ≤ xs.length) ?_ ?_ ?_ ?_ ?_ ?_
    (fun x Y n a' W => ∃ g uo un uc, n ≤ g ∧ Blk W g 34 [.int .u32 (x.2.doc : Int), .slice uo un uc] ∧ x.2.doc < 4294967296 ∧ Ints W 0 (.slice uo un uc) x.2.pos ∧ (∀ j, (Value.slice uo un uc).ownBlock = some j → Y j) ∧ a' = { tmps := #[.func (.func 52) #[] #[.pointer (some ⟨Bs, 0, none⟩), .pointer (some ⟨Pv, 0, none⟩)], .int .i64 (M : Int), undef, .pointer (some ⟨w.heap.size, 0, none⟩), .slice none 0 0, .slice none 0 0, .pointer (some ⟨w.heap.size + 1, 0, none⟩), .pointer (some ⟨w.heap.size + 1 + 1, 0, none⟩), .int .i64 (x.1 : Int), .pointer (some ⟨g, 0, none⟩), .func (.func 52) #[] #[.pointer (some ⟨Bs, 0, none⟩), .pointer (some ⟨Pv, 0, none⟩)], .bool false, .func (.func 52) #[] #[.pointer (some ⟨Bs, 0, none⟩), .pointer (some ⟨Pv, 0, none⟩)], .int .i64 (x.1 : Int), .agg #[.int .u32 (x.2.doc : Int), .slice uo un uc], undef, undef, undef, undef, undef, undef, undef, undef, undef, undef, undef, undef, undef, undef], defers := [] })
    ?_ (fun Y k W W' h hb => ⟨h.1, h.2.fresh hb⟩) (fun Y k W h j hj => (h.2.ys j hj).2) ?assign ?body ?done ?stop
  · rintro Y k W W' ⟨h0, h⟩ ho
    exact ⟨h0, h.keep (by rw [hs1] at ho; exact ho)⟩
  · rintro Y k W W' ⟨h0, h⟩ ho
    exact ⟨h0, h.grow ho⟩
  · rintro Y cc k W W' ⟨rfl, h, hm⟩ ho
    exact ⟨rfl, h.keep (by rw [hs1] at ho; exact ho), hm⟩
  · rintro Y cc k W W' ⟨rfl, h, hm⟩ ho
    exact ⟨rfl, h.grow ho, hm⟩
  · rintro Y k W ⟨h0, h⟩
    have := HE.out W h.below
    exact ⟨this.c0, fun _ => ⟨this.c1, this.sl⟩⟩
  · intro W1 ho hs
    obtain ⟨q0, q1, q2⟩ := HB.out
    exact ⟨Nat.zero_le _, q0.only ho (fun h => h), ⟨nilS, [], q1.only ho (fun h => h), PpO.nil _ _, rfl, (fun j hj => by cases hj), fun e he => by cases he⟩, ⟨nilS, q2.only ho (fun h => h), Ints.nil _ _, (fun j hj => by cases hj)⟩, HB1.out.trans ((ho.below (Nat.le_refl _) (fun _ _ h => h)).mono (by omega)), by omega, (fun _ h => h.elim)⟩
  · rintro x Y n a' W W' ⟨g, uo, un, uc, hg, hB, hp, hi, hy, rfl⟩ hn ho
    exact ⟨g, uo, un, uc, hg, hB.only ho (by intro e; have := e.1; omega), hp, hi.stay ho, hy, rfl⟩
  case assign =>
    rintro l k hk Y W args ⟨u, rfl, hpd, hpi, hyo⟩ hYl K hK
    obtain ⟨uo, uc, rfl⟩ := hpi.shape
    have HP := hide hpi
    have HY := hide hyo
    generalize xs[k].snd.pos.length = un at HP HY
    clear hpi hyo
    gi_wp2
    exact hK _ _ ⟨_, _, _, _, Nat.le_refl _, Blk.new W _ _, hpd, HP.out.only ((Only.refl (fun _ => False) W).alloc _) (fun _ _ h => h), HY.out, rfl⟩ ((Below.refl _ W).alloc (Nat.le_refl _) _)
  case body =>
    rintro l Y k hk n W _ hYn hn2 ⟨hkM0, h⟩ ⟨g, uo, un, uc, hg, hGB, hpd, hpi, hyo, rfl⟩
    have hts := take_snocX xs k hk
    obtain ⟨x, hx⟩ : ∃ x, xs[k] = x := ⟨_, rfl⟩
    rw [hx] at hts hGB hpd hpi ⊢
    obtain ⟨x1, p⟩ := x
    simp only at hGB hpd hpi ⊢
    obtain ⟨v, es, b1, b2, b3, b4, b5⟩ := h.box
    obtain ⟨u, d1, d2, d3⟩ := h.ends
    have hel : es.length = k := by
      have := congrArg List.length b3
      simp at this
      omega
    have hdl : (endsL (xs.take k)).length = k := by rw [endsL_len]; simp; omega
    have cM : W.cell? ⟨w.heap.size, 0, none⟩ = some (.int .i64 (M : Int)) := h.b1.cell 0
    have c0 : W.cell? ⟨w.heap.size + 1, 0, none⟩ = some v := b1.cell 0
    by_cases hkM : k < M
    · have hkMi : ¬ (M : Int) ≤ (k : Int) := by omega
      obtain ⟨v2, w3, hr, hp2, hoA, hv2, ao2, cap2, rfl⟩ := push_po W (w.heap.size + 5) v es b2 (.slice uo un uc, p) hpd hpi rfl (by have := HLL.out; omega) h.size
      simp only at hr hp2
      have hn1 : (es ++ [((.slice uo un uc : Value), p)]).length = k + 1 := by simp [hel]
      rw [hn1] at hr hp2 hv2
      have hsz := h.size
      have hsA := hoA.size
      have hBA : Blk w3 (w.heap.size + 1) 24 [v] := b1.only hoA (by intro e; have := (b4 _ e.1).1; omega)
      have hBU : Blk w3 (w.heap.size + 2) 32 [u] := d1.only hoA (by intro e; have := (b4 _ e.1).1; omega)
      have hU3 : Ints w3 (w.heap.size + 5) u (endsL (xs.take k)) := d2.stay hoA
      obtain ⟨w4, hw4⟩ : ∃ w4, w3.setCell ⟨w.heap.size + 1, 0, none⟩ (.slice ao2 (k + 1) cap2) = w4 := ⟨_, rfl⟩
      have hoB : Only (· = w.heap.size + 1) w3 w4 := by rw [← hw4]; exact (Only.refl (· = w.heap.size + 1) w3).setCell ⟨w.heap.size + 1, 0, none⟩ _ (fun _ => rfl)
      have hs4 : w4.heap.size = w3.heap.size := by rw [← hw4]; simp
      have hU4 : Ints w4 (w.heap.size + 5) u (endsL (xs.take k)) := hU3.only hoB (fun j hj e => by have := (d3 j hj).1; omega)
      obtain ⟨u2, w5, hr5, hi5, hg5, hv5, ao5, cap5, rfl⟩ := run_append_int w4 (w.heap.size + 5) u _ hU4 (x1 : Int) (by rw [hdl]; have := HLL.out; omega) (by omega)
      have hoC : Only (fun j => u.ownBlock = some j) w4 w5 := ((Only.refl _ _).alloc _).grown hg5 (fun j e _ => e)
      have hsC := hoC.size
      rw [hdl] at hr5 hi5 hv5
      have hv3 : ∀ j, (Value.slice ao2 (k + 1) cap2).ownBlock = some j → w.heap.size + 5 ≤ j ∧ ¬ Y j := fun j hj => by
        rcases hv2 with e | ⟨q, e, hq⟩
        · exact b4 j (e ▸ hj)
        · rw [e] at hj
          obtain rfl := Option.some.inj hj
          exact ⟨by omega, fun hy => by have := (h.ys _ hy).2; omega⟩
      have hu3 : ∀ j, (Value.slice ao5 (k + 1) cap5).ownBlock = some j → w.heap.size + 5 ≤ j ∧ ¬ Y j := fun j hj => by
        rcases hv5 with e | e
        · exact d3 j (e ▸ hj)
        · rw [e] at hj
          obtain rfl := Option.some.inj hj
          exact ⟨by omega, fun hy => by have := (h.ys _ hy).2; omega⟩
      have hpos : ∀ e ∈ es ++ [((.slice uo un uc : Value), p)], ∀ j, e.1.ownBlock = some j → Y j := fun e he j hj => by
        rcases List.mem_append.1 he with he | he
        · exact b5 e he j hj
        · obtain rfl := List.mem_singleton.1 he
          exact hyo j hj
      have hp4 : PpO w4 (w.heap.size + 5) (.slice ao2 (k + 1) cap2) (es ++ [(.slice uo un uc, p)]) := hp2.only hoB (fun j hj e => by have := (hv3 j hj).1; omega) (fun e he j hj hs => by have := (h.ys j (hpos e he j hj)).1; omega)
      have hp5 : PpO w5 (w.heap.size + 5) (.slice ao2 (k + 1) cap2) (es ++ [(.slice uo un uc, p)]) := hp4.only hoC (fun j hj e => by
        rcases hU4.form with ⟨rfl, _⟩ | ⟨q, cap, sp, rfl, _, _, _, hB, _⟩
        · cases e
        · simp [Value.ownBlock] at e
          subst e
          exact hp4.noInts _ hj _ _ hB) (fun e he j hj hs => (d3 j hs).2 (hpos e he j hj))
      have hBA5 : Blk w5 (w.heap.size + 1) 24 [.slice ao2 (k + 1) cap2] := by
        refine Blk.only ?_ hoC (by intro e; have := (d3 _ e).1; omega)
        rw [← hw4]
        exact hBA.set 0 _
      have hBU5 : Blk w5 (w.heap.size + 2) 32 [u] := (hBU.only hoB (by omega)).only hoC (by intro e; have := (d3 _ e).1; omega)
      have hoD : Only (· = w.heap.size + 2) w5 (w5.setCell ⟨w.heap.size + 2, 0, none⟩ (.slice ao5 (k + 1) cap5)) := (Only.refl (· = w.heap.size + 2) w5).setCell ⟨w.heap.size + 2, 0, none⟩ _ (fun _ => rfl)
      have hsD := hoD.size
      have hall : Only (fun j => v.ownBlock = some j ∨ j = w.heap.size + 1 ∨ u.ownBlock = some j ∨ j = w.heap.size + 2) W (w5.setCell ⟨w.heap.size + 2, 0, none⟩ (.slice ao5 (k + 1) cap5)) :=
        (((hoA.mono (fun _ _ e => .inl e.1)).trans (hoB.mono (fun _ _ e => .inr (.inl e))) (fun _ _ h => h)).trans (hoC.mono (fun _ _ e => .inr (.inr (.inl e)))) (fun _ _ h => h)).trans (hoD.mono (fun _ _ e => .inr (.inr (.inr e)))) (fun _ _ h => h)
      have hfar : ∀ j, (v.ownBlock = some j ∨ j = w.heap.size + 1 ∨ u.ownBlock = some j ∨ j = w.heap.size + 2) → (j = w.heap.size + 1 ∨ j = w.heap.size + 2 ∨ (w.heap.size + 5 ≤ j ∧ ¬ Y j)) := fun j e => by
        rcases e with e | e | e | e
        · exact .inr (.inr (b4 j e))
        · exact .inl e
        · exact .inr (.inr (d3 j e))
        · exact .inr (.inl e)
      have HFIN : Hid (rndPost2 w1.heap.size Y (fun Y k W => k ≤ M ∧ ToP w M xs Y k W) (fun Y cc k W => cc = .exit 0 ∧ ToP w M xs Y M W ∧ M ≤ xs.length) (k + 1) W .normal { tmps := #[], defers := [] } (w5.setCell ⟨w.heap.size + 2, 0, none⟩ (.slice ao5 (k + 1) cap5))) := by
        refine ⟨?_, ?_, by omega, ?_, ?_, ?_, ?_, ?_, ?_⟩
        · rw [hs1]
          refine Keeps2.of_only hall ?_ ?_
          · intro e; have := hfar _ e; omega
          · intro e; have := hfar _ e; omega
        · intro j hj
          have hjs := h.ys j hj
          refine hall.block j hjs.2 (fun e => ?_)
          rcases hfar j e with e | e | e
          · omega
          · omega
          · exact e.2 hj
        · exact h.b1.only hall (by intro e; have := hfar _ e; omega)
        · refine ⟨_, _, hBA5.only hoD (by omega), hp5.only hoD (fun j hj e => by have := (hv3 j hj).1; omega) (fun e he j hj hs => by have := (h.ys j (hpos e he j hj)).1; omega), ?_, hv3, hpos⟩
          rw [hts, List.map_append, List.map_append, b3]
          rfl
        · refine ⟨_, hBU5.set 0 _, ?_, hu3⟩
          rw [hts, endsL_snoc]
          exact hi5.only hoD (fun j hj e => by have := (hu3 j hj).1; omega)
        · exact h.below.trans (hall.below h.below.size (fun j hj e => by have := hfar j e; omega))
        · omega
        · exact fun j hj => ⟨(h.ys j hj).1, by have := (h.ys j hj).2; omega⟩
      obtain ⟨ao1, cap1, rfl⟩ := b2.shape
      obtain ⟨ao4, cap4, rfl⟩ := d2.shape
      have c2 : w3.cell? ⟨w.heap.size + 1, 0, none⟩ = some (.slice ao1 es.length cap1) := hBA.cell 0
      have f2 := hBA.frozen 0
      have c3 : w4.cell? ⟨w.heap.size + 1 + 1, 0, none⟩ = some (.slice ao4 (endsL (xs.take k)).length cap4) := (hBU.only hoB (by omega)).cell 0
      have c5 : w5.cell? ⟨w.heap.size + 1 + 1, 0, none⟩ = some (.slice ao4 (endsL (xs.take k)).length cap4) := hBU5.cell 0
      have f5 : w5.frozen? ⟨w.heap.size + 1 + 1, 0, none⟩ = false := hBU5.frozen 0
      obtain ⟨g0, g1⟩ := box_po hGB
      rw [hel] at hr c0 c2
      rw [hdl] at hr5 c3 c5
      have HR := hide hr
      have HR5 := hide hr5
      clear hr hr5 hp2 hoA hv2 hn1 hsz hsA hBA hBU hU3 hoB hs4 hU4 hi5 hg5 hv5 hoC hsC hv3 hu3 hpos hp4 hp5 hBA5 hBU5 hoD hsD hall hfar b1 b2 b3 b4 b5 d1 d2 d3 h hx hyo hGB hpi hts hs1 hel hdl
      gi_wp2_with (first
        | (gi_at_builtin; (with_reducible refine wpListIn_append_runK _ rfl (.tmp 19) (.tmp 21) 24 rfl _ _ ?_ ?_ _ _ HR.out ?_); exact rfl; exact rfl; clear HR)
        | (gi_at_builtin; (try rw [hw4]); (with_reducible refine wpListIn_append_runK _ rfl (.tmp 23) (.tmp 25) 32 rfl _ _ ?_ ?_ _ _ HR5.out ?_); exact rfl; exact rfl; clear HR5))
      exact HFIN.out
    · have hkMi : (M : Int) ≤ (k : Int) := by omega
      obtain ⟨ao1, cap1, rfl⟩ := b2.shape
      rw [hel] at c0
      have hkM' : k = M := by omega
      have HH := hide h
      clear b1 b2 b3 b4 b5 d1 d2 d3 h hx hyo hGB hpi hts hel hdl
      gi_wp2
      subst hkM'
      exact ⟨Keeps2.refl _ _, KeepsY.refl _ _, rfl, HH.out, by omega⟩
  case done =>
    rintro Y W ⟨h0, h⟩ hD
    have hMX : xs.take xs.length = xs.take M := by rw [List.take_of_length_le (Nat.le_refl _), List.take_of_length_le h0]
    obtain ⟨v, es, b1, b2, b3, b4, b5⟩ := h.box
    obtain ⟨u, d1, d2, d3⟩ := h.ends
    obtain ⟨ao1, cap1, rfl⟩ := b2.shape
    obtain ⟨ao2, cap2, rfl⟩ := d2.shape
    obtain ⟨en, hen⟩ : ∃ n, es.length = n := ⟨_, rfl⟩
    obtain ⟨em, hem⟩ : ∃ n, (endsL (xs.take xs.length)).length = n := ⟨_, rfl⟩
    rw [hen] at b1 b2
    rw [hem] at d1 d2
    have c0 : W.cell? ⟨w.heap.size + 1, 0, none⟩ = some (.slice ao1 en cap1) := b1.cell 0
    have c1 : W.cell? ⟨w.heap.size + 1 + 1, 0, none⟩ = some (.slice ao2 em cap2) := d1.cell 0
    have HFIN : Hid (∀ q, Pps ((W.drewN q).putObj w1.heap.size (.deferred none)) (.slice ao1 en cap1) (es.map (·.1)) ((xs.take M).map (·.2)) ∧ Ints ((W.drewN q).putObj w1.heap.size (.deferred none)) w.heap.size (.slice ao2 em cap2) (endsL (xs.take M)) ∧ Below w.heap.size w ((W.drewN q).putObj w1.heap.size (.deferred none)) ∧ (W.drewN q).heap[w1.heap.size]? = some (.deferred (some []))) := fun q => by
      have hd : (W.drewN q).heap[w1.heap.size]? = some (.deferred (some [])) := hD
      have hoD : Only (fun j => j = w1.heap.size ∧ noInts W j) W ((W.drewN q).putObj w1.heap.size (.deferred none)) := (only_drewP _ W q).trans (only_put1 _ _ _ _ ⟨rfl, fun cs f e => by rw [hD] at e; cases e⟩) (fun _ _ h => h)
      have hp := (b2.stay hoD (fun j hj e => by have := (b4 j (by rw [hen]; exact hj)).1; omega)).read
      rw [b3, hMX] at hp
      have hq := (d2.stay hoD).base (show w.heap.size ≤ w.heap.size + 5 by omega)
      rw [hMX] at hq
      exact ⟨hp, hq, h.below.trans (hoD.below h.below.size (fun j hj e => by have := e.1; omega)), hd⟩
    clear hD b1 b2 b3 b4 b5 d1 d2 d3 hen hem h hMX hs1
    gi_wp2
    refine wpIn_wide.2 ?_
    go_quiet (fail)
    gi_wp2
    obtain ⟨q1, q2, q3, q4⟩ := HFIN.out nq
    refine ⟨by simp, .inl ⟨_, _, rfl, run_takeDeferred q4, ?_⟩⟩
    exact ⟨_, results_tmp2 (t := 4) (u := 5) rfl _ _ _, .slice ao1 en cap1, .slice ao2 em cap2, rfl, ⟨_, q1⟩, q2, q3⟩
  case stop =>
    rintro Y cc k W hk ⟨rfl, h, hm⟩ hD
    have hMX : xs.take M = xs.take M := rfl
    obtain ⟨v, es, b1, b2, b3, b4, b5⟩ := h.box
    obtain ⟨u, d1, d2, d3⟩ := h.ends
    obtain ⟨ao1, cap1, rfl⟩ := b2.shape
    obtain ⟨ao2, cap2, rfl⟩ := d2.shape
    obtain ⟨en, hen⟩ : ∃ n, es.length = n := ⟨_, rfl⟩
    obtain ⟨em, hem⟩ : ∃ n, (endsL (xs.take M)).length = n := ⟨_, rfl⟩
    rw [hen] at b1 b2
    rw [hem] at d1 d2
    have c0 : W.cell? ⟨w.heap.size + 1, 0, none⟩ = some (.slice ao1 en cap1) := b1.cell 0
    have c1 : W.cell? ⟨w.heap.size + 1 + 1, 0, none⟩ = some (.slice ao2 em cap2) := d1.cell 0
    have HFIN : Hid (∀ q, Pps ((W.drewN q).putObj w1.heap.size (.deferred none)) (.slice ao1 en cap1) (es.map (·.1)) ((xs.take M).map (·.2)) ∧ Ints ((W.drewN q).putObj w1.heap.size (.deferred none)) w.heap.size (.slice ao2 em cap2) (endsL (xs.take M)) ∧ Below w.heap.size w ((W.drewN q).putObj w1.heap.size (.deferred none)) ∧ (W.drewN q).heap[w1.heap.size]? = some (.deferred (some []))) := fun q => by
      have hd : (W.drewN q).heap[w1.heap.size]? = some (.deferred (some [])) := hD
      have hoD : Only (fun j => j = w1.heap.size ∧ noInts W j) W ((W.drewN q).putObj w1.heap.size (.deferred none)) := (only_drewP _ W q).trans (only_put1 _ _ _ _ ⟨rfl, fun cs f e => by rw [hD] at e; cases e⟩) (fun _ _ h => h)
      have hp := (b2.stay hoD (fun j hj e => by have := (b4 j (by rw [hen]; exact hj)).1; omega)).read
      rw [b3, hMX] at hp
      have hq := (d2.stay hoD).base (show w.heap.size ≤ w.heap.size + 5 by omega)
      rw [hMX] at hq
      exact ⟨hp, hq, h.below.trans (hoD.below h.below.size (fun j hj e => by have := e.1; omega)), hd⟩
    clear hD b1 b2 b3 b4 b5 d1 d2 d3 hen hem h hMX hs1
    gi_wp2
    refine wpIn_wide.2 ?_
    go_quiet (fail)
    gi_wp2
    obtain ⟨q1, q2, q3, q4⟩ := HFIN.out nq
    refine ⟨by simp, .inl ⟨_, _, rfl, run_takeDeferred q4, ?_⟩⟩
    exact ⟨_, results_tmp2 (t := 4) (u := 5) rfl _ _ _, .slice ao1 en cap1, .slice ao2 em cap2, rfl, ⟨_, q1⟩, q2, q3⟩

end Go.Proofs.Ytmjkpgmmfooajaa
