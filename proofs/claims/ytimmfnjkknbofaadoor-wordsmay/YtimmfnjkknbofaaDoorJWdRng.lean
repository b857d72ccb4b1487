/- A range over a function whose loop variable lies in a block of its own, made anew in each round. No package's function. -/
import Derived.Test.YtimmfnjkknbofaaDoorJCRange
import Derived.Test.YtimmfnjkknbofaaDoorJWdCnf
namespace Go.Proofs.YtimmfnjkknbofaaDoor
set_option maxRecDepth 20000
open Go.RowKit
set_option linter.unusedVariables false

theorem wp_range10 {P : Program} {α : Type} {encs : α → Array Value} {xs : List α} {V : Nat → World → Prop} {g : Operand} {ps : Array Tmp} {assign body : Code} {Q : Exit → Act → World → Prop} {a : Act} {w : World} {gf : Nat} {lb : Array Value}
    (hg : a.eval g = .func (.func gf) #[] lb) (eg : ∀ args w, (callFunc gf args).run P w = .ok (.enter gf args) w) (hseq : Iter2 P gf lb encs xs V) (hps : ∀ x, (encs x).size = ps.size)
    (I : (Nat → Prop) → Nat → World → Prop) (Ix : (Nat → Prop) → Code → Nat → World → Prop) (hI : ∀ Y k W W', I Y k W → Only (fun j => j = w.heap.size ∨ j = w.heap.size + 1) W W' → I Y k W') (hIg : ∀ Y k W W', I Y k W → Only Y W W' → I (more Y W W') k W')
    (hIx : ∀ Y c k W W', Ix Y c k W → Only (fun j => j = w.heap.size ∨ j = w.heap.size + 1) W W' → Ix Y c k W') (hIxg : ∀ Y c k W W', Ix Y c k W → Only Y W W' → Ix (more Y W W') c k W')
    (hV : ∀ Y k W, I Y k W → V k W) (h0 : ∀ W1, Only (fun _ => False) w W1 → W1.heap.size = w.heap.size + 2 → I (fun _ => False) 0 W1) (As : α → Nat → Act → World → Prop)
    (hAsp : ∀ x n a W W', As x n a W → w.heap.size + 2 ≤ n → Only (fun j => j = w.heap.size ∨ j = w.heap.size + 1) W W' → As x n a W') (hIb : ∀ Y k W W', I Y k W → Below W.heap.size W W' → I Y k W') (hIy : ∀ Y k W, I Y k W → ∀ j, Y j → j < W.heap.size)
    (hassign : ∀ (l k : Nat) (hk : k < xs.length) (W : World) (K : Act → World → Prop), (∀ a' W1, As xs[k] W.heap.size a' W1 → Below W.heap.size W W1 → K a' W1) →
      assign.wpIn (Fence.wide.inRound l) 1 P (Exit.then K (fun _ _ _ => False)) { tmps := (ps.zip (encs xs[k])).foldl (fun t (p, v) => t.setIfInBounds p v) a.tmps, defers := [] } W)
    (hbody : ∀ (l : Nat) (Y : Nat → Prop) (k : Nat) (hk : k < xs.length) (n : Nat) (W : World) (a' : Act), (∀ j, Y j → j < n) → w.heap.size + 2 ≤ n → I Y k W → As xs[k] n a' W → body.wpIn (Fence.wide.inRound l) 1 P (rndPost2 w.heap.size Y I Ix (k + 1) W) a' W)
    (hdone : ∀ (Y : Nat → Prop) (W : World), I Y xs.length W → W.heap[w.heap.size]? = some (.deferred (some [])) → Q .normal { a with defers := { target := .collected w.heap.size, args := #[] } :: a.defers } W)
    (hstop : ∀ (Y : Nat → Prop) (c : Code) (k : Nat) (W : World), k < xs.length → Ix Y c (k + 1) W → W.heap[w.heap.size]? = some (.deferred (some [])) → c.wpIn Fence.wide 3 P Q { a with defers := { target := .collected w.heap.size, args := #[] } :: a.defers } W) :
    (Code.rangeFunc g ps assign body).wpIn Fence.wide 3 P Q a w := by
  refine wpIn_rangeFunc ?_
  intro fn hfn
  obtain ⟨rec, hrec⟩ : ∃ rec : LoopState → Option Code → Loop, rec = fun st pe => { state := st, pending := pe, fn, tmps := a.tmps, params := ps, assign, body, defers := w.heap.size } := ⟨_, rfl⟩
  obtain ⟨W1, hW1⟩ : ∃ W1, (w.alloc (.deferred (some []))).alloc (.loop (rec .ready none)) = W1 := ⟨_, rfl⟩
  have hL1 : W1.heap[w.heap.size + 1]? = some (.loop (rec .ready none)) := by
    rw [← hW1]; have := World.alloc_heap_new (w.alloc (.deferred (some []))) (.loop (rec .ready none)); rwa [World.size_alloc] at this
  have hK1 : W1.heap[w.heap.size]? = some (.deferred (some [])) := by
    rw [← hW1]; exact (Below.heap_alloc _ _ _ (by simp)).trans (World.alloc_heap_new w _)
  have hI1 : I (fun _ => False) 0 W1 := h0 W1 (by rw [← hW1]; exact ((Only.refl _ w).alloc _).alloc _) (by rw [← hW1]; simp)
  have put2 : ∀ (W : World) (o : Obj), Only (fun j => j = w.heap.size ∨ j = w.heap.size + 1) W (W.putObj (w.heap.size + 1) o) := fun W o => only_put1 W _ o _ (.inr rfl)
  refine ⟨w.heap.size + 1, [{ target := .collected w.heap.size, args := #[] }], W1, { target := .fn (.func gf) lb, args := #[.func (.yield (w.heap.size + 1)) #[] #[]] }, W1, gf,
    #[.func (.yield (w.heap.size + 1)) #[] #[]] ++ lb, W1, ?_, ?_, ?_, ?_, (fun h => by cases h), ?_⟩
  · rw [← hW1, hrec]; exact run_enterLoop_outer _ _ _ _ _
  · simp only [resolve, hg]
    simp [go_sem]
  · intro f' hf'; trivial
  · simp [invoke, go_sem, eg]
  · refine (hseq (w.heap.size + 1)
      (fun Y k W => I Y k W ∧ W.heap[w.heap.size + 1]? = some (.loop (rec .ready none)) ∧ W.heap[w.heap.size]? = some (.deferred (some [])) ∧ ¬ Y (w.heap.size + 1) ∧ ¬ Y w.heap.size)
      (fun Y k W => ∃ c, Ix Y c k W ∧ W.heap[w.heap.size + 1]? = some (.loop (rec .done (some c))) ∧ W.heap[w.heap.size]? = some (.deferred (some [])) ∧ ¬ Y (w.heap.size + 1) ∧ ¬ Y w.heap.size)
      (fun Y k W W' h ho => by
        have hlt : w.heap.size + 1 < W.heap.size := (Array.getElem?_eq_some_iff.1 h.2.1).1
        exact ⟨hIg Y k W W' h.1 ho, (ho.block _ hlt h.2.2.2.1).trans h.2.1, (ho.block _ (by omega) h.2.2.2.2).trans h.2.2.1, fun hh => hh.elim h.2.2.2.1 (fun hh => by omega), fun hh => hh.elim h.2.2.2.2 (fun hh => by omega)⟩)
      (fun Y k W W' ⟨c, h⟩ ho => by
        have hlt : w.heap.size + 1 < W.heap.size := (Array.getElem?_eq_some_iff.1 h.2.1).1
        exact ⟨c, hIxg Y c k W W' h.1 ho, (ho.block _ hlt h.2.2.2.1).trans h.2.1, (ho.block _ (by omega) h.2.2.2.2).trans h.2.2.1, fun hh => hh.elim h.2.2.2.1 (fun hh => by omega), fun hh => hh.elim h.2.2.2.2 (fun hh => by omega)⟩)
      (fun Y k W h => hV Y k W h.1) ?_ (fun _ => False) W1 ⟨hI1, hL1, hK1, fun h => h, fun h => h⟩).mono ?_
    · rintro Y k hk W ⟨hi, hl, hd, hnY, hnY2⟩
      have hlt : w.heap.size + 1 < W.heap.size := (Array.getElem?_eq_some_iff.1 hl).1
      have hy := run_yield (P := P) (args := encs xs[k]) hl (by rw [hrec]; exact hps _)
      rw [hrec] at hy
      refine ⟨fn, _, assign, body, hy, roundIn_of_wpIn trivial (hassign _ k hk W _ ?_)⟩
      intro a' Wa hAs hBa
      have hlY : ∀ j, Y j → j < W.heap.size := hIy Y k W hi
      have hia := hIb Y k W Wa hi hBa
      have hla : Wa.heap[w.heap.size + 1]? = some (.loop (rec .ready none)) := (hBa.block _ hlt).trans hl
      have hda : Wa.heap[w.heap.size]? = some (.deferred (some [])) := (hBa.block _ (by omega)).trans hd
      have hlta : w.heap.size + 1 < Wa.heap.size := (Array.getElem?_eq_some_iff.1 hla).1
      have hYa : KeepsY Y W Wa := fun j hj => hBa.block j (hlY j hj)
      have putY : ∀ (W : World) (o : Obj), KeepsY Y W (W.putObj (w.heap.size + 1) o) := fun W o j hj => World.putObj_heap_other (fun e => hnY (e ▸ hj))
      clear hy
      refine ⟨_, run_beginRound hla (by rw [hrec]), ?_⟩
      have hl2 : (Wa.putObj (w.heap.size + 1) (.loop { rec .ready none with state := .busy })).heap[w.heap.size + 1]? = some (.loop { rec .ready none with state := .busy }) := World.putObj_heap_same hlta
      have hd2 : (Wa.putObj (w.heap.size + 1) (.loop { rec .ready none with state := .busy })).heap[w.heap.size]? = some (.deferred (some [])) := (World.putObj_heap_other (by omega)).trans hda
      refine wpIn_mono (hbody _ Y k hk W.heap.size _ a' hlY (by omega) (hI Y k _ _ hia (put2 Wa _)) (hAsp _ _ _ _ _ hAs (by omega) (put2 Wa _))) ?_
      have fin : ∀ (jump : Option Code) (W3 : World), Keeps2 w.heap.size (Wa.putObj (w.heap.size + 1) (.loop { rec .ready none with state := .busy })) W3 →
          (Instr.endRound (w.heap.size + 1) jump).run P W3 = .ok (.bool jump.isNone) (W3.putObj (w.heap.size + 1) (.loop (rec (if jump.isNone then .ready else .done) jump))) ∧
          (W3.putObj (w.heap.size + 1) (.loop (rec (if jump.isNone then .ready else .done) jump))).heap[w.heap.size + 1]? = some (.loop (rec (if jump.isNone then .ready else .done) jump)) ∧
          (W3.putObj (w.heap.size + 1) (.loop (rec (if jump.isNone then .ready else .done) jump))).heap[w.heap.size]? = some (.deferred (some [])) := fun jump W3 hk3 => by
        have hl3 := hk3 _ (.inr rfl) _ hl2
        have := run_endRound (P := P) jump hl3
        rw [hrec] at this ⊢
        exact ⟨this, World.putObj_heap_same (Array.getElem?_eq_some_iff.1 hl3).1, (World.putObj_heap_other (by omega)).trans (hk3 _ (.inl rfl) _ hd2)⟩
      rintro e a3 W3 hp
      cases e with
      | normal =>
        obtain ⟨hk3, hy3, hi3⟩ := hp
        obtain ⟨hr, hl4, hk4⟩ := fin none W3 hk3
        exact ⟨_, _, hr, .inl ⟨rfl, ⟨hI _ _ _ _ hi3 (put2 W3 _), hl4, hk4, hnY, hnY2⟩, (hYa.trans ((putY Wa _).trans hy3)).trans (putY W3 _)⟩⟩
      | ret =>
        obtain ⟨hk3, hy3, hi3⟩ := hp
        obtain ⟨hr, hl4, hk4⟩ := fin (some .ret) W3 hk3
        exact ⟨_, _, hr, .inr ⟨rfl, ⟨.ret, hIx _ _ _ _ _ hi3 (put2 W3 _), hl4, hk4, hnY, hnY2⟩, (hYa.trans ((putY Wa _).trans hy3)).trans (putY W3 _)⟩⟩
      | exit id =>
        obtain ⟨hk3, hy3, hi3⟩ := hp
        obtain ⟨hr, hl4, hk4⟩ := fin (some (.exit id)) W3 hk3
        exact ⟨_, _, hr, .inr ⟨rfl, ⟨.exit id, hIx _ _ _ _ _ hi3 (put2 W3 _), hl4, hk4, hnY, hnY2⟩, (hYa.trans ((putY Wa _).trans hy3)).trans (putY W3 _)⟩⟩
      | goto t => exact hp.elim
      | panic ch => exact hp.elim
      | outgrown => exact hp.elim
    · rintro e W2 ⟨⟨v, rfl⟩, Y', (⟨hi, hl, hk, _⟩ | ⟨k, hk', c, hi, hl, hk, _⟩)⟩
      · exact ⟨none, _, by have := run_endLoop (P := P) hl (by rw [hrec]; simp); rw [hrec] at this; exact this, hdone _ _ (hI _ _ _ _ hi (put2 W2 _)) ((World.putObj_heap_other (by omega)).trans hk)⟩
      · exact ⟨some c, _, by have := run_endLoop (P := P) hl (by rw [hrec]; simp); rw [hrec] at this; exact this, hstop _ c k _ hk' (hIx _ _ _ _ _ hi (put2 W2 _)) ((World.putObj_heap_other (by omega)).trans hk)⟩


end Go.Proofs.YtimmfnjkknbofaaDoor
/- Contracts: slices.AppendSeq, Collect at tokens, and the law's told, over whatever iterator. -/
namespace Go.Proofs.YtimmfnjkknbofaaDoor
set_option maxRecDepth 20000
open Go.RowKit Go.Shelf
set_option linter.unusedVariables false
set_option linter.unusedSimpArgs false
set_option maxRecDepth 100000
attribute [local go_sem] Oper.semAt_some

theorem wpListIn_append_runK {F : Fence} {n : Nat} {P : Program} (w : World) {ops : Array Oper} {rest : List Oper} {o : Oper} {a : Act} {Q : Exit → Act → World → Prop} (hg : o.guard = none) (s x : Operand) (t : TypeId)
    (hop : o.op = .call { callee := .builtin .append, args := #[s, x], argTypes := #[t, t] }) (v y : Value) (hs : a.eval s = v) (hx : a.eval x = y) (v' : Value) (w' : World)
    (hr : (Builtin.append_ #[t, t] o.type #[v, y]).run P w = .ok v' w') (h : wpListIn F n P ops Q rest (a.put o.dst v') w') : wpListIn F n P ops Q (o :: rest) a w := by
  refine wpListIn_plain hg fun K hK' => ?_
  unfold Oper.wpIn
  refine ⟨?_, ?_⟩
  · simp [Oper.about, hop, resolve, Target.leads, Sem.run_pure]
  · rw [Oper.semAt_plain F _ _ (by rw [hop]; intro c hc'; cases hc')]
    simp [execOp, hop, resolve, invoke, builtin, hs, hx, hr, Result.andThen]
    exact hK' _ _ h

abbrev encT : Tk → Array Value := fun x => #[.agg #[.string (strOfNums x.1), .int .i64 (x.2 : Int)]]
/-- a round's own token -/
def TokAt (x : Tk) (n g : Nat) (W : World) : Prop := n ≤ g ∧ Blk W g 48 [.string (strOfNums x.1), .int .i64 (x.2 : Int)]
theorem TokAt.only {x : Tk} {n g : Nat} {W W' : World} {S : Nat → Prop} (h : TokAt x n g W) (ho : Only S W W') (hS : ¬ S g) : TokAt x n g W' := ⟨h.1, h.2.only ho hS⟩
theorem take_snocK {α : Type} (l : List α) (k : Nat) (hk : k < l.length) : l.take (k + 1) = l.take k ++ [l[k]] := List.take_succ_eq_append_getElem hk

structure ApT (w : World) (xs : List Tk) (Y : Nat → Prop) (k : Nat) (W : World) : Prop where
  box : ∃ v, Blk W w.heap.size 46 [v] ∧ TkO W w.heap.size v (xs.take k) ∧ ∀ j, v.ownBlock = some j → w.heap.size + 3 ≤ j ∧ ¬ Y j
  below : Below w.heap.size w W
  size : w.heap.size + 3 ≤ W.heap.size
  ys : ∀ j, Y j → w.heap.size + 3 ≤ j ∧ j < W.heap.size

theorem ApT.keep {w : World} {xs : List Tk} {Y : Nat → Prop} {k : Nat} {W W' : World} (h : ApT w xs Y k W) (ho : Only (fun j => j = w.heap.size + 1 ∨ j = w.heap.size + 1 + 1) W W') : ApT w xs Y k W' := by
  obtain ⟨v, h1, h2, h3⟩ := h.box
  exact ⟨⟨v, h1.only ho (by omega), h2.only ho (fun j hj e => by have := (h3 j hj).1; omega), h3⟩, h.below.trans (ho.below h.below.size (fun j hj e => by omega)), Nat.le_trans h.size ho.size, fun j hj => ⟨(h.ys j hj).1, Nat.lt_of_lt_of_le (h.ys j hj).2 ho.size⟩⟩
theorem ApT.fresh {w : World} {xs : List Tk} {Y : Nat → Prop} {k : Nat} {W W' : World} (h : ApT w xs Y k W) (hb : Below W.heap.size W W') : ApT w xs Y k W' := by
  obtain ⟨v, h1, h2, h3⟩ := h.box
  have ho : Only (fun _ => False) W W' := Only.of_below _ hb
  exact ⟨⟨v, h1.only ho (fun h => h), h2.only ho (fun _ _ h => h), h3⟩, h.below.trans (hb.mono h.below.size), Nat.le_trans h.size hb.size, fun j hj => ⟨(h.ys j hj).1, Nat.lt_of_lt_of_le (h.ys j hj).2 hb.size⟩⟩
theorem ApT.grow {w : World} {xs : List Tk} {Y : Nat → Prop} {k : Nat} {W W' : World} (h : ApT w xs Y k W) (ho : Only Y W W') : ApT w xs (more Y W W') k W' := by
  obtain ⟨v, h1, h2, h3⟩ := h.box
  have hs := h.size
  have hy := h.ys
  refine ⟨⟨v, h1.only ho (fun e => by have := (hy _ e).1; omega), h2.only ho (fun j hj e => (h3 j hj).2 e), fun j hj => ⟨(h3 j hj).1, fun hy => hy.elim (h3 j hj).2 (fun hy => by have := (h2.lt j hj).2; omega)⟩⟩, h.below.trans (ho.below h.below.size (fun j hj e => by have := (hy _ e).1; omega)), Nat.le_trans h.size ho.size, fun j hj => ?_⟩
  rcases hj with hj | hj
  · exact ⟨(hy j hj).1, Nat.lt_of_lt_of_le (hy j hj).2 ho.size⟩
  · exact ⟨by omega, hj.2⟩

set_option maxHeartbeats 2000000 in
theorem appendSeqT_any (w : World) (gf : Nat) (lb : Array Value) (xs : List Tk) (V : Nat → World → Prop) (eg : ∀ args w, (callFunc gf args).run Tryd.prog w = .ok (.enter gf args) w) (hit : Iter2 Tryd.prog gf lb encT xs V) (hV : ∀ k W', Only (fun _ => False) w W' → V k W') (hl : xs.length ≤ 1000000) :
    Calls Tryd.prog 77 #[.slice none 0 0, .func (.func gf) #[] lb] w fun e w' => ∃ v, e = .returned v ∧ TkO w' w.heap.size v xs ∧ Below w.heap.size w w' := by
  refine (callsIn_wide (n := 3)).1 ?_
  refine callsIn_of_wp_marks Tryd.func77 rfl trivial ?_ rfl
  simp only [Tryd.ntmps77, List.size_toArray, List.length_cons, List.length_nil, Nat.reduceAdd, Nat.reduceSub, Array.replicate_succ, Array.replicate_zero, List.push_toArray, List.append_toArray, List.nil_append, List.cons_append]
  gi_wp2
  obtain ⟨w1, hw1⟩ : ∃ w1, w.alloc (.cells #[.slice none 0 0] 46) = w1 := ⟨_, rfl⟩
  have hs1 : w1.heap.size = w.heap.size + 1 := by rw [← hw1]; simp
  have hB1 : Blk w1 w.heap.size 46 [.slice none 0 0] := by rw [← hw1]; exact Blk.new w _ _
  have hb1 : Below w.heap.size w w1 := by rw [← hw1]; exact (Below.refl _ w).alloc (Nat.le_refl _) _
  rw [hw1]
  refine wp_range10 (gf := gf) (lb := lb) (xs := xs) (encs := encT) (V := V) rfl eg hit (fun _ => rfl) (ApT w xs) (fun _ _ _ _ => False) ?_ (fun Y k W W' h hb => h.grow hb) (fun _ _ _ _ _ h _ => h) (fun _ _ _ _ _ h _ => h) ?_ ?_
    (fun x n a' W => ∃ g, TokAt x n g W ∧ a' = { tmps := #[.slice none 0 0, .func (.func gf) #[] lb, .pointer (some ⟨w.heap.size, 0, none⟩), undef, .slice none 0 0, .pointer (some ⟨g, 0, none⟩), .func (.func gf) #[] lb, .agg #[.string (strOfNums x.1), .int .i64 (x.2 : Int)], undef, undef, undef, undef, undef], defers := [] })
    ?_ (fun Y k W W' h hb => h.fresh hb) (fun Y k W h j hj => (h.ys j hj).2) ?assign ?body ?done (fun _ _ _ _ _ h _ => h.elim)
  · intro Y k W W' h ho
    exact h.keep (by rw [hs1] at ho; exact ho)
  · intro Y k W h
    exact hV k W (Only.of_below _ h.below)
  · intro W1 ho hs
    refine ⟨⟨_, hB1.only ho (fun h => h), by rw [List.take_zero]; exact TkO.nil _ _, (fun j hj => by cases hj)⟩, hb1.trans ((ho.below (Nat.le_refl _) (fun _ _ h => h)).mono (by omega)), by omega, (fun _ h => h.elim)⟩
  · rintro x n a' W W' ⟨g, hg, rfl⟩ hn ho
    exact ⟨g, hg.only ho (by have := hg.1; omega), rfl⟩
  case assign =>
    intro l k hk W K hK
    gi_wp2
    exact hK _ _ ⟨_, ⟨Nat.le_refl _, Blk.new W _ _⟩, rfl⟩ ((Below.refl _ W).alloc (Nat.le_refl _) _)
  case body =>
    rintro l Y k hk n W _ hYn hn2 h ⟨g, hg, rfl⟩
    have HYS := hide h.ys
    obtain ⟨x, hx⟩ : ∃ x, xs[k] = x := ⟨_, rfl⟩
    rw [hx] at hg ⊢
    obtain ⟨⟨v, h1, h2, h3⟩, h4, h5, _⟩ := h
    have hle : (xs.take k).length = k := by simp; omega
    have c0 : W.cell? ⟨w.heap.size, 0, none⟩ = some v := h1.cell 0
    have f0 := h1.frozen 0
    have g0 : W.cell? ⟨g, 0, none⟩ = some (.string (strOfNums x.1)) := hg.2.cell 0
    have g1 : W.cell? ⟨g, 1, none⟩ = some (.int .i64 (x.2 : Int)) := hg.2.cell 1
    obtain ⟨v2, w3, hr, hi2, hg2, hv2, ao2, cap2, rfl⟩ := push_tok W w.heap.size v _ h2 x (by omega) (by omega)
    obtain ⟨W2, hW2⟩ : ∃ W2, W.alloc (.cells #[.string (strOfNums x.1), .int .i64 (x.2 : Int)] 48) = W2 := ⟨_, rfl⟩
    rw [hW2] at hg2
    have hoW2 : Only (fun _ => False) W W2 := by rw [← hW2]; exact (Only.refl _ W).alloc _
    have hB2 : Blk w3 w.heap.size 46 [v] := (hg2.block _ (by have := hoW2.size; omega) (fun e => by have := (h3 _ e.symm).1; omega)).trans (h1.only hoW2 (fun h => h))
    have c2 : w3.cell? ⟨w.heap.size, 0, none⟩ = some v := hB2.cell 0
    have f2 := hB2.frozen 0
    obtain ⟨ao1, cap1, hv1⟩ := h2.shape
    have hoA : Only (fun j => v.ownBlock = some j) W w3 := (hoW2.mono (fun _ _ h => h.elim)).grown hg2 (fun j e _ => e)
    have HOA := hide hoA
    have HR := hide hr
    have HI2 := hide hi2
    have HV2 := hide hv2
    have HB2 := hide hB2
    have H3 := hide h3
    have H4 := hide h4
    have HX := hide hx
    rw [hle] at hv1 HR HI2 HV2
    subst hv1
    generalize strOfNums x.1 = s at *
    clear hr hi2 hg2 hv2 hB2 h1 h2 h3 h4 hx hW2 hoW2 hoA hle
    gi_wp2_with (first
      | (gi_at_builtin; (with_reducible refine wpListIn_append_runK _ rfl (.tmp 8) (.tmp 10) 46 rfl _ _ ?_ ?_ _ _ HR.out ?_); exact rfl; exact rfl; clear HR))
    have hoA := HOA.out
    have hoB : Only (· = w.heap.size) w3 (w3.setCell ⟨w.heap.size, 0, none⟩ (.slice ao2 (k + 1) cap2)) := (Only.refl (· = w.heap.size) w3).setCell ⟨w.heap.size, 0, none⟩ _ (fun _ => rfl)
    have hv3 : ∀ j, (Value.slice ao2 (k + 1) cap2).ownBlock = some j → w.heap.size + 3 ≤ j ∧ ¬ Y j := fun j hj => by
      rcases HV2.out with e | e
      · exact H3.out j (e ▸ hj)
      · rw [e] at hj
        have := Option.some.inj hj
        exact ⟨by omega, fun hy => by have := (HYS.out j hy).2; omega⟩
    refine ⟨?_, ?_, ⟨⟨_, HB2.out.set 0 _, ?_, hv3⟩, ?_, ?_, ?_⟩⟩
    · rw [hs1]
      refine (Keeps2.of_only hoA ?_ ?_).trans (Keeps2.of_only hoB (by omega) (by omega))
      · intro e; have := (H3.out _ e).1; omega
      · intro e; have := (H3.out _ e).1; omega
    · intro j hj
      have hjs := HYS.out j hj
      exact (hoB.block j (by have := hoA.size; omega) (by omega)).trans (hoA.block j hjs.2 (fun e => (H3.out j e).2 hj))
    · rw [take_snocK xs k hk, HX.out]
      exact HI2.out.only hoB (fun j hj e => by have := (hv3 j hj).1; omega)
    · refine (H4.out.trans (hoA.below (by omega) (fun j hj e => by have := (H3.out j e).1; omega))).trans (hoB.below (by have := hoA.size; omega) (fun j hj e => by omega))
    · have := hoA.size
      have := hoB.size
      omega
    · intro j hj
      have := hoA.size
      have := hoB.size
      have hjs := HYS.out j hj
      exact ⟨hjs.1, by omega⟩
  case done =>
    intro Y W h hD
    obtain ⟨⟨v, h1, h2, h3⟩, h4, h5, _⟩ := h
    have c0 : W.cell? ⟨w.heap.size, 0, none⟩ = some v := h1.cell 0
    rw [List.take_of_length_le (Nat.le_refl _)] at h2
    obtain ⟨ao1, cap1, hv1⟩ := h2.shape
    have H2 := hide h2
    have H3 := hide h3
    have H4 := hide h4
    have HD := hide hD
    generalize hq1 : xs.length = n1 at hv1
    subst hv1
    clear h1 h2 h3 h4 hD hq1
    gi_wp2
    refine ⟨by simp, .inl ⟨_, _, rfl, run_takeDeferred HD.out, ?_⟩⟩
    have hoD : Only (· = w1.heap.size) W (W.putObj w1.heap.size (.deferred none)) := only_put1 W _ _ _ rfl
    exact ⟨_, results_tmp (t := 4) rfl _ _ _, .slice ao1 n1 cap1, rfl, H2.out.only hoD (fun j hj e => by have := (H3.out j hj).1; omega), H4.out.trans (hoD.below (by omega) (fun j hj e => by omega))⟩

theorem collectT_any (w : World) (gf : Nat) (lb : Array Value) (xs : List Tk) (V : Nat → World → Prop) (eg : ∀ args w, (callFunc gf args).run Tryd.prog w = .ok (.enter gf args) w) (hit : Iter2 Tryd.prog gf lb encT xs V) (hV : ∀ k W', Only (fun _ => False) w W' → V k W') (hl : xs.length ≤ 1000000) :
    Calls Tryd.prog 52 #[.func (.func gf) #[] lb] w fun e w' => ∃ v, e = .returned v ∧ TkO w' w.heap.size v xs ∧ Below w.heap.size w w' := by
  have HA := hide (appendSeqT_any w gf lb xs V eg hit hV hl)
  clear hit hV eg
  go_enter Tryd.func52, Tryd.ntmps52
  go_wp2_with (go_at_call 77; refine HA.out.mono ?_; rintro e w1 ⟨v1, rfl, hi1, hb1⟩; have HI := hide hi1; have HB := hide hb1; clear HA hi1 hb1)
  go_ret
  exact ⟨_, rfl, HI.out, HB.out⟩

end Go.Proofs.YtimmfnjkknbofaaDoor
