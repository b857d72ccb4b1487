/- A range over a function that makes blocks without cells alone ('Iter4'): one law for the loop. No package's function. -/
import Derived.Test.YtimmfnjkknbofaaDoorJCRange
namespace Go.Proofs.YtimmfnjkknbofaaDoor
set_option maxRecDepth 20000
open Go.RowKit
set_option linter.unusedVariables false

/-- the blocks of Y are there, and hold no cells -/
def allNo (Y : Nat → Prop) (W : World) : Prop := ∀ j, Y j → j < W.heap.size ∧ ∀ cs t f, W.heap[j]? ≠ some (.cells cs t f)
theorem allNo.keep {Y : Nat → Prop} {W W' : World} (h : allNo Y W) (hk : KeepsY Y W W') : allNo Y W' := fun j hj => by
  obtain ⟨h1, h2⟩ := h j hj
  have he := hk j hj
  refine ⟨?_, fun cs t f e => h2 cs t f (he.symm.trans e)⟩
  have hs : W.heap[j]? = some W.heap[j] := by simp [h1]
  exact (Array.getElem?_eq_some_iff.1 (he.trans hs)).1
/-- as Iter2; what the iterator makes holds no cells -/
def Iter4 {α : Type} (P : Program) (g : Nat) (lb : Array Value) (encs : α → Array Value) (xs : List α) (V : Nat → World → Prop) : Prop :=
  ∀ (l : Nat) (J Jx : (Nat → Prop) → Nat → World → Prop), (∀ Y k W W', J Y k W → Only Y W W' → allNo (more Y W W') W' → J (more Y W W') k W') → (∀ Y k W W', Jx Y k W → Only Y W W' → allNo (more Y W W') W' → Jx (more Y W W') k W') → (∀ Y k W, J Y k W → V k W) →
    (∀ Y k (hk : k < xs.length) W, J Y k W → YieldAt Fence.wide 1 P l (encs xs[k]) W fun e W' => (e = .returned (.bool true) ∧ J Y (k + 1) W' ∧ KeepsY Y W W') ∨ (e = .returned (.bool false) ∧ Jx Y (k + 1) W' ∧ KeepsY Y W W')) →
    ∀ Y W, J Y 0 W → allNo Y W → CallsIn Fence.wide 2 P g (#[.func (.yield l) #[] #[]] ++ lb) W fun e W' => (∃ v, e = .returned v) ∧ ∃ Y', (J Y' xs.length W' ∨ ∃ k, k < xs.length ∧ Jx Y' (k + 1) W')

theorem wp_range8 {P : Program} {α : Type} {encs : α → Array Value} {xs : List α} {V : Nat → World → Prop} {g : Operand} {ps : Array Tmp} {assign body : Code} {Q : Exit → Act → World → Prop} {a : Act} {w : World} {gf : Nat} {lb : Array Value}
    (hg : a.eval g = .func (.func gf) #[] lb) (eg : ∀ args w, (callFunc gf args).run P w = .ok (.enter gf args) w) (hseq : Iter4 P gf lb encs xs V) (hps : ∀ x, (encs x).size = ps.size)
    (I : (Nat → Prop) → Nat → World → Prop) (Ix : (Nat → Prop) → Code → Nat → World → Prop) (hI : ∀ Y k W W', I Y k W → Only (fun j => j = w.heap.size ∨ j = w.heap.size + 1) W W' → I Y k W') (hIg : ∀ Y k W W', I Y k W → Only Y W W' → allNo (more Y W W') W' → I (more Y W W') k W')
    (hIx : ∀ Y c k W W', Ix Y c k W → Only (fun j => j = w.heap.size ∨ j = w.heap.size + 1) W W' → Ix Y c k W') (hIxg : ∀ Y c k W W', Ix Y c k W → Only Y W W' → allNo (more Y W W') W' → Ix (more Y W W') c k W')
    (hV : ∀ Y k W, I Y k W → V k W) (h0 : ∀ W1, Only (fun _ => False) w W1 → W1.heap.size = w.heap.size + 2 → I (fun _ => False) 0 W1) (a₁ : α → Act)
    (hassign : ∀ (l k : Nat) (hk : k < xs.length) (W : World) (K : Act → World → Prop), K (a₁ xs[k]) W →
      assign.wpIn (Fence.wide.inRound l) 1 P (Exit.then K (fun _ _ _ => False)) { tmps := (ps.zip (encs xs[k])).foldl (fun t (p, v) => t.setIfInBounds p v) a.tmps, defers := [] } W)
    (hbody : ∀ (l : Nat) (Y : Nat → Prop) (k : Nat) (hk : k < xs.length) (W : World), I Y k W → body.wpIn (Fence.wide.inRound l) 1 P (rndPost2 w.heap.size Y I Ix (k + 1) W) (a₁ xs[k]) W)
    (hdone : ∀ (Y : Nat → Prop) (W : World), I Y xs.length W → W.heap[w.heap.size]? = some (.deferred (some [])) → Q .normal { a with defers := { target := .collected w.heap.size, args := #[] } :: a.defers } W)
    (hstop : ∀ (Y : Nat → Prop) (c : Code) (k : Nat) (W : World), k < xs.length → Ix Y c (k + 1) W → W.heap[w.heap.size]? = some (.deferred (some [])) → c.wpIn Fence.wide 3 P Q { a with defers := { target := .collected w.heap.size, args := #[] } :: a.defers } W) :
    (Code.rangeFunc g ps assign body).wpIn Fence.wide 3 P Q a w := by
  refine wpIn_rangeFunc ?_
  intro fn hfn
  obtain ⟨rec, hrec⟩ : ∃ rec : LoopState → Option Code → Loop, rec = fun st pe => { state := st, pending := pe, fn, tmps := a.tmps, params := ps, assign, body, defers := w.heap.size } := ⟨_, rfl⟩
  obtain ⟨W1, hW1⟩ : ∃ W1, (w.alloc (.deferred (some []))).alloc (.loop (rec .ready none)) = W1 := ⟨_, rfl⟩
  have hL1 : W1.heap[w.heap.size + 1]? = some (.loop (rec .ready none)) := by
    rw [← hW1]; have := World.alloc_heap_new (w.alloc (.deferred (some []))) (.loop (rec .ready none)); rwa [World.size_alloc] at this
  have hK1 : W1.heap[w.heap.size]? = some (.deferred (some [])) := by
    rw [← hW1]; exact (Below.heap_alloc _ _ _ (by simp)).trans (World.alloc_heap_new w _)
  have hI1 : I (fun _ => False) 0 W1 := h0 W1 (by rw [← hW1]; exact ((Only.refl _ w).alloc _).alloc _) (by rw [← hW1]; simp)
  have put2 : ∀ (W : World) (o : Obj), Only (fun j => j = w.heap.size ∨ j = w.heap.size + 1) W (W.putObj (w.heap.size + 1) o) := fun W o => only_put1 W _ o _ (.inr rfl)
  refine ⟨w.heap.size + 1, [{ target := .collected w.heap.size, args := #[] }], W1, { target := .fn (.func gf) lb, args := #[.func (.yield (w.heap.size + 1)) #[] #[]] }, W1, gf,
    #[.func (.yield (w.heap.size + 1)) #[] #[]] ++ lb, W1, ?_, ?_, ?_, ?_, (fun h => by cases h), ?_⟩
  · rw [← hW1, hrec]; exact run_enterLoop_outer _ _ _ _ _
  · simp only [resolve, hg]
    simp [go_sem]
  · intro f' hf'; trivial
  · simp [invoke, go_sem, eg]
  · refine (hseq (w.heap.size + 1)
      (fun Y k W => I Y k W ∧ W.heap[w.heap.size + 1]? = some (.loop (rec .ready none)) ∧ W.heap[w.heap.size]? = some (.deferred (some [])) ∧ ¬ Y (w.heap.size + 1) ∧ ¬ Y w.heap.size)
      (fun Y k W => ∃ c, Ix Y c k W ∧ W.heap[w.heap.size + 1]? = some (.loop (rec .done (some c))) ∧ W.heap[w.heap.size]? = some (.deferred (some [])) ∧ ¬ Y (w.heap.size + 1) ∧ ¬ Y w.heap.size)
      (fun Y k W W' h ho hno => by
        have hlt : w.heap.size + 1 < W.heap.size := (Array.getElem?_eq_some_iff.1 h.2.1).1
        exact ⟨hIg Y k W W' h.1 ho hno, (ho.block _ hlt h.2.2.2.1).trans h.2.1, (ho.block _ (by omega) h.2.2.2.2).trans h.2.2.1, fun hh => hh.elim h.2.2.2.1 (fun hh => by omega), fun hh => hh.elim h.2.2.2.2 (fun hh => by omega)⟩)
      (fun Y k W W' ⟨c, h⟩ ho hno => by
        have hlt : w.heap.size + 1 < W.heap.size := (Array.getElem?_eq_some_iff.1 h.2.1).1
        exact ⟨c, hIxg Y c k W W' h.1 ho hno, (ho.block _ hlt h.2.2.2.1).trans h.2.1, (ho.block _ (by omega) h.2.2.2.2).trans h.2.2.1, fun hh => hh.elim h.2.2.2.1 (fun hh => by omega), fun hh => hh.elim h.2.2.2.2 (fun hh => by omega)⟩)
      (fun Y k W h => hV Y k W h.1) ?_ (fun _ => False) W1 ⟨hI1, hL1, hK1, fun h => h, fun h => h⟩ (fun _ h => h.elim)).mono ?_
    · rintro Y k hk W ⟨hi, hl, hd, hnY, hnY2⟩
      have hlt : w.heap.size + 1 < W.heap.size := (Array.getElem?_eq_some_iff.1 hl).1
      have hy := run_yield (P := P) (args := encs xs[k]) hl (by rw [hrec]; exact hps _)
      rw [hrec] at hy
      refine ⟨fn, _, assign, body, hy, roundIn_of_wpIn trivial (hassign _ k hk W _ ?_)⟩
      have putY : ∀ (W : World) (o : Obj), KeepsY Y W (W.putObj (w.heap.size + 1) o) := fun W o j hj => World.putObj_heap_other (fun e => hnY (e ▸ hj))
      clear hy
      refine ⟨_, run_beginRound hl (by rw [hrec]), ?_⟩
      have hl2 : (W.putObj (w.heap.size + 1) (.loop { rec .ready none with state := .busy })).heap[w.heap.size + 1]? = some (.loop { rec .ready none with state := .busy }) := World.putObj_heap_same hlt
      have hd2 : (W.putObj (w.heap.size + 1) (.loop { rec .ready none with state := .busy })).heap[w.heap.size]? = some (.deferred (some [])) := (World.putObj_heap_other (by omega)).trans hd
      refine wpIn_mono (hbody _ Y k hk _ (hI Y k _ _ hi (put2 W _))) ?_
      have fin : ∀ (jump : Option Code) (W3 : World), Keeps2 w.heap.size (W.putObj (w.heap.size + 1) (.loop { rec .ready none with state := .busy })) W3 →
          (Instr.endRound (w.heap.size + 1) jump).run P W3 = .ok (.bool jump.isNone) (W3.putObj (w.heap.size + 1) (.loop (rec (if jump.isNone then .ready else .done) jump))) ∧
          (W3.putObj (w.heap.size + 1) (.loop (rec (if jump.isNone then .ready else .done) jump))).heap[w.heap.size + 1]? = some (.loop (rec (if jump.isNone then .ready else .done) jump)) ∧
          (W3.putObj (w.heap.size + 1) (.loop (rec (if jump.isNone then .ready else .done) jump))).heap[w.heap.size]? = some (.deferred (some [])) := fun jump W3 hk3 => by
        have hl3 := hk3 _ (.inr rfl) _ hl2
        have := run_endRound (P := P) jump hl3
        rw [hrec] at this ⊢
        exact ⟨this, World.putObj_heap_same (Array.getElem?_eq_some_iff.1 hl3).1, (World.putObj_heap_other (by omega)).trans (hk3 _ (.inl rfl) _ hd2)⟩
      rintro e a3 W3 hp
      cases e with
      | normal =>
        obtain ⟨hk3, hy3, hi3⟩ := hp
        obtain ⟨hr, hl4, hk4⟩ := fin none W3 hk3
        exact ⟨_, _, hr, .inl ⟨rfl, ⟨hI _ _ _ _ hi3 (put2 W3 _), hl4, hk4, hnY, hnY2⟩, ((putY W _).trans hy3).trans (putY W3 _)⟩⟩
      | ret =>
        obtain ⟨hk3, hy3, hi3⟩ := hp
        obtain ⟨hr, hl4, hk4⟩ := fin (some .ret) W3 hk3
        exact ⟨_, _, hr, .inr ⟨rfl, ⟨.ret, hIx _ _ _ _ _ hi3 (put2 W3 _), hl4, hk4, hnY, hnY2⟩, ((putY W _).trans hy3).trans (putY W3 _)⟩⟩
      | exit id =>
        obtain ⟨hk3, hy3, hi3⟩ := hp
        obtain ⟨hr, hl4, hk4⟩ := fin (some (.exit id)) W3 hk3
        exact ⟨_, _, hr, .inr ⟨rfl, ⟨.exit id, hIx _ _ _ _ _ hi3 (put2 W3 _), hl4, hk4, hnY, hnY2⟩, ((putY W _).trans hy3).trans (putY W3 _)⟩⟩
      | goto t => exact hp.elim
      | panic ch => exact hp.elim
      | outgrown => exact hp.elim
    · rintro e W2 ⟨⟨v, rfl⟩, Y', (⟨hi, hl, hk, _⟩ | ⟨k, hk', c, hi, hl, hk, _⟩)⟩
      · exact ⟨none, _, by have := run_endLoop (P := P) hl (by rw [hrec]; simp); rw [hrec] at this; exact this, hdone _ _ (hI _ _ _ _ hi (put2 W2 _)) ((World.putObj_heap_other (by omega)).trans hk)⟩
      · exact ⟨some c, _, by have := run_endLoop (P := P) hl (by rw [hrec]; simp); rw [hrec] at this; exact this, hstop _ c k _ hk' (hIx _ _ _ _ _ hi (put2 W2 _)) ((World.putObj_heap_other (by omega)).trans hk)⟩

end Go.Proofs.YtimmfnjkknbofaaDoor
/- A range over a function, as FRange has it; what holds between two rounds may lean on the loop's own two blocks holding no cells. No package's function. -/
namespace Go.Proofs.YtimmfnjkknbofaaDoor
set_option maxRecDepth 20000
open Go.RowKit
set_option linter.unusedVariables false

/-- a block that holds no cells -/
def noC (W : World) (j : Nat) : Prop := ∀ cs t f, W.heap[j]? ≠ some (.cells cs t f)

theorem wp_range9 {P : Program} {α : Type} {encs : α → Array Value} {xs : List α} {V : Nat → World → Prop} {g : Operand} {ps : Array Tmp} {assign body : Code} {Q : Exit → Act → World → Prop} {a : Act} {w : World} {gf : Nat} {lb : Array Value}
    (hg : a.eval g = .func (.func gf) #[] lb) (eg : ∀ args w, (callFunc gf args).run P w = .ok (.enter gf args) w) (hseq : Iter4 P gf lb encs xs V) (hps : ∀ x, (encs x).size = ps.size)
    (I : (Nat → Prop) → Nat → World → Prop) (Ix : (Nat → Prop) → Code → Nat → World → Prop) (hI : ∀ Y k W W', I Y k W → Only (fun j => j = w.heap.size ∨ j = w.heap.size + 1) W W' → noC W' w.heap.size → noC W' (w.heap.size + 1) → I Y k W') (hIg : ∀ Y k W W', I Y k W → Only Y W W' → allNo (more Y W W') W' → I (more Y W W') k W')
    (hIx : ∀ Y c k W W', Ix Y c k W → Only (fun j => j = w.heap.size ∨ j = w.heap.size + 1) W W' → Ix Y c k W') (hIxg : ∀ Y c k W W', Ix Y c k W → Only Y W W' → allNo (more Y W W') W' → Ix (more Y W W') c k W')
    (hV : ∀ Y k W, I Y k W → V k W) (h0 : ∀ W1, Only (fun _ => False) w W1 → W1.heap.size = w.heap.size + 2 → noC W1 w.heap.size → noC W1 (w.heap.size + 1) → I (fun _ => False) 0 W1) (a₁ : α → Act)
    (hassign : ∀ (l k : Nat) (hk : k < xs.length) (W : World) (K : Act → World → Prop), K (a₁ xs[k]) W →
      assign.wpIn (Fence.wide.inRound l) 1 P (Exit.then K (fun _ _ _ => False)) { tmps := (ps.zip (encs xs[k])).foldl (fun t (p, v) => t.setIfInBounds p v) a.tmps, defers := [] } W)
    (hbody : ∀ (l : Nat) (Y : Nat → Prop) (k : Nat) (hk : k < xs.length) (W : World), I Y k W → body.wpIn (Fence.wide.inRound l) 1 P (rndPost2 w.heap.size Y I Ix (k + 1) W) (a₁ xs[k]) W)
    (hdone : ∀ (Y : Nat → Prop) (W : World), I Y xs.length W → W.heap[w.heap.size]? = some (.deferred (some [])) → Q .normal { a with defers := { target := .collected w.heap.size, args := #[] } :: a.defers } W)
    (hstop : ∀ (Y : Nat → Prop) (c : Code) (k : Nat) (W : World), k < xs.length → Ix Y c (k + 1) W → W.heap[w.heap.size]? = some (.deferred (some [])) → c.wpIn Fence.wide 3 P Q { a with defers := { target := .collected w.heap.size, args := #[] } :: a.defers } W) :
    (Code.rangeFunc g ps assign body).wpIn Fence.wide 3 P Q a w := by
  refine wpIn_rangeFunc ?_
  intro fn hfn
  obtain ⟨rec, hrec⟩ : ∃ rec : LoopState → Option Code → Loop, rec = fun st pe => { state := st, pending := pe, fn, tmps := a.tmps, params := ps, assign, body, defers := w.heap.size } := ⟨_, rfl⟩
  obtain ⟨W1, hW1⟩ : ∃ W1, (w.alloc (.deferred (some []))).alloc (.loop (rec .ready none)) = W1 := ⟨_, rfl⟩
  have hL1 : W1.heap[w.heap.size + 1]? = some (.loop (rec .ready none)) := by
    rw [← hW1]; have := World.alloc_heap_new (w.alloc (.deferred (some []))) (.loop (rec .ready none)); rwa [World.size_alloc] at this
  have hK1 : W1.heap[w.heap.size]? = some (.deferred (some [])) := by
    rw [← hW1]; exact (Below.heap_alloc _ _ _ (by simp)).trans (World.alloc_heap_new w _)
  have hI1 : I (fun _ => False) 0 W1 := h0 W1 (by rw [← hW1]; exact ((Only.refl _ w).alloc _).alloc _) (by rw [← hW1]; simp) (fun cs t f e => by rw [hK1] at e; cases e) (fun cs t f e => by rw [hL1] at e; cases e)
  have put2 : ∀ (W : World) (o : Obj), Only (fun j => j = w.heap.size ∨ j = w.heap.size + 1) W (W.putObj (w.heap.size + 1) o) := fun W o => only_put1 W _ o _ (.inr rfl)
  refine ⟨w.heap.size + 1, [{ target := .collected w.heap.size, args := #[] }], W1, { target := .fn (.func gf) lb, args := #[.func (.yield (w.heap.size + 1)) #[] #[]] }, W1, gf,
    #[.func (.yield (w.heap.size + 1)) #[] #[]] ++ lb, W1, ?_, ?_, ?_, ?_, (fun h => by cases h), ?_⟩
  · rw [← hW1, hrec]; exact run_enterLoop_outer _ _ _ _ _
  · simp only [resolve, hg]
    simp [go_sem]
  · intro f' hf'; trivial
  · simp [invoke, go_sem, eg]
  · refine (hseq (w.heap.size + 1)
      (fun Y k W => I Y k W ∧ W.heap[w.heap.size + 1]? = some (.loop (rec .ready none)) ∧ W.heap[w.heap.size]? = some (.deferred (some [])) ∧ ¬ Y (w.heap.size + 1) ∧ ¬ Y w.heap.size)
      (fun Y k W => ∃ c, Ix Y c k W ∧ W.heap[w.heap.size + 1]? = some (.loop (rec .done (some c))) ∧ W.heap[w.heap.size]? = some (.deferred (some [])) ∧ ¬ Y (w.heap.size + 1) ∧ ¬ Y w.heap.size)
      (fun Y k W W' h ho hno => by
        have hlt : w.heap.size + 1 < W.heap.size := (Array.getElem?_eq_some_iff.1 h.2.1).1
        exact ⟨hIg Y k W W' h.1 ho hno, (ho.block _ hlt h.2.2.2.1).trans h.2.1, (ho.block _ (by omega) h.2.2.2.2).trans h.2.2.1, fun hh => hh.elim h.2.2.2.1 (fun hh => by omega), fun hh => hh.elim h.2.2.2.2 (fun hh => by omega)⟩)
      (fun Y k W W' ⟨c, h⟩ ho hno => by
        have hlt : w.heap.size + 1 < W.heap.size := (Array.getElem?_eq_some_iff.1 h.2.1).1
        exact ⟨c, hIxg Y c k W W' h.1 ho hno, (ho.block _ hlt h.2.2.2.1).trans h.2.1, (ho.block _ (by omega) h.2.2.2.2).trans h.2.2.1, fun hh => hh.elim h.2.2.2.1 (fun hh => by omega), fun hh => hh.elim h.2.2.2.2 (fun hh => by omega)⟩)
      (fun Y k W h => hV Y k W h.1) ?_ (fun _ => False) W1 ⟨hI1, hL1, hK1, fun h => h, fun h => h⟩ (fun _ h => h.elim)).mono ?_
    · rintro Y k hk W ⟨hi, hl, hd, hnY, hnY2⟩
      have hlt : w.heap.size + 1 < W.heap.size := (Array.getElem?_eq_some_iff.1 hl).1
      have hy := run_yield (P := P) (args := encs xs[k]) hl (by rw [hrec]; exact hps _)
      rw [hrec] at hy
      refine ⟨fn, _, assign, body, hy, roundIn_of_wpIn trivial (hassign _ k hk W _ ?_)⟩
      have putY : ∀ (W : World) (o : Obj), KeepsY Y W (W.putObj (w.heap.size + 1) o) := fun W o j hj => World.putObj_heap_other (fun e => hnY (e ▸ hj))
      clear hy
      refine ⟨_, run_beginRound hl (by rw [hrec]), ?_⟩
      have hl2 : (W.putObj (w.heap.size + 1) (.loop { rec .ready none with state := .busy })).heap[w.heap.size + 1]? = some (.loop { rec .ready none with state := .busy }) := World.putObj_heap_same hlt
      have hd2 : (W.putObj (w.heap.size + 1) (.loop { rec .ready none with state := .busy })).heap[w.heap.size]? = some (.deferred (some [])) := (World.putObj_heap_other (by omega)).trans hd
      refine wpIn_mono (hbody _ Y k hk _ (hI Y k _ _ hi (put2 W _) (fun cs t f e => by rw [hd2] at e; cases e) (fun cs t f e => by rw [hl2] at e; cases e))) ?_
      have fin : ∀ (jump : Option Code) (W3 : World), Keeps2 w.heap.size (W.putObj (w.heap.size + 1) (.loop { rec .ready none with state := .busy })) W3 →
          (Instr.endRound (w.heap.size + 1) jump).run P W3 = .ok (.bool jump.isNone) (W3.putObj (w.heap.size + 1) (.loop (rec (if jump.isNone then .ready else .done) jump))) ∧
          (W3.putObj (w.heap.size + 1) (.loop (rec (if jump.isNone then .ready else .done) jump))).heap[w.heap.size + 1]? = some (.loop (rec (if jump.isNone then .ready else .done) jump)) ∧
          (W3.putObj (w.heap.size + 1) (.loop (rec (if jump.isNone then .ready else .done) jump))).heap[w.heap.size]? = some (.deferred (some [])) := fun jump W3 hk3 => by
        have hl3 := hk3 _ (.inr rfl) _ hl2
        have := run_endRound (P := P) jump hl3
        rw [hrec] at this ⊢
        exact ⟨this, World.putObj_heap_same (Array.getElem?_eq_some_iff.1 hl3).1, (World.putObj_heap_other (by omega)).trans (hk3 _ (.inl rfl) _ hd2)⟩
      rintro e a3 W3 hp
      cases e with
      | normal =>
        obtain ⟨hk3, hy3, hi3⟩ := hp
        obtain ⟨hr, hl4, hk4⟩ := fin none W3 hk3
        exact ⟨_, _, hr, .inl ⟨rfl, ⟨hI _ _ _ _ hi3 (put2 W3 _) (fun cs t f e => by rw [hk4] at e; cases e) (fun cs t f e => by rw [hl4] at e; cases e), hl4, hk4, hnY, hnY2⟩, ((putY W _).trans hy3).trans (putY W3 _)⟩⟩
      | ret =>
        obtain ⟨hk3, hy3, hi3⟩ := hp
        obtain ⟨hr, hl4, hk4⟩ := fin (some .ret) W3 hk3
        exact ⟨_, _, hr, .inr ⟨rfl, ⟨.ret, hIx _ _ _ _ _ hi3 (put2 W3 _), hl4, hk4, hnY, hnY2⟩, ((putY W _).trans hy3).trans (putY W3 _)⟩⟩
      | exit id =>
        obtain ⟨hk3, hy3, hi3⟩ := hp
        obtain ⟨hr, hl4, hk4⟩ := fin (some (.exit id)) W3 hk3
        exact ⟨_, _, hr, .inr ⟨rfl, ⟨.exit id, hIx _ _ _ _ _ hi3 (put2 W3 _), hl4, hk4, hnY, hnY2⟩, ((putY W _).trans hy3).trans (putY W3 _)⟩⟩
      | goto t => exact hp.elim
      | panic ch => exact hp.elim
      | outgrown => exact hp.elim
    · rintro e W2 ⟨⟨v, rfl⟩, Y', (⟨hi, hl, hk, _⟩ | ⟨k, hk', c, hi, hl, hk, _⟩)⟩
      · exact ⟨none, _, by have := run_endLoop (P := P) hl (by rw [hrec]; simp); rw [hrec] at this; exact this, hdone _ _ (hI _ _ _ _ hi (put2 W2 _) (fun cs t f e => by rw [(World.putObj_heap_other (by omega)).trans hk] at e; cases e) (fun cs t f e => by rw [World.putObj_heap_same (Array.getElem?_eq_some_iff.1 hl).1] at e; cases e)) ((World.putObj_heap_other (by omega)).trans hk)⟩
      · exact ⟨some c, _, by have := run_endLoop (P := P) hl (by rw [hrec]; simp); rw [hrec] at this; exact this, hstop _ c k _ hk' (hIx _ _ _ _ _ hi (put2 W2 _)) ((World.putObj_heap_other (by omega)).trans hk)⟩

end Go.Proofs.YtimmfnjkknbofaaDoor
