/- A range over a function, at the wide fence: an iterator's contract ('Iter': the sequence is known ahead), and one law for the loop. No package's function. -/
import Derived.Test.YtoplhehcjgldeaaGreatDBase
import Derived.Test.YtoplhehcjgldeaaGreatOwn
import Derived.Test.YtoplhehcjgldeaaGreatJCPart
import Derived.RangeFuncNested
import Derived.RangeFuncBound
import Derived.RangeFuncCalls
import Derived.RangeFuncLeaves
import Derived.Shelf.Abstract
import Derived.Shelf.RegionOpen
import Derived.OwnWalkIn
import Derived.TacticsInMore
import Derived.LoopNIn
import Derived.LoopIn
import Derived.Shelf.Lays
import Derived.Shelf.Lays2
import Derived.Shelf.Sort.Plain
namespace Go.Proofs.YtoplhehcjgldeaaGreat
open Go.RowKit
set_option linter.unusedVariables false

/-- what was made just now is added -/
abbrev more (Y : Nat → Prop) (W W' : World) : Nat → Prop := fun j => Y j ∨ (W.heap.size ≤ j ∧ j < W'.heap.size)
/-- the blocks of Y stay -/
def KeepsY (Y : Nat → Prop) (W W' : World) : Prop := ∀ j, Y j → W'.heap[j]? = W.heap[j]?
theorem KeepsY.refl (Y : Nat → Prop) (W : World) : KeepsY Y W W := fun _ _ => rfl
theorem KeepsY.trans {Y : Nat → Prop} {a b c : World} (h : KeepsY Y a b) (k : KeepsY Y b c) : KeepsY Y a c := fun j hj => (k j hj).trans (h j hj)
/-- the function value (g, lb) hands the values of xs to whatever rounds keep J, one behind the other, till a round says no; V: what it reads; Y: blocks that the rounds leave alone (what the iterator makes is among them) -/
def Iter {α : Type} (P : Program) (g : Nat) (lb : Array Value) (encs : α → Array Value) (xs : List α) (V : Nat → World → Prop) : Prop :=
  ∀ (l : Nat) (J Jx : (Nat → Prop) → Nat → World → Prop), (∀ Y k W W', J Y k W → Below W.heap.size W W' → J (more Y W W') k W') → (∀ Y k W, J Y k W → V k W) →
    (∀ Y k (hk : k < xs.length) W, J Y k W → YieldAt Fence.wide 1 P l (encs xs[k]) W fun e W' => (e = .returned (.bool true) ∧ J Y (k + 1) W' ∧ KeepsY Y W W') ∨ (e = .returned (.bool false) ∧ Jx Y (k + 1) W')) →
    ∀ Y W, J Y 0 W → CallsIn Fence.wide 2 P g (#[.func (.yield l) #[] #[]] ++ lb) W fun e W' => (∃ v, e = .returned v) ∧ ∃ Y', (J Y' xs.length W' ∨ ∃ k, k < xs.length ∧ Jx Y' (k + 1) W')

/-- the two blocks of the loop's book-keeping stay -/
def Keeps2 (B : Nat) (W W' : World) : Prop := ∀ j, j = B ∨ j = B + 1 → ∀ o, W.heap[j]? = some o → W'.heap[j]? = some o
theorem Keeps2.refl (B : Nat) (W : World) : Keeps2 B W W := fun _ _ _ h => h
theorem Keeps2.trans {B : Nat} {a b c : World} (h : Keeps2 B a b) (k : Keeps2 B b c) : Keeps2 B a c := fun j hj o ho => k j hj o (h j hj o ho)
theorem Keeps2.of_only {B : Nat} {W W' : World} {S : Nat → Prop} (h : Only S W W') (h1 : ¬ S B) (h2 : ¬ S (B + 1)) : Keeps2 B W W' := fun j hj o ho => by
  refine (h.block j (Array.getElem?_eq_some_iff.1 ho).1 ?_).trans ho
  rcases hj with rfl | rfl
  · exact h1
  · exact h2

/-- how a round may be left -/
def rndPost (B : Nat) (Y : Nat → Prop) (I : (Nat → Prop) → Nat → World → Prop) (Ix : Code → Nat → World → Prop) (k : Nat) (W : World) : Exit → Act → World → Prop
  | .normal, _, W' => Keeps2 B W W' ∧ KeepsY Y W W' ∧ I Y k W'
  | .ret, _, W' => Keeps2 B W W' ∧ Ix .ret k W'
  | .exit id, _, W' => Keeps2 B W W' ∧ Ix (.exit id) k W'
  | _, _, _ => False

theorem only_put1 (W : World) (l : Nat) (o : Obj) (T : Nat → Prop) (hT : T l) : Only T W (W.putObj l o) :=
  ⟨rfl, rfl, rfl, by simp, fun k _ hk => World.putObj_heap_other (fun e => hk (by rw [e]; exact hT))⟩

theorem wp_range5 {P : Program} {α : Type} {encs : α → Array Value} {xs : List α} {V : Nat → World → Prop} {g : Operand} {ps : Array Tmp} {assign body : Code} {Q : Exit → Act → World → Prop} {a : Act} {w : World} {gf : Nat} {lb : Array Value}
    (hg : a.eval g = .func (.func gf) #[] lb) (eg : ∀ args w, (callFunc gf args).run P w = .ok (.enter gf args) w) (hseq : Iter P gf lb encs xs V) (hps : ∀ x, (encs x).size = ps.size)
    (I : (Nat → Prop) → Nat → World → Prop) (Ix : Code → Nat → World → Prop) (hI : ∀ Y k W W', I Y k W → Only (fun j => j = w.heap.size ∨ j = w.heap.size + 1) W W' → I Y k W') (hIg : ∀ Y k W W', I Y k W → Below W.heap.size W W' → I (more Y W W') k W') (hIx : ∀ c k W W', Ix c k W → Only (fun j => j = w.heap.size ∨ j = w.heap.size + 1) W W' → Ix c k W')
    (hV : ∀ Y k W, I Y k W → V k W) (h0 : ∀ W1, Only (fun _ => False) w W1 → W1.heap.size = w.heap.size + 2 → I (fun _ => False) 0 W1) (a₁ : α → Act)
    (hassign : ∀ (l k : Nat) (hk : k < xs.length) (W : World) (K : Act → World → Prop), K (a₁ xs[k]) W →
      assign.wpIn (Fence.wide.inRound l) 1 P (Exit.then K (fun _ _ _ => False)) { tmps := (ps.zip (encs xs[k])).foldl (fun t (p, v) => t.setIfInBounds p v) a.tmps, defers := [] } W)
    (hbody : ∀ (l : Nat) (Y : Nat → Prop) (k : Nat) (hk : k < xs.length) (W : World), I Y k W → body.wpIn (Fence.wide.inRound l) 1 P (rndPost w.heap.size Y I Ix (k + 1) W) (a₁ xs[k]) W)
    (hdone : ∀ (Y : Nat → Prop) (W : World), I Y xs.length W → W.heap[w.heap.size]? = some (.deferred (some [])) → Q .normal { a with defers := { target := .collected w.heap.size, args := #[] } :: a.defers } W)
    (hstop : ∀ (c : Code) (k : Nat) (W : World), k < xs.length → Ix c (k + 1) W → W.heap[w.heap.size]? = some (.deferred (some [])) → c.wpIn Fence.wide 3 P Q { a with defers := { target := .collected w.heap.size, args := #[] } :: a.defers } W) :
    (Code.rangeFunc g ps assign body).wpIn Fence.wide 3 P Q a w := by
  refine wpIn_rangeFunc ?_
  intro fn hfn
  obtain ⟨rec, hrec⟩ : ∃ rec : LoopState → Option Code → Loop, rec = fun st pe => { state := st, pending := pe, fn, tmps := a.tmps, params := ps, assign, body, defers := w.heap.size } := ⟨_, rfl⟩
  obtain ⟨W1, hW1⟩ : ∃ W1, (w.alloc (.deferred (some []))).alloc (.loop (rec .ready none)) = W1 := ⟨_, rfl⟩
  have hL1 : W1.heap[w.heap.size + 1]? = some (.loop (rec .ready none)) := by
    rw [← hW1]; have := World.alloc_heap_new (w.alloc (.deferred (some []))) (.loop (rec .ready none)); rwa [World.size_alloc] at this
  have hK1 : W1.heap[w.heap.size]? = some (.deferred (some [])) := by
    rw [← hW1]; exact (Below.heap_alloc _ _ _ (by simp)).trans (World.alloc_heap_new w _)
  have hI1 : I (fun _ => False) 0 W1 := h0 W1 (by rw [← hW1]; exact ((Only.refl _ w).alloc _).alloc _) (by rw [← hW1]; simp)
  have own2 : ∀ {W W' : World}, Only (fun _ => False) W W' → Only (fun j => j = w.heap.size ∨ j = w.heap.size + 1) W W' := fun h => h.mono (fun _ _ h => h.elim)
  have put2 : ∀ (W : World) (o : Obj), Only (fun j => j = w.heap.size ∨ j = w.heap.size + 1) W (W.putObj (w.heap.size + 1) o) := fun W o => only_put1 W _ o _ (.inr rfl)
  refine ⟨w.heap.size + 1, [{ target := .collected w.heap.size, args := #[] }], W1, { target := .fn (.func gf) lb, args := #[.func (.yield (w.heap.size + 1)) #[] #[]] }, W1, gf,
    #[.func (.yield (w.heap.size + 1)) #[] #[]] ++ lb, W1, ?_, ?_, ?_, ?_, (fun h => by cases h), ?_⟩
  · rw [← hW1, hrec]; exact run_enterLoop_outer _ _ _ _ _
  · simp only [resolve, hg]
    simp [go_sem]
  · intro f' hf'; trivial
  · simp [invoke, go_sem, eg]
  · refine (hseq (w.heap.size + 1)
      (fun Y k W => I Y k W ∧ W.heap[w.heap.size + 1]? = some (.loop (rec .ready none)) ∧ W.heap[w.heap.size]? = some (.deferred (some [])) ∧ ¬ Y (w.heap.size + 1))
      (fun Y k W => ∃ c, Ix c k W ∧ W.heap[w.heap.size + 1]? = some (.loop (rec .done (some c))) ∧ W.heap[w.heap.size]? = some (.deferred (some [])))
      (fun Y k W W' h ho => by
        have hlt : w.heap.size + 1 < W.heap.size := (Array.getElem?_eq_some_iff.1 h.2.1).1
        exact ⟨hIg Y k W W' h.1 ho, (ho.block _ hlt).trans h.2.1, (ho.block _ (by omega)).trans h.2.2.1, fun hh => hh.elim h.2.2.2 (fun hh => by omega)⟩)
      (fun Y k W h => hV Y k W h.1) ?_ (fun _ => False) W1 ⟨hI1, hL1, hK1, fun h => h⟩).mono ?_
    · rintro Y k hk W ⟨hi, hl, hd, hnY⟩
      have hlt : w.heap.size + 1 < W.heap.size := (Array.getElem?_eq_some_iff.1 hl).1
      have hy := run_yield (P := P) (args := encs xs[k]) hl (by rw [hrec]; exact hps _)
      rw [hrec] at hy
      refine ⟨fn, _, assign, body, hy, roundIn_of_wpIn trivial (hassign _ k hk W _ ?_)⟩
      have putY : ∀ (W : World) (o : Obj), KeepsY Y W (W.putObj (w.heap.size + 1) o) := fun W o j hj => World.putObj_heap_other (fun e => hnY (e ▸ hj))
      clear hy
      refine ⟨_, run_beginRound hl (by rw [hrec]), ?_⟩
      have hl2 : (W.putObj (w.heap.size + 1) (.loop { rec .ready none with state := .busy })).heap[w.heap.size + 1]? = some (.loop { rec .ready none with state := .busy }) := World.putObj_heap_same hlt
      have hd2 : (W.putObj (w.heap.size + 1) (.loop { rec .ready none with state := .busy })).heap[w.heap.size]? = some (.deferred (some [])) := (World.putObj_heap_other (by omega)).trans hd
      refine wpIn_mono (hbody _ Y k hk _ (hI Y k _ _ hi (put2 W _))) ?_
      have fin : ∀ (jump : Option Code) (W3 : World), Keeps2 w.heap.size (W.putObj (w.heap.size + 1) (.loop { rec .ready none with state := .busy })) W3 →
          (Instr.endRound (w.heap.size + 1) jump).run P W3 = .ok (.bool jump.isNone) (W3.putObj (w.heap.size + 1) (.loop (rec (if jump.isNone then .ready else .done) jump))) ∧
          (W3.putObj (w.heap.size + 1) (.loop (rec (if jump.isNone then .ready else .done) jump))).heap[w.heap.size + 1]? = some (.loop (rec (if jump.isNone then .ready else .done) jump)) ∧
          (W3.putObj (w.heap.size + 1) (.loop (rec (if jump.isNone then .ready else .done) jump))).heap[w.heap.size]? = some (.deferred (some [])) := fun jump W3 hk3 => by
        have hl3 := hk3 _ (.inr rfl) _ hl2
        have := run_endRound (P := P) jump hl3
        rw [hrec] at this ⊢
        exact ⟨this, World.putObj_heap_same (Array.getElem?_eq_some_iff.1 hl3).1, (World.putObj_heap_other (by omega)).trans (hk3 _ (.inl rfl) _ hd2)⟩
      rintro e a3 W3 hp
      cases e with
      | normal =>
        obtain ⟨hk3, hy3, hi3⟩ := hp
        obtain ⟨hr, hl4, hk4⟩ := fin none W3 hk3
        exact ⟨_, _, hr, .inl ⟨rfl, ⟨hI _ _ _ _ hi3 (put2 W3 _), hl4, hk4, hnY⟩, ((putY W _).trans hy3).trans (putY W3 _)⟩⟩
      | ret =>
        obtain ⟨hk3, hi3⟩ := hp
        obtain ⟨hr, hl4, hk4⟩ := fin (some .ret) W3 hk3
        exact ⟨_, _, hr, .inr ⟨rfl, .ret, hIx _ _ _ _ hi3 (put2 W3 _), hl4, hk4⟩⟩
      | exit id =>
        obtain ⟨hk3, hi3⟩ := hp
        obtain ⟨hr, hl4, hk4⟩ := fin (some (.exit id)) W3 hk3
        exact ⟨_, _, hr, .inr ⟨rfl, .exit id, hIx _ _ _ _ hi3 (put2 W3 _), hl4, hk4⟩⟩
      | goto t => exact hp.elim
      | panic ch => exact hp.elim
      | outgrown => exact hp.elim
    · rintro e W2 ⟨⟨v, rfl⟩, Y', (⟨hi, hl, hk, _⟩ | ⟨k, hk', c, hi, hl, hk⟩)⟩
      · exact ⟨none, _, by have := run_endLoop (P := P) hl (by rw [hrec]; simp); rw [hrec] at this; exact this, hdone _ _ (hI _ _ _ _ hi (put2 W2 _)) ((World.putObj_heap_other (by omega)).trans hk)⟩
      · exact ⟨some c, _, by have := run_endLoop (P := P) hl (by rw [hrec]; simp); rw [hrec] at this; exact this, hstop c k _ hk' (hIx _ _ _ _ hi (put2 W2 _)) ((World.putObj_heap_other (by omega)).trans hk)⟩

end Go.Proofs.YtoplhehcjgldeaaGreat
/- What the shelf's contracts of slices' functions ask of the program: laid, each fact by the kernel. -/
namespace Go.Proofs.YtoplhehcjgldeaaGreat
open Go.RowKit Go.Shelf
set_option maxRecDepth 1000000

def renSort : Ren := ⟨fun | 125 => 95 | 128 => 104 | 129 => 105 | 189 => 91 | 215 => 93 | 216 => 86 | 257 => 94 | 294 => 96 | 295 => 97 | 296 => 98 | 297 => 99 | 298 => 100 | 299 => 101 | 300 => 102 | 301 => 103 | 328 => 106 | 329 => 107 | 330 => 108 | 331 => 109 | 332 => 110 | 343 => 111 | n => n, fun | 0 => 0 | 3 => 3 | 4 => 4 | 5 => 5 | 9 => 9 | 28 => 59 | 46 => 113 | 51 => 128 | 53 => 130 | 131 => 86 | 182 => 121 | 183 => 122 | 218 => 131 | 222 => 135 | 228 => 137 | 229 => 71 | n => n, fun n => n⟩
theorem laySort : Lays.n189 Tryz.prog renSort := {
  mixed := by kernel_rfl,
  f125 := by kernel_rfl,
  f128 := by kernel_rfl,
  f129 := by kernel_rfl,
  f189 := by kernel_rfl,
  f215 := by kernel_rfl,
  f216 := by kernel_rfl,
  f257 := by kernel_rfl,
  f294 := by kernel_rfl,
  f295 := by kernel_rfl,
  f296 := by kernel_rfl,
  f297 := by kernel_rfl,
  f298 := by kernel_rfl,
  f299 := by kernel_rfl,
  f300 := by kernel_rfl,
  f301 := by kernel_rfl,
  f328 := by kernel_rfl,
  f329 := by kernel_rfl,
  f330 := by kernel_rfl,
  f331 := by kernel_rfl,
  f332 := by kernel_rfl,
  f343 := by kernel_rfl,
  t0 := by kernel_rfl,
  a0 := fun _ => by kernel_rfl,
  z0 := fun _ => by kernel_rfl,
  v0 := fun _ => by kernel_rfl,
  t3 := by kernel_rfl,
  a3 := fun _ => by kernel_rfl,
  z3 := fun _ => by kernel_rfl,
  v3 := fun _ => by kernel_rfl,
  t4 := by kernel_rfl,
  a4 := fun _ => by kernel_rfl,
  z4 := fun _ => by kernel_rfl,
  v4 := fun _ => by kernel_rfl,
  t5 := by kernel_rfl,
  a5 := fun _ => by kernel_rfl,
  z5 := fun _ => by kernel_rfl,
  v5 := fun _ => by kernel_rfl,
  t9 := by kernel_rfl,
  a9 := fun _ => by kernel_rfl,
  z9 := fun _ => by kernel_rfl,
  v9 := fun _ => by kernel_rfl,
  t28 := by kernel_rfl,
  a28 := fun _ => by kernel_rfl,
  z28 := fun _ => by kernel_rfl,
  v28 := fun _ => by kernel_rfl,
  t46 := by kernel_rfl,
  a46 := fun _ => by kernel_rfl,
  z46 := fun _ => by kernel_rfl,
  v46 := fun _ => by kernel_rfl,
  t51 := by kernel_rfl,
  a51 := fun _ => by kernel_rfl,
  z51 := fun _ => by kernel_rfl,
  v51 := fun _ => by kernel_rfl,
  t53 := by kernel_rfl,
  a53 := fun _ => by kernel_rfl,
  z53 := fun _ => by kernel_rfl,
  v53 := fun _ => by kernel_rfl,
  t131 := by kernel_rfl,
  a131 := fun _ => by kernel_rfl,
  z131 := fun _ => by kernel_rfl,
  v131 := fun _ => by kernel_rfl,
  t182 := by kernel_rfl,
  a182 := fun _ => by kernel_rfl,
  z182 := fun _ => by kernel_rfl,
  v182 := fun _ => by kernel_rfl,
  t183 := by kernel_rfl,
  a183 := fun _ => by kernel_rfl,
  z183 := fun _ => by kernel_rfl,
  v183 := fun _ => by kernel_rfl,
  t218 := by kernel_rfl,
  a218 := fun _ => by kernel_rfl,
  z218 := fun _ => by kernel_rfl,
  v218 := fun _ => by kernel_rfl,
  t222 := by kernel_rfl,
  a222 := fun _ => by kernel_rfl,
  z222 := fun _ => by kernel_rfl,
  v222 := fun _ => by kernel_rfl,
  t228 := by kernel_rfl,
  a228 := fun _ => by kernel_rfl,
  z228 := fun _ => by kernel_rfl,
  v228 := fun _ => by kernel_rfl,
  t229 := by kernel_rfl,
  a229 := fun _ => by kernel_rfl,
  z229 := fun _ => by kernel_rfl,
  v229 := fun _ => by kernel_rfl }

def renSearch : Ren := ⟨fun | 25 => 76 | 31 => 86 | 32 => 87 | 37 => 93 | n => n, fun | 0 => 0 | 3 => 3 | 4 => 4 | 22 => 59 | 40 => 113 | n => n, fun n => n⟩
theorem laySearch : Lays2.n25 Tryz.prog renSearch := {
  mixed := by kernel_rfl,
  f25 := by kernel_rfl,
  f31 := by kernel_rfl,
  f32 := by kernel_rfl,
  f37 := by kernel_rfl,
  t0 := by kernel_rfl,
  a0 := fun _ => by kernel_rfl,
  z0 := fun _ => by kernel_rfl,
  v0 := fun _ => by kernel_rfl,
  t3 := by kernel_rfl,
  a3 := fun _ => by kernel_rfl,
  z3 := fun _ => by kernel_rfl,
  v3 := fun _ => by kernel_rfl,
  t4 := by kernel_rfl,
  a4 := fun _ => by kernel_rfl,
  z4 := fun _ => by kernel_rfl,
  v4 := fun _ => by kernel_rfl,
  t22 := by kernel_rfl,
  a22 := fun _ => by kernel_rfl,
  z22 := fun _ => by kernel_rfl,
  v22 := fun _ => by kernel_rfl,
  t40 := by kernel_rfl,
  a40 := fun _ => by kernel_rfl,
  z40 := fun _ => by kernel_rfl,
  v40 := fun _ => by kernel_rfl }

end Go.Proofs.YtoplhehcjgldeaaGreat
/- slices.Values, AppendSeq, Collect, Sorted at ints, over whatever iterator. -/
namespace Go.Proofs.YtoplhehcjgldeaaGreat
open Go.RowKit Go.Shelf Go.Sort
set_option linter.unusedVariables false
set_option maxRecDepth 100000
attribute [local go_sem] Oper.semAt_some

theorem wpListIn_append_run {F : Fence} {n : Nat} {P : Program} (w : World) {ops : Array Oper} {rest : List Oper} {o : Oper} {a : Act} {Q : Exit → Act → World → Prop} (hg : o.guard = none) (s x : Operand) (t : TypeId)
    (hop : o.op = .call { callee := .builtin .append, args := #[s, x], argTypes := #[t, t] }) (v y : Value) (hs : a.eval s = v) (hx : a.eval x = y) (v' : Value) (w' : World)
    (hr : (Builtin.append_ #[t, t] o.type #[v, y]).run P w = .ok v' w') (h : wpListIn F n P ops Q rest (a.put o.dst v') w') : wpListIn F n P ops Q (o :: rest) a w := by
  refine wpListIn_plain hg fun K hK' => ?_
  unfold Oper.wpIn
  refine ⟨?_, ?_⟩
  · simp [Oper.about, hop, resolve, Target.leads, Sem.run_pure]
  · rw [Oper.semAt_plain F _ _ (by rw [hop]; intro c hc'; cases hc')]
    simp [execOp, hop, resolve, invoke, builtin, hs, hx, hr, Result.andThen]
    exact hK' _ _ h

theorem values_any (w : World) (a : Option Addr) (n cap : Nat) : Calls Tryz.prog 85 #[.slice a n cap] w fun e w' => e = .returned (.func (.func 92) #[] #[.pointer (some ⟨w.heap.size, 0, none⟩)]) ∧ w' = w.alloc (.cells #[.slice a n cap] 59) := by
  go_enter Tryz.func85, Tryz.ntmps85
  go_wp2
  go_ret
  exact ⟨rfl, rfl⟩

abbrev enc1 : Int → Array Value := fun x => #[.int .i64 x]
def ValV (Bs : Nat) (sv : Value) (zs : List Int) : Nat → World → Prop := fun _ W => W.cell? ⟨Bs, 0, none⟩ = some sv ∧ Ints W 0 sv zs

set_option maxHeartbeats 1000000 in
theorem values_iter (Bs : Nat) (sv : Value) (zs : List Int) (hl : zs.length ≤ 1000000) : Iter Tryz.prog 92 #[.pointer (some ⟨Bs, 0, none⟩)] enc1 zs (ValV Bs sv zs) := by
  intro l J Jx hJ hV hY Y W h0
  obtain ⟨hc, hi⟩ := hV Y 0 W h0
  obtain ⟨ao, cap, rfl⟩ := hi.shape
  have HV := hide hV
  have HY := hide hY
  have H0 := hide h0
  have hcap : zs.length ≤ cap ∧ cap ≤ 9223372036854775807 := by
    have := own_len hi
    unfold maxLen at this
    exact this
  obtain ⟨hcap1, hcap2⟩ := hcap
  clear hi hV hY h0
  refine callsIn_of_wp Tryz.func92 rfl trivial ?_ rfl
  simp only [Tryz.ntmps92, List.size_toArray, List.length_cons, List.length_nil, Nat.reduceAdd, Nat.reduceSub, Array.replicate_succ, Array.replicate_zero, List.push_toArray, List.append_toArray, List.nil_append, List.cons_append]
  gi_wp2
  gi_loopw [7] (fun i wr => ∃ k : Nat, k ≤ zs.length ∧ i = .int .i64 k ∧ J Y k wr) (fun i _ => zs.length - (intOf i).toNat)
  case atStart => exact ⟨0, Nat.zero_le _, rfl, H0.out⟩
  case round =>
    obtain ⟨k, hk, rfl, hj⟩ := hrel
    have HJ := hide hj
    clear hj
    by_cases hkl : k < zs.length
    · have hki : (k : Int) < (zs.length : Int) := by omega
      obtain ⟨_, hi⟩ := HV.out Y k wr HJ.out
      obtain ⟨x, hx⟩ : ∃ x, zs[k] = x := ⟨_, rfl⟩
      obtain ⟨g, rfl, hcell⟩ : ∃ g, ao = some ⟨g, 0, none⟩ ∧ wr.cell? ⟨g, k, none⟩ = some (.int .i64 x) := by
        rcases hi.form with ⟨e, e2⟩ | ⟨g, cap', sp, e, _, _, _, hB, _⟩
        · rw [e2] at hkl; simp at hkl
        · simp only [Value.slice.injEq] at e
          refine ⟨g, e.1, ?_⟩
          have := iv_cell hB k hkl
          rw [Nat.zero_add, getD_lt zs hkl, hx] at this
          exact this
      have hy0 := HY.out Y k hkl wr HJ.out
      rw [hx] at hy0
      obtain ⟨fn, tmps, assign, body, hy, hR⟩ := hy0
      have HR := hide hR
      clear hR hi hx
      gi_wp2
      refine HR.out.mono ?_
      rintro e W3 (⟨rfl, hJ3, _⟩ | ⟨rfl, hJx3⟩)
      · have HJ3 := hide hJ3
        clear hJ3 HR hy
        gi_wp2
        go_roundw
        case rel => exact ⟨k + 1, by omega, by go_num, HJ3.out⟩
        case measure => simp [intOf]; omega
      · have HJ3 := hide hJx3
        clear hJx3 HR hy
        gi_wp2
        refine bodyPost_ret (results_none rfl _ _ _) rfl ?_
        exact ⟨⟨_, rfl⟩, Y, .inr ⟨k, hkl, HJ3.out⟩⟩
    · obtain rfl : k = zs.length := by omega
      gi_wp2
      go_end0
      exact ⟨⟨_, rfl⟩, Y, .inl HJ.out⟩

end Go.Proofs.YtoplhehcjgldeaaGreat
/- slices.AppendSeq, Collect, Sorted at ints, over whatever iterator. -/
namespace Go.Proofs.YtoplhehcjgldeaaGreat
open Go.RowKit Go.Shelf Go.Sort
set_option linter.unusedVariables false
set_option maxRecDepth 100000
attribute [local go_sem] Oper.semAt_some

/-- between two rounds of AppendSeq -/
structure ApI (w : World) (xs : List Int) (Y : Nat → Prop) (k : Nat) (W : World) : Prop where
  box : ∃ v, Blk W w.heap.size 59 [v] ∧ Ints W w.heap.size v (xs.take k) ∧ ∀ j, v.ownBlock = some j → w.heap.size + 3 ≤ j ∧ ¬ Y j
  below : Below w.heap.size w W
  size : w.heap.size + 3 ≤ W.heap.size
  ys : ∀ j, Y j → w.heap.size + 3 ≤ j ∧ j < W.heap.size

theorem ApI.keep {w : World} {xs : List Int} {Y : Nat → Prop} {k : Nat} {W W' : World} (h : ApI w xs Y k W) (ho : Only (fun j => j = w.heap.size + 1 ∨ j = w.heap.size + 1 + 1) W W') : ApI w xs Y k W' := by
  obtain ⟨v, h1, h2, h3⟩ := h.box
  exact ⟨⟨v, h1.only ho (by omega), h2.only ho (fun j hj e => by have := (h3 j hj).1; omega), h3⟩, h.below.trans (ho.below h.below.size (fun j hj e => by omega)), Nat.le_trans h.size ho.size, fun j hj => ⟨(h.ys j hj).1, Nat.lt_of_lt_of_le (h.ys j hj).2 ho.size⟩⟩
theorem ApI.grow {w : World} {xs : List Int} {Y : Nat → Prop} {k : Nat} {W W' : World} (h : ApI w xs Y k W) (hb : Below W.heap.size W W') : ApI w xs (more Y W W') k W' := by
  obtain ⟨v, h1, h2, h3⟩ := h.box
  have hs := h.size
  have ho := Only.of_below (fun _ => False) hb
  refine ⟨⟨v, h1.only ho (fun h => h), h2.only ho (fun _ _ h => h), fun j hj => ⟨(h3 j hj).1, fun hy => hy.elim (h3 j hj).2 (fun hy => by have := (h2.lt j hj).2; omega)⟩⟩, h.below.trans (hb.mono h.below.size), Nat.le_trans h.size hb.size, fun j hj => ?_⟩
  rcases hj with hj | hj
  · exact ⟨(h.ys j hj).1, Nat.lt_of_lt_of_le (h.ys j hj).2 hb.size⟩
  · exact ⟨by omega, hj.2⟩

theorem take_snoc {α : Type} (xs : List α) (k : Nat) (hk : k < xs.length) : xs.take (k + 1) = xs.take k ++ [xs[k]] := by rw [List.take_succ_eq_append_getElem hk]

set_option maxHeartbeats 1000000 in
theorem appendSeq_any (w : World) (gf : Nat) (lb : Array Value) (xs : List Int) (V : Nat → World → Prop) (eg : ∀ args w, (callFunc gf args).run Tryz.prog w = .ok (.enter gf args) w) (hit : Iter Tryz.prog gf lb enc1 xs V) (hV : ∀ k W', Only (fun _ => False) w W' → V k W') (hl : xs.length ≤ 100000) :
    Calls Tryz.prog 88 #[.slice none 0 0, .func (.func gf) #[] lb] w fun e w' => ∃ v, e = .returned v ∧ Ints w' w.heap.size v xs ∧ Below w.heap.size w w' := by
  refine (callsIn_wide (n := 3)).1 ?_
  refine callsIn_of_wp_marks Tryz.func88 rfl trivial ?_ rfl
  simp only [Tryz.ntmps88, List.size_toArray, List.length_cons, List.length_nil, Nat.reduceAdd, Nat.reduceSub, Array.replicate_succ, Array.replicate_zero, List.push_toArray, List.append_toArray, List.nil_append, List.cons_append]
  gi_wp2
  obtain ⟨w1, hw1⟩ : ∃ w1, w.alloc (.cells #[.slice none 0 0] 59) = w1 := ⟨_, rfl⟩
  have hs1 : w1.heap.size = w.heap.size + 1 := by rw [← hw1]; simp
  have hB1 : Blk w1 w.heap.size 59 [.slice none 0 0] := by rw [← hw1]; exact Blk.new w _ _
  have hb1 : Below w.heap.size w w1 := by rw [← hw1]; exact (Below.refl _ w).alloc (Nat.le_refl _) _
  rw [hw1]
  refine wp_range5 (gf := gf) (lb := lb) (xs := xs) (encs := enc1) (V := V) rfl eg hit (fun _ => rfl) (ApI w xs) (fun _ _ _ => False) ?_ (fun Y k W W' h hb => h.grow hb) (fun _ _ _ _ h _ => h) ?_ ?_
    (fun x => { tmps := #[.slice none 0 0, .func (.func gf) #[] lb, .pointer (some ⟨w.heap.size, 0, none⟩), undef, .slice none 0 0, .int .i64 x, .func (.func gf) #[] lb, .int .i64 x, undef, undef, undef, undef, undef], defers := [] }) ?assign ?body ?done (fun _ _ _ _ h _ => h.elim)
  · intro Y k W W' h ho
    exact h.keep (by rw [hs1] at ho; exact ho)
  · intro Y k W h
    exact hV k W (Only.of_below _ h.below)
  · intro W1 ho hs
    refine ⟨⟨_, hB1.only ho (fun h => h), by rw [List.take_zero]; exact Ints.nil _ _, (fun j hj => by cases hj)⟩, hb1.trans ((ho.below (Nat.le_refl _) (fun _ _ h => h)).mono (by omega)), by omega, (fun _ h => h.elim)⟩
  case assign =>
    intro l k hk W K hK
    gi_wp2
    exact hK
  case body =>
    intro l Y k hk W h
    have HYS := hide h.ys
    obtain ⟨x, hx⟩ : ∃ x, xs[k] = x := ⟨_, rfl⟩
    rw [hx]
    obtain ⟨⟨v, h1, h2, h3⟩, h4, h5, _⟩ := h
    have c0 : W.cell? ⟨w.heap.size, 0, none⟩ = some v := h1.cell 0
    have f0 := h1.frozen 0
    obtain ⟨v2, w2, hr, hi2, hg2, hv2, ao2, cap2, rfl⟩ := run_append_int W w.heap.size v _ h2 x (by simp; omega) (by omega)
    have hB2 : Blk w2 w.heap.size 59 [v] := (hg2.block _ (by simp; omega) (fun e => by have := (h3 _ e.symm).1; omega)).trans (h1.alloc _)
    have c2 : w2.cell? ⟨w.heap.size, 0, none⟩ = some v := hB2.cell 0
    have f2 := hB2.frozen 0
    obtain ⟨ao1, cap1, hv1⟩ := h2.shape
    have HR := hide hr
    have HI2 := hide hi2
    have HG2 := hide hg2
    have HV2 := hide hv2
    have HB2 := hide hB2
    have H3 := hide h3
    have H4 := hide h4
    have HX := hide hx
    generalize hq1 : (xs.take k).length = n1 at *
    subst hv1
    clear hr hi2 hg2 hv2 hB2 h1 h2 h3 h4 hx
    gi_wp2_with (first
      | (gi_at_builtin; (with_reducible refine wpListIn_append_run _ rfl (.tmp 8) (.tmp 10) 59 rfl _ _ ?_ ?_ _ _ HR.out ?_); exact rfl; exact rfl; clear HR))
    have hoA : Only (fun j => (Value.slice ao1 n1 cap1).ownBlock = some j) W w2 := ((Only.refl _ W).alloc _).grown HG2.out (fun j e _ => e)
    have hoB : Only (· = w.heap.size) w2 (w2.setCell ⟨w.heap.size, 0, none⟩ (.slice ao2 (n1 + 1) cap2)) := (Only.refl (· = w.heap.size) w2).setCell ⟨w.heap.size, 0, none⟩ _ (fun _ => rfl)
    have hv3 : ∀ j, (Value.slice ao2 (n1 + 1) cap2).ownBlock = some j → w.heap.size + 3 ≤ j ∧ ¬ Y j := fun j hj => by
      rcases HV2.out with e | e
      · exact H3.out j (e ▸ hj)
      · rw [e] at hj
        have := Option.some.inj hj
        exact ⟨by omega, fun hy => by have := (HYS.out j hy).2; omega⟩
    refine ⟨?_, ?_, ⟨⟨_, HB2.out.set 0 _, ?_, hv3⟩, ?_, ?_, ?_⟩⟩
    · rw [hs1]
      refine (Keeps2.of_only hoA ?_ ?_).trans (Keeps2.of_only hoB (by omega) (by omega))
      · intro e; have := (H3.out _ e).1; omega
      · intro e; have := (H3.out _ e).1; omega
    · intro j hj
      have hjs := HYS.out j hj
      exact (hoB.block j (by have := hoA.size; omega) (by omega)).trans (hoA.block j hjs.2 (fun e => (H3.out j e).2 hj))
    · rw [take_snoc xs k hk, HX.out]
      exact HI2.out.only hoB (fun j hj e => by have := (hv3 j hj).1; omega)
    · refine (H4.out.trans (hoA.below (by omega) (fun j hj e => by have := (H3.out j e).1; omega))).trans (hoB.below (by have := hoA.size; omega) (fun j hj e => by omega))
    · have := hoA.size
      have := hoB.size
      omega
    · intro j hj
      have := hoA.size
      have := hoB.size
      have hjs := HYS.out j hj
      exact ⟨hjs.1, by omega⟩
  case done =>
    intro Y W h hD
    obtain ⟨⟨v, h1, h2, h3⟩, h4, h5, _⟩ := h
    have c0 : W.cell? ⟨w.heap.size, 0, none⟩ = some v := h1.cell 0
    obtain ⟨ao1, cap1, hv1⟩ := h2.shape
    rw [List.take_of_length_le (Nat.le_refl _)] at h2 hv1
    have H2 := hide h2
    have H3 := hide h3
    have H4 := hide h4
    have HD := hide hD
    generalize hq1 : xs.length = n1 at hv1
    subst hv1
    clear h1 h2 h3 h4 hD hq1
    gi_wp2
    refine ⟨by simp, .inl ⟨_, _, rfl, run_takeDeferred HD.out, ?_⟩⟩
    have hoD : Only (· = w1.heap.size) W (W.putObj w1.heap.size (.deferred none)) := only_put1 W _ _ _ rfl
    exact ⟨_, results_tmp (t := 4) rfl _ _ _, .slice ao1 n1 cap1, rfl, H2.out.only hoD (fun j hj e => by have := (H3.out j hj).1; omega), H4.out.trans (hoD.below (by omega) (fun j hj e => by omega))⟩

theorem collect_any (w : World) (gf : Nat) (lb : Array Value) (xs : List Int) (V : Nat → World → Prop) (eg : ∀ args w, (callFunc gf args).run Tryz.prog w = .ok (.enter gf args) w) (hit : Iter Tryz.prog gf lb enc1 xs V) (hV : ∀ k W', Only (fun _ => False) w W' → V k W') (hl : xs.length ≤ 100000) :
    Calls Tryz.prog 77 #[.func (.func gf) #[] lb] w fun e w' => ∃ v, e = .returned v ∧ Ints w' w.heap.size v xs ∧ Below w.heap.size w w' := by
  have HA := hide (appendSeq_any w gf lb xs V eg hit hV hl)
  clear hit hV eg
  go_enter Tryz.func77, Tryz.ntmps77
  go_wp2_with (go_at_call 88; refine HA.out.mono ?_; rintro e w1 ⟨v1, rfl, hi1, hb1⟩; have HI := hide hi1; have HB := hide hb1; clear HA hi1 hb1)
  go_ret
  exact ⟨_, rfl, HI.out, HB.out⟩

theorem len64_0 (w : World) : Calls Tryz.prog 105 #[.int .u64 0] w fun e w' => e = .returned (.int .i64 0) ∧ w' = w := by
  go_enter Tryz.func105, Tryz.ntmps105
  go_wp2
  go_ret
  exact ⟨ret_int (by decide +kernel), rfl⟩
theorem len_0 (w : World) : Calls Tryz.prog 95 #[.int .u64 0] w fun e w' => e = .returned (.int .i64 0) ∧ w' = w := by
  go_enter Tryz.func95, Tryz.ntmps95
  go_wp2_with (go_at_call 105; refine (len64_0 _).mono ?_; rintro e w1 ⟨rfl, hw⟩; subst w1)
  go_ret
  exact ⟨rfl, rfl⟩
theorem insertion_0 (w : World) : Calls Tryz.prog 96 #[.slice none 0 0, .int .i64 0, .int .i64 0] w fun e w' => e = .returned (.tuple #[]) ∧ w' = w := by
  go_enter Tryz.func96, Tryz.ntmps96
  go_wp2
  go_loopg [6, 7] 0 (fun g i j wr => i = .int .i64 1 ∧ wr = w)
  case atStart => exact ⟨rfl, rfl⟩
  case round =>
    obtain ⟨rfl, rfl⟩ := hrel
    go_wp2
    go_end0
    exact ⟨rfl, rfl⟩
theorem pdq_0 (w : World) : Calls Tryz.prog 94 #[.slice none 0 0, .int .i64 0, .int .i64 0, .int .i64 0] w fun e w' => e = .returned (.tuple #[]) ∧ w' = w := by
  go_enter Tryz.func94, Tryz.ntmps94
  go_wp2
  refine wp_loop_rounds 1 ?_
  rw [rounds_succ]
  go_wp2_with (go_at_call 96; refine (insertion_0 _).mono ?_; rintro e w1 ⟨rfl, hw⟩; subst w1)
  (try simp only [Exit.inBlock, Exit.then]); refine bodyPost_ret (results_none rfl _ _ _) rfl ?_
  exact ⟨rfl, rfl⟩
theorem sort_0 (w : World) : Calls Tryz.prog 91 #[.slice none 0 0] w fun e w' => e = .returned (.tuple #[]) ∧ w' = w := by
  go_enter Tryz.func91, Tryz.ntmps91
  go_wp2_with (first
    | (go_at_call 95; refine (len_0 _).mono ?_; rintro e w1 ⟨rfl, hw⟩; subst w1)
    | (go_at_call 94; refine (pdq_0 _).mono ?_; rintro e w1 ⟨rfl, hw⟩; subst w1))
  go_end0
  exact ⟨rfl, rfl⟩

theorem sort_any (w : World) (base : Nat) (v : Value) (zs : List Int) (h : Ints w base v zs) (hl : zs.length ≤ 100000) :
    Calls Tryz.prog 91 #[v] w fun e w' => e = .returned (.tuple #[]) ∧ Ints w' base v (zs.mergeSort fun x y => decide (x ≤ y)) ∧ Only (fun k => v.ownBlock = some k) w w' := by
  rcases h.form with ⟨rfl, rfl⟩ | ⟨g, cap, sp, rfl, hb, hc, hm, hB, hs⟩
  · refine (sort_0 w).mono ?_
    rintro e w' ⟨rfl, rfl⟩
    exact ⟨rfl, by simpa using Ints.nil w' base, Only.refl _ _⟩
  · refine (Any.slices_Sort_int laySort g 0 cap zs w (iv_holds hB) hB.lt (by omega)).mono ?_
    rintro e w' ⟨rfl, q, os, rfl⟩
    refine ⟨rfl, ?_, (Only.refl _ w).grown (grownBy_sortedI _) (fun k e _ => by cases e; rfl)⟩
    unfold Ints
    rw [List.length_mergeSort]
    have h1 : w.heap[g]? = some (.cells (iv zs ++ sp).toArray 3 (0, 0)) := hB
    exact ownsRow_sortedI (by simp) hb h1 hc hm (by simp; omega)

theorem sorted_any (w : World) (gf : Nat) (lb : Array Value) (xs : List Int) (V : Nat → World → Prop) (eg : ∀ args w, (callFunc gf args).run Tryz.prog w = .ok (.enter gf args) w) (hit : Iter Tryz.prog gf lb enc1 xs V) (hV : ∀ k W', Only (fun _ => False) w W' → V k W') (hl : xs.length ≤ 100000) :
    Calls Tryz.prog 84 #[.func (.func gf) #[] lb] w fun e w' => ∃ v, e = .returned v ∧ Ints w' w.heap.size v (xs.mergeSort fun x y => decide (x ≤ y)) ∧ Below w.heap.size w w' := by
  have HC := hide (collect_any w gf lb xs V eg hit hV hl)
  clear hit hV eg
  go_enter Tryz.func84, Tryz.ntmps84
  go_wp2_with (first
    | (go_at_call 77; refine HC.out.mono ?_; rintro e w1 ⟨v1, rfl, hi1, hb1⟩; have HI := hide hi1; have HB := hide hb1; clear HC hi1 hb1)
    | (go_at_call 91; refine (sort_any w1 w.heap.size v1 xs HI.out hl).mono ?_; rintro e w2 ⟨rfl, hi2, ho2⟩; have HI2 := hide hi2; have HO2 := hide ho2; clear hi2 ho2))
  go_ret
  exact ⟨_, rfl, HI2.out, HB.out.trans (HO2.out.below HB.out.size (fun k hk e => by have := (HI.out.lt k e).1; omega))⟩

end Go.Proofs.YtoplhehcjgldeaaGreat
