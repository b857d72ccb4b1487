/- A range over a function whose values lie in memory that the iterator makes ('Iter3'): what it makes and holds bytes stays; one law for the loop. No package's function. -/
import Derived.Test.YtoamdbjailpgdabKRange
import Derived.Test.YtoamdbjailpgdabNOwn
import Derived.Test.YtoamdbjailpgdabNDel
namespace Go.Proofs.Ytoamdbjailpgdab
set_option maxRecDepth 20000
open Go.RowKit
set_option linter.unusedVariables false

/-- a block without cells: a loop's book-keeping -/
def noCells (W : World) (j : Nat) : Prop := ∀ cs t f, W.heap[j]? ≠ some (.cells cs t f)
/-- as Iter2; what is handed out is known by a relation; of what the iterator made it writes no cells again -/
def Iter3 {α : Type} (P : Program) (g : Nat) (lb : Array Value) (Enc : α → World → Array Value → Prop) (xs : List α) (V : Nat → World → Prop) : Prop :=
  ∀ (l : Nat) (J Jx : (Nat → Prop) → Nat → World → Prop), (∀ Y k W W', J Y k W → Only (fun j => Y j ∧ noCells W j) W W' → J (more Y W W') k W') → (∀ Y k W W', Jx Y k W → Only (fun j => Y j ∧ noCells W j) W W' → Jx (more Y W W') k W') → (∀ Y k W, J Y k W → V k W) →
    (∀ Y k (hk : k < xs.length) W args, J Y k W → Enc xs[k] W args → YieldAt Fence.wide 1 P l args W fun e W' => (e = .returned (.bool true) ∧ J Y (k + 1) W' ∧ KeepsY Y W W') ∨ (e = .returned (.bool false) ∧ Jx Y (k + 1) W' ∧ KeepsY Y W W')) →
    ∀ Y W, J Y 0 W → CallsIn Fence.wide 2 P g (#[.func (.yield l) #[] #[]] ++ lb) W fun e W' => (∃ v, e = .returned v) ∧ ∃ Y', (J Y' xs.length W' ∨ ∃ k, k < xs.length ∧ Jx Y' (k + 1) W')
theorem Iter.three {α : Type} {P : Program} {g : Nat} {lb : Array Value} {encs : α → Array Value} {xs : List α} {V : Nat → World → Prop} (h : Iter P g lb encs xs V) : Iter3 P g lb (fun x _ args => args = encs x) xs V := by
  intro l J Jx hJ hJx hV hY Y W h0
  exact h l J Jx (fun Y k W W' hj hb => hJ Y k W W' hj (only_of_below hb)) hV (fun Y k hk W hj => yield_weaken (hY Y k hk W _ hj rfl) (fun e w => Or.imp id (fun h => ⟨h.1, h.2.1⟩))) Y W h0

theorem wp_range7 {P : Program} {α : Type} {Enc : α → World → Array Value → Prop} {xs : List α} {V : Nat → World → Prop} {g : Operand} {ps : Array Tmp} {assign body : Code} {Q : Exit → Act → World → Prop} {a : Act} {w : World} {gf : Nat} {lb : Array Value}
    (hg : a.eval g = .func (.func gf) #[] lb) (eg : ∀ args w, (callFunc gf args).run P w = .ok (.enter gf args) w) (hseq : Iter3 P gf lb Enc xs V) (hps : ∀ x W args, Enc x W args → args.size = ps.size)
    (I : (Nat → Prop) → Nat → World → Prop) (Ix : (Nat → Prop) → Code → Nat → World → Prop) (hI : ∀ Y k W W', I Y k W → Only (fun j => (j = w.heap.size ∨ j = w.heap.size + 1) ∧ noCells W j) W W' → I Y k W') (hIg : ∀ Y k W W', I Y k W → Only (fun j => Y j ∧ noCells W j) W W' → I (more Y W W') k W')
    (hIx : ∀ Y c k W W', Ix Y c k W → Only (fun j => (j = w.heap.size ∨ j = w.heap.size + 1) ∧ noCells W j) W W' → Ix Y c k W') (hIxg : ∀ Y c k W W', Ix Y c k W → Only (fun j => Y j ∧ noCells W j) W W' → Ix (more Y W W') c k W')
    (hE : ∀ x W W' args, Enc x W args → Only (fun j => (j = w.heap.size ∨ j = w.heap.size + 1) ∧ noCells W j) W W' → Enc x W' args) (hV : ∀ Y k W, I Y k W → V k W) (h0 : ∀ W1, Only (fun _ => False) w W1 → W1.heap.size = w.heap.size + 2 → I (fun _ => False) 0 W1) (a₁ : Array Value → Act)
    (hassign : ∀ (l k : Nat) (hk : k < xs.length) (W : World) (args : Array Value) (he : Enc xs[k] W args) (K : Act → World → Prop), K (a₁ args) W →
      assign.wpIn (Fence.wide.inRound l) 1 P (Exit.then K (fun _ _ _ => False)) { tmps := (ps.zip args).foldl (fun t (p, v) => t.setIfInBounds p v) a.tmps, defers := [] } W)
    (hbody : ∀ (l : Nat) (Y : Nat → Prop) (k : Nat) (hk : k < xs.length) (W : World) (args : Array Value), I Y k W → Enc xs[k] W args → body.wpIn (Fence.wide.inRound l) 1 P (rndPost2 w.heap.size Y I Ix (k + 1) W) (a₁ args) W)
    (hdone : ∀ (Y : Nat → Prop) (W : World), I Y xs.length W → W.heap[w.heap.size]? = some (.deferred (some [])) → Q .normal { a with defers := { target := .collected w.heap.size, args := #[] } :: a.defers } W)
    (hstop : ∀ (Y : Nat → Prop) (c : Code) (k : Nat) (W : World), k < xs.length → Ix Y c (k + 1) W → W.heap[w.heap.size]? = some (.deferred (some [])) → c.wpIn Fence.wide 3 P Q { a with defers := { target := .collected w.heap.size, args := #[] } :: a.defers } W) :
    (Code.rangeFunc g ps assign body).wpIn Fence.wide 3 P Q a w := by
  refine wpIn_rangeFunc ?_
  intro fn hfn
  obtain ⟨rec, hrec⟩ : ∃ rec : LoopState → Option Code → Loop, rec = fun st pe => { state := st, pending := pe, fn, tmps := a.tmps, params := ps, assign, body, defers := w.heap.size } := ⟨_, rfl⟩
  obtain ⟨W1, hW1⟩ : ∃ W1, (w.alloc (.deferred (some []))).alloc (.loop (rec .ready none)) = W1 := ⟨_, rfl⟩
  have hL1 : W1.heap[w.heap.size + 1]? = some (.loop (rec .ready none)) := by
    rw [← hW1]; have := World.alloc_heap_new (w.alloc (.deferred (some []))) (.loop (rec .ready none)); rwa [World.size_alloc] at this
  have hK1 : W1.heap[w.heap.size]? = some (.deferred (some [])) := by
    rw [← hW1]; exact (Below.heap_alloc _ _ _ (by simp)).trans (World.alloc_heap_new w _)
  have hI1 : I (fun _ => False) 0 W1 := h0 W1 (by rw [← hW1]; exact ((Only.refl _ w).alloc _).alloc _) (by rw [← hW1]; simp)
  have put2 : ∀ (W : World) (L : Loop) (o : Obj), W.heap[w.heap.size + 1]? = some (.loop L) → Only (fun j => (j = w.heap.size ∨ j = w.heap.size + 1) ∧ noCells W j) W (W.putObj (w.heap.size + 1) o) := fun W L o hl => only_put1 W _ o _ ⟨.inr rfl, fun cs t f e => by rw [hl] at e; cases e⟩
  refine ⟨w.heap.size + 1, [{ target := .collected w.heap.size, args := #[] }], W1, { target := .fn (.func gf) lb, args := #[.func (.yield (w.heap.size + 1)) #[] #[]] }, W1, gf,
    #[.func (.yield (w.heap.size + 1)) #[] #[]] ++ lb, W1, ?_, ?_, ?_, ?_, (fun h => by cases h), ?_⟩
  · rw [← hW1, hrec]; exact run_enterLoop_outer _ _ _ _ _
  · simp only [resolve, hg]
    simp [go_sem]
  · intro f' hf'; trivial
  · simp [invoke, go_sem, eg]
  · refine (hseq (w.heap.size + 1)
      (fun Y k W => I Y k W ∧ W.heap[w.heap.size + 1]? = some (.loop (rec .ready none)) ∧ W.heap[w.heap.size]? = some (.deferred (some [])) ∧ ¬ Y (w.heap.size + 1) ∧ ¬ Y w.heap.size)
      (fun Y k W => ∃ c, Ix Y c k W ∧ W.heap[w.heap.size + 1]? = some (.loop (rec .done (some c))) ∧ W.heap[w.heap.size]? = some (.deferred (some [])) ∧ ¬ Y (w.heap.size + 1) ∧ ¬ Y w.heap.size)
      (fun Y k W W' h ho => by
        have hlt : w.heap.size + 1 < W.heap.size := (Array.getElem?_eq_some_iff.1 h.2.1).1
        exact ⟨hIg Y k W W' h.1 ho, (ho.block _ hlt (fun hh => h.2.2.2.1 hh.1)).trans h.2.1, (ho.block _ (by omega) (fun hh => h.2.2.2.2 hh.1)).trans h.2.2.1, fun hh => hh.elim h.2.2.2.1 (fun hh => by omega), fun hh => hh.elim h.2.2.2.2 (fun hh => by omega)⟩)
      (fun Y k W W' ⟨c, h⟩ ho => by
        have hlt : w.heap.size + 1 < W.heap.size := (Array.getElem?_eq_some_iff.1 h.2.1).1
        exact ⟨c, hIxg Y c k W W' h.1 ho, (ho.block _ hlt (fun hh => h.2.2.2.1 hh.1)).trans h.2.1, (ho.block _ (by omega) (fun hh => h.2.2.2.2 hh.1)).trans h.2.2.1, fun hh => hh.elim h.2.2.2.1 (fun hh => by omega), fun hh => hh.elim h.2.2.2.2 (fun hh => by omega)⟩)
      (fun Y k W h => hV Y k W h.1) ?_ (fun _ => False) W1 ⟨hI1, hL1, hK1, fun h => h, fun h => h⟩).mono ?_
    · rintro Y k hk W args ⟨hi, hl, hd, hnY, hnY2⟩ he
      have hlt : w.heap.size + 1 < W.heap.size := (Array.getElem?_eq_some_iff.1 hl).1
      have hy := run_yield (P := P) (args := args) hl (by rw [hrec]; exact hps _ _ _ he)
      rw [hrec] at hy
      refine ⟨fn, _, assign, body, hy, roundIn_of_wpIn trivial (hassign _ k hk W _ he _ ?_)⟩
      have putY : ∀ (W : World) (o : Obj), KeepsY Y W (W.putObj (w.heap.size + 1) o) := fun W o j hj => World.putObj_heap_other (fun e => hnY (e ▸ hj))
      clear hy
      refine ⟨_, run_beginRound hl (by rw [hrec]), ?_⟩
      have hl2 : (W.putObj (w.heap.size + 1) (.loop { rec .ready none with state := .busy })).heap[w.heap.size + 1]? = some (.loop { rec .ready none with state := .busy }) := World.putObj_heap_same hlt
      have hd2 : (W.putObj (w.heap.size + 1) (.loop { rec .ready none with state := .busy })).heap[w.heap.size]? = some (.deferred (some [])) := (World.putObj_heap_other (by omega)).trans hd
      refine wpIn_mono (hbody _ Y k hk _ _ (hI Y k _ _ hi (put2 W _ _ hl)) (hE _ _ _ _ he (put2 W _ _ hl))) ?_
      have fin : ∀ (jump : Option Code) (W3 : World), Keeps2 w.heap.size (W.putObj (w.heap.size + 1) (.loop { rec .ready none with state := .busy })) W3 →
          (Instr.endRound (w.heap.size + 1) jump).run P W3 = .ok (.bool jump.isNone) (W3.putObj (w.heap.size + 1) (.loop (rec (if jump.isNone then .ready else .done) jump))) ∧
          (W3.putObj (w.heap.size + 1) (.loop (rec (if jump.isNone then .ready else .done) jump))).heap[w.heap.size + 1]? = some (.loop (rec (if jump.isNone then .ready else .done) jump)) ∧
          (W3.putObj (w.heap.size + 1) (.loop (rec (if jump.isNone then .ready else .done) jump))).heap[w.heap.size]? = some (.deferred (some [])) := fun jump W3 hk3 => by
        have hl3 := hk3 _ (.inr rfl) _ hl2
        have := run_endRound (P := P) jump hl3
        rw [hrec] at this ⊢
        exact ⟨this, World.putObj_heap_same (Array.getElem?_eq_some_iff.1 hl3).1, (World.putObj_heap_other (by omega)).trans (hk3 _ (.inl rfl) _ hd2)⟩
      rintro e a3 W3 hp
      cases e with
      | normal =>
        obtain ⟨hk3, hy3, hi3⟩ := hp
        obtain ⟨hr, hl4, hk4⟩ := fin none W3 hk3
        exact ⟨_, _, hr, .inl ⟨rfl, ⟨hI _ _ _ _ hi3 (put2 W3 _ _ (hk3 _ (.inr rfl) _ hl2)), hl4, hk4, hnY, hnY2⟩, ((putY W _).trans hy3).trans (putY W3 _)⟩⟩
      | ret =>
        obtain ⟨hk3, hy3, hi3⟩ := hp
        obtain ⟨hr, hl4, hk4⟩ := fin (some .ret) W3 hk3
        exact ⟨_, _, hr, .inr ⟨rfl, ⟨.ret, hIx _ _ _ _ _ hi3 (put2 W3 _ _ (hk3 _ (.inr rfl) _ hl2)), hl4, hk4, hnY, hnY2⟩, ((putY W _).trans hy3).trans (putY W3 _)⟩⟩
      | exit id =>
        obtain ⟨hk3, hy3, hi3⟩ := hp
        obtain ⟨hr, hl4, hk4⟩ := fin (some (.exit id)) W3 hk3
        exact ⟨_, _, hr, .inr ⟨rfl, ⟨.exit id, hIx _ _ _ _ _ hi3 (put2 W3 _ _ (hk3 _ (.inr rfl) _ hl2)), hl4, hk4, hnY, hnY2⟩, ((putY W _).trans hy3).trans (putY W3 _)⟩⟩
      | goto t => exact hp.elim
      | panic ch => exact hp.elim
      | outgrown => exact hp.elim
    · rintro e W2 ⟨⟨v, rfl⟩, Y', (⟨hi, hl, hk, _⟩ | ⟨k, hk', c, hi, hl, hk, _⟩)⟩
      · exact ⟨none, _, by have := run_endLoop (P := P) hl (by rw [hrec]; simp); rw [hrec] at this; exact this, hdone _ _ (hI _ _ _ _ hi (put2 W2 _ _ hl)) ((World.putObj_heap_other (by omega)).trans hk)⟩
      · exact ⟨some c, _, by have := run_endLoop (P := P) hl (by rw [hrec]; simp); rw [hrec] at this; exact this, hstop _ c k _ hk' (hIx _ _ _ _ _ hi (put2 W2 _ _ hl)) ((World.putObj_heap_other (by omega)).trans hk)⟩

end Go.Proofs.Ytoamdbjailpgdab
/- Contracts: package node's All, as an iterator over a copy. -/
namespace Go.Proofs.Ytoamdbjailpgdab
set_option maxRecDepth 20000
open Go.RowKit Go.Shelf
set_option linter.unusedVariables false
set_option linter.unusedSimpArgs false
set_option maxRecDepth 100000
attribute [local go_sem] Oper.semAt_some

/-- what All goes through -/
def allN (n : Nd) : Nd := if leafB n then n else noNd
theorem noNd_few : few1 noNd = true := by decide
theorem allN_few (n : Nd) : few1 (allN n) = true := by
  unfold allN
  split
  · rename_i h; exact may_few (by rw [mayN, h]; rfl)
  · exact noNd_few

/-- a node in a box that is read -/
def BoxN (W : World) (b : Nat) (n : Nd) : Prop := ∃ lf pa np pc ka nk kc ca nc cc, Blk W b 26 [.bool lf, .slice pa np pc, .slice ka nk kc, .slice ca nc cc] ∧ NdV W (.agg #[.bool lf, .slice pa np pc, .slice ka nk kc, .slice ca nc cc]) n
theorem BoxN.below {W W' : World} {b : Nat} {n : Nd} (h : BoxN W b n) (hb : Below W.heap.size W W') : BoxN W' b n := by
  obtain ⟨lf, pa, np, pc, ka, nk, kc, ca, nc, cc, h1, h2⟩ := h
  exact ⟨lf, pa, np, pc, ka, nk, kc, ca, nc, cc, h1.below hb h1.lt, h2.below hb⟩

set_option maxHeartbeats 1000000 in
theorem nall_any (w : World) (v : Value) (n : Nd) (h : NdV w v n) : Calls Try.prog 16 #[v] w fun e w' => ∃ b, e = .returned (.func (.func 44) #[] #[.pointer (some ⟨b, 0, none⟩)]) ∧ BoxN w' b (allN n) ∧ Below w.heap.size w w' := by
  have HM : Hid (∀ w1, Below w.heap.size w w1 → Calls Try.prog 31 #[v] w1 fun e w' => e = .returned (.bool (leafB n)) ∧ Below w1.heap.size w1 w') := fun w1 hb => isLeaf_any w1 v n (h.below hb)
  have HC : Hid (leafB n = true → ∀ w1, Below w.heap.size w w1 → Calls Try.prog 28 #[v] w1 fun e w' => ∃ u, e = .returned u ∧ NdN w' w1.heap.size u n ∧ Below w1.heap.size w1 w') := fun hm w1 hb => ndClone_any w1 v n (h.below hb) (may_few (by rw [mayN, hm]; rfl))
  have HN : Hid (allN n = if leafB n then n else noNd) := rfl
  have hza : ∀ wx : World, (zeroValue 26).run Try.prog wx = .ok (.agg #[.bool false, .slice none 0 0, .slice none 0 0, .slice none 0 0]) wx := fun wx => by kernel_rfl
  obtain ⟨lf, pa, np, pc, ka, nk, kc, ca, nc, cc, rfl, hlf, -⟩ := nd_open h
  obtain ⟨w1, hw1⟩ : ∃ w1, (w.alloc (.cells #[.bool lf, .slice pa np pc, .slice ka nk kc, .slice ca nc cc] 26)).alloc (.cells #[.bool false, .slice none 0 0, .slice none 0 0, .slice none 0 0] 26) = w1 := ⟨_, rfl⟩
  have HA : Hid (Blk w1 w.heap.size 26 [.bool lf, .slice pa np pc, .slice ka nk kc, .slice ca nc cc]) := by rw [← hw1]; exact (Blk.new w _ _).alloc _
  have HB : Hid (Blk w1 (w.heap.size + 1) 26 zeroC) := by
    have := Blk.new (w.alloc (.cells #[.bool lf, .slice pa np pc, .slice ka nk kc, .slice ca nc cc] 26)) 26 zeroC
    rw [World.size_alloc] at this
    rw [← hw1]; exact this
  have HBL : Hid (Below w.heap.size w w1) := by rw [← hw1]; exact ((Below.refl _ w).alloc (Nat.le_refl _) _).alloc (by simp) _
  have HS1 : Hid (w1.heap.size = w.heap.size + 2) := by show _ = _; rw [← hw1]; simp
  obtain ⟨⟨z0, z1, z2, z3⟩, _⟩ := node_cells HA.out
  clear h hlf
  cases hm : leafB n with
  | false =>
    rw [hm] at HN HM
    simp only [Bool.false_eq_true, if_false] at HN
    rw [HN.out]
    clear HN HC hm
    go_enter Try.func16, Try.ntmps16
    go_wp2_with (go_at_call 31; refine (HM.out w1 HBL.out).mono ?_; rintro e w2 ⟨rfl, hb2⟩; have HB2 := hide (HB.out.below hb2 HB.out.lt); have HBL2 := hide (HBL.out.trans (hb2.mono HBL.out.size)); clear HM hb2)
    go_ret
    exact ⟨_, rfl, ⟨_, _, _, _, _, _, _, _, _, _, HB2.out, NdV.none _⟩, HBL2.out⟩
  | true =>
    have HC1 := hide (HC.out hm)
    rw [hm] at HN HM
    simp only [if_true] at HN
    rw [HN.out]
    clear HN HC hm
    go_enter Try.func16, Try.ntmps16
    go_wp2_with (first
      | (go_at_call 31; refine (HM.out w1 HBL.out).mono ?_; rintro e w2 ⟨rfl, hb2⟩; have hA2 := HA.out.below hb2 HA.out.lt; have hB2 := HB.out.below hb2 HB.out.lt; clear z0 z1 z2 z3; obtain ⟨⟨z0, z1, z2, z3⟩, _⟩ := node_cells hA2; have HB2 := hide hB2; have HBL2 := hide (HBL.out.trans (hb2.mono HBL.out.size)); have HS2 : Hid (w.heap.size + 2 ≤ w2.heap.size) := (by have := hb2.size; have := HS1.out; show _ ≤ _; omega); clear HM hb2 hA2 hB2)
      | (go_at_call 28; refine (HC1.out w2 HBL2.out).mono ?_; rintro e w3 ⟨u3, rfl, hn3, hb3⟩; obtain ⟨pa3, np3, pc3, ka3, nk3, kc3, ca3, nc3, cc3, rfl⟩ := hn3.form; have hB3 := HB2.out.below hb3 HB2.out.lt; obtain ⟨⟨d0, d1, d2, d3⟩, k0, k1, k2, k3⟩ := node_cells hB3; have HB3 := hide hB3; have HN3 := hide hn3; have HBL3 := hide (HBL2.out.trans (hb3.mono HBL2.out.size)); clear HC1 hb3 hB3 hn3))
    go_ret
    have ho := laidN_only w3 (w.heap.size + 1) (.bool n.lf) (.slice pa3 np3 pc3) (.slice ka3 nk3 kc3) (.slice ca3 nc3 cc3)
    exact ⟨_, rfl, ⟨_, _, _, _, _, _, _, _, _, _, laidN_blk HB3.out _ _ _ _, (HN3.out.only ho (fun j hj => by have := HS2.out; omega)).val⟩, HBL3.out.trans (ho.below HBL3.out.size (fun j hj e => by omega))⟩

theorem enters_nall : ∀ args w, (callFunc 44 args).run Try.prog w = .ok (.enter 44 args) w := enters_of Try.func44 (by kernel_rfl) rfl

/-- a pair that is handed out -/
def EncT (x : List Int × List Int) (W : World) (args : Array Value) : Prop := ∃ u1 u2, args = #[u1, u2] ∧ TxU W u1 x.1 ∧ TxU W u2 x.2
theorem TxU.stay {S : Nat → Prop} {W W' : World} {u : Value} {zs : List Int} (h : TxU W u zs) (ho : Only (fun j => S j ∧ noCells W j) W W') : TxU W' u zs := h.only ho (fun j hj cs hB => hj.2 _ _ _ hB)
theorem EncT.stay {S : Nat → Prop} {x : List Int × List Int} {W W' : World} {args : Array Value} (h : EncT x W args) (ho : Only (fun j => S j ∧ noCells W j) W W') : EncT x W' args := by
  obtain ⟨u1, u2, rfl, h1, h2⟩ := h
  exact ⟨u1, u2, rfl, h1.stay ho, h2.stay ho⟩

/-- the pairs of a node of one's own, as long as its blocks stay -/
theorem prs_of {w : World} {base : Nat} {l : Bool} {p k c : Value} {n : Nd} (h : NdN w base (.agg #[.bool l, p, k, c]) n) : ∃ xs, xs.length = n.ps.length ∧ ∀ w', (∀ j, base ≤ j → j < w.heap.size → w'.heap[j]? = w.heap[j]?) →
    Prs w' p xs n.ps ∧ ∀ i, i < n.ps.length → TxU w' (xs.getD i nil2).1 (n.ps.getD i ([], [])).1 ∧ TxU w' (xs.getD i nil2).2 (n.ps.getD i ([], [])).2 := by
  obtain ⟨vp, vk, vc, xs, ys, sv, he, h1, h2, h3, h4, h5, h6⟩ := h
  have hp : p = vp := by
    simp only [ndv, Value.agg.injEq] at he
    have := congrArg (fun a => a.getD 1 undef) he
    simpa using this
  subst hp
  refine ⟨xs, h4, fun w' hk => ?_⟩
  have hx : ∀ u zs, Sl w u zs → Held w base sv u → TxU w' u zs := fun u zs a b => by
    refine ⟨a.keep (fun j hj hlt => hk j (b j hj).1 hlt), fun j hj => ?_⟩
    obtain ⟨c1, ⟨cs, c2⟩, c3⟩ := b j hj
    exact ⟨cs, (hk j c1 c2.lt).trans c2⟩
  have ht : ∀ i, i < n.ps.length → TxU w' (xs.getD i nil2).1 (n.ps.getD i ([], [])).1 ∧ TxU w' (xs.getD i nil2).2 (n.ps.getD i ([], [])).2 := fun i hi => ⟨hx _ _ (h5 i hi).1.1 (h5 i hi).1.2, hx _ _ (h5 i hi).2.1 (h5 i hi).2.2⟩
  refine ⟨prs_own (base := base) ?_ h4 (fun i hi => ⟨(ht i hi).1.1, (ht i hi).2.1⟩), ht⟩
  rw [h4]
  refine ⟨h1.1, ?_⟩
  rcases h1.2 with hh | ⟨g, cap, cur, e1, e2, e3, e4⟩
  · exact .inl hh
  · exact .inr ⟨g, cap, cur, e1, e2, (hk g e2 (Array.getElem?_eq_some_iff.1 e3).1).trans e3, e4⟩

/-- what the iterator reads -/
def AllV (b : Nat) (n : Nd) (k : Nat) (W : World) : Prop := k = 0 → BoxN W b n
/-- the blocks that the iterator made stay -/
structure AlK (A B0 : Nat) (W5 W : World) : Prop where
  blk : ∀ j, A ≤ j → j < B0 → W.heap[j]? = W5.heap[j]?
  size : B0 + 2 ≤ W.heap.size
/-- what it made is among what the rounds leave alone -/
structure AlZ (A B0 : Nat) (Y Z : Nat → Prop) : Prop where
  z : ∀ j, A ≤ j → j < B0 + 2 → Z j
  y : ∀ j, Y j → Z j ∧ B0 + 2 ≤ j
theorem AlK.only {A B0 : Nat} {W5 W W' : World} {S : Nat → Prop} (h : AlK A B0 W5 W) (ho : Only S W W') (hS : ∀ j, S j → B0 ≤ j) : AlK A B0 W5 W' :=
  ⟨fun j h1 h2 => (ho.block j (by have := h.size; omega) (fun e => by have := hS j e; omega)).trans (h.blk j h1 h2), Nat.le_trans h.size ho.size⟩
theorem AlK.keepY {A B0 : Nat} {W5 W W' : World} {Z : Nat → Prop} (h : AlK A B0 W5 W) (hA : A ≤ B0) (hz : ∀ j, A ≤ j → j < B0 + 2 → Z j) (hk : KeepsY Z W W') : AlK A B0 W5 W' := by
  refine ⟨fun j h1 h2 => (hk j (hz j h1 (by omega))).trans (h.blk j h1 h2), ?_⟩
  have hlt : B0 + 1 < W.heap.size := by have := h.size; omega
  have e := hk _ (hz (B0 + 1) (by omega) (by omega))
  rw [Array.getElem?_eq_getElem hlt] at e
  have := (Array.getElem?_eq_some_iff.1 e).1
  omega
theorem AlZ.more {A B0 : Nat} {Y Z : Nat → Prop} (h : AlZ A B0 Y Z) {W W' : World} (hs : B0 + 2 ≤ W.heap.size) : AlZ A B0 (more Y W W') (more Z W W') :=
  ⟨fun j h1 h2 => .inl (h.z j h1 h2), fun j hj => by
    rcases hj with hj | hj
    · exact ⟨.inl (h.y j hj).1, (h.y j hj).2⟩
    · exact ⟨.inr hj, by omega⟩⟩
theorem AlZ.part {A B0 : Nat} {Y Y' Z : Nat → Prop} (h : AlZ A B0 Y Z) (hy : ∀ j, Y' j → Y j) : AlZ A B0 Y' Z := ⟨h.z, fun j hj => h.y j (hy j hj)⟩

theorem field_ps (w : World) (b : Bool) (pa ka ca : Option Addr) (np pc nk kc nc cc : Nat) : (Instr.field 26 (.agg #[.bool b, .slice pa np pc, .slice ka nk kc, .slice ca nc cc]) 1).run Try.prog w = .ok (.slice pa np pc) w := by kernel_rfl

set_option maxHeartbeats 4000000 in
theorem nall_iter (Bs : Nat) (n : Nd) (hf : few1 n = true) : Iter3 Try.prog 44 #[.pointer (some ⟨Bs, 0, none⟩)] EncT n.ps (AllV Bs n) := by
  intro l J Jx hJ hJx hV hY Y W h0
  obtain ⟨lf, pa, np, pc, ka, nk, kc, ca, nc, cc, hB, hN⟩ := hV Y 0 W h0 rfl
  obtain ⟨A, hA⟩ : ∃ A, W.heap.size = A := ⟨_, rfl⟩
  obtain ⟨yv, hyv⟩ : ∃ yv, Value.func (.yield l) #[] #[] = yv := ⟨_, rfl⟩
  obtain ⟨W1, hW1⟩ : ∃ W1, W.alloc (.cells #[.func (.yield l) #[] #[]] 46) = W1 := ⟨_, rfl⟩
  have hb1 : Below W.heap.size W W1 := by rw [← hW1]; exact (Below.refl _ W).alloc (Nat.le_refl _) _
  have hsz1 : W1.heap.size = A + 1 := by rw [← hW1]; simp [hA]
  have hyb : Blk W1 A 46 [yv] := by rw [← hW1, ← hA, ← hyv]; exact Blk.new W _ _
  obtain ⟨⟨z0, z1, z2, z3⟩, _⟩ := node_cells (hB.below hb1 hB.lt)
  have HC := hide (ndClone_any W1 _ n (hN.below hb1) hf)
  have HEA := hide (fun w1 => each_any w1)
  have HJ := hide hJ
  have HJX := hide hJx
  have HV := hide hV
  have HY := hide hY
  have H0 := hide h0
  have HB1 := hide hb1
  have HYB := hide hyb
  have HA := hide hA
  have HS1 := hide hsz1
  have HYV := hide hyv
  clear hN hB hJ hJx hV hY h0 hb1 hyb hA hsz1 hyv hf
  refine callsIn_wide.2 ((callsIn_wide (n := 3)).1 ?_)
  refine callsIn_of_wp_marks Try.func44 rfl trivial ?_ rfl
  simp only [Try.ntmps44, List.size_toArray, List.length_cons, List.length_nil, Nat.reduceAdd, Nat.reduceSub, Array.replicate_succ, Array.replicate_zero, List.push_toArray, List.append_toArray, List.nil_append, List.cons_append]
  gi_wp2_with (first
    | (refine ⟨trivial, ?_⟩; gi_at_call 28; refine (callsIn_wide.2 HC.out).mono ?_; rintro e w2 ⟨u2, rfl, hn2, hb2⟩; obtain ⟨pa2, np2, pc2, ka2, nk2, kc2, ca2, nc2, cc2, rfl⟩ := hn2.form; have HN2 := hide hn2; have HB2 := hide hb2; have hfd := fun wx => field_ps wx n.lf pa2 ka2 ca2 np2 pc2 nk2 kc2 nc2 cc2; clear HC hn2 hb2)
    | (refine ⟨trivial, ?_⟩; gi_at_call 45; refine (callsIn_wide.2 (HEA.out _ _ _ _)).mono ?_; rintro e w3 ⟨rfl, hw⟩; subst w3; clear HEA))
  clear hW1 z0 z1 z2 z3 hfd
  rw [HA.out]
  obtain ⟨xs, hxl, hxs⟩ := prs_of HN2.out
  obtain ⟨W5, hW5⟩ : ∃ W5, w2.alloc (.cells #[.slice pa2 np2 pc2] 22) = W5 := ⟨_, rfl⟩
  have hb5 : Below w2.heap.size w2 W5 := by rw [← hW5]; exact (Below.refl _ w2).alloc (Nat.le_refl _) _
  have hs5 : W5.heap.size = w2.heap.size + 1 := by rw [← hW5]; simp
  have hpb : Blk W5 w2.heap.size 22 [.slice pa2 np2 pc2] := by rw [← hW5]; exact Blk.new w2 _ _
  have hyb5 : Blk W5 A 46 [yv] := (HYB.out.below HB2.out HYB.out.lt).below hb5 (HYB.out.below HB2.out HYB.out.lt).lt
  have hs2 := HB2.out.size
  have hs1 := HS1.out
  have HAB : Hid (A < w2.heap.size ∧ W5.heap.size = w2.heap.size + 1) := by show _ ∧ _; omega
  have HKY : Hid (∀ W', AlK A W5.heap.size W5 W' → Blk W' A 46 [yv]) := fun W' hk => (hk.blk A (Nat.le_refl _) (by omega)).trans hyb5
  have HKP : Hid (∀ W', AlK A W5.heap.size W5 W' → Blk W' w2.heap.size 22 [.slice pa2 np2 pc2]) := fun W' hk => (hk.blk _ (by omega) (by omega)).trans hpb
  have HKX : Hid (∀ W', AlK A W5.heap.size W5 W' → Prs W' (.slice pa2 np2 pc2) xs n.ps ∧ ∀ i, i < n.ps.length → TxU W' (xs.getD i nil2).1 (n.ps.getD i ([], [])).1 ∧ TxU W' (xs.getD i nil2).2 (n.ps.getD i ([], [])).2) := fun W' hk => hxs W' (fun j h1 h2 => (hk.blk j (by omega) (by omega)).trans (hb5.block j h2))
  have HK0 : Hid (∀ W', Only (fun _ => False) W5 W' → W'.heap.size = W5.heap.size + 2 → AlK A W5.heap.size W5 W' ∧ AlZ A W5.heap.size (fun _ => False) (more Y W W') ∧ J (more Y W W') 0 W') := fun W' ho hsz => by
    refine ⟨⟨fun j h1 h2 => ho.block j h2 (fun h => h), by omega⟩, ⟨fun j h1 h2 => .inr ⟨by have := HA.out; omega, by omega⟩, fun _ h => h.elim⟩, ?_⟩
    refine HJ.out Y 0 W W' H0.out ?_
    have o1 := Only.of_below (fun _ => False) HB1.out
    have o2 := Only.of_below (fun _ => False) HB2.out
    have o5 := Only.of_below (fun _ => False) hb5
    exact (((o1.trans o2 (fun _ _ h => h)).trans o5 (fun _ _ h => h)).trans ho (fun _ _ h => h)).mono (fun _ _ h => h.elim)
  have HXL := hide hxl
  clear hxl hxs hb5 hs5 hpb hyb5 hs2 hs1 HN2 HB2 HYB HS1 H0 HB1
  rw [hW5]
  clear hW5
  obtain rfl := HYV.out
  refine wp_range7 (gf := 63) (lb := #[.pointer (some ⟨w2.heap.size, 0, none⟩)]) (xs := xs) (Enc := fun x _ args => args = encV x) (V := EachV w2.heap.size (.slice pa2 np2 pc2) xs n.ps) rfl enters_each (each_iter _ _ _ _).three (fun x W' args he => by rw [he]; rfl)
    (fun Y' k W' => ∃ Z, J Z k W' ∧ AlZ A W5.heap.size Y' Z ∧ AlK A W5.heap.size W5 W')
    (fun Y' cc k W' => cc = .ret ∧ ∃ Z, Jx Z k W' ∧ AlZ A W5.heap.size Y' Z ∧ W5.heap.size + 2 ≤ W'.heap.size) ?_ ?_ ?_ ?_ (fun x W' W'' args he _ => he) ?_ ?_
    (fun args => { tmps := #[.func (.yield l) #[] #[], .pointer (some ⟨Bs, 0, none⟩), .pointer (some ⟨A, 0, none⟩), args.getD 0 undef, args.getD 1 undef, .agg #[.bool lf, .slice pa np pc, .slice ka nk kc, .slice ca nc cc], .agg #[.bool n.lf, .slice pa2 np2 pc2, .slice ka2 nk2 kc2, .slice ca2 nc2 cc2], .slice pa2 np2 pc2, .func (.func 63) #[] #[.pointer (some ⟨w2.heap.size, 0, none⟩)], args.getD 0 undef, args.getD 1 undef, undef, undef, undef, undef, undef], defers := [] }) ?assign ?body ?done ?stop
  · rintro Y' k W' W'' ⟨Z, hj, hz, hk⟩ ho
    have hj' := HJ.out Z k W' W'' hj (ho.mono (fun i _ e => ⟨hz.z i (by have := HAB.out; omega) (by omega), e.2⟩))
    exact ⟨_, hj', (hz.more hk.size).part (fun _ h => .inl h), hk.only ho (fun j e => by omega)⟩
  · rintro Y' k W' W'' ⟨Z, hj, hz, hk⟩ ho
    have hj' := HJ.out Z k W' W'' hj (ho.mono (fun i _ e => ⟨(hz.y i e.1).1, e.2⟩))
    exact ⟨_, hj', hz.more hk.size, hk.only ho (fun j e => by have := (hz.y j e.1).2; omega)⟩
  · rintro Y' cc k W' W'' ⟨rfl, Z, hj, hz, hk⟩ ho
    have hj' := HJX.out Z k W' W'' hj (ho.mono (fun i _ e => ⟨hz.z i (by have := HAB.out; omega) (by omega), e.2⟩))
    exact ⟨rfl, _, hj', (hz.more hk).part (fun _ h => .inl h), Nat.le_trans hk ho.size⟩
  · rintro Y' cc k W' W'' ⟨rfl, Z, hj, hz, hk⟩ ho
    have hj' := HJX.out Z k W' W'' hj (ho.mono (fun i _ e => ⟨(hz.y i e.1).1, e.2⟩))
    exact ⟨rfl, _, hj', hz.more hk, Nat.le_trans hk ho.size⟩
  · rintro Y' k W' ⟨Z, hj, hz, hk⟩
    exact ⟨fun _ => (HKP.out W' hk).cell 0, (HKX.out W' hk).1⟩
  · intro W' ho hs
    obtain ⟨h1, h2, h3⟩ := HK0.out W' ho hs
    exact ⟨_, h3, h2, h1⟩
  case assign =>
    rintro l2 k hk W' args rfl K hK
    gi_wp2
    exact hK
  case body =>
    rintro l2 Y' k hk W' args ⟨Z, hj, hz, hK⟩ rfl
    have hkn : k < n.ps.length := by rw [← HXL.out]; exact hk
    have hy0 := HY.out Z k hkn W' (encV xs[k]) hj (by
      have := (HKX.out W' hK).2 k hkn
      rw [show xs.getD k nil2 = xs[k] by simp [List.getD, hk], show n.ps.getD k ([], []) = n.ps[k] by simp [List.getD, hkn]] at this
      exact ⟨_, _, rfl, this.1, this.2⟩)
    obtain ⟨x, hx⟩ : ∃ x, xs[k] = x := ⟨_, rfl⟩
    rw [hx] at hy0 ⊢
    obtain ⟨u1, u2⟩ := x
    obtain ⟨fn, tmps, assign, body, hyy, hR⟩ := hy0
    have cA : W'.cell? ⟨A, 0, none⟩ = some (.func (.yield l) #[] #[]) := (HKY.out W' hK).cell 0
    have HRR := hide hR
    have HKK := hide hK
    have HZ := hide hz
    simp only [encV, Array.getD, List.size_toArray, List.length_cons, List.length_nil, Nat.reduceAdd, Nat.reduceLT, dite_true, Array.getInternal_eq_getElem, List.getElem_toArray, List.getElem_cons_zero, List.getElem_cons_succ] at hyy ⊢
    clear hK hz hj hR HK0 hx
    gi_wp2
    refine (round_wide HRR.out _ _).mono ?_
    have hfin : ∀ W3, KeepsY Z W' W3 → Keeps2 W5.heap.size W' W3 ∧ KeepsY Y' W' W3 ∧ AlK A W5.heap.size W5 W3 := fun W3 hk3 =>
      ⟨fun j hj o ho => (hk3 j (HZ.out.z j (by have := HAB.out; omega) (by omega))).trans ho, fun j hj => hk3 j (HZ.out.y j hj).1, HKK.out.keepY (by have := HAB.out; omega) HZ.out.z hk3⟩
    have HFIN := hide hfin
    clear hfin
    rintro e W3 (⟨rfl, hJ3, hkY⟩ | ⟨rfl, hJ3, hkY⟩)
    · obtain ⟨b1, b2, b3⟩ := HFIN.out W3 hkY
      have HB1 := hide b1
      have HB2 := hide b2
      have HB3 := hide b3
      have HJ3 := hide hJ3
      clear b1 b2 b3 hJ3 hkY HRR hyy HFIN
      gi_wp2
      exact ⟨HB1.out, HB2.out, _, HJ3.out, HZ.out, HB3.out⟩
    · obtain ⟨b1, b2, b3⟩ := HFIN.out W3 hkY
      have HB1 := hide b1
      have HB2 := hide b2
      have HB3 := hide b3
      have HJ3 := hide hJ3
      clear b1 b2 b3 hJ3 hkY HRR hyy HFIN
      gi_wp2
      exact ⟨HB1.out, HB2.out, rfl, _, HJ3.out, HZ.out, HB3.out.size⟩
  case done =>
    rintro Y' W' ⟨Z, hj, hz, hK⟩ hD
    rw [HXL.out] at hj
    have HD := hide hD
    have HJJ := hide hj
    have HZ := hide hz
    clear hD hj hz hK HK0
    gi_wp2
    refine ⟨by simp, .inl ⟨_, _, rfl, run_takeDeferred HD.out, ?_⟩⟩
    have hoD : Only (fun j => Z j ∧ noCells W' j) W' (W'.putObj W5.heap.size (.deferred none)) := only_put1 W' _ _ _ ⟨HZ.out.z _ (by have := HAB.out; omega) (by omega), fun cs t f e => by rw [HD.out] at e; cases e⟩
    refine ⟨_, results_none rfl _ _ _, ⟨_, rfl⟩, _, .inl (HJ.out Z _ W' _ HJJ.out hoD)⟩
  case stop =>
    rintro Y' cc k W' hk ⟨rfl, Z, hj, hz, hsz⟩ hD
    have HD := hide hD
    have HJJ := hide hj
    have HZ := hide hz
    have HKL : Hid (k < n.ps.length) := by show _ < _; rw [← HXL.out]; exact hk
    clear hD hj hz HK0 hk
    gi_wp2
    refine ⟨by simp, .inl ⟨_, _, rfl, run_takeDeferred HD.out, ?_⟩⟩
    have hoD : Only (fun j => Z j ∧ noCells W' j) W' (W'.putObj W5.heap.size (.deferred none)) := only_put1 W' _ _ _ ⟨HZ.out.z _ (by have := HAB.out; omega) (by omega), fun cs t f e => by rw [HD.out] at e; cases e⟩
    refine ⟨_, results_none rfl _ _ _, ⟨_, rfl⟩, _, .inr ⟨k, HKL.out, HJX.out Z _ W' _ HJJ.out hoD⟩⟩

end Go.Proofs.Ytoamdbjailpgdab
/- Contracts: pairs that are told, at most so many (incipitlaw10.told), over package node's All; the law's leaf. -/
namespace Go.Proofs.Ytoamdbjailpgdab
set_option maxRecDepth 20000
open Go.RowKit Go.Shelf
set_option linter.unusedVariables false
set_option linter.unusedSimpArgs false
set_option maxRecDepth 100000
attribute [local go_sem] Oper.semAt_some

theorem wpListIn_append_runP {F : Fence} {n : Nat} {P : Program} (w : World) {ops : Array Oper} {rest : List Oper} {o : Oper} {a : Act} {Q : Exit → Act → World → Prop} (hg : o.guard = none) (s x : Operand) (t : TypeId)
    (hop : o.op = .call { callee := .builtin .append, args := #[s, x], argTypes := #[t, t] }) (v y : Value) (hs : a.eval s = v) (hx : a.eval x = y) (v' : Value) (w' : World)
    (hr : (Builtin.append_ #[t, t] o.type #[v, y]).run P w = .ok v' w') (h : wpListIn F n P ops Q rest (a.put o.dst v') w') : wpListIn F n P ops Q (o :: rest) a w := by
  refine wpListIn_plain hg fun K hK' => ?_
  unfold Oper.wpIn
  refine ⟨?_, ?_⟩
  · simp [Oper.about, hop, resolve, Target.leads, Sem.run_pure]
  · rw [Oper.semAt_plain F _ _ (by rw [hop]; intro c hc'; cases hc')]
    simp [execOp, hop, resolve, invoke, builtin, hs, hx, hr, Result.andThen]
    exact hK' _ _ h

theorem eqlF2 (gf : Nat) (lb : Array Value) (w : World) : (binOp .eql 42 (.func (.func gf) #[] lb) .nilFunc).run Try.prog w = .ok (.bool false) w := by kernel_rfl
theorem build_pair1 (w : World) (a1 a2 : Option Addr) (n1 n2 c1 c2 : Nat) : (Instr.buildSlice 22 1 #[(0, .agg #[.slice a1 n1 c1, .slice a2 n2 c2])]).run Try.prog w = .ok (.slice (some ⟨w.heap.size, 0, none⟩) 1 1) (w.alloc (.cells #[.slice a1 n1 c1, .slice a2 n2 c2] 45)) := by kernel_rfl

theorem cell_stay {S : Nat → Prop} {W W' : World} {p : Addr} {x : Value} (h : W.cell? p = some x) (ho : Only (fun j => S j ∧ noCells W j) W W') : W'.cell? p = some x := by
  rw [World.cell?_of_block (w := W) (ho.block p.block (World.block_lt_of_cell? W _ h) (fun hh => ?_))]
  · exact h
  · unfold World.cell? at h
    have := hh.2
    unfold noCells at this
    split at h
    · rename_i cs t f hc; exact this cs t f hc
    · cases h
theorem Sl.stay {S : Nat → Prop} {W W' : World} {v : Value} {zs : List Int} (h : Sl W v zs) (ho : Only (fun j => S j ∧ noCells W j) W W') : Sl W' v zs := by
  obtain ⟨hb, ao, cap, rfl, h1, h2, h3, h4⟩ := h
  refine ⟨hb, ao, cap, rfl, h1, h2, h3, fun hz => ?_⟩
  obtain ⟨b, off, rfl, hc⟩ := h4 hz
  exact ⟨b, off, rfl, fun i hi => cell_stay (hc i hi) ho⟩
theorem Prs.stay {S : Nat → Prop} {W W' : World} {v : Value} {xs : List (Value × Value)} {ps : List (List Int × List Int)} (h : Prs W v xs ps) (ho : Only (fun j => S j ∧ noCells W j) W W') : Prs W' v xs ps := by
  obtain ⟨hl, ao, cap, rfl, h1, h2, h3, h4⟩ := h
  refine ⟨hl, ao, cap, rfl, h1, h2, fun i hi => ⟨(h3 i hi).1.stay ho, (h3 i hi).2.stay ho⟩, fun hne => ?_⟩
  obtain ⟨b, off, rfl, hc⟩ := h4 hne
  exact ⟨b, off, rfl, fun i hi j v hj => cell_stay (hc i hi j v hj) ho⟩

/-- a pair more, behind a row of the call's own -/
theorem push_p1 (W : World) (base : Nat) (v : Value) (xs : List (Value × Value)) (h : W.ownsRow base 45 2 v xs.length (flatP xs)) (g : Nat) (a1 a2 : Option Addr) (n1 n2 c1 c2 : Nat) (hg : Blk W g 45 [.slice a1 n1 c1, .slice a2 n2 c2]) (hl : xs.length ≤ 1000) (hbase : base ≤ W.heap.size) :
    ∃ v2 w3, (Builtin.append_ #[22, 22] 22 #[v, .slice (some ⟨g, 0, none⟩) 1 1]).run Try.prog W = .ok v2 w3 ∧ w3.ownsRow base 45 2 v2 (xs.length + 1) (flatP (xs ++ [(.slice a1 n1 c1, .slice a2 n2 c2)])) ∧ W.grownBy w3 v.ownBlock ∧ (v2.ownBlock = v.ownBlock ∨ v2.ownBlock = some W.heap.size) ∧ ∃ a c, v2 = .slice a (xs.length + 1) c := by
  obtain ⟨i0, hi, hz0, hz1, hz2⟩ := info_parts infoPair
  obtain ⟨p', w', hr, h1, h2, _, h4⟩ := run_append_own_at (P := Try.prog) W base 22 22 45 i0 _ 2 48 Try.underlying22 hi hz0 hz1 hz2 rfl (by decide) v xs.length (flatP xs) h ⟨g, 0, none⟩ 1 1 [.slice a1 n1 c1, .slice a2 n2 c2] rfl
    (fun j u hj => by
      have hj2 : j < 2 := (List.getElem?_eq_some_iff.1 hj).1
      rw [Addr.add_mid, Nat.zero_add, hg.cell]
      exact hj) (by intro u hu; simp at hu; rcases hu with rfl | rfl <;> rfl) (by unfold maxLen; omega) (by omega) hbase
  exact ⟨p', w', hr, by rw [flatP_snoc]; exact h1, h2, h4, own_form' h1⟩

/-- how far it is told: 'most' in a box, the list in a box -/
structure TdI (w : World) (most : Int) (ps : List (List Int × List Int)) (Y : Nat → Prop) (k : Nat) (W : World) : Prop where
  b1 : Blk W w.heap.size 3 [.int .i64 most]
  box : ∃ v xs, Blk W (w.heap.size + 1) 22 [v] ∧ W.ownsRow w.heap.size 45 2 v xs.length (flatP xs) ∧ xs.length = k ∧ (∀ i, i < k → TxU W (xs.getD i nil2).1 (ps.getD i ([], [])).1 ∧ TxU W (xs.getD i nil2).2 (ps.getD i ([], [])).2) ∧ ∀ j, v.ownBlock = some j → w.heap.size + 4 ≤ j ∧ ¬ Y j
  below : Below w.heap.size w W
  size : w.heap.size + 4 ≤ W.heap.size
  ys : ∀ j, Y j → w.heap.size + 4 ≤ j ∧ j < W.heap.size
theorem row_lt {W : World} {base : Nat} {e : TypeId} {size n j : Nat} {v : Value} {xs : List Value} (h : W.ownsRow base e size v n xs) (hj : v.ownBlock = some j) : j < W.heap.size := by
  obtain ⟨_, cs, hB⟩ := row_blk h hj
  exact hB.lt
theorem TdI.keep {w : World} {most : Int} {ps : List (List Int × List Int)} {Y : Nat → Prop} {k : Nat} {W W' : World} (h : TdI w most ps Y k W) (ho : Only (fun j => (j = w.heap.size + 2 ∨ j = w.heap.size + 2 + 1) ∧ noCells W j) W W') : TdI w most ps Y k W' := by
  obtain ⟨v, xs, h1, h2, h3, h4, h5⟩ := h.box
  exact ⟨h.b1.only ho (by omega), ⟨v, xs, h1.only ho (by omega), ownsRow_only h2 ho (fun j hj e => by have := (h5 j hj).1; omega), h3, fun i hi => ⟨(h4 i hi).1.stay ho, (h4 i hi).2.stay ho⟩, h5⟩, h.below.trans (ho.below h.below.size (fun j hj e => by omega)), Nat.le_trans h.size ho.size, fun j hj => ⟨(h.ys j hj).1, Nat.lt_of_lt_of_le (h.ys j hj).2 ho.size⟩⟩
theorem TdI.grow {w : World} {most : Int} {ps : List (List Int × List Int)} {Y : Nat → Prop} {k : Nat} {W W' : World} (h : TdI w most ps Y k W) (ho : Only (fun j => Y j ∧ noCells W j) W W') : TdI w most ps (more Y W W') k W' := by
  obtain ⟨v, xs, h1, h2, h3, h4, h5⟩ := h.box
  have hs := h.size
  have hy := h.ys
  refine ⟨h.b1.only ho (fun e => by have := (hy _ e.1).1; omega), ⟨v, xs, h1.only ho (fun e => by have := (hy _ e.1).1; omega), ownsRow_only h2 ho (fun j hj e => (h5 j hj).2 e.1), h3, fun i hi => ⟨(h4 i hi).1.stay ho, (h4 i hi).2.stay ho⟩, fun j hj => ⟨(h5 j hj).1, fun hy => hy.elim (h5 j hj).2 (fun hy => by have := row_lt h2 hj; omega)⟩⟩, h.below.trans (ho.below h.below.size (fun j hj e => by have := (hy _ e.1).1; omega)), Nat.le_trans h.size ho.size, fun j hj => ?_⟩
  rcases hj with hj | hj
  · exact ⟨(hy j hj).1, Nat.lt_of_lt_of_le (hy j hj).2 ho.size⟩
  · exact ⟨by omega, hj.2⟩
theorem TdI.prs {w : World} {most : Int} {ps : List (List Int × List Int)} {Y : Nat → Prop} {k : Nat} {W : World} (h : TdI w most ps Y k W) (hk : k ≤ ps.length) : ∃ v xs, Blk W (w.heap.size + 1) 22 [v] ∧ Prs W v xs (ps.take k) := by
  obtain ⟨v, xs, h1, h2, h3, h4, h5⟩ := h.box
  refine ⟨v, xs, h1, prs_own h2 (by rw [List.length_take]; omega) (fun i hi => ?_)⟩
  rw [List.length_take] at hi
  rw [getD_takeX _ _ _ _ (by omega)]
  exact ⟨(h4 i (by omega)).1.1, (h4 i (by omega)).2.1⟩
/-- a round more -/
theorem TdI.push {w : World} {M : Int} {ps : List (List Int × List Int)} {Y : Nat → Prop} {k : Nat} {W w3 : World} {v v2 : Value} {xs : List (Value × Value)} {u1 u2 : Value} (h : TdI w M ps Y k W) (hB : Blk W (w.heap.size + 1) 22 [v]) (hown : W.ownsRow w.heap.size 45 2 v xs.length (flatP xs)) (hlen : xs.length = k) (ht : ∀ i, i < k → TxU W (xs.getD i nil2).1 (ps.getD i ([], [])).1 ∧ TxU W (xs.getD i nil2).2 (ps.getD i ([], [])).2) (hv : ∀ j, v.ownBlock = some j → w.heap.size + 4 ≤ j ∧ ¬ Y j)
    (hu1 : TxU W u1 (ps.getD k ([], [])).1) (hu2 : TxU W u2 (ps.getD k ([], [])).2) (o : Obj) (hg : (W.alloc o).grownBy w3 v.ownBlock) (ho2 : w3.ownsRow w.heap.size 45 2 v2 (k + 1) (flatP (xs ++ [(u1, u2)]))) (hv2 : v2.ownBlock = v.ownBlock ∨ v2.ownBlock = some (W.heap.size + 1)) :
    TdI w M ps Y (k + 1) (w3.setCell ⟨w.heap.size + 1, 0, none⟩ v2) ∧ KeepsY Y W (w3.setCell ⟨w.heap.size + 1, 0, none⟩ v2) ∧ Keeps2 (w.heap.size + 2) W (w3.setCell ⟨w.heap.size + 1, 0, none⟩ v2) := by
  have h4 := h.size
  have hoA : Only (fun j => v.ownBlock = some j) W w3 := ((Only.refl _ W).alloc _).grown hg (fun j e _ => e)
  have hoB : Only (· = w.heap.size + 1) w3 (w3.setCell ⟨w.heap.size + 1, 0, none⟩ v2) := (Only.refl (· = w.heap.size + 1) w3).setCell ⟨w.heap.size + 1, 0, none⟩ _ (fun _ => rfl)
  have hB3 : Blk w3 (w.heap.size + 1) 22 [v] := hB.only hoA (fun e => by have := (hv _ e).1; omega)
  have hv3 : ∀ j, v2.ownBlock = some j → w.heap.size + 4 ≤ j ∧ ¬ Y j := fun j hj => by
    rcases hv2 with e | e
    · exact hv j (e ▸ hj)
    · rw [e] at hj
      have := Option.some.inj hj
      exact ⟨by omega, fun hy => by have := (h.ys j hy).2; omega⟩
  have hx : ∀ u zs, TxU W u zs → TxU (w3.setCell ⟨w.heap.size + 1, 0, none⟩ v2) u zs := fun u zs hu =>
    (hu.only hoA (fun j hj cs hC => row_not_blk hown hC (by decide) hj)).only hoB (fun j hj cs hC => by
      subst hj
      have := hB3.symm.trans hC
      simp at this)
  have hsA := hoA.size
  have hsB := hoB.size
  refine ⟨⟨(h.b1.only hoA (fun e => by have := (hv _ e).1; omega)).only hoB (by omega), ⟨v2, xs ++ [(u1, u2)], hB3.set 0 _, ?_, by simp [hlen], ?_, hv3⟩, (h.below.trans (hoA.below (by omega) (fun j hj e => by have := (hv j e).1; omega))).trans (hoB.below (by omega) (fun j hj e => by omega)), by omega, fun j hj => ⟨(h.ys j hj).1, by have := (h.ys j hj).2; omega⟩⟩, ?_, ?_⟩
  · rw [List.length_append, hlen]
    exact ownsRow_only ho2 hoB (fun j hj e => by have := (hv3 j hj).1; omega)
  · intro i hi
    by_cases hik : i < k
    · rw [show (xs ++ [(u1, u2)]).getD i nil2 = xs.getD i nil2 by simp [List.getD, List.getElem?_append_left (show i < xs.length by omega)]]
      exact ⟨hx _ _ (ht i hik).1, hx _ _ (ht i hik).2⟩
    · obtain rfl : i = k := by omega
      rw [show (xs ++ [(u1, u2)]).getD i nil2 = (u1, u2) by rw [← hlen]; simp [List.getD]]
      exact ⟨hx _ _ hu1, hx _ _ hu2⟩
  · intro j hj
    have hjs := h.ys j hj
    exact (hoB.block j (by omega) (by omega)).trans (hoA.block j hjs.2 (fun e => (hv j e).2 hj))
  · refine (Keeps2.of_only hoA ?_ ?_).trans (Keeps2.of_only hoB (by omega) (by omega))
    · intro e; have := (hv _ e).1; omega
    · intro e; have := (hv _ e).1; omega

set_option maxHeartbeats 2000000 in
theorem ntold_any (w : World) (b : Nat) (n : Nd) (hf : few1 n = true) (hN : BoxN w b n) (M : Nat) (hM : M ≤ 2000000) :
    Calls Try.prog 15 #[.func (.func 44) #[] #[.pointer (some ⟨b, 0, none⟩)], .int .i64 M] w fun e w' => ∃ v xs, e = .returned v ∧ Prs w' v xs (n.ps.take M) ∧ Below w.heap.size w w' := by
  have hfe := eqlF2 44 #[.pointer (some ⟨b, 0, none⟩)]
  have hit := nall_iter b n hf
  have hln : n.ps.length ≤ 300 := by
    simp only [few1, Bool.and_eq_true, decide_eq_true_iff] at hf
    exact hf.1.1.1.1
  have HN : Hid (∀ k W', Below w.heap.size w W' → AllV b n k W') := fun k W' hb _ => hN.below hb
  generalize n.ps = ps at *
  clear hf hN
  refine (callsIn_wide (n := 3)).1 ?_
  refine callsIn_of_wp_marks Try.func15 rfl trivial ?_ rfl
  simp only [Try.ntmps15, List.size_toArray, List.length_cons, List.length_nil, Nat.reduceAdd, Nat.reduceSub, Array.replicate_succ, Array.replicate_zero, List.push_toArray, List.append_toArray, List.nil_append, List.cons_append]
  gi_wp2
  obtain ⟨w2, hw2⟩ : ∃ w2, (w.alloc (.cells #[.int .i64 M] 3)).alloc (.cells #[.slice none 0 0] 22) = w2 := ⟨_, rfl⟩
  have hs2 : w2.heap.size = w.heap.size + 2 := by rw [← hw2]; simp
  have hA : Blk w2 w.heap.size 3 [.int .i64 M] := by rw [← hw2]; exact (Blk.new w _ _).alloc _
  have hB : Blk w2 (w.heap.size + 1) 22 [.slice none 0 0] := by
    rw [← hw2]
    have := Blk.new (w.alloc (.cells #[.int .i64 M] 3)) 22 [.slice none 0 0]
    rw [World.size_alloc] at this
    exact this
  have hb2 : Below w.heap.size w w2 := by rw [← hw2]; exact ((Below.refl _ w).alloc (Nat.le_refl _) _).alloc (by simp) _
  rw [hw2]
  clear hfe
  refine wp_range7 (gf := 44) (lb := #[.pointer (some ⟨b, 0, none⟩)]) (xs := ps) (Enc := EncT) (V := AllV b n) rfl enters_nall hit (fun x W' args he => by obtain ⟨u1, u2, rfl, _⟩ := he; rfl) (fun Y k W => k ≤ M ∧ TdI w M ps Y k W) (fun Y cc k W => cc = .exit 0 ∧ TdI w M ps Y M W ∧ M ≤ ps.length) ?_ ?_ ?_ ?_ (fun x W' W'' args he ho => he.stay ho) ?_ ?_
    (fun args => { tmps := #[.func (.func 44) #[] #[.pointer (some ⟨b, 0, none⟩)], .int .i64 M, undef, .pointer (some ⟨w.heap.size, 0, none⟩), .slice none 0 0, .pointer (some ⟨w.heap.size + 1, 0, none⟩), args.getD 0 undef, args.getD 1 undef, .func (.func 44) #[] #[.pointer (some ⟨b, 0, none⟩)], .bool false, .func (.func 44) #[] #[.pointer (some ⟨b, 0, none⟩)], args.getD 0 undef, args.getD 1 undef, undef, undef, undef, undef, undef, undef, undef, undef, undef, undef, undef], defers := [] }) ?assign ?body ?done ?stop
  · rintro Y k W W' ⟨h0, h⟩ ho
    exact ⟨h0, h.keep (by rw [hs2] at ho; exact ho)⟩
  · rintro Y k W W' ⟨h0, h⟩ hb
    exact ⟨h0, h.grow hb⟩
  · rintro Y cc k W W' ⟨rfl, h, hm⟩ ho
    exact ⟨rfl, h.keep (by rw [hs2] at ho; exact ho), hm⟩
  · rintro Y cc k W W' ⟨rfl, h, hm⟩ ho
    exact ⟨rfl, h.grow ho, hm⟩
  · rintro Y k W ⟨h0, h⟩
    exact HN.out k W h.below
  · intro W1 ho hs
    exact ⟨Nat.zero_le _, hA.only ho (fun h => h), ⟨_, [], hB.only ho (fun h => h), World.ownsRow_nil _ _ _ _, rfl, fun i hi => absurd hi (Nat.not_lt_zero _), (fun j hj => by cases hj)⟩, hb2.trans ((ho.below (Nat.le_refl _) (fun _ _ h => h)).mono (by omega)), by omega, (fun _ h => h.elim)⟩
  case assign =>
    rintro l k hk W args ⟨u1, u2, rfl, he1, he2⟩ K hK
    gi_wp2
    exact hK
  case body =>
    rintro l Y k hk W args ⟨h0, h⟩ ⟨u1, u2, rfl, he1, he2⟩
    have hxe : ps.getD k ([], []) = ps[k] := by simp [List.getD, hk]
    rw [← hxe] at he1 he2
    have HH := hide h
    obtain ⟨hb1, ⟨v, xs, h1, h2, h3, h4, h5⟩, h6, h7, _⟩ := h
    have cM : W.cell? ⟨w.heap.size, 0, none⟩ = some (.int .i64 M) := hb1.cell 0
    have c0 : W.cell? ⟨w.heap.size + 1, 0, none⟩ = some v := h1.cell 0
    have f0 := h1.frozen 0
    obtain ⟨a1, n1, c1, rfl⟩ := sl_form he1.1
    obtain ⟨a2, n2, c2, rfl⟩ := sl_form he2.1
    have hbp := fun wx => build_pair1 wx a1 a2 n1 n2 c1 c2
    have hown0 : (W.alloc (.cells #[.slice a1 n1 c1, .slice a2 n2 c2] 45)).ownsRow w.heap.size 45 2 v xs.length (flatP xs) := ownsRow_only h2 ((Only.refl (fun _ => False) W).alloc _) (fun j hj h => h)
    obtain ⟨v2, w3, hr, hi2, hg2, hv2, ao2, cap2, rfl⟩ := push_p1 _ w.heap.size v xs hown0 W.heap.size a1 a2 n1 n2 c1 c2 (Blk.new W _ _) (by omega) (by simp; omega)
    rw [World.size_alloc] at hv2
    rw [h3] at hi2 hv2
    have HP := hide (HH.out.push h1 h2 h3 h4 h5 he1 he2 _ hg2 hi2 hv2)
    have hB2 : Blk w3 (w.heap.size + 1) 22 [v] := (hg2.block _ (by simp; omega) (fun e => by have := (h5 _ e.symm).1; omega)).trans (h1.alloc _)
    have c2' : w3.cell? ⟨w.heap.size + 1, 0, none⟩ = some v := hB2.cell 0
    have f2 := hB2.frozen 0
    obtain ⟨ao1, cap1, hv1⟩ := own_form' h2
    rw [h3] at hv1 hr
    have HR := hide hr
    subst hv1
    clear hr hi2 hg2 hv2 hB2 h1 h2 h3 h4 h5 h6 hb1 hown0 he1 he2 hxe
    simp only [Array.getD, List.size_toArray, List.length_cons, List.length_nil, Nat.reduceAdd, Nat.reduceLT, dite_true, Array.getInternal_eq_getElem, List.getElem_toArray, List.getElem_cons_zero, List.getElem_cons_succ]
    by_cases hkM : k < M
    · have hkMi : ¬ (M : Int) ≤ (k : Int) := by omega
      gi_wp2_with (first
        | (gi_at_builtin; (with_reducible refine wpListIn_append_runP _ rfl (.tmp 17) (.tmp 21) 22 rfl _ _ ?_ ?_ _ _ HR.out ?_); exact rfl; exact rfl; clear HR))
      exact ⟨HP.out.2.2, HP.out.2.1, by omega, HP.out.1⟩
    · have hkMi : (M : Int) ≤ (k : Int) := by omega
      have hkM' : k = M := by omega
      gi_wp2
      exact ⟨Keeps2.refl _ _, KeepsY.refl _ _, rfl, hkM' ▸ HH.out, by omega⟩
  case done =>
    rintro Y W ⟨h0, h⟩ hD
    obtain ⟨v, xs, h1, h2⟩ := h.prs (Nat.le_refl _)
    have HEX : Hid (ps.take ps.length = ps.take M) := by show _ = _; rw [List.take_of_length_le (Nat.le_refl _), List.take_of_length_le h0]
    rw [HEX.out] at h2
    have c0 : W.cell? ⟨w.heap.size + 1, 0, none⟩ = some v := h1.cell 0
    have H2 := hide h2
    have H4 := hide h.below
    have HSZ := hide h.size
    have HD := hide hD
    obtain ⟨ao1, cap1, hv1, _⟩ := h2.shape
    generalize (ps.take M).length = n1 at hv1
    subst hv1
    clear h1 h2 hD h
    gi_wp2
    refine ⟨by simp, .inl ⟨_, _, rfl, run_takeDeferred HD.out, ?_⟩⟩
    have hoD : Only (· = w2.heap.size) W (W.putObj w2.heap.size (.deferred none)) := only_put1 W _ _ _ rfl
    have hoE : Only (fun j => True ∧ noCells W j) W (W.putObj w2.heap.size (.deferred none)) := only_put1 W _ _ _ ⟨trivial, fun cs t f e => by rw [HD.out] at e; cases e⟩
    exact ⟨_, results_tmp (t := 4) rfl _ _ _, .slice ao1 n1 cap1, xs, rfl, H2.out.stay hoE, H4.out.trans (hoD.below (by have := HSZ.out; omega) (fun j hj e => by omega))⟩
  case stop =>
    rintro Y cc k W hk ⟨rfl, h, hMx⟩ hD
    obtain ⟨v, xs, h1, h2⟩ := h.prs hMx
    have c0 : W.cell? ⟨w.heap.size + 1, 0, none⟩ = some v := h1.cell 0
    have H2 := hide h2
    have H4 := hide h.below
    have HSZ := hide h.size
    have HD := hide hD
    obtain ⟨ao1, cap1, hv1, _⟩ := h2.shape
    generalize (ps.take M).length = n1 at hv1
    subst hv1
    clear h1 h2 hD h
    gi_wp2
    refine ⟨by simp, .inl ⟨_, _, rfl, run_takeDeferred HD.out, ?_⟩⟩
    have hoD : Only (· = w2.heap.size) W (W.putObj w2.heap.size (.deferred none)) := only_put1 W _ _ _ rfl
    have hoE : Only (fun j => True ∧ noCells W j) W (W.putObj w2.heap.size (.deferred none)) := only_put1 W _ _ _ ⟨trivial, fun cs t f e => by rw [HD.out] at e; cases e⟩
    exact ⟨_, results_tmp (t := 4) rfl _ _ _, .slice ao1 n1 cap1, xs, rfl, H2.out.stay hoE, H4.out.trans (hoD.below (by have := HSZ.out; omega) (fun j hj e => by omega))⟩

theorem lawLeaf_any (w : World) (v : Value) (xs : List (Value × Value)) (ps : List (List Int × List Int)) (h : Prs w v xs ps) :
    Calls Try.prog 21 #[v] w fun e w' => ∃ u, e = .returned u ∧ NdV w' u ⟨true, ps, [], []⟩ ∧ Below w.heap.size w w' := by
  obtain ⟨ao, cap, rfl, _, _⟩ := h.shape
  have HP := hide h
  generalize ps.length = m at *
  obtain ⟨w1, hw1⟩ : ∃ w1, w.alloc (.cells #[.bool false, .slice none 0 0, .slice none 0 0, .slice none 0 0] 26) = w1 := ⟨_, rfl⟩
  have hb1 : Below w.heap.size w w1 := by rw [← hw1]; exact (Below.refl _ w).alloc (Nat.le_refl _) _
  have HB0 : Hid (Blk w1 w.heap.size 26 zeroC) := by rw [← hw1]; exact Blk.new w _ _
  obtain ⟨⟨d0, d1, d2, d3⟩, k0, k1, k2, k3⟩ := node_cells HB0.out
  have HB1 := hide hb1
  clear h hb1
  go_enter Try.func21, Try.ntmps21
  go_wp2
  (try simp only [Exit.inBlock, Exit.then])
  refine bodyPost_ret (results_cell_row rfl _ _ w.heap.size 26 #[.bool true, .slice ao m cap, .slice none 0 0, .slice none 0 0] (0, 0) _ rfl (laidN_blk HB0.out _ _ _ _) Try.underlying26 rfl sizeNode) rfl ?_
  have hb : Below w.heap.size w (laidN w1 w.heap.size (.bool true) (.slice ao m cap) (.slice none 0 0) (.slice none 0 0)) := HB1.out.trans ((laidN_only w1 w.heap.size _ _ _ _).below HB1.out.size (fun j hj e => by omega))
  exact ⟨_, rfl, ⟨_, _, _, xs, [], rfl, HP.out.below hb, Bss.nil _, Is.nil' _⟩, hb⟩

end Go.Proofs.Ytoamdbjailpgdab
