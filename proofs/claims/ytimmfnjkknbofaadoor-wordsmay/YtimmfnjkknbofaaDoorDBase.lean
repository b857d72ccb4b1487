/- What the walks of package disk share: a frame by footprints ('Only'), a block that is known whole ('Blk'), rows of rows, rows of the call's own that are written in their midst. No package's function. -/
import Derived.Test.YtimmfnjkknbofaaDoorOwn
import Derived.Deep.MidRow
import Derived.Great.BuildSlice
namespace Go.Proofs.YtimmfnjkknbofaaDoor
set_option maxRecDepth 20000
open Go.RowKit
set_option linter.unusedVariables false

/-! ### the frame: but for the blocks in S, what was there is as it was -/
structure Only (S : Nat → Prop) (w w' : World) : Prop where
  os : w'.os = w.os
  tape : w'.tape = w.tape
  output : w'.output = w.output
  size : w.heap.size ≤ w'.heap.size
  block : ∀ k, k < w.heap.size → ¬ S k → w'.heap[k]? = w.heap[k]?

theorem Only.refl (S : Nat → Prop) (w : World) : Only S w w := ⟨rfl, rfl, rfl, Nat.le_refl _, fun _ _ _ => rfl⟩
theorem Only.trans {S T : Nat → Prop} {a b c : World} (h : Only S a b) (k : Only T b c) (hT : ∀ i, i < a.heap.size → T i → S i) : Only S a c :=
  ⟨k.os.trans h.os, k.tape.trans h.tape, k.output.trans h.output, Nat.le_trans h.size k.size, fun i hi hn => (k.block i (Nat.lt_of_lt_of_le hi h.size) (fun hh => hn (hT i hi hh))).trans (h.block i hi hn)⟩
theorem Only.mono {S T : Nat → Prop} {a b : World} (h : Only S a b) (hT : ∀ i, i < a.heap.size → S i → T i) : Only T a b :=
  ⟨h.os, h.tape, h.output, h.size, fun i hi hn => h.block i hi (fun hh => hn (hT i hi hh))⟩
theorem Only.of_below {w w' : World} (S : Nat → Prop) (h : Below w.heap.size w w') : Only S w w' := ⟨h.os, h.tape, h.output, h.size, fun k hk _ => h.block k hk⟩
theorem Only.below {S : Nat → Prop} {w w' : World} {B : Nat} (h : Only S w w') (hB : B ≤ w.heap.size) (hS : ∀ k, k < B → ¬ S k) : Below B w w' :=
  ⟨h.os, h.tape, h.output, h.size, fun k hk => h.block k (by omega) (hS k hk)⟩
theorem Only.alloc {S : Nat → Prop} {a w : World} (h : Only S a w) (o : Obj) : Only S a (w.alloc o) :=
  h.trans (T := fun _ => False) ⟨rfl, rfl, rfl, by simp, fun k hk _ => Below.heap_alloc _ _ _ hk⟩ (fun _ _ h => h.elim)
theorem Only.drew {S : Nat → Prop} {a w : World} (h : Only S a w) : Only S a w.drew := ⟨h.os, h.tape, h.output, h.size, h.block⟩
theorem Only.drewN {S : Nat → Prop} {a w : World} (h : Only S a w) (n : Nat) : Only S a (w.drewN n) := ⟨h.os, h.tape, h.output, h.size, h.block⟩
theorem Only.setCell {S : Nat → Prop} {a w : World} (h : Only S a w) (p : Addr) (u : Value) (hp : p.block < a.heap.size → S p.block) : Only S a (w.setCell p u) :=
  h.trans (T := fun k => k = p.block) ⟨rfl, rfl, rfl, by simp [World.setCell], fun k _ hn => Below.heap_setCell _ _ _ _ hn⟩ (fun i hi e => by subst e; exact hp hi)
theorem Only.setCells {S : Nat → Prop} {a : World} (b : Nat) : ∀ (vs : List Value) (o : Nat) (w : World), Only S a w → (b < a.heap.size → S b) → Only S a (w.setCells b o vs)
  | [], _, _, h, _ => h
  | v :: r, o, w, h, hb => Only.setCells b r (o + 1) _ (h.setCell ⟨b, o, none⟩ v hb) hb
theorem Only.setRow {S : Nat → Prop} {a w : World} (h : Only S a w) (g : Nat) (cs : Array Value) (hp : g < a.heap.size → S g) : Only S a (w.setRow g cs) :=
  h.trans (T := fun k => k = g) ⟨rfl, rfl, rfl, by simp [World.setRow], fun k _ hn => setRow_other w g k cs hn⟩ (fun i hi e => by subst e; exact hp hi)
theorem Only.grown {S : Nat → Prop} {a w w' : World} {row : Option Nat} (h : Only S a w) (hg : w.grownBy w' row) (hr : ∀ k, row = some k → k < a.heap.size → S k) : Only S a w' :=
  h.trans (T := fun k => row = some k) ⟨hg.os, hg.tape, hg.output, hg.size, fun k hk hn => hg.block k hk (fun e => hn e.symm)⟩ (fun i hi e => hr i e hi)

theorem Sl.only {S : Nat → Prop} {w w' : World} {v : Value} {zs : List Int} (h : Sl w v zs) (ho : Only S w w') (hn : ∀ k, v.ownBlock = some k → ¬ S k) : Sl w' v zs :=
  h.keep fun k hk hlt => ho.block k hlt (hn k hk)
theorem ownsRow_only {S : Nat → Prop} {w w' : World} {base : Nat} {e : TypeId} {size n : Nat} {v : Value} {xs : List Value} (h : w.ownsRow base e size v n xs) (ho : Only S w w') (hn : ∀ k, v.ownBlock = some k → ¬ S k) : w'.ownsRow base e size v n xs := by
  refine ⟨h.1, ?_⟩
  rcases h.2 with hn' | ⟨g, cap, cur, rfl, hb, hg, r⟩
  · exact .inl hn'
  · exact .inr ⟨g, cap, cur, rfl, hb, (ho.block g (Array.getElem?_eq_some_iff.1 hg).1 (hn g rfl)).trans hg, r⟩
theorem ownsMap_only {H : Type} {S : Nat → Prop} {w w' : World} {P : Program} {k : TypeId} {R : Value → Option (DataW H × List MemPlace)} {b n : Nat} {D : DataW H} (h : w.ownsMap P k R b n D) (ho : Only S w w') (hn : ¬ S b) : w'.ownsMap P k R b n D := by
  have hlt := h.lt
  obtain ⟨es, clock, hb, r⟩ := h
  exact ⟨es, clock, (ho.block b hlt hn).trans hb, r⟩

/-! ### a block that is known whole -/
def Blk (w : World) (b : Nat) (e : TypeId) (cs : List Value) : Prop := w.heap[b]? = some (.cells cs.toArray e (0, 0))

theorem Blk.lt {w : World} {b : Nat} {e : TypeId} {cs : List Value} (h : Blk w b e cs) : b < w.heap.size := (Array.getElem?_eq_some_iff.1 h).1
theorem Blk.cell {w : World} {b : Nat} {e : TypeId} {cs : List Value} (h : Blk w b e cs) (i : Nat) : w.cell? ⟨b, i, none⟩ = cs[i]? := by
  rw [cell_of_row w b i _ e (0, 0) h]; simp
theorem Blk.frozen {w : World} {b : Nat} {e : TypeId} {cs : List Value} (h : Blk w b e cs) (i : Nat) : w.frozen? ⟨b, i, none⟩ = false := by
  simp [World.frozen?, show w.heap[b]? = _ from h]
theorem Blk.only {S : Nat → Prop} {w w' : World} {b : Nat} {e : TypeId} {cs : List Value} (h : Blk w b e cs) (ho : Only S w w') (hn : ¬ S b) : Blk w' b e cs := (ho.block b h.lt hn).trans h
theorem Blk.below {w w' : World} {b : Nat} {e : TypeId} {cs : List Value} (h : Blk w b e cs) {B : Nat} (ho : Below B w w') (hb : b < B) : Blk w' b e cs := (ho.block b hb).trans h
theorem Blk.alloc {w : World} {b : Nat} {e : TypeId} {cs : List Value} (h : Blk w b e cs) (o : Obj) : Blk (w.alloc o) b e cs := (Below.heap_alloc w o b h.lt).trans h
theorem Blk.new (w : World) (e : TypeId) (cs : List Value) : Blk (w.alloc (.cells cs.toArray e)) w.heap.size e cs := heap_alloc_new w _
theorem Blk.drew {w : World} {b : Nat} {e : TypeId} {cs : List Value} (h : Blk w b e cs) : Blk w.drew b e cs := h
theorem Blk.drewN {w : World} {b : Nat} {e : TypeId} {cs : List Value} (h : Blk w b e cs) (n : Nat) : Blk (w.drewN n) b e cs := h
theorem Blk.setOther {w : World} {b : Nat} {e : TypeId} {cs : List Value} (h : Blk w b e cs) (p : Addr) (u : Value) (hp : b ≠ p.block) : Blk (w.setCell p u) b e cs := (Below.heap_setCell w p u b hp).trans h
theorem Blk.set {w : World} {b : Nat} {e : TypeId} {cs : List Value} (h : Blk w b e cs) (i : Nat) (u : Value) : Blk (w.setCell ⟨b, i, none⟩ u) b e (cs.set i u) := by
  unfold Blk at h ⊢
  simp only [World.setCell, Array.getElem?_modify, h]
  simp
theorem Blk.setMany : ∀ (vs : List Value) (o : Nat) (w : World) {b : Nat} {e : TypeId} {cs : List Value}, Blk w b e cs → o + vs.length ≤ cs.length → Blk (w.setCells b o vs) b e (splice cs o vs)
  | [], o, w, b, e, cs, h, hl => by simpa [splice, World.setCells] using h
  | v :: r, o, w, b, e, cs, h, hl => by
    rw [World.setCells]
    have ih := Blk.setMany r (o + 1) _ (h.set o v) (by simp at hl ⊢; omega)
    have e1 : splice (cs.set o v) (o + 1) r = splice cs o (v :: r) := by
      have hlo : o < cs.length := by simp at hl; omega
      unfold splice
      rw [List.drop_set_of_lt (by omega), List.take_set, List.length_cons]
      have : (cs.take (o + 1)).set o v = cs.take o ++ [v] := by
        rw [List.take_succ_eq_append_getElem hlo, List.set_append_right _ _ (by simp; omega)]
        simp [Nat.min_eq_left (Nat.le_of_lt hlo)]
      rw [this, show o + 1 + r.length = o + (r.length + 1) by omega]
      simp
    rw [e1] at ih
    exact ih
theorem Blk.setOthers : ∀ (vs : List Value) (o : Nat) (w : World) {b c : Nat} {e : TypeId} {cs : List Value}, Blk w b e cs → b ≠ c → Blk (w.setCells c o vs) b e cs
  | [], _, _, _, _, _, _, h, _ => h
  | v :: r, o, w, b, c, e, cs, h, hn => Blk.setOthers r (o + 1) _ (h.setOther ⟨c, o, none⟩ v hn) hn
theorem Blk.setRow {w : World} {b : Nat} {e : TypeId} {cs : List Value} (h : Blk w b e cs) (ds : List Value) : Blk (w.setRow b ds.toArray) b e ds := setRow_heap w b _ _ e _ h
theorem Blk.range {w : World} {b : Nat} {e : TypeId} {cs : List Value} (h : Blk w b e cs) (o : Nat) (vs : List Value) (hv : ∀ j, j < vs.length → cs[o + j]? = vs[j]?) : w.rangeAt b o vs := fun j v hj => by
  have hl := (List.getElem?_eq_some_iff.1 hj).1
  rw [h.cell, hv j hl, hj]
theorem Blk.there {w : World} {b : Nat} {e : TypeId} {cs : List Value} (h : Blk w b e cs) (o n : Nat) (hl : o + n ≤ cs.length) : w.there b o n := fun j hj => by
  refine ⟨?_, h.frozen _⟩
  rw [h.cell, List.getElem?_eq_getElem (by omega)]
  rfl
theorem Blk.ne {w : World} {b c : Nat} {e f : TypeId} {cs ds : List Value} (h : Blk w b e cs) (k : Blk w c f ds) (hn : e ≠ f) : b ≠ c := by
  rintro rfl
  have := h.symm.trans k
  simp at this
  exact hn this.2

/-! ### an array that the call makes, and fills at once -/
theorem setCells_new : ∀ (cs : List Value) (pre : List Value) (w : World) (t : TypeId) (z : List Value), z.length = cs.length → (w.alloc (.cells (pre ++ z).toArray t)).setCells w.heap.size pre.length cs = w.alloc (.cells (pre ++ cs).toArray t)
  | [], pre, w, t, z, h => by
    obtain rfl := List.eq_nil_of_length_eq_zero h
    rfl
  | c :: cs, pre, w, t, z, h => by
    match z, h with
    | y :: z, h =>
      have e1 : (w.alloc (.cells (pre ++ y :: z).toArray t)).setCell ⟨w.heap.size, pre.length, none⟩ c = w.alloc (.cells ((pre ++ [c]) ++ z).toArray t) := by
        unfold World.setCell World.alloc
        congr 1
        apply Array.ext_getElem?
        intro i
        rw [Array.getElem?_modify]
        by_cases hi : i = w.heap.size
        · subst hi
          simp
        · rw [if_neg (fun e => hi e.symm)]
          simp [Array.getElem?_push, hi]
      rw [World.setCells, e1]
      have ih := setCells_new cs (pre ++ [c]) w t z (by simpa using h)
      rw [show (pre ++ [c]).length = pre.length + 1 by simp] at ih
      rw [ih]
      simp
theorem wpList_store_new {P : Program} {ops : Array Oper} {rest : List Oper} {op : Oper} {a : Act} {w : World} {Q : Exit → Act → World → Prop} (hgd : op.guard = none) (ty : TypeId) (x y : Operand) (ho : op.op = .store ty x y)
    (z cells : Array Value) (t : TypeId) (hx : a.eval x = .pointer (some ⟨w.heap.size, 0, none⟩)) (hy : a.eval y = .agg cells) (hzs : z.size = cells.size)
    (hi : (P.info? ty).map (·.size) = some cells.size) (h1 : cells.all (·.oneCell') = true)
    (h : wpList P ops Q rest (a.put op.dst undef) (w.alloc (.cells cells t))) : wpList P ops Q (op :: rest) a (w.alloc (.cells z t)) := by
  refine wpList_store_mid hgd ty x y ho w.heap.size 0 cells hx hy ?_ hi h1 ?_
  · refine Blk.there (e := t) (cs := z.toList) ?_ 0 cells.size (by simp [hzs])
    have := Blk.new w t z.toList
    simpa using this
  · have := setCells_new cells.toList [] w t z.toList (by simp [hzs])
    simp only [List.nil_append, List.length_nil, Array.toArray_toList] at this
    rw [this]
    exact h

theorem wpList_build1 {P : Program} {ops : Array Oper} {rest : List Oper} {op : Oper} {a : Act} {w : World} {Q : Exit → Act → World → Prop} (hgd : op.guard = none) (t : TypeId) (i : Nat) (x : Operand) (ho : op.op = .build t #[(i, x)])
    (v u : Value) (hx : a.eval x = v) (hr : (Instr.build t #[(i, v)]).run P w = .ok u w) (h : wpList P ops Q rest (a.put op.dst u) w) : wpList P ops Q (op :: rest) a w := by
  refine wpList_plain hgd fun _ hK => ?_
  unfold Oper.wp execOp
  simp only [ho, List.map_toArray, List.map_cons, List.map_nil, hx, Sem.run_bind, hr, Result.andThen_ok, Sem.run_pure]
  exact hK _ _ h

theorem wpList_copy_run {P : Program} {ops : Array Oper} {rest : List Oper} {o : Oper} {a : Act} {w : World} {Q : Exit → Act → World → Prop} (hgd : o.guard = none) (s x : Operand) (t t' : TypeId)
    (ho : o.op = .call { callee := .builtin .copy, args := #[s, x], argTypes := #[t, t'] }) (v y : Value) (hs : a.eval s = v) (hx : a.eval x = y) (v' : Value) (w' : World)
    (hr : (Builtin.copy_ #[t, t'] o.type #[v, y]).run P w = .ok v' w') (h : wpList P ops Q rest (a.put o.dst v') w') : wpList P ops Q (o :: rest) a w := by
  refine wpList_plain hgd fun _ hK => ?_
  unfold Oper.wp execOp
  simp only [ho, resolve, invoke, builtin, Sem.run_bind, Sem.run_pure, Result.andThen_ok, List.map_toArray, List.map_cons, List.map_nil, hs, hx, hr]
  exact hK _ _ h
/-- 'copy' of a slice of bytes that is read into bytes that are there -/
theorem run_copy_there {P : Program} (w : World) (t ty e : TypeId) (ht : P.underlying t = some (.slice e)) (hsz : (P.info? e).map (·.size) = some 1) (g o dLen dCap : Nat) (ao : Option Addr) (sLen sCap : Nat) (zs : List Int) (S : Sl w (.slice ao sLen sCap) zs) (hle : zs.length ≤ dLen) (hth : w.there g o zs.length) :
    (Builtin.copy_ #[t, t] ty #[.slice (some ⟨g, o, none⟩) dLen dCap, .slice ao sLen sCap]).run P w = .ok (.int .i64 zs.length) (w.setCells g o (zs.map (Value.int .u8))) := by
  have hn : sLen = zs.length := by obtain ⟨_, ao', cap', he, _⟩ := S; simp at he; exact he.2.1
  subst hn
  by_cases h0 : zs.length = 0
  · have := run_copy_none (P := P) w t t ty e (some ⟨g, o, none⟩) ao dLen dCap zs.length sCap ht hsz (by rw [h0]; exact Nat.zero_min _)
    rw [this]
    obtain rfl := List.eq_nil_of_length_eq_zero h0
    rfl
  · obtain ⟨ad, rfl, hs⟩ := S.src (by omega)
    have := run_copy_cells (P := P) w t t ty e g o dLen dCap ad zs.length sCap (zs.map (Value.int .u8)) ht hsz (by rw [List.length_map]; exact (Nat.min_eq_left hle).symm) hs
      (fun j hj => (hth j (by simpa using hj)).1) (fun j hj => (hth j (by simpa using hj)).2) (oneCell_bytes zs)
    rw [this, List.length_map]
    rfl

theorem fold_all : ∀ (l pre post : List Value), l.length ≤ post.length → (l.zipIdx pre.length).foldl (fun (c : Array Value) (x : Value × Nat) => c.setIfInBounds (0 + x.2) x.1) (pre ++ post).toArray = (pre ++ (l ++ post.drop l.length)).toArray
  | [], pre, post, _ => by simp
  | y :: l, pre, [], h => by simp at h
  | y :: l, pre, z :: post, h => by
    rw [List.zipIdx_cons, List.foldl_cons]
    have e : (pre ++ z :: post).toArray.setIfInBounds (0 + pre.length) y = ((pre ++ [y]) ++ post).toArray := by
      simp
    simp only [e]
    have ih := fold_all l (pre ++ [y]) post (by simpa using h)
    rw [show (pre ++ [y]).length = pre.length + 1 by simp] at ih
    rw [ih]
    simp
theorem fill_one (cs : List Value) (A : Array Value) (hA : A.size = cs.length) : Instr.fill (fun i => some (i * cs.length, cs.length)) A [(0, .agg cs.toArray)] = some cs.toArray := by
  have hv : (Value.agg cs.toArray).cells = cs.toArray := rfl
  unfold Instr.fill
  simp only [Nat.zero_mul, hv, List.size_toArray, hA]
  simp only [ne_eq, not_true_eq_false, decide_false, Bool.false_or, Nat.zero_add, gt_iff_lt, Nat.lt_irrefl, Bool.false_eq_true, if_false]
  unfold Instr.fill
  congr 1
  rw [← Array.foldl_toList, Array.toList_zipIdx]
  have := fold_all cs [] A.toList (by simp [hA])
  simp only [List.length_nil, List.nil_append, Array.toArray_toList, Nat.zero_add] at this
  rw [this, List.drop_of_length_le (by simp [hA])]
  simp
/-- '[]T{x}', x one array or struct by value -/
theorem run_build_one {P : Program} (w : World) (t e : TypeId) (ie : TypeInfo) (z : Value) (cs : List Value) (hu : P.underlying t = some (.slice e)) (hie : P.info? e = some ie) (hz : ie.zero = some z) (hs : ie.size = cs.length) (hpos : 0 < cs.length) (hle : cs.length ≤ 1000000) :
    (Instr.buildSlice t 1 #[(0, .agg cs.toArray)]).run P w = .ok (.slice (some ⟨w.heap.size, 0, none⟩) 1 1) (w.alloc (.cells cs.toArray e)) := by
  refine run_buildSlice w t e 1 _ cs.toArray ie z hu hie hz (by omega) (by omega) ?_
  rw [hs]
  exact fill_one cs _ (by simp)

/-! ### a row of the call's own, known whole -/
theorem own_blk {w : World} {base : Nat} {e : TypeId} {size n cap g : Nat} {xs : List Value} (h : w.ownsRow base e size (.slice (some ⟨g, 0, none⟩) n cap) n xs) :
    base ≤ g ∧ n ≤ cap ∧ cap ≤ maxLen ∧ xs.length = n * size ∧ ∃ sp, Blk w g e (xs ++ sp) ∧ sp.length = cap * size - n * size := by
  obtain ⟨h1, h2⟩ := h
  rcases h2 with ⟨h, _⟩ | ⟨g', cap', cur, h, hb, hg, h3, h4, hcs, ht⟩
  · simp at h
  · simp only [Value.slice.injEq, Option.some.injEq, Addr.mk.injEq, and_true, true_and] at h
    obtain ⟨rfl, rfl⟩ := h
    refine ⟨hb, h3, h4, h1, cur.toList.drop (n * size), ?_, by simp [hcs]⟩
    unfold Blk
    rw [hg, ← ht, List.take_append_drop]
theorem blk_own {w : World} {base : Nat} {e : TypeId} {size n cap g : Nat} {xs sp : List Value} (h : Blk w g e (xs ++ sp)) (hb : base ≤ g) (hn : n ≤ cap) (hm : cap ≤ maxLen) (hx : xs.length = n * size) (hs : sp.length = cap * size - n * size) :
    w.ownsRow base e size (.slice (some ⟨g, 0, none⟩) n cap) n xs := by
  have hle : n * size ≤ cap * size := Nat.mul_le_mul_right _ hn
  refine ⟨hx, .inr ⟨g, cap, (xs ++ sp).toArray, rfl, hb, h, hn, hm, ?_, ?_⟩⟩
  · simp; omega
  · simp [← hx]
theorem splice_left {α : Type} (xs sp : List α) (o : Nat) (vs : List α) (h : o + vs.length ≤ xs.length) : splice (xs ++ sp) o vs = splice xs o vs ++ sp := by
  unfold splice
  rw [List.take_append_of_le_length (by omega), List.drop_append_of_le_length (by omega)]
  simp
theorem own_splice {w w' : World} {base : Nat} {e : TypeId} {size n cap g : Nat} {xs : List Value} (h : w.ownsRow base e size (.slice (some ⟨g, 0, none⟩) n cap) n xs) (o : Nat) (vs : List Value) (hl : o + vs.length ≤ n * size)
    (hw : ∀ cs, Blk w g e cs → o + vs.length ≤ cs.length → Blk w' g e (splice cs o vs)) : w'.ownsRow base e size (.slice (some ⟨g, 0, none⟩) n cap) n (splice xs o vs) := by
  obtain ⟨h1, h2, h3, h4, sp, hB, hs⟩ := own_blk h
  have := hw _ hB (by simp; omega)
  rw [splice_left _ _ _ _ (by omega)] at this
  exact blk_own this h1 h2 h3 (by rw [length_splice _ _ _ (by omega)]; exact h4) hs
theorem own_range {w : World} {base : Nat} {e : TypeId} {size n cap g : Nat} {xs : List Value} (h : w.ownsRow base e size (.slice (some ⟨g, 0, none⟩) n cap) n xs) (o : Nat) (vs : List Value) (hv : ∀ j, j < vs.length → xs[o + j]? = vs[j]?) : w.rangeAt g o vs := by
  obtain ⟨h1, h2, h3, h4, sp, hB, hs⟩ := own_blk h
  refine hB.range o vs (fun j hj => ?_)
  have := hv j hj
  rw [List.getElem?_eq_getElem hj] at this ⊢
  have hlt := (List.getElem?_eq_some_iff.1 this).1
  rw [List.getElem?_append_left hlt, this]
theorem own_there {w : World} {base : Nat} {e : TypeId} {size n cap g : Nat} {xs : List Value} (h : w.ownsRow base e size (.slice (some ⟨g, 0, none⟩) n cap) n xs) (o m : Nat) (hl : o + m ≤ n * size) : w.there g o m := by
  obtain ⟨h1, h2, h3, h4, sp, hB, hs⟩ := own_blk h
  exact hB.there o m (by simp; omega)

theorem own_form' {w : World} {base : Nat} {e : TypeId} {size n : Nat} {v : Value} {xs : List Value} (h : w.ownsRow base e size v n xs) : ∃ ao cap, v = .slice ao n cap := by
  rcases h.2 with ⟨h, hn⟩ | ⟨g, cap, cur, h, _⟩
  · exact ⟨none, 0, by rw [hn]; exact h⟩
  · exact ⟨_, cap, h⟩
theorem own_len {w : World} {base : Nat} {e : TypeId} {size n : Nat} {ao : Option Addr} {cap : Nat} {xs : List Value} (h : w.ownsRow base e size (.slice ao n cap) n xs) : n ≤ cap ∧ cap ≤ maxLen := by
  rcases h.2 with ⟨h, hn⟩ | ⟨g, cap', cur, h, _, _, h1, h2, _⟩
  · simp only [Value.slice.injEq] at h
    obtain ⟨_, _, rfl⟩ := h
    exact ⟨by omega, by simp [maxLen]⟩
  · simp only [Value.slice.injEq, true_and] at h
    obtain ⟨_, rfl⟩ := h
    exact ⟨h1, h2⟩

/-- s[:h], whatever the elements are -/
theorem cut_head {P : Program} (t e : TypeId) (z : Nat) (ht : P.underlying t = some (.slice e)) (hz : (P.info? e).map (·.size) = some z) (ao : Option Addr) (n cap h : Nat) (hh : h ≤ cap) (hc : cap ≤ maxLen) (wx : World) :
    (Instr.slice t (.slice ao n cap) none (some (.int .i64 h)) none).run P wx = .ok (.slice ao h cap) wx := by
  have he : P.elem t = e := by simp [Program.elem, ht]
  have hs : (Go.sizeOf (P.elem t)).run P wx = .ok z wx := by
    rw [he]
    cases hq : P.info? e with
    | none => simp [hq] at hz
    | some i => simp [hq] at hz; simp [Go.sizeOf, typeInfo, hq, hz]
  unfold maxLen at hc
  rw [run_slice_h wx t ao n cap (by rw [he]; exact ht) .i64 h (by omega) (by omega), hs]
  simp only [Result.andThen, sliced, Int.toNat_natCast]
  by_cases hc : cap = 0
  · rw [if_pos hc]; rfl
  · rw [if_neg hc]
    cases ao with
    | none => rfl
    | some x => simp [Addr.add]

/-! ### rows, one behind the other -/
theorem flat_len {α : Type} {m : Nat} : ∀ (L : List (List α)), (∀ r ∈ L, r.length = m) → L.flatten.length = L.length * m
  | [], _ => by simp
  | r :: L, h => by
    rw [List.flatten_cons, List.length_append, flat_len L (fun x hx => h x (List.mem_cons_of_mem _ hx)), h r (List.mem_cons_self ..), List.length_cons, Nat.add_mul]; omega
theorem flat_get {α : Type} {m : Nat} : ∀ (L : List (List α)) (p : Nat) (hp : p < L.length), (∀ r ∈ L, r.length = m) → ∀ j, j < m → L.flatten[p * m + j]? = L[p][j]?
  | [], p, hp, _, _, _ => by simp at hp
  | r :: L, 0, _, h, j, hj => by
    have := h r (List.mem_cons_self ..)
    rw [List.flatten_cons, List.getElem?_append_left (by omega)]; simp
  | r :: L, p + 1, hp, h, j, hj => by
    have hr := h r (List.mem_cons_self ..)
    rw [List.flatten_cons, List.getElem?_append_right (by rw [hr, Nat.add_mul]; omega), hr, show (p + 1) * m + j - m = p * m + j by rw [Nat.add_mul]; omega]
    rw [flat_get L p (by simpa using hp) (fun x hx => h x (List.mem_cons_of_mem _ hx)) j hj]
    rfl
theorem flat_set {α : Type} {m : Nat} : ∀ (L : List (List α)) (p : Nat) (r : List α), p < L.length → (∀ x ∈ L, x.length = m) → r.length = m → (L.set p r).flatten = splice L.flatten (p * m) r
  | [], p, _, hp, _, _ => by simp at hp
  | x :: L, 0, r, _, h, hr => by
    have hx := h x (List.mem_cons_self ..)
    simp only [List.set_cons_zero, List.flatten_cons, splice, Nat.zero_mul, List.take_zero, List.nil_append, Nat.zero_add]
    rw [List.drop_append_of_le_length (by omega), List.drop_of_length_le (by omega)]; rfl
  | x :: L, p + 1, r, hp, h, hr => by
    have hx := h x (List.mem_cons_self ..)
    rw [List.set_cons_succ, List.flatten_cons, flat_set L p r (by simpa using hp) (fun y hy => h y (List.mem_cons_of_mem _ hy)) hr]
    have a1 : (x ++ L.flatten).take ((p + 1) * m) = x ++ L.flatten.take (p * m) := by
      rw [List.take_append, List.take_of_length_le (by rw [hx, Nat.add_mul]; omega), hx, show (p + 1) * m - m = p * m by rw [Nat.add_mul]; omega]
    have a2 : (x ++ L.flatten).drop ((p + 1) * m + r.length) = L.flatten.drop (p * m + r.length) := by
      rw [List.drop_append, List.drop_of_length_le (by rw [hx, Nat.add_mul]; omega), hx, show (p + 1) * m + r.length - m = p * m + r.length by rw [Nat.add_mul]; omega]; rfl
    unfold splice
    rw [List.flatten_cons, a1, a2]
    simp
theorem flat_part {α : Type} {m : Nat} (L : List (List α)) (p : Nat) (r : List α) (hp : p < L.length) (h : ∀ x ∈ L, x.length = m) (hr : r.length ≤ m) : splice L.flatten (p * m) r = (L.set p (r ++ L[p].drop r.length)).flatten := by
  have hx := h _ (List.getElem_mem hp)
  rw [flat_set L p _ hp h (by simp; omega)]
  unfold splice
  have e : (r ++ L[p].drop r.length).length = m := by simp; omega
  rw [e, List.append_assoc]
  congr 2
  apply List.ext_getElem?
  intro j
  rw [List.getElem?_drop]
  by_cases hj : j < m - r.length
  · rw [List.getElem?_append_left (by simp; omega), List.getElem?_drop, Nat.add_assoc, flat_get L p hp h (r.length + j) (by omega)]
  · rw [List.getElem?_append_right (by simp; omega), List.getElem?_drop]
    congr 1
    simp
    omega

end Go.Proofs.YtimmfnjkknbofaaDoor
