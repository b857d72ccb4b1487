/- What walks over slices of bytes share, beside Base: rows of the call's own, copies, appends, cuts; slices as strings. No package's function. -/
import Derived.Test.YtimmfnjkknbofaaDoorRows
import Derived.Test.YtimmfnjkknbofaaDoorBase
import Derived.Deep.QuietTactic
import Derived.BigQuiet
import Derived.Laws.CopyOwn
import Derived.Laws.BytesArg
import Derived.Deep.LoopGhost
namespace Go.Proofs.YtimmfnjkknbofaaDoor
set_option maxRecDepth 20000
open Go.RowKit

theorem infoU8 : (Tryd.prog.info? 5).map (fun i => (i.zero, i.size, i.bytes)) = some (some (.int .u8 0), 1, 1) := by kernel_rfl

theorem sizeU8 : (Tryd.prog.info? 5).map (·.size) = some 1 := by kernel_rfl

theorem oneCell_bytes (zs : List Int) : ∀ v ∈ zs.map (Value.int .u8), v.oneCell' = true := by
  intro v hv
  obtain ⟨z, _, rfl⟩ := List.mem_map.1 hv
  rfl

/-- the cells that a slice leads to, in 'Addr.add' -/
theorem Sl.src {w : World} {ao : Option Addr} {n cap : Nat} {zs : List Int} (h : Sl w (.slice ao n cap) zs) (hz : 0 < zs.length) :
    ∃ ad, ao = some ad ∧ ∀ j v, (zs.map (Value.int .u8))[j]? = some v → w.cell? (ad.add j) = some v := by
  obtain ⟨_, ao', cap', he, _, _, _, hc⟩ := h
  obtain ⟨rfl, _, _⟩ : ao = ao' ∧ n = zs.length ∧ cap = cap' := by simpa using he
  obtain ⟨b, off, rfl, hcc⟩ := hc (by intro h; simp [h] at hz)
  refine ⟨_, rfl, fun j v hj => ?_⟩
  have hjl : j < zs.length := by have := (List.getElem?_eq_some_iff.1 hj).1; simpa using this
  have e : (⟨b, off, none⟩ : Addr).add j = ⟨b, off + j, none⟩ := by unfold Addr.add; split <;> simp_all
  rw [e, hcc j hjl, getD_lt zs hjl]
  simpa [hjl] using hj

/-- a row that is owned whole: its block -/
theorem own_heap {w : World} {base : Nat} {e : TypeId} {g n : Nat} {xs : List Value} (h : w.ownsRow base e 1 (.slice (some ⟨g, 0, none⟩) n n) n xs) : w.heap[g]? = some (.cells xs.toArray e (0, 0)) := by
  obtain ⟨h1, h2⟩ := h
  rcases h2 with ⟨h, _⟩ | ⟨g', cap, cur, h, _, hg, _, _, hcs, ht⟩
  · simp at h
  · simp only [Value.slice.injEq, Option.some.injEq, Addr.mk.injEq, and_true, true_and] at h
    obtain ⟨rfl, rfl⟩ := h
    rw [hg]
    have : cur = xs.toArray := by
      apply Array.toList_inj.1
      rw [← ht, List.take_of_length_le (by simp [hcs])]
    rw [this]

theorem own_some {w : World} {base : Nat} {e : TypeId} {g n cap : Nat} {xs : List Value} (h : w.ownsRow base e 1 (.slice (some ⟨g, 0, none⟩) n cap) n xs) (j : Nat) (hj : j < n) : ∃ q, w.cell? ⟨g, j, none⟩ = some q := by
  rw [h.cellAt j (by omega)]
  have := h.1
  exact ⟨_, List.getElem?_eq_getElem (by omega)⟩

theorem heap_own {w : World} {base : Nat} {e : TypeId} {g n : Nat} {xs : List Value} (h : w.heap[g]? = some (.cells xs.toArray e (0, 0))) (hb : base ≤ g) (hn : xs.length = n) (hm : n ≤ maxLen) : w.ownsRow base e 1 (.slice (some ⟨g, 0, none⟩) n n) n xs :=
  ⟨by omega, .inr ⟨g, n, xs.toArray, rfl, hb, h, Nat.le_refl _, hm, by simp [hn], by simp [← hn]⟩⟩

theorem madeBytes (n : Nat) : (madeCells (Value.int .u8 0).cells (n * 1)).toList = List.replicate n (Value.int .u8 0) := by
  show (madeCells #[Value.int .u8 0] (n * 1)).toList = _
  rw [toList_madeCells_one, Nat.mul_one]

/-- 'append' of a whole slice, nil or not, to a row of the call's own -/
theorem run_append_sl {P : Program} (w : World) (base : Nat) (t ty e : TypeId) (i : TypeInfo) (ht : P.underlying t = some (.slice e)) (hi : P.info? e = some i) (hz : i.zero = some (.int .u8 0)) (hsize : i.size = 1) (hby : i.bytes = 1)
    (v : Value) (n : Nat) (xs : List Value) (hown : w.ownsRow base e 1 v n xs) (ao : Option Addr) (m cap : Nat) (zs : List Int) (S : Sl w (.slice ao m cap) zs) (hm : n + zs.length ≤ 1000000) (hbase : base ≤ w.heap.size) :
    ∃ v' w', (Builtin.append_ #[t, t] ty #[v, .slice ao m cap]).run P w = .ok v' w' ∧ w'.ownsRow base e 1 v' (n + zs.length) (xs ++ zs.map (Value.int .u8)) ∧ w.grownBy w' v.ownBlock ∧ (v ≠ .slice none 0 0 → v' ≠ .slice none 0 0) := by
  have hn : m = zs.length := by obtain ⟨_, ao', cap', he, _⟩ := S; simp at he; exact he.2.1
  subst hn
  cases ao with
  | none =>
    obtain ⟨_, ao', cap', he, h1, _, h3, _⟩ := S
    simp only [Value.slice.injEq, true_and] at he
    obtain ⟨rfl, rfl⟩ := he
    obtain rfl := h3 rfl
    obtain rfl : zs = [] := List.eq_nil_of_length_eq_zero (by omega)
    exact ⟨v, w, run_append_owned_none w base t ty e i 1 ht hi v n xs hown, by simpa using hown, ⟨rfl, rfl, rfl, Nat.le_refl _, fun _ _ _ => rfl⟩, id⟩
  | some a =>
    obtain ⟨v', w', hr, h1, h2, h3⟩ := run_append_own (P := P) w base t ty e i (.int .u8 0) 1 1 ht hi hz hsize hby rfl (by decide) v n xs hown a zs.length cap (zs.map (Value.int .u8)) (by simp) (by
      intro j u hj
      have hjl : j < zs.length := by have := (List.getElem?_eq_some_iff.1 hj).1; simpa using this
      obtain ⟨ad, had, hs⟩ := S.src (by omega)
      obtain rfl := Option.some.inj had
      exact hs j u hj) (oneCell_bytes zs) (by unfold maxLen; omega) (by omega) hbase
    exact ⟨v', w', hr, h1, h2, fun hv h => hv (h3.1 h).1⟩

theorem wpList_append_run {P : Program} (w : World) {ops : Array Oper} {rest : List Oper} {o : Oper} {a : Act} {Q : Exit → Act → World → Prop} (hgd : o.guard = none) (s x : Operand) (t : TypeId)
    (ho : o.op = .call { callee := .builtin .append, args := #[s, x], argTypes := #[t, t] }) (v y : Value) (hs : a.eval s = v) (hx : a.eval x = y) (v' : Value) (w' : World)
    (hr : (Builtin.append_ #[t, t] o.type #[v, y]).run P w = .ok v' w') (h : wpList P ops Q rest (a.put o.dst v') w') : wpList P ops Q (o :: rest) a w := by
  refine wpList_plain hgd fun _ hK => ?_
  unfold Oper.wp execOp
  simp only [ho, resolve, invoke, builtin, Sem.run_bind, Sem.run_pure, Result.andThen_ok, List.map_toArray, List.map_cons, List.map_nil, hs, hx, hr]
  exact hK _ _ h

theorem grownBy_refl (w : World) (r : Option Nat) : w.grownBy w r := ⟨rfl, rfl, rfl, Nat.le_refl _, fun _ _ _ => rfl⟩

theorem ByteOk.drop {zs : List Int} (h : ByteOk zs) (n : Nat) : ByteOk (zs.drop n) := fun z hz => h z (List.mem_of_mem_drop hz)

theorem ByteOk.append' {xs ys : List Int} (h1 : ByteOk xs) (h2 : ByteOk ys) : ByteOk (xs ++ ys) := fun z hz => (List.mem_append.1 hz).elim (h1 z) (h2 z)

theorem ByteOk.take {zs : List Int} (h : ByteOk zs) (n : Nat) : ByteOk (zs.take n) := fun z hz => h z (List.mem_of_mem_take hz)

theorem getD_drop (zs : List Int) (n i : Nat) : (zs.drop n).getD i 0 = zs.getD (n + i) 0 := by simp [List.getD]

theorem getD_take (zs : List Int) (n i : Nat) (h : i < n) : (zs.take n).getD i 0 = zs.getD i 0 := by simp [List.getD, h]

/-- what is cut off ahead -/
theorem sl_cut0 {w : World} {ao : Option Addr} {zs : List Int} {cap : Nat} (n : Nat) (h : Sl w (.slice ao zs.length cap) zs) (hn : n ≤ zs.length) (hc : cap = n) : Sl w (.slice ao (zs.length - n) 0) (zs.drop n) := by
  obtain ⟨hb, ao', cap', he, h1, h2, h3, h4⟩ := h
  simp only [Value.slice.injEq, true_and] at he
  obtain ⟨rfl, rfl⟩ := he
  have e : zs.drop n = [] := List.drop_eq_nil_of_le (by omega)
  rw [e]
  exact ⟨(by intro z hz; cases hz), ao, 0, (by simp; omega), Nat.le_refl _, by simp [maxLen], fun _ => rfl, fun h => absurd rfl h⟩

theorem sl_cut {w : World} {ao : Option Addr} {zs : List Int} {cap : Nat} (n : Nat) (h : Sl w (.slice ao zs.length cap) zs) (hn : n ≤ zs.length) : Sl w (.slice (Option.map (fun x => x.add n) ao) (zs.length - n) (cap - n)) (zs.drop n) := by
  obtain ⟨hb, ao', cap', he, h1, h2, h3, h4⟩ := h
  simp only [Value.slice.injEq, true_and] at he
  obtain ⟨rfl, rfl⟩ := he
  refine ⟨hb.drop n, Option.map (fun x => x.add n) ao, cap - n, (by rw [List.length_drop]), (by simp; omega), (by omega), fun h => ?_, fun hz => ?_⟩
  · have : ao = none := by cases ao with | none => rfl | some a => simp at h
    have := h3 this
    omega
  · have hz' : n < zs.length := by
      apply Nat.lt_of_not_le; intro hle; exact hz (List.drop_eq_nil_of_le hle)
    obtain ⟨b, off, rfl, hc⟩ := h4 (by intro h; simp [h] at hz')
    refine ⟨b, off + n, (by simp [Addr.add]), fun i hi => ?_⟩
    rw [getD_drop, ← hc (n + i) (by simp at hi; omega), Nat.add_assoc]

theorem sl_take {w : World} {ao : Option Addr} {zs : List Int} {cap : Nat} (n : Nat) (h : Sl w (.slice ao zs.length cap) zs) (hn : n ≤ zs.length) : Sl w (.slice ao n cap) (zs.take n) := by
  obtain ⟨hb, ao', cap', he, h1, h2, h3, h4⟩ := h
  simp only [Value.slice.injEq, true_and] at he
  obtain ⟨rfl, rfl⟩ := he
  have hl : (zs.take n).length = n := by simp; omega
  refine ⟨hb.take n, ao, cap, by rw [hl], by omega, h2, h3, fun hz => ?_⟩
  obtain ⟨b, off, rfl, hc⟩ := h4 (by intro h; simp [h] at hz)
  refine ⟨b, off, rfl, fun i hi => ?_⟩
  rw [getD_take zs n i (by omega)]
  exact hc i (by omega)

theorem sl_of_own_len {w : World} {base : Nat} {e : TypeId} {v : Value} {zs : List Int} (h : w.ownsRow base e 1 v zs.length (zs.map (Value.int .u8))) (hb : ByteOk zs) : Sl w v zs := sl_of_own h hb rfl

theorem below_of_grown {w0 w w' : World} {b B : Nat} (h : Below B w0 w) (hg : w.grownBy w' (some b)) (hb : B ≤ b) (hB : B ≤ w.heap.size) : Below B w0 w' :=
  h.grown hg hB (by intro k hk; cases hk; exact hb)

theorem after_alloc {w w1 : World} {o : Obj} (h : Below (w.alloc o).heap.size (w.alloc o) w1) : Below w.heap.size w w1 :=
  ((Below.refl _ w).alloc (Nat.le_refl _) o).trans (h.mono (by simp))

theorem below_then {B : Nat} {w w1 w2 : World} (h : Below B w w1) (h2 : Below w1.heap.size w1 w2) (hB : B ≤ w.heap.size) : Below B w w2 := h.trans (h2.mono (Nat.le_trans hB h.size))

theorem alloc_le {w : World} {o : Obj} {n : Nat} (h : (w.alloc o).heap.size ≤ n) : w.heap.size ≤ n := by simp at h; omega

theorem sl_form {w : World} {v : Value} {zs : List Int} (h : Sl w v zs) : ∃ ao n cap, v = .slice ao n cap := by
  obtain ⟨_, ao, cap, rfl, _⟩ := h
  exact ⟨ao, _, cap, rfl⟩

theorem sl_form' {w : World} {v : Value} {zs : List Int} (h : Sl w v zs) : ∃ ao cap, v = .slice ao zs.length cap := by
  obtain ⟨_, ao, cap, rfl, _⟩ := h
  exact ⟨ao, cap, rfl⟩

theorem drop_cons (zs : List Int) (k : Nat) (h : k < zs.length) : zs.drop k = zs.getD k 0 :: zs.drop (k + 1) := by
  rw [getD_lt zs h]; exact List.drop_eq_getElem_cons h

/-- 'string(b)' -/
theorem run_convert_sl {P : Program} (w : World) (src e dst : TypeId) (hs : P.underlying src = some (.slice e)) (he : P.underlying e = some (.int .u8)) (hd : P.underlying dst = some .string) (v : Value) (zs : List Int) (h : Sl w v zs) :
    (convert src dst v).run P w = .ok (.string (strOfNums zs)) w := by
  obtain ⟨_, ao, cap, rfl, h1, h2, h3, h4⟩ := h
  by_cases hz : zs = []
  · subst hz
    rw [List.length_nil, run_convert_bytes_string w src dst e _ 0 cap hs he hd]
    cases ao <;> simp [Conv.bytesToString, loadCells]
    all_goals rfl
  · obtain ⟨b, off, rfl, hc⟩ := h4 hz
    exact run_convert_bytes_arg w src e hs he b off zs.length cap zs rfl hc dst hd

theorem strOfNums_inj {xs ys : List Int} (hx : ByteOk xs) (hy : ByteOk ys) : strOfNums xs = strOfNums ys ↔ xs = ys := by
  constructor
  · intro h
    have h' := congrArg (fun s : ByteArray => s.data.toList) h
    simp only [strOfNums_data] at h'
    have hl : xs.length = ys.length := by simpa using congrArg List.length h'
    apply List.ext_getElem hl
    intro i h1 h2
    have := congrArg (fun l : List UInt8 => l[i]?) h'
    simp [h1, h2] at this
    have hx1 := hx xs[i] (List.getElem_mem h1)
    have hy1 := hy ys[i] (List.getElem_mem h2)
    have := congrArg UInt8.toNat this
    simp at this
    omega
  · intro h; rw [h]

end Go.Proofs.YtimmfnjkknbofaaDoor
