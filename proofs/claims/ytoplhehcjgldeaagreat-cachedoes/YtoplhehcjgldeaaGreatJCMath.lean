/- A cache, as the document says it: pages that are held, the one that was used last first, over a device ('Dv'). Plain functions and lemmas; no package's function. -/
import Derived.Test.YtoplhehcjgldeaaGreatJDWrite
import Derived.Test.YtoplhehcjgldeaaGreatOwn
import Derived.Test.YtoplhehcjgldeaaGreatDBase
import Derived.Shelf.Lays
import Derived.Shelf.Lays2
import Derived.Shelf.Slices.Turned
import Derived.Shelf.Slices.Delete
import Derived.Shelf.Slices.Clone
import Derived.Shelf.Slices.Reverse
import Derived.Sort.OwnSortedInts
import Derived.Maps.OwnSet
namespace Go.Proofs.YtoplhehcjgldeaaGreat
open Go.RowKit
set_option linter.unusedVariables false

/-! ### a device's acts, all outcomes in one -/
def writeQ (d : Dv) (p : Nat) (zs : List Int) : Int × Dv := if d.off = true then (5, d) else (spendE d, spendD { d with ws := d.ws ++ [(p, zs)] })

/-! ### a page that is held; a cache -/
structure Hd where
  p : Nat
  bs : List Int
  ch : Bool
  pins : Nat
structure Ch where
  size : Nat
  l : List Hd
  hits : Nat
  misses : Nat

def findC (l : List Hd) (p : Int) : Option Hd := l.find? (fun h => decide ((h.p : Int) = p))
def lessC (l : List Hd) (p : Nat) : List Hd := l.filter (fun h => decide (h.p ≠ p))
def useC (l : List Hd) (h : Hd) : List Hd := h :: lessC l h.p
def updC (l : List Hd) (p : Nat) (f : Hd → Hd) : List Hd := l.map (fun x => if x.p = p then f x else x)
/-- who goes: of those that are not pinned, the one that was used longest ago -/
def goesC (l : List Hd) : Option Hd := l.reverse.find? (fun h => decide (h.pins = 0))
def roomC (c : Ch) (d : Dv) : Int × Ch × Dv :=
  if c.l.length < c.size then (0, c, d) else match goesC c.l with
  | none => (6, c, d)
  | some h => if h.ch = true then (if (writeQ d h.p h.bs).1 = 0 then (0, { c with l := lessC c.l h.p }, (writeQ d h.p h.bs).2) else ((writeQ d h.p h.bs).1, c, (writeQ d h.p h.bs).2)) else (0, { c with l := lessC c.l h.p }, d)
def meetC (c : Ch) (d : Dv) (p : Nat) : Int × Ch × Dv := match findC c.l p with
  | some _ => (0, { c with hits := c.hits + 1 }, d)
  | none => roomC { c with misses := c.misses + 1 } d

/-- what may be: the pages of a device of n pages, each once -/
structure ChOk (n : Nat) (c : Ch) : Prop where
  lo : 2 ≤ c.size
  hi : c.size ≤ 64
  few : c.l.length ≤ c.size
  nodup : (c.l.map (·.p)).Nodup
  pages : ∀ h ∈ c.l, h.p < n ∧ PageOk h.bs
/-- how much was counted, at most -/
structure Few (k : Nat) (c : Ch) (d : Dv) : Prop where
  hits : c.hits ≤ k
  misses : c.misses ≤ k
  pins : ∀ h ∈ c.l, h.pins ≤ k
  ws : d.ws.length ≤ k
  done : d.done ≤ k

theorem Few.mono {k k' : Nat} {c : Ch} {d : Dv} (h : Few k c d) (hk : k ≤ k') : Few k' c d := ⟨Nat.le_trans h.hits hk, Nat.le_trans h.misses hk, fun x hx => Nat.le_trans (h.pins x hx) hk, Nat.le_trans h.ws hk, Nat.le_trans h.done hk⟩

/-! ### lists of pages that are held -/
theorem findC_some {l : List Hd} {p : Int} {h : Hd} (e : findC l p = some h) : h ∈ l ∧ (h.p : Int) = p := ⟨List.mem_of_find?_eq_some e, by have := List.find?_some e; simpa using this⟩
theorem findC_none {l : List Hd} {p : Int} (e : findC l p = none) : ∀ h ∈ l, (h.p : Int) ≠ p := fun h hh hp => by
  have := List.find?_eq_none.1 e h hh
  simp [hp] at this
theorem findC_mem : ∀ {l : List Hd} {h : Hd}, (l.map (·.p)).Nodup → h ∈ l → findC l h.p = some h
  | [], _, _, hm => by simp at hm
  | x :: l, h, hn, hm => by
    rw [List.map_cons, List.nodup_cons] at hn
    unfold findC
    rw [List.find?_cons]
    rcases List.mem_cons.1 hm with rfl | hm
    · simp
    · have hne : x.p ≠ h.p := fun e => hn.1 (by rw [e]; exact List.mem_map_of_mem hm)
      have : decide ((x.p : Int) = (h.p : Int)) = false := by simp; omega
      rw [this]
      exact findC_mem hn.2 hm
theorem nodup_inj {l : List Hd} (hn : (l.map (·.p)).Nodup) {x y : Hd} (hx : x ∈ l) (hy : y ∈ l) (e : x.p = y.p) : x = y := by
  have h1 := findC_mem hn hx
  have h2 := findC_mem hn hy
  rw [e] at h1
  exact Option.some.inj (h1.symm.trans h2)
theorem mem_lessC {l : List Hd} {p : Nat} {h : Hd} : h ∈ lessC l p ↔ h ∈ l ∧ h.p ≠ p := by unfold lessC; simp
theorem lessC_none {l : List Hd} {p : Nat} (e : ∀ h ∈ l, h.p ≠ p) : lessC l p = l := by
  unfold lessC
  rw [List.filter_eq_self]
  intro h hh
  simpa using e h hh
theorem lessC_sub (l : List Hd) (p : Nat) : (lessC l p).Sublist l := List.filter_sublist
theorem lessC_nodup {l : List Hd} (h : (l.map (·.p)).Nodup) (p : Nat) : ((lessC l p).map (·.p)).Nodup := h.sublist ((lessC_sub l p).map _)
theorem lessC_pages (l : List Hd) (p : Nat) : (lessC l p).map (·.p) = (l.map (·.p)).filter (fun q => decide (q ≠ p)) := by
  unfold lessC
  rw [List.filter_map]
  rfl
theorem lessC_len {l : List Hd} {h : Hd} (hn : (l.map (·.p)).Nodup) (hm : h ∈ l) : (lessC l h.p).length + 1 = l.length := by
  induction l with
  | nil => simp at hm
  | cons x l ih =>
    rw [List.map_cons, List.nodup_cons] at hn
    unfold lessC
    rw [List.filter_cons]
    rcases List.mem_cons.1 hm with rfl | hm
    · have : decide (h.p ≠ h.p) = false := by simp
      rw [this]
      have e := lessC_none (l := l) (p := h.p) (fun y hy e => hn.1 (by rw [← e]; exact List.mem_map_of_mem hy))
      unfold lessC at e
      simp only [Bool.false_eq_true, if_false]
      rw [e]
      simp
    · have hne : x.p ≠ h.p := fun e => hn.1 (by rw [e]; exact List.mem_map_of_mem hm)
      have : decide (x.p ≠ h.p) = true := by simpa using hne
      rw [this, if_pos rfl, List.length_cons, List.length_cons]
      have := ih hn.2 hm
      unfold lessC at this
      omega
theorem findC_lessC_same (l : List Hd) (p : Nat) : findC (lessC l p) p = none := by
  apply List.find?_eq_none.2
  intro h hh
  have := (mem_lessC.1 hh).2
  simp; omega
theorem findC_lessC_other {l : List Hd} {p : Nat} {q : Int} (hq : q ≠ p) : findC (lessC l p) q = findC l q := by
  induction l with
  | nil => rfl
  | cons x l ih =>
    unfold lessC at ih ⊢
    rw [List.filter_cons]
    by_cases hx : x.p = p
    · have : decide (x.p ≠ p) = false := by simpa using hx
      rw [this]
      simp only [Bool.false_eq_true, if_false]
      rw [ih]
      unfold findC
      rw [List.find?_cons]
      have : decide ((x.p : Int) = q) = false := by simp; omega
      rw [this]
    · have : decide (x.p ≠ p) = true := by simpa using hx
      rw [this, if_pos rfl]
      unfold findC at ih ⊢
      rw [List.find?_cons, List.find?_cons, ih]
theorem findC_useC_same (l : List Hd) (h : Hd) : findC (useC l h) h.p = some h := by
  unfold useC findC
  rw [List.find?_cons]
  simp
theorem findC_useC_other (l : List Hd) (h : Hd) {q : Int} (hq : q ≠ h.p) : findC (useC l h) q = findC l q := by
  have e := findC_lessC_other (l := l) (p := h.p) hq
  unfold useC
  unfold findC at e ⊢
  rw [List.find?_cons]
  have : decide ((h.p : Int) = q) = false := by simp; omega
  rw [this, e]
theorem useC_nodup {l : List Hd} (hn : (l.map (·.p)).Nodup) (h : Hd) : ((useC l h).map (·.p)).Nodup := by
  unfold useC
  rw [List.map_cons, List.nodup_cons]
  refine ⟨fun hm => ?_, lessC_nodup hn _⟩
  obtain ⟨x, hx, e⟩ := List.mem_map.1 hm
  exact (mem_lessC.1 hx).2 e
theorem useC_len {l : List Hd} (hn : (l.map (·.p)).Nodup) (h : Hd) {x : Hd} (e : findC l h.p = some x) : (useC l h).length = l.length := by
  obtain ⟨hm, hp⟩ := findC_some e
  have hp' : x.p = h.p := by omega
  have := lessC_len hn hm
  rw [hp'] at this
  unfold useC
  rw [List.length_cons]
  exact this
theorem useC_new {l : List Hd} {h : Hd} (e : findC l h.p = none) : useC l h = h :: l := by
  unfold useC
  rw [lessC_none (fun x hx he => findC_none e x hx (by omega))]
theorem mem_useC {l : List Hd} {h x : Hd} : x ∈ useC l h ↔ x = h ∨ (x ∈ l ∧ x.p ≠ h.p) := by
  unfold useC
  rw [List.mem_cons, mem_lessC]
theorem updC_pages (l : List Hd) (p : Nat) (f : Hd → Hd) (hf : ∀ x, (f x).p = x.p) : (updC l p f).map (·.p) = l.map (·.p) := by
  unfold updC
  rw [List.map_map]
  apply List.map_congr_left
  intro x hx
  show (if x.p = p then f x else x).p = x.p
  split
  · exact hf x
  · rfl
theorem updC_len (l : List Hd) (p : Nat) (f : Hd → Hd) : (updC l p f).length = l.length := by simp [updC]
theorem mem_updC {l : List Hd} {p : Nat} {f : Hd → Hd} {y : Hd} (h : y ∈ updC l p f) : ∃ x ∈ l, y = if x.p = p then f x else x := by
  obtain ⟨x, hx, e⟩ := List.mem_map.1 h
  exact ⟨x, hx, e.symm⟩
theorem findC_updC (l : List Hd) (p : Nat) (f : Hd → Hd) (hf : ∀ x, (f x).p = x.p) (q : Int) : findC (updC l p f) q = (findC l q).map (fun x => if x.p = p then f x else x) := by
  induction l with
  | nil => rfl
  | cons x l ih =>
    unfold updC findC at ih ⊢
    rw [List.map_cons, List.find?_cons, List.find?_cons]
    have e : (if x.p = p then f x else x).p = x.p := by
      split
      · exact hf x
      · rfl
    rw [e]
    cases decide ((x.p : Int) = q) with
    | true => simp
    | false => exact ih

theorem goesC_some {l : List Hd} {h : Hd} (e : goesC l = some h) : h ∈ l ∧ h.pins = 0 := ⟨List.mem_reverse.1 (List.mem_of_find?_eq_some e), by have := List.find?_some e; simpa using this⟩
theorem goesC_none {l : List Hd} (e : goesC l = none) : ∀ h ∈ l, h.pins ≠ 0 := fun h hh hp => by
  have := List.find?_eq_none.1 e h (List.mem_reverse.2 hh)
  simp [hp] at this

end Go.Proofs.YtoplhehcjgldeaaGreat
/- What the shelf's contracts of slices' functions ask of the program: laid, each fact by the kernel. -/
namespace Go.Proofs.YtoplhehcjgldeaaGreat
open Go.RowKit Go.Shelf
set_option maxRecDepth 1000000

def renIndex : Ren := ⟨fun | 108 => 89 | n => n, fun | 0 => 0 | 3 => 3 | 4 => 4 | 28 => 59 | n => n, fun n => n⟩
theorem layIndex : Lays.n108 Tryz.prog renIndex := {
  mixed := by kernel_rfl,
  f108 := by kernel_rfl,
  t0 := by kernel_rfl,
  a0 := fun _ => by kernel_rfl,
  z0 := fun _ => by kernel_rfl,
  v0 := fun _ => by kernel_rfl,
  t3 := by kernel_rfl,
  a3 := fun _ => by kernel_rfl,
  z3 := fun _ => by kernel_rfl,
  v3 := fun _ => by kernel_rfl,
  t4 := by kernel_rfl,
  a4 := fun _ => by kernel_rfl,
  z4 := fun _ => by kernel_rfl,
  v4 := fun _ => by kernel_rfl,
  t28 := by kernel_rfl,
  a28 := fun _ => by kernel_rfl,
  z28 := fun _ => by kernel_rfl,
  v28 := fun _ => by kernel_rfl }

def renDelete : Ren := ⟨fun | 23 => 90 | n => n, fun | 0 => 0 | 3 => 3 | 4 => 4 | 22 => 59 | n => n, fun n => n⟩
theorem layDelete : Lays2.n23 Tryz.prog renDelete := {
  mixed := by kernel_rfl,
  f23 := by kernel_rfl,
  t0 := by kernel_rfl,
  a0 := fun _ => by kernel_rfl,
  z0 := fun _ => by kernel_rfl,
  v0 := fun _ => by kernel_rfl,
  t3 := by kernel_rfl,
  a3 := fun _ => by kernel_rfl,
  z3 := fun _ => by kernel_rfl,
  v3 := fun _ => by kernel_rfl,
  t4 := by kernel_rfl,
  a4 := fun _ => by kernel_rfl,
  z4 := fun _ => by kernel_rfl,
  v4 := fun _ => by kernel_rfl,
  t22 := by kernel_rfl,
  a22 := fun _ => by kernel_rfl,
  z22 := fun _ => by kernel_rfl,
  v22 := fun _ => by kernel_rfl,
  i3 := by kernel_rfl }

def renClone : Ren := ⟨fun | 15 => 59 | n => n, fun | 3 => 3 | 4 => 4 | 22 => 59 | n => n, fun n => n⟩
theorem layClone : Lays2.n15 Tryz.prog renClone := {
  mixed := by kernel_rfl,
  f15 := by kernel_rfl,
  t3 := by kernel_rfl,
  a3 := fun _ => by kernel_rfl,
  z3 := fun _ => by kernel_rfl,
  v3 := fun _ => by kernel_rfl,
  t4 := by kernel_rfl,
  a4 := fun _ => by kernel_rfl,
  z4 := fun _ => by kernel_rfl,
  v4 := fun _ => by kernel_rfl,
  t22 := by kernel_rfl,
  a22 := fun _ => by kernel_rfl,
  z22 := fun _ => by kernel_rfl,
  v22 := fun _ => by kernel_rfl,
  i3 := by kernel_rfl }

def renReverse : Ren := ⟨fun | 112 => 60 | n => n, fun | 0 => 0 | 3 => 3 | 4 => 4 | 28 => 59 | n => n, fun n => n⟩
theorem layReverse : Lays.n112 Tryz.prog renReverse := {
  mixed := by kernel_rfl,
  f112 := by kernel_rfl,
  t0 := by kernel_rfl,
  a0 := fun _ => by kernel_rfl,
  z0 := fun _ => by kernel_rfl,
  v0 := fun _ => by kernel_rfl,
  t3 := by kernel_rfl,
  a3 := fun _ => by kernel_rfl,
  z3 := fun _ => by kernel_rfl,
  v3 := fun _ => by kernel_rfl,
  t4 := by kernel_rfl,
  a4 := fun _ => by kernel_rfl,
  z4 := fun _ => by kernel_rfl,
  v4 := fun _ => by kernel_rfl,
  t28 := by kernel_rfl,
  a28 := fun _ => by kernel_rfl,
  z28 := fun _ => by kernel_rfl,
  v28 := fun _ => by kernel_rfl }

end Go.Proofs.YtoplhehcjgldeaaGreat
/- slices' functions at []int, over rows that are owned: Index, Delete (of one), Clone, Reverse: the shelf's contracts in my words. -/
namespace Go.Proofs.YtoplhehcjgldeaaGreat
open Go.RowKit Go.Shelf Go.Sort
set_option linter.unusedVariables false

abbrev iv (zs : List Int) : List Value := zs.map (Value.int .i64)
/-- a []int that is owned, whole, from some block at or above base on -/
def Ints (w : World) (base : Nat) (v : Value) (zs : List Int) : Prop := w.ownsRow base 3 1 v zs.length (iv zs)

theorem Ints.nil (w : World) (base : Nat) : Ints w base (.slice none 0 0) [] := World.ownsRow_nil _ _ _ _
theorem Ints.base {w : World} {base base' : Nat} {v : Value} {zs : List Int} (h : Ints w base v zs) (hb : base' ≤ base) : Ints w base' v zs := by
  refine ⟨h.1, ?_⟩
  rcases h.2 with h' | ⟨g, cap, cur, e, h1, r⟩
  · exact .inl h'
  · exact .inr ⟨g, cap, cur, e, Nat.le_trans hb h1, r⟩
theorem Ints.only {S : Nat → Prop} {w w' : World} {base : Nat} {v : Value} {zs : List Int} (h : Ints w base v zs) (ho : Only S w w') (hn : ∀ k, v.ownBlock = some k → ¬ S k) : Ints w' base v zs := ownsRow_only h ho hn
theorem Ints.below {w w' : World} {base : Nat} {v : Value} {zs : List Int} (h : Ints w base v zs) (hb : Below w.heap.size w w') : Ints w' base v zs := ownsRow_only h (Only.of_below (fun _ => False) hb) (fun _ _ h => h)
theorem Ints.form {w : World} {base : Nat} {v : Value} {zs : List Int} (h : Ints w base v zs) : (v = .slice none 0 0 ∧ zs = []) ∨ ∃ g cap sp, v = .slice (some ⟨g, 0, none⟩) zs.length cap ∧ base ≤ g ∧ zs.length ≤ cap ∧ cap ≤ maxLen ∧ Blk w g 3 (iv zs ++ sp) ∧ sp.length = cap - zs.length := by
  rcases h.2 with ⟨h1, h2⟩ | ⟨g, cap, cur, rfl, _⟩
  · exact .inl ⟨h1, List.eq_nil_of_length_eq_zero h2⟩
  · obtain ⟨h1, h2, h3, h4, sp, hB, hs⟩ := own_blk h
    exact .inr ⟨g, cap, sp, rfl, h1, h2, h3, hB, by omega⟩
theorem Ints.mk {w : World} {base g cap : Nat} {zs : List Int} {sp : List Value} (hB : Blk w g 3 (iv zs ++ sp)) (hb : base ≤ g) (hc : zs.length ≤ cap) (hm : cap ≤ maxLen) (hs : sp.length = cap - zs.length) : Ints w base (.slice (some ⟨g, 0, none⟩) zs.length cap) zs :=
  blk_own hB hb hc hm (by simp) (by omega)
theorem Ints.lt {w : World} {base : Nat} {v : Value} {zs : List Int} (h : Ints w base v zs) (k : Nat) (hk : v.ownBlock = some k) : base ≤ k ∧ k < w.heap.size := World.ownsRow.lt h k hk

theorem Ints.shape {w : World} {base : Nat} {v : Value} {zs : List Int} (h : Ints w base v zs) : ∃ ao cap, v = .slice ao zs.length cap := own_form' h

theorem iv_cell {w : World} {g : Nat} {zs : List Int} {sp : List Value} (hB : Blk w g 3 (iv zs ++ sp)) (j : Nat) (hj : j < zs.length) : w.cell? ⟨g, 0 + j, none⟩ = some (.int .i64 (zs.getD j 0)) := by
  rw [Nat.zero_add, hB.cell, List.getElem?_append_left (by simpa using hj)]
  simp [List.getD, hj]
theorem iv_holds {w : World} {g : Nat} {zs : List Int} {sp : List Value} (hB : Blk w g 3 (iv zs ++ sp)) : Holds (Value.int .i64) w g 0 zs.toArray := fun j hj => by
  have hj' : j < zs.length := by simpa using hj
  refine ⟨?_, hB.frozen _⟩
  rw [iv_cell hB j hj']
  simp [List.getD, hj']

/-- cells that were written over, from the first on -/
theorem blk_put {w : World} {g q : Nat} {e : TypeId} {cs : List Value} (hB : Blk w g e cs) (zs : List Int) (hl : zs.length ≤ cs.length) : Blk (putRow (Value.int .i64) (Sort.ahead w q) g 0 zs.toArray) g e (iv zs ++ cs.drop zs.length) := by
  have h := heap_sortedI (w := w) (g := g) (n := q) (os := #[]) zs.toArray (show w.heap[g]? = some (.cells cs.toArray e (0, 0)) from hB)
  have e1 : grow (putRow (Value.int .i64) (Sort.ahead w q) g 0 zs.toArray) #[] = putRow (Value.int .i64) (Sort.ahead w q) g 0 zs.toArray := grow_empty _
  rw [e1] at h
  unfold Blk
  rw [h]
  congr 2
  apply Array.toList_inj.1
  apply List.ext_getElem?
  intro j
  simp only [putCells, Array.toList_mapIdx, List.getElem?_mapIdx]
  by_cases hj : j < zs.length
  · rw [List.getElem?_append_left (by simpa using hj), List.getElem?_eq_getElem (by omega)]
    simp [hj]
  · rw [List.getElem?_append_right (by simp; omega), List.getElem?_drop]
    have e2 : zs.length + (j - (iv zs).length) = j := by simp; omega
    rw [e2]
    cases hcs : cs[j]? with
    | none => rfl
    | some x => simp [hj]
theorem only_put (w : World) (g q : Nat) (d : Array Int) : Only (· = g) w (putRow (Value.int .i64) (Sort.ahead w q) g 0 d) := by
  have h := grownBy_sortedI (w := w) (g := g) (n := q) (os := #[]) d
  have e1 : grow (putRow (Value.int .i64) (Sort.ahead w q) g 0 d) #[] = putRow (Value.int .i64) (Sort.ahead w q) g 0 d := grow_empty _
  rw [e1] at h
  exact (Only.refl _ w).grown h (fun k e _ => by cases e; rfl)

theorem index_any (w : World) (base : Nat) (v : Value) (zs : List Int) (x : Int) (h : Ints w base v zs) : Calls Tryz.prog 89 #[v, .int .i64 x] w fun e w' => e = .returned (.int .i64 (Lib.idxOf zs x)) ∧ w' = w := by
  rcases h.form with ⟨rfl, rfl⟩ | ⟨g, cap, sp, rfl, _, hc, hm, hB, _⟩
  · exact Any.slices_Index_int_empty layIndex none 0 x w
  · have := Any.slices_Index_int layIndex g 0 zs.length cap zs x w (Nat.le_refl _) (by unfold maxLen at hm; omega) (fun j hj => iv_cell hB j hj)
    rw [List.take_length] at this
    exact this

theorem delete_any (w : World) (base : Nat) (v : Value) (zs : List Int) (i : Nat) (h : Ints w base v zs) (hi : i < zs.length) : Calls Tryz.prog 90 #[v, .int .i64 i, .int .i64 ((i : Int) + 1)] w fun e w' => ∃ v', e = .returned v' ∧ Ints w' base v' (zs.eraseIdx i) ∧ v'.ownBlock = v.ownBlock ∧ Only (fun k => v.ownBlock = some k) w w' := by
  rcases h.form with ⟨rfl, rfl⟩ | ⟨g, cap, sp, rfl, hb, hc, hm, hB, hs⟩
  · simp at hi
  · have key := Any.slices_Delete_int layDelete g 0 cap i (i + 1) zs w (iv_holds hB) hc (by unfold maxLen at hm; omega) (by omega) (by omega)
    rw [show ((i + 1 : Nat) : Int) = (i : Int) + 1 by omega] at key
    refine key.mono ?_
    rintro e w' ⟨rfl, q, rfl⟩
    have e1 : i + 1 - i = 1 := by omega
    rw [e1]
    have e2 : zs.take i ++ zs.drop (i + 1) = zs.eraseIdx i := (List.eraseIdx_eq_take_drop_succ ..).symm
    rw [e2]
    have e3 : (zs.eraseIdx i).length = zs.length - 1 := by rw [List.length_eraseIdx]; simp [hi]
    have hB' := blk_put (q := q) hB (zs.eraseIdx i ++ List.replicate 1 0) (by simp [e3]; omega)
    have e4 : iv (zs.eraseIdx i ++ List.replicate 1 0) ++ (iv zs ++ sp).drop (zs.eraseIdx i ++ List.replicate 1 0).length = iv (zs.eraseIdx i) ++ (Value.int .i64 0 :: sp) := by
      have : (zs.eraseIdx i ++ List.replicate 1 0).length = (iv zs).length := by simp [e3]; omega
      rw [this, List.drop_left]
      simp
    rw [e4] at hB'
    refine ⟨_, rfl, ?_, rfl, (only_put w g q _).mono (fun k _ e => by rw [e]; rfl)⟩
    have := Ints.mk (base := base) (cap := cap) hB' hb (by omega) hm (by rw [List.length_cons]; omega)
    rw [e3] at this
    exact this

theorem clone_any (w : World) (base : Nat) (v : Value) (zs : List Int) (h : Ints w base v zs) (hl : zs.length ≤ 1000000) : Calls Tryz.prog 59 #[v] w fun e w' => ∃ v', e = .returned v' ∧ Ints w' w.heap.size v' zs ∧ Below w.heap.size w w' := by
  rcases h.form with ⟨rfl, rfl⟩ | ⟨g, cap, sp, rfl, hb, hc, hm, hB, hs⟩
  · refine (Any.slices_Clone_int_nil layClone 0 0 w).mono ?_
    rintro e w' ⟨rfl, rfl⟩
    exact ⟨_, rfl, Ints.nil _ _, Below.refl _ _⟩
  · refine (Any.slices_Clone_int layClone g 0 zs.length cap zs w (Nat.le_refl _) (by omega) (fun j hj => iv_cell hB j hj)).mono ?_
    rintro e w' ⟨v', rfl, hr, _, hb⟩
    rw [List.take_length] at hr
    exact ⟨_, rfl, hr, hb⟩

theorem reverse_any (w : World) (base : Nat) (v : Value) (zs : List Int) (h : Ints w base v zs) : Calls Tryz.prog 60 #[v] w fun e w' => e = .returned (.tuple #[]) ∧ Ints w' base v zs.reverse ∧ Only (fun k => v.ownBlock = some k) w w' := by
  rcases h.form with ⟨rfl, rfl⟩ | ⟨g, cap, sp, rfl, hb, hc, hm, hB, hs⟩
  · refine (Any.slices_Reverse_int_empty layReverse none 0 w).mono ?_
    rintro e w' ⟨rfl, rfl⟩
    exact ⟨rfl, Ints.nil _ _, Only.refl _ _⟩
  · refine (Any.slices_Reverse_int layReverse g 0 cap zs w (iv_holds hB) (by unfold maxLen at hm; omega)).mono ?_
    rintro e w' ⟨rfl, q, rfl⟩
    have hB' := blk_put (q := q) hB zs.reverse (by simp)
    have e4 : (iv zs ++ sp).drop zs.reverse.length = sp := by
      have : zs.reverse.length = (iv zs).length := by simp
      rw [this, List.drop_left]
    rw [e4] at hB'
    refine ⟨rfl, ?_, (only_put w g q _).mono (fun k _ e => by rw [e]; rfl)⟩
    have := Ints.mk (base := base) (cap := cap) hB' hb (by simpa using hc) hm (by simpa using hs)
    rw [List.length_reverse] at this
    exact this

end Go.Proofs.YtoplhehcjgldeaaGreat
/- A cache: how package cache's struct, map, order of use and slots hold it. -/
namespace Go.Proofs.YtoplhehcjgldeaaGreat
open Go.RowKit
set_option linter.unusedVariables false

/-- what the map's pointers read as: their blocks -/
def slotElem (v : Value) : Option (DataW Unit × List MemPlace) := match v with
  | .pointer (some ⟨s, 0, none⟩) => some (.lit (.int .i64 s), [])
  | .pointer none => some (.lit (.int .i64 (-1)), [])
  | _ => none
theorem slotElem_mk (s : Nat) : slotElem (dp s) = some (.lit (.int .i64 s), []) := rfl
theorem slotElem_nil : slotElem (.pointer none) = some (.lit (.int .i64 (-1)), []) := rfl
theorem slotElem_inv {v : Value} {s : Nat} {ps : List MemPlace} (h : slotElem v = some (.lit (.int .i64 s), ps)) : v = dp s := by
  unfold slotElem at h
  split at h
  · simp at h
    obtain ⟨h, _⟩ := h
    rw [Int.ofNat_inj.1 h]
  · simp at h
  · cases h
theorem slotElem_nil_inv {v : Value} {ps : List MemPlace} (h : slotElem v = some (.lit (.int .i64 (-1)), ps)) : v = .pointer none := by
  unfold slotElem at h
  split at h
  · rename_i s
    simp at h
  · rfl
  · cases h

/-- the cells of a slot -/
def sc (h : Hd) : List Value := pc h.bs ++ [.bool h.ch, .int .i64 h.pins]
theorem sc_len {h : Hd} (hp : PageOk h.bs) : (sc h).length = 258 := by simp [sc, pc_len, hp.1]
theorem sc_ch {h : Hd} (hp : PageOk h.bs) : (sc h)[256]? = some (.bool h.ch) := by
  unfold sc
  rw [List.getElem?_append_right (by rw [pc_len, hp.1]; omega), pc_len, hp.1]; rfl
theorem sc_pins {h : Hd} (hp : PageOk h.bs) : (sc h)[257]? = some (.int .i64 h.pins) := by
  unfold sc
  rw [List.getElem?_append_right (by rw [pc_len, hp.1]; omega), pc_len, hp.1]; rfl
theorem sc_set_ch {h : Hd} (hp : PageOk h.bs) (x : Bool) : (sc h).set 256 (.bool x) = sc { h with ch := x } := by
  unfold sc
  rw [List.set_append_right _ _ (by rw [pc_len, hp.1]; omega), pc_len, hp.1]; rfl
theorem sc_set_pins {h : Hd} (hp : PageOk h.bs) (x : Nat) : (sc h).set 257 (.int .i64 x) = sc { h with pins := x } := by
  unfold sc
  rw [List.set_append_right _ _ (by rw [pc_len, hp.1]; omega), pc_len, hp.1]; rfl
theorem sc_splice {h : Hd} (hp : PageOk h.bs) (zs : List Int) (hz : zs.length = 256) : splice (sc h) 0 (pc zs) = sc { h with bs := zs } := by
  unfold splice sc
  have : (pc h.bs).length = 256 := by rw [pc_len]; exact hp.1
  rw [List.take_zero, List.nil_append, Nat.zero_add, pc_len, hz, List.drop_append_of_le_length (by omega), List.drop_of_length_le (by omega)]
  rfl

/-- the map, and the slots it leads to: the pages of l, in whatever order -/
structure Slots (w : World) (H : Nat → Prop) (mb : Nat) (D : DataW Unit) (sl : Nat → Nat) (l : List Hd) : Prop where
  map : w.ownsMap Tryz.prog 3 slotElem mb l.length D
  has : ∀ p : Int, Maps.has D (.int .i64 p) = (findC l p).isSome
  att : ∀ h ∈ l, D.atKey (.int .i64 h.p) (.lit (.int .i64 (-1))) = .lit (.int .i64 (sl h.p))
  len : Maps.size D = l.length
  slot : ∀ h ∈ l, Blk w (sl h.p) 94 (sc h)
  inj : ∀ x ∈ l, ∀ y ∈ l, sl x.p = sl y.p → x.p = y.p
  nodup : (l.map (·.p)).Nodup
  ok : ∀ h ∈ l, h.p < 1000000 ∧ PageOk h.bs
  few : l.length ≤ 1000000
  fm : H mb
  fs : ∀ h ∈ l, H (sl h.p)

def CacheB (w : World) (c b mb : Nat) (size : Nat) (vo : Value) (hits misses : Nat) : Prop := Blk w c 63 [dp b, .int .i64 size, .map (some mb), vo, .int .i64 hits, .int .i64 misses]
structure CachAt (w : World) (c b : Nat) (H : Nat → Prop) (size : Nat) (os : List Int) (l : List Hd) (hits misses : Nat) (mb : Nat) (vo : Value) (D : DataW Unit) (sl : Nat → Nat) : Prop where
  blk : CacheB w c b mb size vo hits misses
  order : Ints w 0 vo os
  slots : Slots w H mb D sl l
  fc : H c
  fo : ∀ k, vo.ownBlock = some k → H k
  few : os.length ≤ 1000
def CachH (w : World) (c b : Nat) (H : Nat → Prop) (size : Nat) (os : List Int) (l : List Hd) (hits misses : Nat) : Prop := ∃ mb vo D sl, CachAt w c b H size os l hits misses mb vo D sl

/-! ### they stay -/
section
variable {w w' : World} {S H H' : Nat → Prop} {c b mb : Nat} {D : DataW Unit} {sl : Nat → Nat} {l : List Hd} {size hits misses : Nat} {os : List Int} {vo : Value}
theorem Slots.keep (h : Slots w H mb D sl l) (ho : Only S w w') (hn : ∀ k, H k → ¬ S k) : Slots w' H mb D sl l :=
  ⟨ownsMap_only h.map ho (hn _ h.fm), h.has, h.att, h.len, fun x hx => (h.slot x hx).only ho (hn _ (h.fs x hx)), h.inj, h.nodup, h.ok, h.few, h.fm, h.fs⟩
theorem Slots.mono (h : Slots w H mb D sl l) (hH : ∀ k, k < w.heap.size → H k → H' k) : Slots w H' mb D sl l :=
  ⟨h.map, h.has, h.att, h.len, h.slot, h.inj, h.nodup, h.ok, h.few, hH _ h.map.lt h.fm, fun x hx => hH _ (h.slot x hx).lt (h.fs x hx)⟩
/-- the same pages, listed otherwise -/
theorem Slots.relist {l' : List Hd} (h : Slots w H mb D sl l) (hm : ∀ x, x ∈ l' ↔ x ∈ l) (hl : l'.length = l.length) (hn : (l'.map (·.p)).Nodup) : Slots w H mb D sl l' := by
  refine ⟨hl ▸ h.map, fun p => ?_, fun x hx => h.att x ((hm x).1 hx), hl ▸ h.len, fun x hx => h.slot x ((hm x).1 hx), fun x hx y hy => h.inj x ((hm x).1 hx) y ((hm y).1 hy), hn, fun x hx => h.ok x ((hm x).1 hx), hl ▸ h.few, h.fm, fun x hx => h.fs x ((hm x).1 hx)⟩
  rw [h.has p]
  cases e : findC l p with
  | none =>
    have : findC l' p = none := by
      apply List.find?_eq_none.2
      intro x hx
      simpa using findC_none e x ((hm x).1 hx)
    rw [this]
  | some x =>
    obtain ⟨h1, rfl⟩ := findC_some e
    rw [findC_mem hn ((hm x).2 h1)]
theorem Slots.sl_ne (h : Slots w H mb D sl l) {x : Hd} (hx : x ∈ l) : sl x.p ≠ mb := by
  rintro e
  have h1 := h.slot x hx
  obtain ⟨es, clock, hb, _⟩ := h.map
  rw [e] at h1
  have := (show w.heap[mb]? = _ from h1).symm.trans hb
  simp at this
theorem Slots.blk_ne (h : Slots w H mb D sl l) {x : Hd} (hx : x ∈ l) {k : Nat} {e : TypeId} {cs : List Value} (hB : Blk w k e cs) (he : e ≠ 94) : sl x.p ≠ k := fun hk => Blk.ne hB (h.slot x hx) he hk.symm
theorem Slots.mb_ne (h : Slots w H mb D sl l) {k : Nat} {e : TypeId} {cs : List Value} (hB : Blk w k e cs) : mb ≠ k := by
  rintro rfl
  obtain ⟨es, clock, hb, _⟩ := h.map
  have := (show w.heap[mb]? = _ from hB).symm.trans hb
  simp at this
theorem CachAt.keep (h : CachAt w c b H size os l hits misses mb vo D sl) (ho : Only S w w') (hn : ∀ k, H k → ¬ S k) : CachAt w' c b H size os l hits misses mb vo D sl :=
  ⟨Blk.only h.blk ho (hn _ h.fc), h.order.only ho (fun k hk => hn k (h.fo k hk)), h.slots.keep ho hn, h.fc, h.fo, h.few⟩
theorem CachAt.mono (h : CachAt w c b H size os l hits misses mb vo D sl) (hH : ∀ k, k < w.heap.size → H k → H' k) : CachAt w c b H' size os l hits misses mb vo D sl :=
  ⟨h.blk, h.order, h.slots.mono hH, hH _ (Blk.lt h.blk) h.fc, fun k hk => hH k (h.order.lt k hk).2 (h.fo k hk), h.few⟩
theorem CachH.keep (h : CachH w c b H size os l hits misses) (ho : Only S w w') (hn : ∀ k, H k → ¬ S k) : CachH w' c b H size os l hits misses := by
  obtain ⟨mb, vo, D, sl, h⟩ := h
  exact ⟨mb, vo, D, sl, h.keep ho hn⟩
theorem CachH.mono (h : CachH w c b H size os l hits misses) (hH : ∀ k, k < w.heap.size → H k → H' k) : CachH w c b H' size os l hits misses := by
  obtain ⟨mb, vo, D, sl, h⟩ := h
  exact ⟨mb, vo, D, sl, h.mono hH⟩
theorem CachH.bound (h : CachH w c b H size os l hits misses) : CachH w c b (fun k => H k ∧ k < w.heap.size) size os l hits misses := h.mono (fun k hk hf => ⟨hf, hk⟩)
theorem CachH.more (h : CachH w c b H size os l hits misses) (n : Nat) : CachH w c b (fun k => H k ∨ n ≤ k) size os l hits misses := h.mono (fun k hk hf => .inl hf)

theorem CachAt.order_ne (h : CachAt w c b H size os l hits misses mb vo D sl) (k : Nat) (hk : vo.ownBlock = some k) : k ≠ c ∧ k ≠ mb ∧ ∀ x ∈ l, k ≠ sl x.p := by
  rcases h.order.form with ⟨rfl, _⟩ | ⟨g, cap, sp, rfl, _, _, _, hB, _⟩
  · simp [Value.ownBlock] at hk
  · simp [Value.ownBlock] at hk
    subst hk
    exact ⟨Blk.ne hB h.blk (by decide), fun e => h.slots.mb_ne hB e.symm, fun x hx e => h.slots.blk_ne hx hB (by decide) e.symm⟩
theorem CachAt.mb_ne (h : CachAt w c b H size os l hits misses mb vo D sl) : mb ≠ c := h.slots.mb_ne h.blk
theorem CachAt.sl_ne (h : CachAt w c b H size os l hits misses mb vo D sl) {x : Hd} (hx : x ∈ l) : sl x.p ≠ c := h.slots.blk_ne hx h.blk (by decide)

/-! ### one part of it turns -/
/-- the struct alone -/
theorem CachAt.turn (h : CachAt w c b H size os l hits misses mb vo D sl) {hits' misses' : Nat} (ho : Only (· = c) w w') (hB : CacheB w' c b mb size vo hits' misses') : CachAt w' c b H size os l hits' misses' mb vo D sl := by
  refine ⟨hB, h.order.only ho (fun k hk => (h.order_ne k hk).1), ?_, h.fc, h.fo, h.few⟩
  exact ⟨ownsMap_only h.slots.map ho h.mb_ne, h.slots.has, h.slots.att, h.slots.len, fun x hx => (h.slots.slot x hx).only ho (h.sl_ne hx), h.slots.inj, h.slots.nodup, h.slots.ok, h.slots.few, h.slots.fm, h.slots.fs⟩
/-- the order of use -/
theorem CachAt.reorder (h : CachAt w c b H size os l hits misses mb vo D sl) {vo' : Value} {os' : List Int} (ho : Only (fun k => k = c ∨ vo.ownBlock = some k) w w') (hB : CacheB w' c b mb size vo' hits misses) (hi : Ints w' 0 vo' os')
    (hf : ∀ k, vo'.ownBlock = some k → H' k) (hH : ∀ k, k < w.heap.size → H k → H' k) (hl : os'.length ≤ 1000) : CachAt w' c b H' size os' l hits misses mb vo' D sl := by
  refine ⟨hB, hi, ?_, hH _ (Blk.lt h.blk) h.fc, hf, hl⟩
  have h2 := h.slots
  exact ⟨ownsMap_only h2.map ho (fun e => e.elim (fun e => h.mb_ne e) (fun e => (h.order_ne _ e).2.1 rfl)), h2.has, h2.att, h2.len, fun x hx => (h2.slot x hx).only ho (fun e => e.elim (fun e => h.sl_ne hx e) (fun e => (h.order_ne _ e).2.2 x hx rfl)), h2.inj, h2.nodup, h2.ok, h2.few, hH _ h2.map.lt h2.fm, fun x hx => hH _ (h2.slot x hx).lt (h2.fs x hx)⟩
/-- one slot -/
theorem CachAt.reslot (h : CachAt w c b H size os l hits misses mb vo D sl) (p : Nat) (f : Hd → Hd) (hf : ∀ x, (f x).p = x.p) {x : Hd} (hx : x ∈ l) (hp : x.p = p) (ho : Only (· = sl p) w w') (hB : Blk w' (sl p) 94 (sc (f x))) (hk : PageOk (f x).bs) :
    CachAt w' c b H size os (updC l p f) hits misses mb vo D sl := by
  have hne := h.sl_ne hx
  rw [hp] at hne
  refine ⟨Blk.only h.blk ho (fun e => hne e.symm), h.order.only ho (fun k hk => by rw [← hp]; exact (h.order_ne k hk).2.2 x hx), ?_, h.fc, h.fo, h.few⟩
  have h2 := h.slots
  have pages := updC_pages l p f hf
  have hmem : ∀ y ∈ updC l p f, ∃ z ∈ l, z.p = y.p ∧ y = if z.p = p then f z else z := by
    intro y hy
    obtain ⟨z, hz, e⟩ := mem_updC hy
    refine ⟨z, hz, ?_, e⟩
    rw [e]
    split
    · exact (hf z).symm
    · rfl
  have hmb : ¬ mb = sl p := fun e => h2.sl_ne hx (by rw [hp]; exact e.symm)
  refine ⟨?_, fun q => ?_, fun y hy => ?_, ?_, fun y hy => ?_, fun y hy z hz e => ?_, ?_, fun y hy => ?_, ?_, h2.fm, fun y hy => ?_⟩
  · rw [updC_len]; exact ownsMap_only h2.map ho hmb
  · rw [h2.has q, findC_updC l p f hf]; simp
  · obtain ⟨z, hz, e1, _⟩ := hmem y hy
    rw [← e1]; exact h2.att z hz
  · rw [updC_len]; exact h2.len
  · obtain ⟨z, hz, e1, e2⟩ := hmem y hy
    by_cases hzp : z.p = p
    · obtain rfl : z = x := nodup_inj h2.nodup hz hx (hzp.trans hp.symm)
      rw [if_pos hzp] at e2
      rw [← e1, e2, hzp]
      exact hB
    · rw [if_neg hzp] at e2
      rw [e2]
      exact (h2.slot z hz).only ho (fun e => hzp (h2.inj z hz x hx (by rw [e, hp]) |>.trans hp))
  · obtain ⟨y', hy', e1, _⟩ := hmem y hy
    obtain ⟨z', hz', e2, _⟩ := hmem z hz
    rw [← e1, ← e2] at e ⊢
    exact h2.inj _ hy' _ hz' e
  · rw [pages]; exact h2.nodup
  · obtain ⟨z, hz, e1, e2⟩ := hmem y hy
    rw [← e1]
    refine ⟨(h2.ok z hz).1, ?_⟩
    by_cases hzp : z.p = p
    · obtain rfl : z = x := nodup_inj h2.nodup hz hx (hzp.trans hp.symm)
      rw [e2, if_pos hzp]; exact hk
    · rw [e2, if_neg hzp]; exact (h2.ok z hz).2
  · rw [updC_len]; exact h2.few
  · obtain ⟨z, hz, e1, _⟩ := hmem y hy
    rw [← e1]; exact h2.fs z hz
end

theorem tightMap {H : Type} {w : World} {P : Program} {k : TypeId} {R : Value → Option (DataW H × List MemPlace)} {b n : Nat} {D : DataW H} (h : w.ownsMap P k R b n D) : w.ownsMap P k R b (Maps.size D) D := by
  obtain ⟨es, clock, hb, F, hs, rfl⟩ := h
  exact ⟨es, clock, hb, F, by simp [Maps.size, length_sorted], rfl⟩

end Go.Proofs.YtoplhehcjgldeaaGreat
/- Contracts: the small methods of package cache. -/
namespace Go.Proofs.YtoplhehcjgldeaaGreat
open Go.RowKit
set_option linter.unusedVariables false

abbrev Wf (p : Int) : Prop := (Lit.int .i64 p).wf = true
theorem wf_nat {p : Nat} (h : p ≤ 1000000) : Wf (p : Int) := WalkArith.wf_i64 (by omega)
theorem keyOfInt (p : Int) (h : Wf p) : keyOf Tryz.prog 3 (.int .i64 p) = some (.int .i64 p) := Maps.keyOf_int_mk Tryz.underlying3 h
theorem zeroSlotP (w : World) : (zeroValue 95).run Tryz.prog w = .ok (.pointer none) w := by kernel_rfl

section
variable {w : World} {H : Nat → Prop} {mb : Nat} {D : DataW Unit} {sl : Nat → Nat} {l : List Hd}
theorem Slots.look (h : Slots w H mb D sl l) {x : Hd} (hx : x ∈ l) : (Instr.lookup 61 (.map (some mb)) (.int .i64 x.p) false).run Tryz.prog w = .ok (dp (sl x.p)) w := by
  obtain ⟨v, ps, hr, hv⟩ := h.map.lookup keyedInt Tryz.underlying61 (zeroSlotP w) slotElem_nil (keyOfInt x.p (wf_nat (Nat.le_of_lt (h.ok x hx).1)))
  rw [h.att x hx] at hv
  rw [hr, slotElem_inv hv]
theorem Slots.look_yes (h : Slots w H mb D sl l) {x : Hd} (hx : x ∈ l) : (Instr.lookup 61 (.map (some mb)) (.int .i64 x.p) true).run Tryz.prog w = .ok (.tuple #[dp (sl x.p), .bool true]) w := by
  obtain ⟨v, ps, hr, hv⟩ := h.map.look_ok keyedInt Tryz.underlying61 (zeroSlotP w) slotElem_nil (keyOfInt x.p (wf_nat (Nat.le_of_lt (h.ok x hx).1)))
  rw [h.att x hx] at hv
  rw [hr, slotElem_inv hv, h.has, findC_mem h.nodup hx]
  rfl
theorem Slots.look_no (h : Slots w H mb D sl l) (p : Int) (hp : Wf p) (hn : findC l p = none) : (Instr.lookup 61 (.map (some mb)) (.int .i64 p) true).run Tryz.prog w = .ok (.tuple #[.pointer none, .bool false]) w := by
  have hh : Maps.has D (.int .i64 p) = false := by rw [h.has, hn]; rfl
  obtain ⟨v, ps, hr, hv⟩ := h.map.look_ok keyedInt Tryz.underlying61 (zeroSlotP w) slotElem_nil (keyOfInt p hp)
  rw [Maps.atKey_of_not_has hh] at hv
  rw [hr, slotElem_nil_inv hv, hh]
end

section
variable {w : World} {c b mb : Nat} {vo : Value} {size hits misses : Nat}
theorem CacheB.c0 (h : CacheB w c b mb size vo hits misses) : w.cell? ⟨c, 0, none⟩ = some (dp b) := Blk.cell h 0
theorem CacheB.c1 (h : CacheB w c b mb size vo hits misses) : w.cell? ⟨c, 1, none⟩ = some (.int .i64 size) := Blk.cell h 1
theorem CacheB.c2 (h : CacheB w c b mb size vo hits misses) : w.cell? ⟨c, 2, none⟩ = some (.map (some mb)) := Blk.cell h 2
theorem CacheB.c3 (h : CacheB w c b mb size vo hits misses) : w.cell? ⟨c, 3, none⟩ = some vo := Blk.cell h 3
theorem CacheB.c4 (h : CacheB w c b mb size vo hits misses) : w.cell? ⟨c, 4, none⟩ = some (.int .i64 hits) := Blk.cell h 4
theorem CacheB.c5 (h : CacheB w c b mb size vo hits misses) : w.cell? ⟨c, 5, none⟩ = some (.int .i64 misses) := Blk.cell h 5
end

theorem cmade_nil (w : World) : Calls Tryz.prog 53 #[.pointer none] w fun e w' => e = .returned (.bool false) ∧ w' = w := by
  go_enter Tryz.func53, Tryz.ntmps53
  go_wp2
  go_ret
  exact ⟨rfl, rfl⟩
theorem cmade_zero (w : World) (c : Nat) (c0 : w.cell? ⟨c, 0, none⟩ = some (.pointer none)) : Calls Tryz.prog 53 #[dp c] w fun e w' => e = .returned (.bool false) ∧ w' = w := by
  go_enter Tryz.func53, Tryz.ntmps53
  go_wp2
  go_ret
  exact ⟨rfl, rfl⟩
theorem cmade_any (w : World) (c b : Nat) (c0 : w.cell? ⟨c, 0, none⟩ = some (dp b)) : Calls Tryz.prog 53 #[dp c] w fun e w' => e = .returned (.bool true) ∧ w' = w := by
  go_enter Tryz.func53, Tryz.ntmps53
  go_wp2
  go_ret
  exact ⟨rfl, rfl⟩

section
variable (w : World) (c b : Nat) (H : Nat → Prop) (size : Nat) (os : List Int) (l : List Hd) (hits misses : Nat) (mb : Nat) (vo : Value) (D : DataW Unit) (sl : Nat → Nat)

theorem find_yes (h : CachAt w c b H size os l hits misses mb vo D sl) (x : Hd) (hx : x ∈ l) :
    Calls Tryz.prog 63 #[dp c, .int .i64 x.p] w fun e w' => e = .returned (.tuple #[dp (sl x.p), .int .i64 0]) ∧ w' = w := by
  have c0 := h.blk.c0
  have c2 := h.blk.c2
  have HM := hide (cmade_any w c b c0)
  have hl := h.slots.look_yes hx
  clear h hx
  go_enter Tryz.func63, Tryz.ntmps63
  go_wp2_with (go_at_call 53; refine HM.out.mono ?_; rintro e w' ⟨rfl, rfl⟩)
  go_ret2
  exact ⟨rfl, rfl⟩
theorem find_no (h : CachAt w c b H size os l hits misses mb vo D sl) (p : Int) (hp : Wf p) (hn : findC l p = none) :
    Calls Tryz.prog 63 #[dp c, .int .i64 p] w fun e w' => e = .returned (.tuple #[.pointer none, .int .i64 4]) ∧ w' = w := by
  have c0 := h.blk.c0
  have c2 := h.blk.c2
  have HM := hide (cmade_any w c b c0)
  have hl := h.slots.look_no p hp hn
  clear h hn hp
  go_enter Tryz.func63, Tryz.ntmps63
  go_wp2_with (go_at_call 53; refine HM.out.mono ?_; rintro e w' ⟨rfl, rfl⟩)
  go_ret2
  exact ⟨rfl, rfl⟩
theorem chas_yes (h : CachAt w c b H size os l hits misses mb vo D sl) (x : Hd) (hx : x ∈ l) :
    Calls Tryz.prog 46 #[dp c, .int .i64 x.p] w fun e w' => e = .returned (.bool true) ∧ w' = w := by
  have HF := hide (find_yes w c b H size os l hits misses mb vo D sl h x hx)
  clear h hx
  go_enter Tryz.func46, Tryz.ntmps46
  go_wp2_with (go_at_call 63; refine HF.out.mono ?_; rintro e w' ⟨rfl, rfl⟩)
  go_ret
  exact ⟨rfl, rfl⟩
theorem chas_no (h : CachAt w c b H size os l hits misses mb vo D sl) (p : Int) (hp : Wf p) (hn : findC l p = none) :
    Calls Tryz.prog 46 #[dp c, .int .i64 p] w fun e w' => e = .returned (.bool false) ∧ w' = w := by
  have HF := hide (find_no w c b H size os l hits misses mb vo D sl h p hp hn)
  clear h hn hp
  go_enter Tryz.func46, Tryz.ntmps46
  go_wp2_with (go_at_call 63; refine HF.out.mono ?_; rintro e w' ⟨rfl, rfl⟩)
  go_ret
  exact ⟨rfl, rfl⟩
end

end Go.Proofs.YtoplhehcjgldeaaGreat
