/- A cache, as the document says it: pages that are held, the one that was used last first, over a device ('Dv'). Plain functions and lemmas; no package's function. -/
import Derived.Test.YtoplhehcjgldeaaDWrite
namespace Go.Proofs.Ytoplhehcjgldeaa
open Go.RowKit
set_option linter.unusedVariables false

/-! ### a device's acts, all outcomes in one -/
def writeQ (d : Dv) (p : Nat) (zs : List Int) : Int × Dv := if d.off = true then (5, d) else (spendE d, spendD { d with ws := d.ws ++ [(p, zs)] })

/-! ### a page that is held; a cache -/
structure Hd where
  p : Nat
  bs : List Int
  ch : Bool
  pins : Nat
structure Ch where
  size : Nat
  l : List Hd
  hits : Nat
  misses : Nat

def findC (l : List Hd) (p : Int) : Option Hd := l.find? (fun h => decide ((h.p : Int) = p))
def lessC (l : List Hd) (p : Nat) : List Hd := l.filter (fun h => decide (h.p ≠ p))
def useC (l : List Hd) (h : Hd) : List Hd := h :: lessC l h.p
def updC (l : List Hd) (p : Nat) (f : Hd → Hd) : List Hd := l.map (fun x => if x.p = p then f x else x)
/-- who goes: of those that are not pinned, the one that was used longest ago -/
def goesC (l : List Hd) : Option Hd := l.reverse.find? (fun h => decide (h.pins = 0))
def roomC (c : Ch) (d : Dv) : Int × Ch × Dv :=
  if c.l.length < c.size then (0, c, d) else match goesC c.l with
  | none => (6, c, d)
  | some h => if h.ch = true then (if (writeQ d h.p h.bs).1 = 0 then (0, { c with l := lessC c.l h.p }, (writeQ d h.p h.bs).2) else ((writeQ d h.p h.bs).1, c, (writeQ d h.p h.bs).2)) else (0, { c with l := lessC c.l h.p }, d)
def meetC (c : Ch) (d : Dv) (p : Nat) : Int × Ch × Dv := match findC c.l p with
  | some _ => (0, { c with hits := c.hits + 1 }, d)
  | none => roomC { c with misses := c.misses + 1 } d

/-- what may be: the pages of a device of n pages, each once -/
structure ChOk (n : Nat) (c : Ch) : Prop where
  lo : 2 ≤ c.size
  hi : c.size ≤ 64
  few : c.l.length ≤ c.size
  nodup : (c.l.map (·.p)).Nodup
  pages : ∀ h ∈ c.l, h.p < n ∧ PageOk h.bs
/-- how much was counted, at most -/
structure Few (k : Nat) (c : Ch) (d : Dv) : Prop where
  hits : c.hits ≤ k
  misses : c.misses ≤ k
  pins : ∀ h ∈ c.l, h.pins ≤ k
  ws : d.ws.length ≤ k
  done : d.done ≤ k

theorem Few.mono {k k' : Nat} {c : Ch} {d : Dv} (h : Few k c d) (hk : k ≤ k') : Few k' c d := ⟨Nat.le_trans h.hits hk, Nat.le_trans h.misses hk, fun x hx => Nat.le_trans (h.pins x hx) hk, Nat.le_trans h.ws hk, Nat.le_trans h.done hk⟩

/-! ### lists of pages that are held -/
theorem findC_some {l : List Hd} {p : Int} {h : Hd} (e : findC l p = some h) : h ∈ l ∧ (h.p : Int) = p := ⟨List.mem_of_find?_eq_some e, by have := List.find?_some e; simpa using this⟩
theorem findC_none {l : List Hd} {p : Int} (e : findC l p = none) : ∀ h ∈ l, (h.p : Int) ≠ p := fun h hh hp => by
  have := List.find?_eq_none.1 e h hh
  simp [hp] at this
theorem findC_mem : ∀ {l : List Hd} {h : Hd}, (l.map (·.p)).Nodup → h ∈ l → findC l h.p = some h
  | [], _, _, hm => by simp at hm
  | x :: l, h, hn, hm => by
    rw [List.map_cons, List.nodup_cons] at hn
    unfold findC
    rw [List.find?_cons]
    rcases List.mem_cons.1 hm with rfl | hm
    · simp
    · have hne : x.p ≠ h.p := fun e => hn.1 (by rw [e]; exact List.mem_map_of_mem hm)
      have : decide ((x.p : Int) = (h.p : Int)) = false := by simp; omega
      rw [this]
      exact findC_mem hn.2 hm
theorem nodup_inj {l : List Hd} (hn : (l.map (·.p)).Nodup) {x y : Hd} (hx : x ∈ l) (hy : y ∈ l) (e : x.p = y.p) : x = y := by
  have h1 := findC_mem hn hx
  have h2 := findC_mem hn hy
  rw [e] at h1
  exact Option.some.inj (h1.symm.trans h2)
theorem mem_lessC {l : List Hd} {p : Nat} {h : Hd} : h ∈ lessC l p ↔ h ∈ l ∧ h.p ≠ p := by unfold lessC; simp
theorem lessC_none {l : List Hd} {p : Nat} (e : ∀ h ∈ l, h.p ≠ p) : lessC l p = l := by
  unfold lessC
  rw [List.filter_eq_self]
  intro h hh
  simpa using e h hh
theorem lessC_sub (l : List Hd) (p : Nat) : (lessC l p).Sublist l := List.filter_sublist
theorem lessC_nodup {l : List Hd} (h : (l.map (·.p)).Nodup) (p : Nat) : ((lessC l p).map (·.p)).Nodup := h.sublist ((lessC_sub l p).map _)
theorem lessC_pages (l : List Hd) (p : Nat) : (lessC l p).map (·.p) = (l.map (·.p)).filter (fun q => decide (q ≠ p)) := by
  unfold lessC
  rw [List.filter_map]
  rfl
theorem lessC_len {l : List Hd} {h : Hd} (hn : (l.map (·.p)).Nodup) (hm : h ∈ l) : (lessC l h.p).length + 1 = l.length := by
  induction l with
  | nil => simp at hm
  | cons x l ih =>
    rw [List.map_cons, List.nodup_cons] at hn
    unfold lessC
    rw [List.filter_cons]
    rcases List.mem_cons.1 hm with rfl | hm
    · have : decide (h.p ≠ h.p) = false := by simp
      rw [this]
      have e := lessC_none (l := l) (p := h.p) (fun y hy e => hn.1 (by rw [← e]; exact List.mem_map_of_mem hy))
      unfold lessC at e
      simp only [Bool.false_eq_true, if_false]
      rw [e]
      simp
    · have hne : x.p ≠ h.p := fun e => hn.1 (by rw [e]; exact List.mem_map_of_mem hm)
      have : decide (x.p ≠ h.p) = true := by simpa using hne
      rw [this, if_pos rfl, List.length_cons, List.length_cons]
      have := ih hn.2 hm
      unfold lessC at this
      omega
theorem findC_lessC_same (l : List Hd) (p : Nat) : findC (lessC l p) p = none := by
  apply List.find?_eq_none.2
  intro h hh
  have := (mem_lessC.1 hh).2
  simp; omega
theorem findC_lessC_other {l : List Hd} {p : Nat} {q : Int} (hq : q ≠ p) : findC (lessC l p) q = findC l q := by
  induction l with
  | nil => rfl
  | cons x l ih =>
    unfold lessC at ih ⊢
    rw [List.filter_cons]
    by_cases hx : x.p = p
    · have : decide (x.p ≠ p) = false := by simpa using hx
      rw [this]
      simp only [Bool.false_eq_true, if_false]
      rw [ih]
      unfold findC
      rw [List.find?_cons]
      have : decide ((x.p : Int) = q) = false := by simp; omega
      rw [this]
    · have : decide (x.p ≠ p) = true := by simpa using hx
      rw [this, if_pos rfl]
      unfold findC at ih ⊢
      rw [List.find?_cons, List.find?_cons, ih]
theorem findC_useC_same (l : List Hd) (h : Hd) : findC (useC l h) h.p = some h := by
  unfold useC findC
  rw [List.find?_cons]
  simp
theorem findC_useC_other (l : List Hd) (h : Hd) {q : Int} (hq : q ≠ h.p) : findC (useC l h) q = findC l q := by
  have e := findC_lessC_other (l := l) (p := h.p) hq
  unfold useC
  unfold findC at e ⊢
  rw [List.find?_cons]
  have : decide ((h.p : Int) = q) = false := by simp; omega
  rw [this, e]
theorem useC_nodup {l : List Hd} (hn : (l.map (·.p)).Nodup) (h : Hd) : ((useC l h).map (·.p)).Nodup := by
  unfold useC
  rw [List.map_cons, List.nodup_cons]
  refine ⟨fun hm => ?_, lessC_nodup hn _⟩
  obtain ⟨x, hx, e⟩ := List.mem_map.1 hm
  exact (mem_lessC.1 hx).2 e
theorem useC_len {l : List Hd} (hn : (l.map (·.p)).Nodup) (h : Hd) {x : Hd} (e : findC l h.p = some x) : (useC l h).length = l.length := by
  obtain ⟨hm, hp⟩ := findC_some e
  have hp' : x.p = h.p := by omega
  have := lessC_len hn hm
  rw [hp'] at this
  unfold useC
  rw [List.length_cons]
  exact this
theorem useC_new {l : List Hd} {h : Hd} (e : findC l h.p = none) : useC l h = h :: l := by
  unfold useC
  rw [lessC_none (fun x hx he => findC_none e x hx (by omega))]
theorem mem_useC {l : List Hd} {h x : Hd} : x ∈ useC l h ↔ x = h ∨ (x ∈ l ∧ x.p ≠ h.p) := by
  unfold useC
  rw [List.mem_cons, mem_lessC]
theorem updC_pages (l : List Hd) (p : Nat) (f : Hd → Hd) (hf : ∀ x, (f x).p = x.p) : (updC l p f).map (·.p) = l.map (·.p) := by
  unfold updC
  rw [List.map_map]
  apply List.map_congr_left
  intro x hx
  show (if x.p = p then f x else x).p = x.p
  split
  · exact hf x
  · rfl
theorem updC_len (l : List Hd) (p : Nat) (f : Hd → Hd) : (updC l p f).length = l.length := by simp [updC]
theorem mem_updC {l : List Hd} {p : Nat} {f : Hd → Hd} {y : Hd} (h : y ∈ updC l p f) : ∃ x ∈ l, y = if x.p = p then f x else x := by
  obtain ⟨x, hx, e⟩ := List.mem_map.1 h
  exact ⟨x, hx, e.symm⟩
theorem findC_updC (l : List Hd) (p : Nat) (f : Hd → Hd) (hf : ∀ x, (f x).p = x.p) (q : Int) : findC (updC l p f) q = (findC l q).map (fun x => if x.p = p then f x else x) := by
  induction l with
  | nil => rfl
  | cons x l ih =>
    unfold updC findC at ih ⊢
    rw [List.map_cons, List.find?_cons, List.find?_cons]
    have e : (if x.p = p then f x else x).p = x.p := by
      split
      · exact hf x
      · rfl
    rw [e]
    cases decide ((x.p : Int) = q) with
    | true => simp
    | false => exact ih

theorem goesC_some {l : List Hd} {h : Hd} (e : goesC l = some h) : h ∈ l ∧ h.pins = 0 := ⟨List.mem_reverse.1 (List.mem_of_find?_eq_some e), by have := List.find?_some e; simpa using this⟩
theorem goesC_none {l : List Hd} (e : goesC l = none) : ∀ h ∈ l, h.pins ≠ 0 := fun h hh hp => by
  have := List.find?_eq_none.1 e h (List.mem_reverse.2 hh)
  simp [hp] at this

end Go.Proofs.Ytoplhehcjgldeaa
