/- Contract: whether heads have so little that they may be gone through (incipitlaw06.short). A head that comes in, boxed. -/
import Derived.Test.YtmeiahmolmneeaaDoorHLive
namespace Go.Proofs.YtmeiahmolmneeaaDoor
set_option maxRecDepth 20000
open Go.RowKit
set_option linter.unusedVariables false

/-- a head as it is handed in -/
structure Hm where
  e : Nat
  p : Int
  ma : Option Addr
  mn : Nat
  mc : Nat
  ua : Option Addr
  un : Nat
  uc : Nat
def Hm.cells (f : Hm) : List Value := [.int .u64 f.e, .int .i64 f.p, .slice f.ma f.mn f.mc, .slice f.ua f.un f.uc]

theorem flat_cellH (b : Nat) : ∀ (fs : List Hm) (i j : Nat) (f : Hm), fs[i]? = some f → j < 4 → ((fs.map Hm.cells).flatten)[i * 4 + j]? = f.cells[j]?
  | [], i, j, f, h, _ => by simp at h
  | g :: fs, 0, j, f, h, hj => by
    simp at h
    subst h
    rw [List.map_cons, List.flatten_cons, List.getElem?_append_left (by simp [Hm.cells]; omega)]
    simp
  | g :: fs, i + 1, j, f, h, hj => by
    have ih := flat_cellH b fs i j f (by simpa using h) hj
    rw [List.map_cons, List.flatten_cons, List.getElem?_append_right (by simp [Hm.cells]; omega)]
    rw [show (i + 1) * 4 + j - g.cells.length = i * 4 + j by simp [Hm.cells]; omega]
    exact ih

def shortHB (fs : List Hm) : Bool := fs.all fun f => decide (f.mn ≤ 100 ∧ f.un ≤ 3000)

set_option maxHeartbeats 1000000 in
theorem shortH_any (w : World) (b : Nat) (fs : List Hm) (h : Blk w b 26 (fs.map Hm.cells).flatten) (hn : fs.length ≤ 100) :
    Calls Tryd.prog 10 #[.slice (some ⟨b, 0, none⟩) fs.length fs.length] w fun r w' => r = .returned (.bool (shortHB fs)) ∧ Below w.heap.size w w' := by
  have HB := hide h
  have HSB : Hid ((∀ (i : Nat) (f : Hm), fs[i]? = some f → ¬ (f.mn ≤ 100 ∧ f.un ≤ 3000) → shortHB fs = false) ∧ ((∀ (i : Nat) (f : Hm), fs[i]? = some f → f.mn ≤ 100 ∧ f.un ≤ 3000) → shortHB fs = true)) := by
    refine ⟨fun i f hf hn => ?_, fun hall => ?_⟩
    · unfold shortHB
      rw [List.all_eq_false]
      exact ⟨f, List.mem_of_getElem? hf, by simpa using hn⟩
    · unfold shortHB
      rw [List.all_eq_true]
      intro f hf
      obtain ⟨i, hi⟩ := List.getElem?_of_mem hf
      exact decide_eq_true (hall i f hi)
  clear h
  have hza := zeroHeadRun
  go_enter Tryd.func10, Tryd.ntmps10
  go_wp2
  go_loopg [7] fs.length (fun g i wr => ∃ k : Nat, g + k = fs.length ∧ i = .int .i64 k ∧ Below w.heap.size w wr ∧ ∀ (j : Nat) (f : Hm), j < k → fs[j]? = some f → f.mn ≤ 100 ∧ f.un ≤ 3000)
  case atStart => exact ⟨0, by omega, rfl, Below.refl _ _, fun j f hj => by omega⟩
  case round =>
    obtain ⟨k, hk, rfl, hb, hall⟩ := hrel
    have HA := hide hall
    have Hb := hide hb
    clear hall
    cases gk with
    | zero =>
      obtain rfl : k = fs.length := by omega
      clear hb
      go_wp2
      go_ret
      exact ⟨ret_bool (HSB.out.2 (fun i f hf => HA.out i f (List.getElem?_eq_some_iff.1 hf).1 hf)).symm, Hb.out⟩
    | succ g =>
      have hkl : k < fs.length := by omega
      have hki : (k : Int) < (fs.length : Int) := by omega
      obtain ⟨f, hf⟩ : ∃ f, fs[k]? = some f := ⟨fs[k], List.getElem?_eq_getElem hkl⟩
      have hB := HB.out.below hb HB.out.lt
      have c0 := (hB.cell (k * 4 + 0)).trans (flat_cellH b fs k 0 f hf (by omega))
      have c1 := (hB.cell (k * 4 + 1)).trans (flat_cellH b fs k 1 f hf (by omega))
      have c2 := (hB.cell (k * 4 + 2)).trans (flat_cellH b fs k 2 f hf (by omega))
      have c3 := (hB.cell (k * 4 + 3)).trans (flat_cellH b fs k 3 f hf (by omega))
      simp only [Hm.cells, List.getElem?_cons_zero, List.getElem?_cons_succ, Nat.add_zero] at c0 c1 c2 c3
      have HF := hide hf
      clear hB hf hb
      by_cases hs : f.mn ≤ 100 ∧ f.un ≤ 3000
      · have hsi : ¬ (100 : Int) < (f.mn : Int) := by omega
        have hsj : ¬ (3000 : Int) < (f.un : Int) := by omega
        have hd1 : decide ((100 : Int) < (f.mn : Int)) = false := decide_eq_false hsi
        go_wp2
        go_roundg g
        case measure => omega
        case rel =>
          refine ⟨k + 1, by omega, by go_num, Hb.out.alloc Hb.out.size _, fun j f' hj hf' => ?_⟩
          rcases Nat.lt_or_ge j k with h1 | h1
          · exact HA.out j f' h1 hf'
          · obtain rfl : j = k := by omega
            rw [HF.out] at hf'
            cases hf'
            exact hs
      · by_cases hs1 : f.mn ≤ 100
        · have hsi : ¬ (100 : Int) < (f.mn : Int) := by omega
          have hd1 : decide ((100 : Int) < (f.mn : Int)) = false := decide_eq_false hsi
          have hsj : (3000 : Int) < (f.un : Int) := by omega
          go_wp2
          go_ret
          exact ⟨ret_bool (HSB.out.1 k f HF.out hs).symm, Hb.out.alloc Hb.out.size _⟩
        · have hsi : (100 : Int) < (f.mn : Int) := by omega
          go_wp2
          go_ret
          exact ⟨ret_bool (HSB.out.1 k f HF.out hs).symm, Hb.out.alloc Hb.out.size _⟩

/-- what is short of a head -/
def shB (h : Hd) : Bool := decide (h.ms.length ≤ 100 ∧ h.us.length ≤ 3000)

/-- a head that came in, boxed: it stays -/
def Bh (w w1 : World) (cs : List Value) : Prop := Below w.heap.size w w1 ∧ Blk w1 w.heap.size 26 cs
theorem Bh.below {w w1 w2 : World} {cs : List Value} (h : Bh w w1 cs) (hb : Below w1.heap.size w1 w2) : Bh w w2 cs := ⟨h.1.trans (hb.mono h.1.size), h.2.below hb h.2.lt⟩
theorem Bh.alloc {w w1 : World} {cs : List Value} (h : Bh w w1 cs) (o : Obj) : Bh w (w1.alloc o) cs := h.below ((Below.refl _ w1).alloc (Nat.le_refl _) o)
theorem Bh.new (w : World) (cs : List Value) : Bh w (w.alloc (.cells cs.toArray 26)) cs := ⟨(Below.refl _ w).alloc (Nat.le_refl _) _, Blk.new w _ cs⟩
theorem Bh.only {S : Nat → Prop} {w w1 w2 : World} {cs : List Value} (h : Bh w w1 cs) (ho : Only S w1 w2) (hS : ∀ k, S k → w.heap.size < k) : Bh w w2 cs :=
  ⟨h.1.trans (ho.below h.1.size (fun k hk hs => by have := hS k hs; omega)), h.2.only ho (fun hs => by have := hS _ hs; omega)⟩
/-- two of them -/
def Bh2 (w w1 : World) (cs ds : List Value) : Prop := Below w.heap.size w w1 ∧ Blk w1 w.heap.size 26 cs ∧ Blk w1 (w.heap.size + 1) 26 ds
theorem Bh2.below {w w1 w2 : World} {cs ds : List Value} (h : Bh2 w w1 cs ds) (hb : Below w1.heap.size w1 w2) : Bh2 w w2 cs ds := ⟨h.1.trans (hb.mono h.1.size), h.2.1.below hb h.2.1.lt, h.2.2.below hb h.2.2.lt⟩
theorem Bh2.alloc {w w1 : World} {cs ds : List Value} (h : Bh2 w w1 cs ds) (o : Obj) : Bh2 w (w1.alloc o) cs ds := h.below ((Below.refl _ w1).alloc (Nat.le_refl _) o)
theorem Bh2.only {S : Nat → Prop} {w w1 w2 : World} {cs ds : List Value} (h : Bh2 w w1 cs ds) (ho : Only S w1 w2) (hS : ∀ k, S k → w.heap.size + 1 < k) : Bh2 w w2 cs ds :=
  ⟨h.1.trans (ho.below h.1.size (fun k hk hs => by have := hS k hs; omega)), h.2.1.only ho (fun hs => by have := hS _ hs; omega), h.2.2.only ho (fun hs => by have := hS _ hs; omega)⟩
theorem Bh2.new (w : World) (cs ds : List Value) : Bh2 w ((w.alloc (.cells cs.toArray 26)).alloc (.cells ds.toArray 26)) cs ds := two_box w cs ds

theorem live_bh (w : World) (cs : List Value) (hT : Tab w) (w1 : World) (h : Bh w w1 cs) :
    Calls Tryd.prog 9 #[] w1 fun r w2 => r = .returned (.bool true) ∧ Bh w w2 cs := by
  refine (liveH_any w1 (hT.below h.1)).mono ?_
  rintro r w2 ⟨rfl, hb⟩
  exact ⟨rfl, h.below hb⟩
theorem live_bh2 (w : World) (cs ds : List Value) (hT : Tab w) (w1 : World) (h : Bh2 w w1 cs ds) :
    Calls Tryd.prog 9 #[] w1 fun r w2 => r = .returned (.bool true) ∧ Bh2 w w2 cs ds := by
  refine (liveH_any w1 (hT.below h.1)).mono ?_
  rintro r w2 ⟨rfl, hb⟩
  exact ⟨rfl, h.below hb⟩

/-- whether one head, or two, are short -/
theorem short_one (w1 : World) (f : Hm) : Calls Tryd.prog 10 #[.slice (some ⟨w1.heap.size, 0, none⟩) 1 1] (w1.alloc (.cells #[.int .u64 f.e, .int .i64 f.p, .slice f.ma f.mn f.mc, .slice f.ua f.un f.uc] 26)) fun r w2 =>
    r = .returned (.bool (decide (f.mn ≤ 100 ∧ f.un ≤ 3000))) ∧ Below w1.heap.size w1 w2 := by
  refine (shortH_any (w1.alloc (.cells #[.int .u64 f.e, .int .i64 f.p, .slice f.ma f.mn f.mc, .slice f.ua f.un f.uc] 26)) w1.heap.size [f] (Blk.new w1 _ _) (by simp)).mono ?_
  rintro r w2 ⟨rfl, hb⟩
  refine ⟨by simp [shortHB], after_alloc hb⟩
theorem short_two (w1 : World) (f g : Hm) : Calls Tryd.prog 10 #[.slice (some ⟨w1.heap.size, 0, none⟩) 2 2] (w1.alloc (.cells #[.int .u64 f.e, .int .i64 f.p, .slice f.ma f.mn f.mc, .slice f.ua f.un f.uc, .int .u64 g.e, .int .i64 g.p, .slice g.ma g.mn g.mc, .slice g.ua g.un g.uc] 26)) fun r w2 =>
    r = .returned (.bool (decide ((f.mn ≤ 100 ∧ f.un ≤ 3000) ∧ (g.mn ≤ 100 ∧ g.un ≤ 3000)))) ∧ Below w1.heap.size w1 w2 := by
  refine (shortH_any (w1.alloc (.cells #[.int .u64 f.e, .int .i64 f.p, .slice f.ma f.mn f.mc, .slice f.ua f.un f.uc, .int .u64 g.e, .int .i64 g.p, .slice g.ma g.mn g.mc, .slice g.ua g.un g.uc] 26)) w1.heap.size [f, g] (Blk.new w1 _ _) (by simp)).mono ?_
  rintro r w2 ⟨rfl, hb⟩
  refine ⟨by simp [shortHB], after_alloc hb⟩

end Go.Proofs.YtmeiahmolmneeaaDoor
