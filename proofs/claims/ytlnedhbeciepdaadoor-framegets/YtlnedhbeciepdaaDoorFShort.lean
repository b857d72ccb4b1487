/- Contracts: whether frames bear so little that they may be gone through (incipitlaw04.short); whether two are alike, byte by byte (incipitlaw04.alike). -/
import Derived.Test.YtlnedhbeciepdaaDoorFLive
namespace Go.Proofs.YtlnedhbeciepdaaDoor
open Go.RowKit
set_option linter.unusedVariables false

/-- a frame as it is handed in -/
structure Fm where
  k : Int
  p : Int
  e : Nat
  a : Option Addr
  n : Nat
  c : Nat
def Fm.cells (f : Fm) : List Value := [.int .i64 f.k, .int .i64 f.p, .int .u64 f.e, .slice f.a f.n f.c]
def Fm.val (f : Fm) : Value := .agg #[.int .i64 f.k, .int .i64 f.p, .int .u64 f.e, .slice f.a f.n f.c]

theorem flat_cell (b : Nat) : ∀ (fs : List Fm) (i j : Nat) (f : Fm), fs[i]? = some f → j < 4 → ((fs.map Fm.cells).flatten)[i * 4 + j]? = f.cells[j]?
  | [], i, j, f, h, _ => by simp at h
  | g :: fs, 0, j, f, h, hj => by
    simp at h
    subst h
    rw [List.map_cons, List.flatten_cons, List.getElem?_append_left (by simp [Fm.cells]; omega)]
    simp
  | g :: fs, i + 1, j, f, h, hj => by
    have ih := flat_cell b fs i j f (by simpa using h) hj
    rw [List.map_cons, List.flatten_cons, List.getElem?_append_right (by simp [Fm.cells]; omega)]
    rw [show (i + 1) * 4 + j - g.cells.length = i * 4 + j by simp [Fm.cells]; omega]
    exact ih

def shortB (fs : List Fm) : Bool := fs.all fun f => decide (f.n ≤ 3000)

set_option maxHeartbeats 1000000 in
theorem short_any (w : World) (b : Nat) (fs : List Fm) (h : Blk w b 25 (fs.map Fm.cells).flatten) (hn : fs.length ≤ 100) :
    Calls Tryd.prog 9 #[.slice (some ⟨b, 0, none⟩) fs.length fs.length] w fun r w' => r = .returned (.bool (shortB fs)) ∧ Below w.heap.size w w' := by
  have HB := hide h
  have HSB : Hid ((∀ (i : Nat) (f : Fm), fs[i]? = some f → ¬ f.n ≤ 3000 → shortB fs = false) ∧ ((∀ (i : Nat) (f : Fm), fs[i]? = some f → f.n ≤ 3000) → shortB fs = true)) := by
    refine ⟨fun i f hf hn => ?_, fun hall => ?_⟩
    · unfold shortB
      rw [List.all_eq_false]
      exact ⟨f, List.mem_of_getElem? hf, by simpa using hn⟩
    · unfold shortB
      rw [List.all_eq_true]
      intro f hf
      obtain ⟨i, hi⟩ := List.getElem?_of_mem hf
      exact decide_eq_true (hall i f hi)
  clear h
  have hza := zeroFrameRun
  go_enter Tryd.func9, Tryd.ntmps9
  go_wp2
  go_loopg [7] fs.length (fun g i wr => ∃ k : Nat, g + k = fs.length ∧ i = .int .i64 k ∧ Below w.heap.size w wr ∧ ∀ (j : Nat) (f : Fm), j < k → fs[j]? = some f → f.n ≤ 3000)
  case atStart => exact ⟨0, by omega, rfl, Below.refl _ _, fun j f hj => by omega⟩
  case round =>
    obtain ⟨k, hk, rfl, hb, hall⟩ := hrel
    have HA := hide hall
    have Hb := hide hb
    clear hall
    cases gk with
    | zero =>
      obtain rfl : k = fs.length := by omega
      clear hb
      go_wp2
      go_ret
      exact ⟨ret_bool (HSB.out.2 (fun i f hf => HA.out i f (List.getElem?_eq_some_iff.1 hf).1 hf)).symm, Hb.out⟩
    | succ g =>
      have hkl : k < fs.length := by omega
      have hki : (k : Int) < (fs.length : Int) := by omega
      obtain ⟨f, hf⟩ : ∃ f, fs[k]? = some f := ⟨fs[k], List.getElem?_eq_getElem hkl⟩
      have hB := HB.out.below hb HB.out.lt
      have c0 := (hB.cell (k * 4 + 0)).trans (flat_cell b fs k 0 f hf (by omega))
      have c1 := (hB.cell (k * 4 + 1)).trans (flat_cell b fs k 1 f hf (by omega))
      have c2 := (hB.cell (k * 4 + 2)).trans (flat_cell b fs k 2 f hf (by omega))
      have c3 := (hB.cell (k * 4 + 3)).trans (flat_cell b fs k 3 f hf (by omega))
      simp only [Fm.cells, List.getElem?_cons_zero, List.getElem?_cons_succ, Nat.add_zero] at c0 c1 c2 c3
      have HF := hide hf
      clear hB hf hb
      by_cases hs : f.n ≤ 3000
      · have hsi : ¬ (3000 : Int) < (f.n : Int) := by omega
        go_wp2
        go_roundg g
        case measure => omega
        case rel =>
          refine ⟨k + 1, by omega, by go_num, Hb.out.alloc Hb.out.size _, fun j f' hj hf' => ?_⟩
          rcases Nat.lt_or_ge j k with h1 | h1
          · exact HA.out j f' h1 hf'
          · obtain rfl : j = k := by omega
            rw [HF.out] at hf'
            cases hf'
            exact hs
      · have hsi : (3000 : Int) < (f.n : Int) := by omega
        go_wp2
        go_ret
        exact ⟨ret_bool (HSB.out.1 k f HF.out hs).symm, Hb.out.alloc Hb.out.size _⟩

/-- two frames are alike -/
def alikeB (k p : Int) (e : Nat) (xs : List Int) (k' p' : Int) (e' : Nat) (ys : List Int) : Bool := decide (k = k' ∧ p = p' ∧ e = e' ∧ xs = ys)

set_option maxHeartbeats 1000000 in
theorem alike_any (w : World) (k p k' p' : Int) (e e' : Nat) (a a' : Option Addr) (n n' c c' : Nat) (xs ys : List Int) (hx : Sl w (.slice a n c) xs) (hy : Sl w (.slice a' n' c') ys) :
    Calls Tryd.prog 22 #[.agg #[.int .i64 k, .int .i64 p, .int .u64 e, .slice a n c], .agg #[.int .i64 k', .int .i64 p', .int .u64 e', .slice a' n' c']] w fun r w' => r = .returned (.bool (alikeB k p e xs k' p' e' ys)) ∧ Below w.heap.size w w' := by
  have HE := hide (equal_any _ _ _ xs ys ((hx.alloc (.cells #[.int .i64 k, .int .i64 p, .int .u64 e, .slice a n c] 25)).alloc (.cells #[.int .i64 k', .int .i64 p', .int .u64 e', .slice a' n' c'] 25)) ((hy.alloc (.cells #[.int .i64 k, .int .i64 p, .int .u64 e, .slice a n c] 25)).alloc (.cells #[.int .i64 k', .int .i64 p', .int .u64 e', .slice a' n' c'] 25)))
  have HB : Hid (Below w.heap.size w ((w.alloc (.cells #[.int .i64 k, .int .i64 p, .int .u64 e, .slice a n c] 25)).alloc (.cells #[.int .i64 k', .int .i64 p', .int .u64 e', .slice a' n' c'] 25))) := ((Below.refl _ w).alloc (Nat.le_refl _) _).alloc (by simp) _
  clear hx hy
  by_cases h1 : k = k'
  · by_cases h2 : p = p'
    · by_cases h3 : e = e'
      · have es : alikeB k p e xs k' p' e' ys = decide (xs = ys) := by unfold alikeB; simp [h1, h2, h3]
        rw [es]
        obtain ⟨d, hd⟩ : ∃ d, d = decide (xs = ys) := ⟨_, rfl⟩
        rw [← hd] at HE ⊢
        subst h1 h2 h3
        clear hd es
        go_enter Tryd.func22, Tryd.ntmps22
        go_wp2_with (go_at_call 17; refine HE.out.mono ?_; rintro e1 w4 ⟨rfl, hw⟩; subst w4; clear HE)
        go_ret
        exact ⟨rfl, HB.out⟩
      · have es : alikeB k p e xs k' p' e' ys = false := by unfold alikeB; simp [h3]
        rw [es]
        have h3i : ((e : Int) == (e' : Int)) = false := by simp; omega
        subst h1 h2
        clear es
        go_enter Tryd.func22, Tryd.ntmps22
        go_wp2
        go_ret
        exact ⟨rfl, HB.out⟩
    · have es : alikeB k p e xs k' p' e' ys = false := by unfold alikeB; simp [h2]
      rw [es]
      have h2i : (p == p') = false := by simpa using h2
      subst h1
      clear es
      go_enter Tryd.func22, Tryd.ntmps22
      go_wp2
      go_ret
      exact ⟨rfl, HB.out⟩
  · have es : alikeB k p e xs k' p' e' ys = false := by unfold alikeB; simp [h1]
    rw [es]
    have h1i : (k == k') = false := by simpa using h1
    clear es
    go_enter Tryd.func22, Tryd.ntmps22
    go_wp2
    go_ret
    exact ⟨rfl, HB.out⟩

end Go.Proofs.YtlnedhbeciepdaaDoor
