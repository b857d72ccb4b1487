/- Contracts: the document's answer: which frames may be, which are the same. -/
import Derived.Test.YtmeiahmolmneeaaDoorFSame
import Derived.Test.YtmeiahmolmneeaaDoorWPlace
namespace Go.Proofs.YtmeiahmolmneeaaDoor
set_option maxRecDepth 20000
open Go.RowKit
set_option linter.unusedVariables false

theorem refCheck_any (w : World) (k p : Int) (e n cap : Nat) (ao : Option Addr) :
    Calls Tryd.prog 54 #[frV k p e (.slice ao n cap)] w fun r w' => r = .returned (.int .i64 (checkS k p n)) ∧ Below w.heap.size w w' := by
  unfold frV
  have hb : Hid (Below w.heap.size w (w.alloc (.cells #[.int .i64 k, .int .i64 p, .int .u64 e, .slice ao n cap] 59))) := (Below.refl _ w).alloc (Nat.le_refl _) _
  by_cases h1 : k < 1
  · have es : checkS k p n = 42 := by unfold checkS; rw [if_pos (.inl h1)]
    rw [es]
    go_enter Tryd.func54, Tryd.ntmps54
    go_wp2
    go_ret
    exact ⟨rfl, hb.out⟩
  · have h1' : decide (k < 1) = false := decide_eq_false h1
    by_cases h2 : 4 < k
    · have es : checkS k p n = 42 := by unfold checkS; rw [if_pos (.inr h2)]
      rw [es]
      go_enter Tryd.func54, Tryd.ntmps54
      go_wp2
      go_ret
      exact ⟨rfl, hb.out⟩
    · have h2' : decide (4 < k) = false := decide_eq_false h2
      by_cases h3 : p < 0
      · have es : checkS k p n = 41 := by unfold checkS; rw [if_neg (by omega), if_pos (.inl h3)]
        rw [es]
        go_enter Tryd.func54, Tryd.ntmps54
        go_wp2
        go_ret
        exact ⟨rfl, hb.out⟩
      · have h3' : decide (p < 0) = false := decide_eq_false h3
        by_cases h4 : 2048 ≤ p
        · have es : checkS k p n = 41 := by unfold checkS; rw [if_neg (by omega), if_pos (.inr (by omega))]
          rw [es]
          go_enter Tryd.func54, Tryd.ntmps54
          go_wp2
          go_ret
          exact ⟨rfl, hb.out⟩
        · have h4' : decide (2048 ≤ p) = false := decide_eq_false h4
          by_cases h5 : 240 < n
          · have h5i : (240 : Int) < (n : Int) := by omega
            have es : checkS k p n = 3 := by unfold checkS; rw [if_neg (by omega), if_neg (by omega), if_pos h5]
            rw [es]
            go_enter Tryd.func54, Tryd.ntmps54
            go_wp2
            go_ret
            exact ⟨rfl, hb.out⟩
          · have h5i : ¬ (240 : Int) < (n : Int) := by omega
            have es : checkS k p n = 0 := by unfold checkS; rw [if_neg (by omega), if_neg (by omega), if_neg h5]
            rw [es]
            go_enter Tryd.func54, Tryd.ntmps54
            go_wp2
            go_ret
            exact ⟨rfl, hb.out⟩

theorem trimS_nil (xs : List Int) : trimS xs 0 = [] := rfl
theorem trimS_zero {xs : List Int} {n : Nat} (h : xs.getD n 0 = 0) : trimS xs (n + 1) = trimS xs n := by show (if xs.getD n 0 = 0 then _ else _) = _; rw [if_pos h]
theorem trimS_some {xs : List Int} {n : Nat} (h : ¬ xs.getD n 0 = 0) : trimS xs (n + 1) = xs.take (n + 1) := by show (if xs.getD n 0 = 0 then _ else _) = _; rw [if_neg h]

theorem trimS_take (xs : List Int) : ∀ n, trimS xs n = xs.take (trimS xs n).length
  | 0 => by simp [trimS]
  | n + 1 => by
    unfold trimS
    split
    · exact trimS_take xs n
    · simp
theorem trimD_take (xs : List Int) : trimD xs = xs.take (trimD xs).length := trimS_take xs xs.length
theorem trimD_le (xs : List Int) : (trimD xs).length ≤ xs.length := by
  have := congrArg List.length (trimD_take xs)
  rw [List.length_take] at this
  omega
/-- b[:h], its value shown -/
theorem cut_h' (ao : Option Addr) (n cap h : Nat) (h2 : h ≤ cap) (wx : World) :
    (Instr.slice 24 (.slice ao n cap) none (some (.int .i64 h)) none).run Tryd.prog wx = .ok (.slice ao h cap) wx := by
  rw [run_slice_h wx 24 ao n cap tySl .i64 h (by omega) (by omega), szSl]
  simp only [Result.andThen, sliced, Int.toNat_natCast]
  by_cases hc : cap = 0
  · rw [if_pos hc]; rfl
  · rw [if_neg hc]
    cases ao with
    | none => rfl
    | some x => simp [Addr.add]

theorem below_drewN {B : Nat} {w w1 : World} (h : Below B w w1) (n : Nat) : Below B w (w1.drewN n) := ⟨h.os, h.tape, h.output, h.size, h.block⟩
theorem Sl.drewN {w : World} {v : Value} {zs : List Int} (h : Sl w v zs) (n : Nat) : Sl (w.drewN n) v zs := h.keep fun k _ _ => rfl

end Go.Proofs.YtmeiahmolmneeaaDoor
