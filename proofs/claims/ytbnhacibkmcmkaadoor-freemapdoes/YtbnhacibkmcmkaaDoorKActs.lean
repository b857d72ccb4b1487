/- What acts hand out was free; the list of what is taken; an act's operand. -/
import Derived.Test.YtbnhacibkmcmkaaDoorKOps
namespace Go.Proofs.YtbnhacibkmcmkaaDoor
set_option maxRecDepth 20000
open Go.RowKit
set_option linter.unusedVariables false
set_option maxRecDepth 100000

theorem al_free {n : Nat} {f g : Nat → Bool} {K : Int} (h : alE n f g K = 0) : ∃ p k : Nat, alV n f g K = p ∧ K = k ∧ 1 ≤ k ∧ p + k ≤ n ∧ ∀ i, i < k → frF n f g (p + i) = true := by
  unfold alE at h
  by_cases hK : K < 1
  · rw [if_pos hK] at h; cases h
  · rw [if_neg hK] at h
    by_cases hr : rowI n f g K = -1
    · rw [if_pos hr] at h; cases h
    · obtain ⟨k, rfl⟩ : ∃ k : Nat, K = k := ⟨K.toNat, by omega⟩
      rcases rowI_is (n := n) (f := f) (g := g) (K := k) (by omega) with ⟨e, _⟩ | ⟨p, e, hw, _⟩
      · exact absurd e hr
      · exact ⟨p, k, by rw [alV, if_neg hK, if_neg hr, e], rfl, by omega, hw.1, hw.2⟩
theorem al_few {n : Nat} {f g : Nat → Bool} {K : Int} : 0 ≤ alV n f g K ∧ alV n f g K ≤ n := by
  by_cases h : alE n f g K = 0
  · obtain ⟨p, k, e, _, _, h1, _⟩ := al_free h
    omega
  · unfold alV
    split
    · omega
    · rename_i hK
      split
      · omega
      · rename_i hr
        exfalso
        exact h (by rw [alE, if_neg hK, if_neg hr])
theorem mem_ci {xs : List Nat} {z : Int} : z ∈ ci xs ↔ ∃ p ∈ xs, (p : Int) = z := by simp [ci]
/-- what is handed out is not among what counts -/
theorem al_not {n : Nat} {f g : Nat → Bool} {K : Int} (h : alE n f g K = 0) (z : Int) (hz : z ∈ ci (pagesF g n)) : z < alV n f g K ∨ K ≤ z - alV n f g K := by
  obtain ⟨p, k, e, rfl, h1, h2, h3⟩ := al_free h
  obtain ⟨q, hq, rfl⟩ := mem_ci.1 hz
  rw [e]
  rcases Nat.lt_or_ge q p with hlt | hge
  · left; omega
  · right
    rcases Nat.lt_or_ge (q - p) k with h4 | h4
    · have := (frF_lt (h3 (q - p) h4)).2.2
      rw [show p + (q - p) = q by omega, (mem_pagesF.1 hq).2] at this
      cases this
    · omega
theorem al_not1 {n : Nat} {f g : Nat → Bool} (h : alE n f g 1 = 0) : alV n f g 1 ∉ ci (pagesF g n) := fun hz => by
  have := al_not h _ hz
  omega
theorem ci_inL {n : Nat} {ks : List Int} (h : riseB n (-1) ks = true) : ci (pagesF (inL ks) n) = ks := pages_inL h

/-- what a script's act is, cell by cell -/
theorem script_at {w : World} {v : Value} {os : List OpE} (h : Script w v os) {ao : Option Addr} {T cap : Nat} (hv : v = .slice ao T cap) : T = os.length ∧ T ≤ cap ∧ cap ≤ maxLen ∧ ∀ k, k < T → ∃ gb off, ao = some ⟨gb, off, none⟩ ∧ gb < w.heap.size ∧ w.rangeAt gb (off + k * 2) (opc (opAt os k)) ∧ -9223372036854775808 ≤ (opAt os k).p ∧ (opAt os k).p ≤ 9223372036854775807 := by
  obtain ⟨hpb, ao', cap', hvv, h1, h2, h3⟩ := h
  rw [hvv] at hv
  simp only [Value.slice.injEq] at hv
  obtain ⟨rfl, rfl, rfl⟩ := hv
  refine ⟨rfl, h1, h2, fun k hk => ?_⟩
  obtain ⟨gb, off, e1, e2, e3⟩ := h3 (by intro e; rw [e] at hk; simp at hk)
  have e : opAt os k = os[k]'hk := by simp [opAt, List.getD, hk]
  refine ⟨gb, off, e1, e2, e3 k hk, ?_⟩
  rw [e]
  exact hpb _ (List.getElem_mem _)
theorem run_min80 (T C m : Nat) (hm : min T C = m) (ts : Array TypeId) (t : TypeId) (wx : World) : (Builtin.min_ ts t #[.int .i64 (T : Int), .int .i64 (C : Int)]).run Tryd.prog wx = .ok (.int .i64 (m : Int)) wx := by
  rw [run_min_int2]
  congr 2
  split <;> omega

end Go.Proofs.YtbnhacibkmcmkaaDoor
