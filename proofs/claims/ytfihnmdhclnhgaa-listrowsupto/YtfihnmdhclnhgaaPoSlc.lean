/- Cuts of a row of postings that is read: l[:k], l[k:], as run equations. No package's function. -/
import Derived.Test.YtfihnmdhclnhgaaPoMem
import Derived.Test.YtfihnmdhclnhgaaPoGv
import Derived.Test.YtfihnmdhclnhgaaCut
namespace Go.Proofs.Ytfihnmdhclnhgaa
set_option maxRecDepth 20000
open Go.RowKit
set_option linter.unusedVariables false
set_option linter.unusedSimpArgs false
set_option maxRecDepth 100000

theorem tyPo : Try.prog.underlying 47 = some (.slice (Try.prog.elem 47)) := by kernel_rfl
theorem szPo (wx : World) : (Go.sizeOf (Try.prog.elem 47)).run Try.prog wx = .ok 2 wx := by kernel_rfl

theorem Pps.drop {w : World} {ao : Option Addr} {cap : Nat} {us : List Value} {ps : List Po} (h : Pps w (.slice ao ps.length cap) us ps) (k : Nat) (hk : k ≤ ps.length) :
    Pps w (.slice (Option.map (fun x => x.add (k * 2)) ao) (ps.length - k) (cap - k)) (us.drop k) (ps.drop k) := by
  obtain ⟨hl, ao', cap', he, h1, h2, h3, h4⟩ := h
  simp only [Value.slice.injEq, true_and] at he
  obtain ⟨rfl, rfl⟩ := he
  have e1 : ∀ i, (ps.drop k).getD i noPo = ps.getD (k + i) noPo := fun i => by simp [List.getD, List.getElem?_drop]
  have e2 : ∀ i, (us.drop k).getD i nilS = us.getD (k + i) nilS := fun i => by simp [List.getD, List.getElem?_drop]
  have hlen : (ps.drop k).length = ps.length - k := by simp
  refine ⟨by simp; omega, _, _, by rw [hlen], by omega, by omega, fun i hi => ?_, fun hne => ?_⟩
  · rw [hlen] at hi
    rw [e1, e2]
    exact h3 (k + i) (by omega)
  · obtain ⟨b, off, rfl, hc⟩ := h4 (by intro e; simp [e] at hne)
    refine ⟨b, off + k * 2, by simp [Addr.add], fun i hi => ?_⟩
    rw [hlen] at hi
    rw [e1, e2, show off + k * 2 + i * 2 = off + (k + i) * 2 by omega]
    exact hc (k + i) (by omega)
theorem Pps.cut0 {w : World} {ao : Option Addr} {us : List Value} {ps : List Po} (hl : us.length = ps.length) (k : Nat) (hk : k = ps.length) (cap : Nat) (hc : cap ≤ maxLen) : Pps w (.slice ao (ps.length - k) cap) (us.drop k) (ps.drop k) := by
  subst hk
  have e1 : ps.drop ps.length = [] := List.drop_of_length_le (Nat.le_refl _)
  have e2 : us.drop ps.length = [] := List.drop_of_length_le (by omega)
  rw [e1, e2, Nat.sub_self]
  exact ⟨rfl, _, _, rfl, Nat.zero_le _, hc, fun i hi => absurd hi (by simp), fun h => absurd rfl h⟩

/-- l[:k] -/
theorem cut_hP (ao : Option Addr) (n cap k : Nat) (hk : k ≤ n) (hn : n ≤ cap) (hc : cap ≤ 9223372036854775807) (wx : World) :
    (Instr.slice 47 (.slice ao n cap) none (some (.int .i64 k)) none).run Try.prog wx = .ok (.slice ao k cap) wx := by
  rw [run_slice_h wx 47 ao n cap tyPo .i64 k (by omega) (by omega), szPo]
  simp only [Result.andThen, sliced, Int.toNat_natCast]
  by_cases h0 : cap = 0
  · rw [if_pos h0]
    simp
  · rw [if_neg h0]
    cases ao with
    | none => rfl
    | some x => simp [Addr.add]
/-- l[k:] -/
theorem cut_lP (ao : Option Addr) (us : List Value) (ps : List Po) (cap k : Nat) (hk : k ≤ ps.length) (hn : ps.length ≤ cap) (hc : cap ≤ 9223372036854775807) (hl : us.length = ps.length) :
    ∃ a' c', (∀ wx, (Instr.slice 47 (.slice ao ps.length cap) (some (.int .i64 k)) none none).run Try.prog wx = .ok (.slice a' (ps.length - k) c') wx) ∧
      ∀ wx, Pps wx (.slice ao ps.length cap) us ps → Pps wx (.slice a' (ps.length - k) c') (us.drop k) (ps.drop k) := by
  by_cases h : cap = k
  · refine ⟨ao, 0, fun wx => ?_, fun wx hP => Pps.cut0 hl k (by omega) 0 (by simp [maxLen])⟩
    rw [run_slice_l wx 47 ao ps.length cap tyPo .i64 k (by omega) (by omega), szPo]
    simp only [Result.andThen, sliced, Int.toNat_natCast]
    rw [if_pos h, show cap - k = 0 by omega]
  · refine ⟨Option.map (fun x => x.add (k * 2)) ao, cap - k, fun wx => ?_, fun wx hP => hP.drop k hk⟩
    rw [run_slice_l wx 47 ao ps.length cap tyPo .i64 k (by omega) (by omega), szPo]
    simp only [Result.andThen, sliced, Int.toNat_natCast]
    rw [if_neg h]

end Go.Proofs.Ytfihnmdhclnhgaa
