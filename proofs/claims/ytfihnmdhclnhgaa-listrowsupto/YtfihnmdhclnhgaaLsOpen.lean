/- How texts are opened: slices of bytes in a slice; and that none of them is longer than what comes in. -/
import Derived.Test.YtfihnmdhclnhgaaRows
import Derived.Test.YtfihnmdhclnhgaaPoOpen
import Derived.Test.YtfihnmdhclnhgaaKParts
import Derived.ChangeSlices
import Derived.Deep.Slices
import Derived.ChangeOld
import Derived.Below
namespace Go.Proofs.Ytfihnmdhclnhgaa
set_option maxRecDepth 20000
open Go.ChangeShapes Go.WideShapes Go.ChangeAt Go.RowKit
set_option linter.unusedVariables false

theorem cellsSl : Try.prog.cellsOf 59 = 1 := by kernel_rfl
theorem bulk_pos {H : Type} (d : DataW H) : 1 ≤ Rows.uptoBulk d := by
  cases d with
  | lit l => cases l <;> simp [Rows.uptoBulk]
  | _ => simp [Rows.uptoBulk]
theorem bulk_len {H : Type} : ∀ l : List (DataW H), l.length ≤ Rows.uptoBulkAll l
  | [] => Nat.zero_le _
  | d :: l => by
    have h1 := bulk_pos d
    have h2 := bulk_len l
    simp only [Rows.uptoBulkAll, List.length_cons]
    omega
theorem bulk_mem {H : Type} : ∀ (l : List (DataW H)) (d : DataW H), d ∈ l → Rows.uptoBulk d ≤ Rows.uptoBulkAll l
  | [], _, h => by cases h
  | x :: l, d, h => by
    simp only [Rows.uptoBulkAll]
    rcases List.mem_cons.1 h with h | h
    · subst h; omega
    · have := bulk_mem l d h
      omega
theorem bulk_slice {H : Type} (a b : List (DataW H)) : Rows.uptoBulkAll a + 1 ≤ Rows.uptoBulk (.slice a b) := by
  simp only [Rows.uptoBulk]
  omega

theorem trod_slB {H : Type} {enc : TypeId × Value → H} {W : World} {fuel : Nat} {cs : List Value} {x : DataW H × List MemPlace}
    (h : DataW.trod enc Try.prog W 0 (fun _ => true) true fuel 59 cs = some x) : ∃ v zs, cs = [v] ∧ Sl W v zs ∧ zs.length ≤ Rows.uptoBulk x.1 := by
  rcases open_ints Try.underlying59 Try.underlying5 cellsU8 h with ⟨hcs, _⟩ | ⟨a, len, cap, zs, hcs, _, hl, hm, hz, hx, hc, hwf⟩
  · exact ⟨_, [], hcs, Sl.nil W, Nat.zero_le _⟩
  · rw [if_pos rfl] at hz
    have hlen : (zs.take len).length = len := by simp; omega
    refine ⟨_, zs.take len, hcs, ⟨fun z hz => bounds_u8 (hwf z (List.mem_of_mem_take hz)), some a, cap, by rw [hlen], by omega, hm, (fun h => by cases h), fun hne => ?_⟩, ?_⟩
    · have h0 : 0 < len := by
        have := List.length_pos_iff.2 hne
        omega
      obtain ⟨b, off, spot⟩ := a
      have hc0 := hc 0 (by omega)
      have hspot : spot = none := by simpa [Addr.add] using World.cell?_spot hc0
      subst hspot
      refine ⟨b, off, rfl, fun i hi => ?_⟩
      have e : (⟨b, off, none⟩ : Addr).add i = ⟨b, off + i, none⟩ := by unfold Addr.add; split <;> simp_all
      rw [← e, hc i (by omega), getD_take zs len i (by omega)]
    · subst hx
      refine Nat.le_trans ?_ (Nat.le_trans (Nat.le_succ _) (bulk_slice _ _))
      refine Nat.le_trans ?_ (bulk_len _)
      simp [lits]

theorem trod_partsB {H : Type} {enc : TypeId × Value → H} {W : World} {fuel : Nat} {cs : List Value} {x : DataW H × List MemPlace}
    (h : DataW.trod enc Try.prog W 0 (fun _ => true) true fuel 58 cs = some x) : ∃ v vs pss, cs = [v] ∧ Parts W v vs pss ∧ ∀ t ∈ pss, t.length ≤ Rows.uptoBulk x.1 := by
  rcases Go.Deep.open_slice Try.underlying58 h with ⟨hcs, _⟩ | ⟨a, len, cap, m, n, D, Pl, hcs, _, hl, hm, hmm, hx, hel⟩
  · exact ⟨_, [], [], hcs, ⟨rfl, none, 0, rfl, Nat.le_refl _, by simp [maxLen], fun i hi => by simp at hi, fun h => absurd rfl h⟩, fun t ht => by cases ht⟩
  · have each : ∀ i, i < len → ∃ p : Value × List Int, W.cell? (a.add i) = some p.1 ∧ Sl W p.1 p.2 ∧ p.2.length ≤ Rows.uptoBulk (D i) := by
      intro i hi
      obtain ⟨cs', hc, ht⟩ := hel i (by rw [hmm]; split <;> omega)
      rw [cellsSl, Nat.mul_one] at hc
      obtain ⟨_, hlen, hcell⟩ := World.cells?_some hc
      obtain ⟨v, zs, rfl, hs, hb⟩ := trod_slB ht
      have e0 := hcell 0 (by omega)
      refine ⟨(v, zs), ?_, hs, hb⟩
      simpa [Addr.add] using e0
    obtain ⟨f, hfn⟩ := Go.Deep.choose_lt each
    have hv : ((List.range len).map fun i => (f i).1).length = len := by simp
    have gv : ∀ i, i < len → ((List.range len).map fun i => (f i).1).getD i (.slice none 0 0) = (f i).1 := by intro i hi; simp [List.getD, hi]
    have gp : ∀ i, i < len → ((List.range len).map fun i => (f i).2).getD i [] = (f i).2 := by intro i hi; simp [List.getD, hi]
    refine ⟨_, (List.range len).map fun i => (f i).1, (List.range len).map fun i => (f i).2, hcs, ⟨by simp, some a, cap, by rw [hv], by omega, hm, fun i hi => ?_, fun hne => ?_⟩, fun t ht => ?_⟩
    · rw [hv] at hi
      rw [gv i hi, gp i hi]
      exact (hfn i hi).2.1
    · have h0 : 0 < len := by
        have := List.length_pos_iff.2 hne
        omega
      obtain ⟨b, off, spot⟩ := a
      have hc0 := (hfn 0 h0).1
      have hspot : spot = none := by simpa [Addr.add] using World.cell?_spot hc0
      subst hspot
      refine ⟨b, off, rfl, fun i hi => ?_⟩
      rw [hv] at hi
      have e : (⟨b, off, none⟩ : Addr).add i = ⟨b, off + i, none⟩ := by unfold Addr.add; split <;> simp_all
      rw [← e, (hfn i hi).1, gv i hi]
    · obtain ⟨i, hi, rfl⟩ := List.mem_map.1 ht
      have hi' := List.mem_range.1 hi
      subst hx
      refine Nat.le_trans (hfn i hi').2.2 (Nat.le_trans ?_ (Nat.le_trans (Nat.le_succ _) (bulk_slice _ _)))
      exact bulk_mem _ _ (List.mem_map.2 ⟨i, hi, rfl⟩)

set_option maxRecDepth 100000 in
theorem open_partsB {H : Type} {enc : TypeId × Value → H} {W : World} {v : Value} {d : DataW H} {p : List MemPlace} {base : Nat} (hv : Value.okWide Try.prog W .any base 58 v)
    (h : DataW.Trod enc Try.prog W 0 (fun _ => true) true 58 v d p) : ∃ vs pss, Parts W v vs pss ∧ ∀ t ∈ pss, t.length ≤ Rows.uptoBulk d := by
  obtain ⟨a, n, c, rfl⟩ := okWide_slice Try.underlying58 hv
  obtain ⟨fuel, hf⟩ := h
  obtain ⟨u, vs, pss, hu, hs, hb⟩ := trod_partsB hf
  simp [Value.cells] at hu
  subst hu
  exact ⟨vs, pss, hs, hb⟩
theorem bulk_first {H : Type} {d : DataW H} {l : List (DataW H)} (hk : Rows.uptoSmall H (d :: l) = true) : Rows.uptoBulk d ≤ 1048576 := by
  have h : Rows.uptoBulkAll (d :: l) ≤ 1048576 := of_decide_eq_true hk
  exact Nat.le_trans (bulk_mem _ _ (List.mem_cons_self ..)) h

end Go.Proofs.Ytfihnmdhclnhgaa
