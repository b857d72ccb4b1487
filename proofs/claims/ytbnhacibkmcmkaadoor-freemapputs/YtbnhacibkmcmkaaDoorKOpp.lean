/- How what comes in is opened: a slice of bytes, a slice of such slices. -/
import Derived.Test.YtbnhacibkmcmkaaDoorKOpn
import Derived.Test.YtbnhacibkmcmkaaDoorKParts
import Derived.ChangeSlices
import Derived.Deep.Slices
import Derived.ChangeOld
import Derived.Below
namespace Go.Proofs.YtbnhacibkmcmkaaDoor
set_option maxRecDepth 20000
open Go.ChangeShapes Go.WideShapes Go.ChangeAt Go.RowKit

theorem cellsSl : Tryd.prog.cellsOf 25 = 1 := by kernel_rfl

theorem trod_sl {H : Type} {enc : TypeId × Value → H} {W : World} {fuel : Nat} {cs : List Value} {x : DataW H × List MemPlace}
    (h : DataW.trod enc Tryd.prog W 0 (fun _ => true) true fuel 25 cs = some x) : ∃ v zs, cs = [v] ∧ Sl W v zs := by
  rcases open_ints Tryd.underlying25 Tryd.underlying5 cellsU8 h with ⟨hcs, _⟩ | ⟨a, len, cap, zs, hcs, _, hl, hm, hz, _, hc, hwf⟩
  · exact ⟨_, [], hcs, Sl.nil W⟩
  · rw [if_pos rfl] at hz
    have hlen : (zs.take len).length = len := by simp; omega
    refine ⟨_, zs.take len, hcs, fun z hz => bounds_u8 (hwf z (List.mem_of_mem_take hz)), some a, cap, by rw [hlen], by omega, hm, (fun h => by cases h), fun hne => ?_⟩
    have h0 : 0 < len := by
      have := List.length_pos_iff.2 hne
      omega
    obtain ⟨b, off, spot⟩ := a
    have hc0 := hc 0 (by omega)
    have hspot : spot = none := by simpa [Addr.add] using World.cell?_spot hc0
    subst hspot
    refine ⟨b, off, rfl, fun i hi => ?_⟩
    have e : (⟨b, off, none⟩ : Addr).add i = ⟨b, off + i, none⟩ := by unfold Addr.add; split <;> simp_all
    rw [← e, hc i (by omega), getD_take zs len i (by omega)]

theorem trod_parts {H : Type} {enc : TypeId × Value → H} {W : World} {fuel : Nat} {cs : List Value} {x : DataW H × List MemPlace}
    (h : DataW.trod enc Tryd.prog W 0 (fun _ => true) true fuel 23 cs = some x) : ∃ v vs pss, cs = [v] ∧ Parts W v vs pss := by
  rcases Go.Deep.open_slice Tryd.underlying23 h with ⟨hcs, _⟩ | ⟨a, len, cap, m, n, D, Pl, hcs, _, hl, hm, hmm, _, hel⟩
  · exact ⟨_, [], [], hcs, rfl, none, 0, rfl, Nat.le_refl _, by simp [maxLen], fun i hi => by simp at hi, fun h => absurd rfl h⟩
  · have each : ∀ i, i < len → ∃ p : Value × List Int, W.cell? (a.add i) = some p.1 ∧ Sl W p.1 p.2 := by
      intro i hi
      obtain ⟨cs', hc, ht⟩ := hel i (by rw [hmm]; split <;> omega)
      rw [cellsSl, Nat.mul_one] at hc
      obtain ⟨_, hlen, hcell⟩ := World.cells?_some hc
      obtain ⟨v, zs, rfl, hs⟩ := trod_sl ht
      have e0 := hcell 0 (by omega)
      refine ⟨(v, zs), ?_, hs⟩
      simpa [Addr.add] using e0
    obtain ⟨f, hfn⟩ := Go.Deep.choose_lt each
    have hv : ((List.range len).map fun i => (f i).1).length = len := by simp
    have gv : ∀ i, i < len → ((List.range len).map fun i => (f i).1).getD i (.slice none 0 0) = (f i).1 := by intro i hi; simp [List.getD, hi]
    have gp : ∀ i, i < len → ((List.range len).map fun i => (f i).2).getD i [] = (f i).2 := by intro i hi; simp [List.getD, hi]
    refine ⟨_, (List.range len).map fun i => (f i).1, (List.range len).map fun i => (f i).2, hcs, by simp, some a, cap, by rw [hv], by omega, hm, fun i hi => ?_, fun hne => ?_⟩
    · rw [hv] at hi
      rw [gv i hi, gp i hi]
      exact (hfn i hi).2
    · have h0 : 0 < len := by
        have := List.length_pos_iff.2 hne
        omega
      obtain ⟨b, off, spot⟩ := a
      have hc0 := (hfn 0 h0).1
      have hspot : spot = none := by simpa [Addr.add] using World.cell?_spot hc0
      subst hspot
      refine ⟨b, off, rfl, fun i hi => ?_⟩
      rw [hv] at hi
      have e : (⟨b, off, none⟩ : Addr).add i = ⟨b, off + i, none⟩ := by unfold Addr.add; split <;> simp_all
      rw [← e, (hfn i hi).1, gv i hi]

set_option maxRecDepth 100000 in
theorem open_sl {H : Type} {enc : TypeId × Value → H} {W : World} {v : Value} {d : DataW H} {p : List MemPlace} {base : Nat} (hv : Value.okWide Tryd.prog W .any base 25 v)
    (h : DataW.Trod enc Tryd.prog W 0 (fun _ => true) true 25 v d p) : ∃ zs, Sl W v zs := by
  obtain ⟨a, n, c, rfl⟩ := okWide_slice Tryd.underlying25 hv
  obtain ⟨fuel, hf⟩ := h
  obtain ⟨u, zs, hu, hs⟩ := trod_sl hf
  simp [Value.cells] at hu
  subst hu
  exact ⟨zs, hs⟩

set_option maxRecDepth 100000 in
theorem open_parts {H : Type} {enc : TypeId × Value → H} {W : World} {v : Value} {d : DataW H} {p : List MemPlace} {base : Nat} (hv : Value.okWide Tryd.prog W .any base 23 v)
    (h : DataW.Trod enc Tryd.prog W 0 (fun _ => true) true 23 v d p) : ∃ vs pss, Parts W v vs pss := by
  obtain ⟨a, n, c, rfl⟩ := okWide_slice Tryd.underlying23 hv
  obtain ⟨fuel, hf⟩ := h
  obtain ⟨u, vs, pss, hu, hs⟩ := trod_parts hf
  simp [Value.cells] at hu
  subst hu
  exact ⟨vs, pss, hs⟩

end Go.Proofs.YtbnhacibkmcmkaaDoor
