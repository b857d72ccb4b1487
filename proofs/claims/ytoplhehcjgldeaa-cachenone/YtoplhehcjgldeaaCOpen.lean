/- How what comes in is opened: a slice of bytes, a script of acts. -/
import Derived.Test.YtoplhehcjgldeaaCOps
import Derived.WalkKit
import Derived.ProofKit
import Derived.ChangeSlices
import Derived.Deep.Slices
import Derived.ChangeOld
import Derived.OpenShut
import Derived.Below
namespace Go.Proofs.Ytoplhehcjgldeaa
open Go.ChangeShapes Go.WideShapes Go.ChangeAt Go.RowKit
set_option linter.unusedVariables false
set_option maxRecDepth 100000

theorem cellsU8 : Try.prog.cellsOf 5 = 1 := by kernel_rfl
theorem cellsInt : Try.prog.cellsOf 3 = 1 := by kernel_rfl
theorem cellsOc : Try.prog.cellsOf 33 = 4 := by kernel_rfl

theorem trod_sl {H : Type} {enc : TypeId × Value → H} {W : World} {fuel : Nat} {cs : List Value} {x : DataW H × List MemPlace}
    (h : DataW.trod enc Try.prog W 0 (fun _ => true) true fuel 35 cs = some x) : ∃ v zs, cs = [v] ∧ Sl W v zs := by
  rcases open_ints Try.underlying35 Try.underlying5 cellsU8 h with ⟨hcs, _⟩ | ⟨a, len, cap, zs, hcs, _, hl, hm, hz, _, hc, hwf⟩
  · exact ⟨_, [], hcs, Sl.nil W⟩
  · rw [if_pos rfl] at hz
    have hlen : (zs.take len).length = len := by simp; omega
    refine ⟨_, zs.take len, hcs, fun z hz => bounds_u8 (hwf z (List.mem_of_mem_take hz)), some a, cap, by rw [hlen], by omega, hm, (fun h => by cases h), fun hne => ?_⟩
    have h0 : 0 < len := by
      have := List.length_pos_iff.2 hne
      omega
    obtain ⟨b, off, spot⟩ := a
    have hc0 := hc 0 (by omega)
    have hspot : spot = none := by simpa [Addr.add] using World.cell?_spot hc0
    subst hspot
    refine ⟨b, off, rfl, fun i hi => ?_⟩
    have e : (⟨b, off, none⟩ : Addr).add i = ⟨b, off + i, none⟩ := by unfold Addr.add; split <;> simp_all
    rw [← e, hc i (by omega), getD_take zs len i (by omega)]

theorem trod_struct4 {H : Type} {enc : TypeId × Value → H} {P : Program} {w : World} {base : Nat} {spare : Nat → Bool} {held : Bool} {t : TypeId} {f0 f1 f2 f3 : Field} {fuel : Nat} {cs : List Value} {x : DataW H × List MemPlace} (ht : P.underlying t = some (.struct #[f0, f1, f2, f3])) (h : DataW.trod enc P w base spare held fuel t cs = some x) :
    ∃ y0 y1 y2 y3 n, DataW.trod enc P w base spare held n f0.type ((cs.drop f0.offset).take (P.cellsOf f0.type)) = some y0 ∧ DataW.trod enc P w base spare held n f1.type ((cs.drop f1.offset).take (P.cellsOf f1.type)) = some y1 ∧
      DataW.trod enc P w base spare held n f2.type ((cs.drop f2.offset).take (P.cellsOf f2.type)) = some y2 ∧ DataW.trod enc P w base spare held n f3.type ((cs.drop f3.offset).take (P.cellsOf f3.type)) = some y3 := by
  obtain ⟨xs, n, _, rfl, hl, hlen, hf⟩ := DataW.trod_struct ht h
  match xs, hlen with
  | [y0, y1, y2, y3], _ => exact ⟨y0, y1, y2, y3, n, by simpa using hf 0 f0 rfl, by simpa using hf 1 f1 rfl, by simpa using hf 2 f2 rfl, by simpa using hf 3 f3 rfl⟩

theorem trod_scr {H : Type} {enc : TypeId × Value → H} {W : World} {fuel : Nat} {cs : List Value} {x : DataW H × List MemPlace}
    (h : DataW.trod enc Try.prog W 0 (fun _ => true) true fuel 22 cs = some x) : ∃ v os, cs = [v] ∧ Scr W v os := by
  rcases Go.Deep.open_slice Try.underlying22 h with ⟨hcs, _⟩ | ⟨a, len, cap, m, n, D, Pl, hcs, _, hl, hm, hmm, _, hel⟩
  · exact ⟨_, [], hcs, (fun o ho => by cases ho), none, 0, rfl, Nat.le_refl _, by simp [maxLen], fun h => absurd rfl h⟩
  · have each : ∀ i, i < len → ∃ o : Oc, OcOk o ∧ ∀ j v, (occ o)[j]? = some v → W.cell? ((a.add (i * 4)).add j) = some v := by
      intro i hi
      obtain ⟨cs', hc, ht⟩ := hel i (by rw [hmm]; split <;> omega)
      rw [cellsOc] at hc
      obtain ⟨_, hlen, hcell⟩ := World.cells?_some hc
      obtain ⟨y0, y1, y2, y3, n', t0, t1, t2, t3⟩ := trod_struct4 Try.underlying33 ht
      match cs', hlen with
      | [p0, p1, p2, p3], _ =>
        rw [cellsInt] at t0 t1 t3
        rw [cellsU8] at t2
        obtain ⟨x0, h0, _, w0⟩ := DataW.trod_int Try.underlying3 t0
        obtain ⟨x1, h1, _, w1⟩ := DataW.trod_int Try.underlying3 t1
        obtain ⟨x2, h2, _, w2⟩ := DataW.trod_int Try.underlying5 t2
        obtain ⟨x3, h3, _, w3⟩ := DataW.trod_int Try.underlying3 t3
        simp at h0 h1 h2 h3
        subst h0 h1 h2 h3
        refine ⟨⟨x0, x1, x2, x3⟩, ⟨w0, w1, (bounds_u8 w2).1, (bounds_u8 w2).2, w3⟩, fun j v hj => ?_⟩
        have hj4 : j < 4 := (List.getElem?_eq_some_iff.1 hj).1
        rw [hcell j hj4]
        exact hj
    haveI : Inhabited Oc := ⟨ocNil⟩
    obtain ⟨f, hfn⟩ := Go.Deep.choose_lt each
    have hv : ((List.range len).map f).length = len := by simp
    refine ⟨_, (List.range len).map f, hcs, fun o ho => ?_, some a, cap, by rw [hv], by omega, hm, fun hne => ?_⟩
    · obtain ⟨i, hi, rfl⟩ := List.mem_map.1 ho
      exact (hfn i (by simpa using hi)).1
    · have h0 : 0 < len := by
        have := List.length_pos_iff.2 hne
        omega
      obtain ⟨b, off, spot⟩ := a
      have hc0 := (hfn 0 h0).2 0 _ rfl
      have hspot : spot = none := by simpa [Addr.add] using World.cell?_spot hc0
      subst hspot
      have ea : ∀ j, (⟨b, off, none⟩ : Addr).add j = ⟨b, off + j, none⟩ := fun j => Addr.add_mid b off j
      refine ⟨b, off, rfl, ?_, fun i hi => ?_⟩
      · rw [ea, Addr.add_mid] at hc0
        exact World.block_lt_of_cell? W _ hc0
      · rw [hv] at hi
        have eg : ocAt ((List.range len).map f) i = f i := by simp [ocAt, List.getD, hi]
        rw [eg]
        intro j v hj
        have := (hfn i hi).2 j v hj
        rw [ea, Addr.add_mid] at this
        exact this

theorem open_sl {H : Type} {enc : TypeId × Value → H} {W : World} {v : Value} {d : DataW H} {p : List MemPlace} {base : Nat} (hv : Value.okWide Try.prog W .any base 35 v)
    (h : DataW.Trod enc Try.prog W 0 (fun _ => true) true 35 v d p) : ∃ zs, Sl W v zs := by
  obtain ⟨a, n, c, rfl⟩ := okWide_slice Try.underlying35 hv
  obtain ⟨fuel, hf⟩ := h
  obtain ⟨u, zs, hu, hs⟩ := trod_sl hf
  simp [Value.cells] at hu
  subst hu
  exact ⟨zs, hs⟩

theorem open_scr {H : Type} {enc : TypeId × Value → H} {W : World} {v : Value} {d : DataW H} {p : List MemPlace} {base : Nat} (hv : Value.okWide Try.prog W .any base 22 v)
    (h : DataW.Trod enc Try.prog W 0 (fun _ => true) true 22 v d p) : ∃ os, Scr W v os := by
  obtain ⟨a, n, c, rfl⟩ := okWide_slice Try.underlying22 hv
  obtain ⟨fuel, hf⟩ := h
  obtain ⟨u, os, hu, hs⟩ := trod_scr hf
  simp [Value.cells] at hu
  subst hu
  exact ⟨os, hs⟩

end Go.Proofs.Ytoplhehcjgldeaa
