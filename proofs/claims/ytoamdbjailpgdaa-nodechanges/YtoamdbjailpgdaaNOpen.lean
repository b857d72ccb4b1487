/- How what comes in is opened: a slice of bytes, a node. -/
import Derived.Test.YtoamdbjailpgdaaNRow
import Derived.WalkKit
import Derived.ProofKit
import Derived.ChangeSlices
import Derived.ChangeSame
import Derived.Deep.Slices
import Derived.ChangeOld
import Derived.OpenShut
import Derived.Below
namespace Go.Proofs.Ytoamdbjailpgdaa
set_option maxRecDepth 20000
open Go.ChangeShapes Go.WideShapes Go.ChangeAt Go.RowKit
set_option linter.unusedVariables false

theorem cellsU8 : Try.prog.cellsOf 5 = 1 := by kernel_rfl
theorem cellsSl : Try.prog.cellsOf 34 = 1 := by kernel_rfl
theorem cellsInt : Try.prog.cellsOf 3 = 1 := by kernel_rfl
theorem cellsBool : Try.prog.cellsOf 4 = 1 := by kernel_rfl
theorem cellsPair : Try.prog.cellsOf 36 = 2 := by kernel_rfl
theorem cellsPairs : Try.prog.cellsOf 22 = 1 := by kernel_rfl
theorem cellsRows : Try.prog.cellsOf 23 = 1 := by kernel_rfl
theorem cellsInts : Try.prog.cellsOf 24 = 1 := by kernel_rfl
theorem cellsNode : Try.prog.cellsOf 26 = 4 := by kernel_rfl

theorem trod_sl {H : Type} {enc : TypeId × Value → H} {W : World} {fuel : Nat} {cs : List Value} {x : DataW H × List MemPlace}
    (h : DataW.trod enc Try.prog W 0 (fun _ => true) true fuel 34 cs = some x) : ∃ v zs, cs = [v] ∧ Sl W v zs := by
  rcases open_ints Try.underlying34 Try.underlying5 cellsU8 h with ⟨hcs, _⟩ | ⟨a, len, cap, zs, hcs, _, hl, hm, hz, _, hc, hwf⟩
  · exact ⟨_, [], hcs, Sl.nil W⟩
  · rw [if_pos rfl] at hz
    have hlen : (zs.take len).length = len := by simp; omega
    refine ⟨_, zs.take len, hcs, fun z hz => bounds_u8 (hwf z (List.mem_of_mem_take hz)), some a, cap, by rw [hlen], by omega, hm, (fun h => by cases h), fun hne => ?_⟩
    have h0 : 0 < len := by
      have := List.length_pos_iff.2 hne
      omega
    obtain ⟨b, off, spot⟩ := a
    have hc0 := hc 0 (by omega)
    have hspot : spot = none := by simpa [Addr.add] using World.cell?_spot hc0
    subst hspot
    refine ⟨b, off, rfl, fun i hi => ?_⟩
    have e : (⟨b, off, none⟩ : Addr).add i = ⟨b, off + i, none⟩ := by unfold Addr.add; split <;> simp_all
    rw [← e, hc i (by omega), getD_take zs len i (by omega)]

theorem trod_ks {H : Type} {enc : TypeId × Value → H} {W : World} {fuel : Nat} {cs : List Value} {x : DataW H × List MemPlace}
    (h : DataW.trod enc Try.prog W 0 (fun _ => true) true fuel 24 cs = some x) : ∃ v ks, cs = [v] ∧ Is W v ks := by
  rcases open_ints Try.underlying24 Try.underlying3 cellsInt h with ⟨hcs, _⟩ | ⟨a, len, cap, zs, hcs, _, hl, hm, hz, _, hc, hwf⟩
  · exact ⟨_, [], hcs, none, 0, rfl, Nat.le_refl _, by simp [maxLen], fun h => absurd rfl h⟩
  · rw [if_pos rfl] at hz
    have hlen : (zs.take len).length = len := by simp; omega
    refine ⟨_, zs.take len, hcs, some a, cap, by rw [hlen], by omega, hm, fun hne => ?_⟩
    have h0 : 0 < len := by
      have := List.length_pos_iff.2 hne
      omega
    obtain ⟨b, off, spot⟩ := a
    have hc0 := hc 0 (by omega)
    have hspot : spot = none := by simpa [Addr.add] using World.cell?_spot hc0
    subst hspot
    refine ⟨b, off, rfl, fun i hi => ?_⟩
    have e : (⟨b, off, none⟩ : Addr).add i = ⟨b, off + i, none⟩ := by unfold Addr.add; split <;> simp_all
    rw [← e, hc i (by omega), getD_take zs len i (by omega)]

theorem trod_struct4 {H : Type} {enc : TypeId × Value → H} {P : Program} {w : World} {base : Nat} {spare : Nat → Bool} {held : Bool} {t : TypeId} {f0 f1 f2 f3 : Field} {fuel : Nat} {cs : List Value} {x : DataW H × List MemPlace} (ht : P.underlying t = some (.struct #[f0, f1, f2, f3])) (h : DataW.trod enc P w base spare held fuel t cs = some x) :
    ∃ y0 y1 y2 y3 n, DataW.trod enc P w base spare held n f0.type ((cs.drop f0.offset).take (P.cellsOf f0.type)) = some y0 ∧ DataW.trod enc P w base spare held n f1.type ((cs.drop f1.offset).take (P.cellsOf f1.type)) = some y1 ∧
      DataW.trod enc P w base spare held n f2.type ((cs.drop f2.offset).take (P.cellsOf f2.type)) = some y2 ∧ DataW.trod enc P w base spare held n f3.type ((cs.drop f3.offset).take (P.cellsOf f3.type)) = some y3 := by
  obtain ⟨xs, n, _, rfl, hl, hlen, hf⟩ := DataW.trod_struct ht h
  match xs, hlen with
  | [y0, y1, y2, y3], _ => exact ⟨y0, y1, y2, y3, n, by simpa using hf 0 f0 rfl, by simpa using hf 1 f1 rfl, by simpa using hf 2 f2 rfl, by simpa using hf 3 f3 rfl⟩

theorem trod_bss {H : Type} {enc : TypeId × Value → H} {W : World} {fuel : Nat} {cs : List Value} {x : DataW H × List MemPlace}
    (h : DataW.trod enc Try.prog W 0 (fun _ => true) true fuel 23 cs = some x) : ∃ v vs pss, cs = [v] ∧ Bss W v vs pss := by
  rcases Go.Deep.open_slice Try.underlying23 h with ⟨hcs, _⟩ | ⟨a, len, cap, m, n, D, Pl, hcs, _, hl, hm, hmm, _, hel⟩
  · exact ⟨_, [], [], hcs, Bss.nil W⟩
  · have each : ∀ i, i < len → ∃ p : Value × List Int, W.cell? (a.add i) = some p.1 ∧ Sl W p.1 p.2 := by
      intro i hi
      obtain ⟨cs', hc, ht⟩ := hel i (by rw [hmm]; split <;> omega)
      rw [cellsSl, Nat.mul_one] at hc
      obtain ⟨_, hlen, hcell⟩ := World.cells?_some hc
      obtain ⟨v, zs, rfl, hs⟩ := trod_sl ht
      have e0 := hcell 0 (by omega)
      refine ⟨(v, zs), ?_, hs⟩
      simpa [Addr.add] using e0
    obtain ⟨f, hfn⟩ := Go.Deep.choose_lt each
    have hv : ((List.range len).map fun i => (f i).2).length = len := by simp
    have gv : ∀ i, i < len → ((List.range len).map fun i => (f i).1).getD i nilS = (f i).1 := by intro i hi; simp [List.getD, hi]
    have gp : ∀ i, i < len → ((List.range len).map fun i => (f i).2).getD i [] = (f i).2 := by intro i hi; simp [List.getD, hi]
    refine ⟨_, (List.range len).map fun i => (f i).1, (List.range len).map fun i => (f i).2, hcs, by simp, some a, cap, by rw [hv], by omega, hm, fun i hi => ?_, fun hne => ?_⟩
    · rw [hv] at hi
      rw [gv i hi, gp i hi]
      exact (hfn i hi).2
    · have h0 : 0 < len := by
        have := List.length_pos_iff.2 hne
        omega
      obtain ⟨b, off, spot⟩ := a
      have hc0 := (hfn 0 h0).1
      have hspot : spot = none := by simpa [Addr.add] using World.cell?_spot hc0
      subst hspot
      refine ⟨b, off, rfl, fun i hi => ?_⟩
      rw [hv] at hi
      have e : (⟨b, off, none⟩ : Addr).add i = ⟨b, off + i, none⟩ := by unfold Addr.add; split <;> simp_all
      rw [← e, (hfn i hi).1, gv i hi]

abbrev PV : Type := (Value × Value) × (List Int × List Int)
theorem trod_prs {H : Type} {enc : TypeId × Value → H} {W : World} {fuel : Nat} {cs : List Value} {x : DataW H × List MemPlace}
    (h : DataW.trod enc Try.prog W 0 (fun _ => true) true fuel 22 cs = some x) : ∃ v vs ps, cs = [v] ∧ Prs W v vs ps := by
  rcases Go.Deep.open_slice Try.underlying22 h with ⟨hcs, _⟩ | ⟨a, len, cap, m, n, D, Pl, hcs, _, hl, hm, hmm, _, hel⟩
  · exact ⟨_, [], [], hcs, Prs.nil W⟩
  · have each : ∀ i, i < len → ∃ p : PV, (Sl W p.1.1 p.2.1 ∧ Sl W p.1.2 p.2.2) ∧ ∀ j v, [p.1.1, p.1.2][j]? = some v → W.cell? ((a.add (i * 2)).add j) = some v := by
      intro i hi
      obtain ⟨cs', hc, ht⟩ := hel i (by rw [hmm]; split <;> omega)
      rw [cellsPair] at hc
      obtain ⟨_, hlen, hcell⟩ := World.cells?_some hc
      obtain ⟨y0, y1, n', _, _, t0, t1⟩ := trod_struct2 Try.underlying36 ht
      match cs', hlen with
      | [p0, p1], _ =>
        rw [cellsSl] at t0 t1
        obtain ⟨v0, z0, h0, s0⟩ := trod_sl t0
        obtain ⟨v1, z1, h1, s1⟩ := trod_sl t1
        simp at h0 h1
        subst h0 h1
        refine ⟨((p0, p1), (z0, z1)), ⟨s0, s1⟩, fun j v hj => ?_⟩
        have hj2 : j < 2 := (List.getElem?_eq_some_iff.1 hj).1
        rw [hcell j hj2]
        exact hj
    haveI : Inhabited PV := ⟨(nil2, ([], []))⟩
    obtain ⟨f, hfn⟩ := Go.Deep.choose_lt each
    have hv : ((List.range len).map fun i => (f i).2).length = len := by simp
    have gv : ∀ i, i < len → ((List.range len).map fun i => (f i).1).getD i nil2 = (f i).1 := by intro i hi; simp [List.getD, hi]
    have gp : ∀ i, i < len → ((List.range len).map fun i => (f i).2).getD i ([], []) = (f i).2 := by intro i hi; simp [List.getD, hi]
    refine ⟨_, (List.range len).map fun i => (f i).1, (List.range len).map fun i => (f i).2, hcs, by simp, some a, cap, by rw [hv], by omega, hm, fun i hi => ?_, fun hne => ?_⟩
    · rw [hv] at hi
      rw [gv i hi, gp i hi]
      exact (hfn i hi).1
    · have h0 : 0 < len := by
        have := List.length_pos_iff.2 hne
        omega
      obtain ⟨b, off, spot⟩ := a
      have hc0 := (hfn 0 h0).2 0 _ rfl
      have hspot : spot = none := by simpa [Addr.add] using World.cell?_spot hc0
      subst hspot
      have ea : ∀ j, (⟨b, off, none⟩ : Addr).add j = ⟨b, off + j, none⟩ := fun j => Addr.add_mid b off j
      refine ⟨b, off, rfl, fun i hi => ?_⟩
      rw [hv] at hi
      rw [gv i hi]
      intro j v hj
      have := (hfn i hi).2 j v hj
      rw [ea, Addr.add_mid] at this
      exact this

theorem open_sl {H : Type} {enc : TypeId × Value → H} {W : World} {v : Value} {d : DataW H} {p : List MemPlace} {base : Nat} (hv : Value.okWide Try.prog W .any base 34 v)
    (h : DataW.Trod enc Try.prog W 0 (fun _ => true) true 34 v d p) : ∃ zs, Sl W v zs := by
  obtain ⟨a, n, c, rfl⟩ := okWide_slice Try.underlying34 hv
  obtain ⟨fuel, hf⟩ := h
  obtain ⟨u, zs, hu, hs⟩ := trod_sl hf
  simp [Value.cells] at hu
  subst hu
  exact ⟨zs, hs⟩

set_option maxRecDepth 100000 in
theorem open_node {H : Type} {enc : TypeId × Value → H} {W : World} {v : Value} {d : DataW H} {p : List MemPlace} {base : Nat} (hv : Value.okWide Try.prog W .any base 26 v)
    (h : DataW.Trod enc Try.prog W 0 (fun _ => true) true 26 v d p) : ∃ n, NdV W v n := by
  obtain ⟨cs, rfl, hcs⟩ := okWide_struct Try.underlying26 hv
  rw [cellsNode] at hcs
  obtain ⟨fuel, hf⟩ := h
  obtain ⟨y0, y1, y2, y3, n', t0, t1, t2, t3⟩ := trod_struct4 Try.underlying26 hf
  obtain ⟨l, rfl⟩ : ∃ l : List Value, cs = l.toArray := ⟨cs.toList, by simp⟩
  match l, (by simpa using hcs : l.length = 4) with
  | [p0, p1, p2, p3], _ =>
    rw [cellsBool] at t0
    rw [cellsPairs] at t1
    rw [cellsRows] at t2
    rw [cellsInts] at t3
    obtain ⟨x0, h0, _⟩ := DataW.trod_bool Try.underlying4 t0
    obtain ⟨v1, vs1, z1, h1, s1⟩ := trod_prs t1
    obtain ⟨v2, vs2, z2, h2, s2⟩ := trod_bss t2
    obtain ⟨v3, z3, h3, s3⟩ := trod_ks t3
    simp [Value.cells] at h0 h1 h2 h3
    subst h0 h1 h2 h3
    exact ⟨⟨x0, z1, z2, z3⟩, p1, p2, p3, vs1, vs2, rfl, s1, s2, s3⟩

end Go.Proofs.Ytoamdbjailpgdaa
