/- How what comes in is opened: a slice of bytes, a row of postings. -/
import Derived.Test.YtfihnmdhclnhgaaPoMem
import Derived.WalkKit
import Derived.ProofKit
import Derived.ChangeSlices
import Derived.ChangeSame
import Derived.Deep.Slices
import Derived.ChangeOld
import Derived.OpenShut
import Derived.Below
namespace Go.Proofs.Ytfihnmdhclnhgaa
set_option maxRecDepth 20000
open Go.ChangeShapes Go.WideShapes Go.ChangeAt Go.RowKit
set_option linter.unusedVariables false

theorem cellsU8 : Try.prog.cellsOf 5 = 1 := by kernel_rfl
theorem cellsU32 : Try.prog.cellsOf 27 = 1 := by kernel_rfl
theorem cellsInt : Try.prog.cellsOf 3 = 1 := by kernel_rfl
theorem cellsInts : Try.prog.cellsOf 44 = 1 := by kernel_rfl
theorem cellsPo : Try.prog.cellsOf 63 = 2 := by kernel_rfl

theorem trod_sl {H : Type} {enc : TypeId × Value → H} {W : World} {fuel : Nat} {cs : List Value} {x : DataW H × List MemPlace}
    (h : DataW.trod enc Try.prog W 0 (fun _ => true) true fuel 59 cs = some x) : ∃ v zs, cs = [v] ∧ Sl W v zs := by
  rcases open_ints Try.underlying59 Try.underlying5 cellsU8 h with ⟨hcs, _⟩ | ⟨a, len, cap, zs, hcs, _, hl, hm, hz, _, hc, hwf⟩
  · exact ⟨_, [], hcs, Sl.nil W⟩
  · rw [if_pos rfl] at hz
    have hlen : (zs.take len).length = len := by simp; omega
    refine ⟨_, zs.take len, hcs, fun z hz => bounds_u8 (hwf z (List.mem_of_mem_take hz)), some a, cap, by rw [hlen], by omega, hm, (fun h => by cases h), fun hne => ?_⟩
    have h0 : 0 < len := by
      have := List.length_pos_iff.2 hne
      omega
    obtain ⟨b, off, spot⟩ := a
    have hc0 := hc 0 (by omega)
    have hspot : spot = none := by simpa [Addr.add] using World.cell?_spot hc0
    subst hspot
    refine ⟨b, off, rfl, fun i hi => ?_⟩
    have e : (⟨b, off, none⟩ : Addr).add i = ⟨b, off + i, none⟩ := by unfold Addr.add; split <;> simp_all
    rw [← e, hc i (by omega), getD_take zs len i (by omega)]

/-- a 64-bit integer -/
def I64p (z : Int) : Prop := -9223372036854775808 ≤ z ∧ z ≤ 9223372036854775807
theorem trod_is {H : Type} {enc : TypeId × Value → H} {W : World} {fuel : Nat} {cs : List Value} {x : DataW H × List MemPlace}
    (h : DataW.trod enc Try.prog W 0 (fun _ => true) true fuel 44 cs = some x) : ∃ v ks, cs = [v] ∧ Is W v ks ∧ ∀ z ∈ ks, I64p z := by
  rcases open_ints Try.underlying44 Try.underlying3 cellsInt h with ⟨hcs, _⟩ | ⟨a, len, cap, zs, hcs, _, hl, hm, hz, _, hc, hwf⟩
  · exact ⟨_, [], hcs, ⟨none, 0, rfl, Nat.le_refl _, by simp [maxLen], fun h => absurd rfl h⟩, fun z hz => by cases hz⟩
  · rw [if_pos rfl] at hz
    have hlen : (zs.take len).length = len := by simp; omega
    refine ⟨_, zs.take len, hcs, ⟨some a, cap, by rw [hlen], by omega, hm, fun hne => ?_⟩, fun z hz => bounds_i64 (hwf z (List.mem_of_mem_take hz))⟩
    have h0 : 0 < len := by
      have := List.length_pos_iff.2 hne
      omega
    obtain ⟨b, off, spot⟩ := a
    have hc0 := hc 0 (by omega)
    have hspot : spot = none := by simpa [Addr.add] using World.cell?_spot hc0
    subst hspot
    refine ⟨b, off, rfl, fun i hi => ?_⟩
    have e : (⟨b, off, none⟩ : Addr).add i = ⟨b, off + i, none⟩ := by unfold Addr.add; split <;> simp_all
    rw [← e, hc i (by omega), getD_take zs len i (by omega)]

/-- positions that are 64-bit integers -/
def PosOk (ps : List Po) : Prop := ∀ i, i < ps.length → ∀ z ∈ (ps.getD i noPo).pos, I64p z
theorem trod_pps {H : Type} {enc : TypeId × Value → H} {W : World} {fuel : Nat} {cs : List Value} {x : DataW H × List MemPlace}
    (h : DataW.trod enc Try.prog W 0 (fun _ => true) true fuel 47 cs = some x) : ∃ v us ps, cs = [v] ∧ Pps W v us ps ∧ PosOk ps := by
  rcases Go.Deep.open_slice Try.underlying47 h with ⟨hcs, _⟩ | ⟨a, len, cap, m, n, D, Pl, hcs, _, hl, hm, hmm, _, hel⟩
  · exact ⟨_, [], [], hcs, Pps.nil W, fun i hi => absurd hi (by simp)⟩
  · have each : ∀ i, i < len → ∃ p : Value × Po, (p.2.doc < 4294967296 ∧ Is W p.1 p.2.pos ∧ ∀ z ∈ p.2.pos, I64p z) ∧ ∀ j v, [Value.int .u32 (p.2.doc : Int), p.1][j]? = some v → W.cell? ((a.add (i * 2)).add j) = some v := by
      intro i hi
      obtain ⟨cs', hc, ht⟩ := hel i (by rw [hmm]; split <;> omega)
      rw [cellsPo] at hc
      obtain ⟨_, hlen, hcell⟩ := World.cells?_some hc
      obtain ⟨y0, y1, n', _, _, t0, t1⟩ := trod_struct2 Try.underlying63 ht
      match cs', hlen with
      | [p0, p1], _ =>
        rw [cellsU32] at t0
        rw [cellsInts] at t1
        obtain ⟨x0, h0, _, w0⟩ := DataW.trod_int Try.underlying27 t0
        obtain ⟨v1, z1, h1, s1, s2⟩ := trod_is t1
        simp at h0 h1
        subst h0 h1
        have hb := bounds_u32 w0
        obtain ⟨A, rfl⟩ : ∃ A : Nat, x0 = A := ⟨x0.toNat, by omega⟩
        refine ⟨(p1, ⟨A, z1⟩), ⟨(by show A < 4294967296; omega), s1, s2⟩, fun j v hj => ?_⟩
        have hj2 : j < 2 := (List.getElem?_eq_some_iff.1 hj).1
        rw [hcell j hj2]
        exact hj
    haveI : Inhabited (Value × Po) := ⟨(nilS, noPo)⟩
    obtain ⟨f, hfn⟩ := Go.Deep.choose_lt each
    have hv : ((List.range len).map fun i => (f i).2).length = len := by simp
    have gv : ∀ i, i < len → ((List.range len).map fun i => (f i).1).getD i nilS = (f i).1 := by intro i hi; simp [List.getD, hi]
    have gp : ∀ i, i < len → ((List.range len).map fun i => (f i).2).getD i noPo = (f i).2 := by intro i hi; simp [List.getD, hi]
    refine ⟨_, (List.range len).map fun i => (f i).1, (List.range len).map fun i => (f i).2, hcs, ⟨by simp, some a, cap, by rw [hv], by omega, hm, fun i hi => ?_, fun hne => ?_⟩, fun i hi => ?_⟩
    · rw [hv] at hi
      rw [gv i hi, gp i hi]
      exact ⟨(hfn i hi).1.1, (hfn i hi).1.2.1⟩
    · have h0 : 0 < len := by
        have := List.length_pos_iff.2 hne
        omega
      obtain ⟨b, off, spot⟩ := a
      have hc0 := (hfn 0 h0).2 0 _ rfl
      have hspot : spot = none := by simpa [Addr.add] using World.cell?_spot hc0
      subst hspot
      have ea : ∀ j, (⟨b, off, none⟩ : Addr).add j = ⟨b, off + j, none⟩ := fun j => Addr.add_mid b off j
      refine ⟨b, off, rfl, fun i hi => ?_⟩
      rw [hv] at hi
      rw [gv i hi, gp i hi]
      intro j v hj
      have := (hfn i hi).2 j v hj
      rw [ea, Addr.add_mid] at this
      exact this
    · rw [hv] at hi
      rw [gp i hi]
      exact (hfn i hi).1.2.2

set_option maxRecDepth 100000 in
theorem open_sl {H : Type} {enc : TypeId × Value → H} {W : World} {v : Value} {d : DataW H} {p : List MemPlace} {base : Nat} (hv : Value.okWide Try.prog W .any base 59 v)
    (h : DataW.Trod enc Try.prog W 0 (fun _ => true) true 59 v d p) : ∃ zs, Sl W v zs := by
  obtain ⟨a, n, c, rfl⟩ := okWide_slice Try.underlying59 hv
  obtain ⟨fuel, hf⟩ := h
  obtain ⟨u, zs, hu, hs⟩ := trod_sl hf
  simp [Value.cells] at hu
  subst hu
  exact ⟨zs, hs⟩
set_option maxRecDepth 100000 in
theorem open_pps {H : Type} {enc : TypeId × Value → H} {W : World} {v : Value} {d : DataW H} {p : List MemPlace} {base : Nat} (hv : Value.okWide Try.prog W .any base 47 v)
    (h : DataW.Trod enc Try.prog W 0 (fun _ => true) true 47 v d p) : ∃ us ps, Pps W v us ps ∧ PosOk ps := by
  obtain ⟨a, n, c, rfl⟩ := okWide_slice Try.underlying47 hv
  obtain ⟨fuel, hf⟩ := h
  obtain ⟨u, us, ps, hu, hs, hp⟩ := trod_pps hf
  simp [Value.cells] at hu
  subst hu
  exact ⟨us, ps, hs, hp⟩

end Go.Proofs.Ytfihnmdhclnhgaa
