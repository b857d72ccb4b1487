/- A script of acts that is read ('Script'); how it is opened. -/
import Derived.Test.YtbnhacibkmcmkaaDoorKOpn
namespace Go.Proofs.YtbnhacibkmcmkaaDoor
set_option maxRecDepth 20000
open Go.ChangeShapes Go.WideShapes Go.ChangeAt Go.RowKit
set_option linter.unusedVariables false

structure OpE where
  d : Int
  p : Int
def opNil : OpE := ⟨0, 0⟩
def opAt (os : List OpE) (i : Nat) : OpE := os.getD i opNil
def opc (o : OpE) : List Value := [.int .i64 o.d, .int .i64 o.p]
def Script (w : World) (v : Value) (os : List OpE) : Prop :=
  (∀ o ∈ os, -9223372036854775808 ≤ o.p ∧ o.p ≤ 9223372036854775807) ∧ ∃ ao cap, v = .slice ao os.length cap ∧ os.length ≤ cap ∧ cap ≤ maxLen ∧ (os ≠ [] → ∃ g off, ao = some ⟨g, off, none⟩ ∧ g < w.heap.size ∧ ∀ i, i < os.length → w.rangeAt g (off + i * 2) (opc (opAt os i)))
theorem range_below {w w' : World} {B g o : Nat} {cs : List Value} (h : w.rangeAt g o cs) (hb : Below B w w') (hg : g < B) : w'.rangeAt g o cs := fun j v hj => (hb.cell (p := ⟨g, o + j, none⟩) hg).trans (h j v hj)
theorem opc_len (o : OpE) : (opc o).length = 2 := rfl
theorem sizeOp : (Tryd.prog.info? 45).map (·.size) = some 2 := by kernel_rfl
def opZero : Array Value := #[.int .i64 0, .int .i64 0]
theorem opZero_size : opZero.size = 2 := rfl
theorem zeroOpRun (w : World) : (zeroValue 45).run Tryd.prog w = .ok (.agg opZero) w := by kernel_rfl
theorem op_facts (o : OpE) : ((Tryd.prog.info? 45).map (·.size) = some (opc o).length) ∧ ((Tryd.prog.info? 45).map (·.size) = some (opc o).toArray.size) ∧ opZero.size = (opc o).toArray.size ∧ (opc o).toArray.all (·.oneCell') = true := by
  refine ⟨by rw [opc_len]; exact sizeOp, by rw [List.size_toArray, opc_len]; exact sizeOp, opZero_size.trans (by rw [List.size_toArray, opc_len]), ?_⟩
  apply all_oneCell_toArray
  intro v hv
  unfold opc at hv
  simp only [List.mem_cons, List.mem_nil_iff, or_false] at hv
  rcases hv with rfl | rfl <;> rfl
theorem cellsOp : Tryd.prog.cellsOf 45 = 2 := by kernel_rfl
theorem trod_struct2' {H : Type} {enc : TypeId × Value → H} {P : Program} {w : World} {base : Nat} {spare : Nat → Bool} {held : Bool} {t : TypeId} {f0 f1 : Field} {fuel : Nat} {cs : List Value} {x : DataW H × List MemPlace} (ht : P.underlying t = some (.struct #[f0, f1])) (h : DataW.trod enc P w base spare held fuel t cs = some x) :
    ∃ y0 y1 n, DataW.trod enc P w base spare held n f0.type ((cs.drop f0.offset).take (P.cellsOf f0.type)) = some y0 ∧ DataW.trod enc P w base spare held n f1.type ((cs.drop f1.offset).take (P.cellsOf f1.type)) = some y1 := by
  obtain ⟨xs, n, _, rfl, hl, hlen, hf⟩ := DataW.trod_struct ht h
  match xs, hlen with
  | [y0, y1], _ => exact ⟨y0, y1, n, by simpa using hf 0 f0 rfl, by simpa using hf 1 f1 rfl⟩
theorem trod_script {H : Type} {enc : TypeId × Value → H} {W : World} {fuel : Nat} {cs : List Value} {x : DataW H × List MemPlace}
    (h : DataW.trod enc Tryd.prog W 0 (fun _ => true) true fuel 36 cs = some x) : ∃ v os, cs = [v] ∧ Script W v os := by
  rcases Go.Deep.open_slice Tryd.underlying36 h with ⟨hcs, _⟩ | ⟨a, len, cap, m, n, D, Pl, hcs, _, hl, hm, hmm, _, hel⟩
  · exact ⟨_, [], hcs, (fun o ho => by cases ho), none, 0, rfl, Nat.le_refl _, by simp [maxLen], fun h => absurd rfl h⟩
  · have each : ∀ i, i < len → ∃ o : OpE, (-9223372036854775808 ≤ o.p ∧ o.p ≤ 9223372036854775807) ∧ ∀ j v, (opc o)[j]? = some v → W.cell? ((a.add (i * 2)).add j) = some v := by
      intro i hi
      obtain ⟨cs', hc, ht⟩ := hel i (by rw [hmm]; split <;> omega)
      rw [cellsOp] at hc
      obtain ⟨_, hlen, hcell⟩ := World.cells?_some hc
      obtain ⟨y0, y1, n', t0, t1⟩ := trod_struct2' Tryd.underlying45 ht
      match cs', hlen with
      | [p0, p1], _ =>
        rw [cellsInt] at t0 t1
        obtain ⟨x0, h0, _, w0⟩ := DataW.trod_int Tryd.underlying3 t0
        obtain ⟨x1, h1, _, w1⟩ := DataW.trod_int Tryd.underlying3 t1
        simp at h0 h1
        subst h0 h1
        refine ⟨⟨x0, x1⟩, bounds_i64 w1, fun j v hj => ?_⟩
        have hj3 : j < 2 := (List.getElem?_eq_some_iff.1 hj).1
        rw [hcell j hj3]
        exact hj
    haveI : Inhabited OpE := ⟨opNil⟩
    obtain ⟨f, hfn⟩ := Go.Deep.choose_lt each
    have hv : ((List.range len).map f).length = len := by simp
    refine ⟨_, (List.range len).map f, hcs, fun o ho => ?_, some a, cap, by rw [hv], by omega, hm, fun hne => ?_⟩
    · obtain ⟨i, hi, rfl⟩ := List.mem_map.1 ho
      exact (hfn i (by simpa using hi)).1
    · have h0 : 0 < len := by
        have := List.length_pos_iff.2 hne
        omega
      obtain ⟨b, off, spot⟩ := a
      have hc0 := (hfn 0 h0).2 0 _ rfl
      have hspot : spot = none := by simpa [Addr.add] using World.cell?_spot hc0
      subst hspot
      have ea : ∀ j, (⟨b, off, none⟩ : Addr).add j = ⟨b, off + j, none⟩ := fun j => Addr.add_mid b off j
      refine ⟨b, off, rfl, ?_, fun i hi => ?_⟩
      · rw [ea, Addr.add_mid] at hc0
        exact World.block_lt_of_cell? W _ hc0
      · rw [hv] at hi
        have eg : opAt ((List.range len).map f) i = f i := by simp [opAt, List.getD, hi]
        rw [eg]
        intro j v hj
        have := (hfn i hi).2 j v hj
        rw [ea, Addr.add_mid] at this
        exact this
set_option maxRecDepth 100000 in
theorem open_script {H : Type} {enc : TypeId × Value → H} {W : World} {v : Value} {d : DataW H} {p : List MemPlace} {base : Nat} (hv : Value.okWide Tryd.prog W .any base 36 v)
    (h : DataW.Trod enc Tryd.prog W 0 (fun _ => true) true 36 v d p) : ∃ os, Script W v os := by
  obtain ⟨a, n, c, rfl⟩ := okWide_slice Tryd.underlying36 hv
  obtain ⟨fuel, hf⟩ := h
  obtain ⟨u, os, hu, hs⟩ := trod_script hf
  simp [Value.cells] at hu
  subst hu
  exact ⟨os, hs⟩

end Go.Proofs.YtbnhacibkmcmkaaDoor
