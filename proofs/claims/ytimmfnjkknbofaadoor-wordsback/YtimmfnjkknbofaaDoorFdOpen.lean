/- How what comes in is opened: a slice of bytes, a table. -/
import Derived.Test.YtimmfnjkknbofaaDoorFTab
import Derived.WalkKit
import Derived.ProofKit
import Derived.ChangeSlices
import Derived.ChangeSame
import Derived.Deep.Slices
import Derived.ChangeOld
import Derived.OpenShut
import Derived.DataShut
import Derived.Below
namespace Go.Proofs.YtimmfnjkknbofaaDoor
set_option maxRecDepth 20000
open Go.ChangeShapes Go.WideShapes Go.ChangeAt Go.RowKit
set_option linter.unusedVariables false

theorem cellsU8 : Tryd.prog.cellsOf 5 = 1 := by kernel_rfl
theorem cellsInt : Tryd.prog.cellsOf 3 = 1 := by kernel_rfl
theorem cellsI32 : Tryd.prog.cellsOf 21 = 1 := by kernel_rfl
theorem cellsFold : Tryd.prog.cellsOf 54 = 3 := by kernel_rfl

theorem i32_wf {r : Int} (h : (Lit.int .i32 r).wf = true) : -2147483648 ≤ r ∧ r ≤ 2147483647 := by
  have q := (Lit.wf_int_iff _ _).1 h
  rwa [show IntKind.i32.min = -2147483648 by decide, show IntKind.i32.max = 2147483647 by decide] at q
theorem u8_wf {r : Int} (h : (Lit.int .u8 r).wf = true) : 0 ≤ r ∧ r ≤ 255 := by
  have q := (Lit.wf_int_iff _ _).1 h
  rwa [show IntKind.u8.min = 0 by decide, show IntKind.u8.max = 255 by decide] at q

theorem trod_sl {H : Type} {enc : TypeId × Value → H} {W : World} {fuel : Nat} {cs : List Value} {x : DataW H × List MemPlace}
    (h : DataW.trod enc Tryd.prog W 0 (fun _ => true) true fuel 26 cs = some x) : ∃ v zs, cs = [v] ∧ Sl W v zs := by
  rcases open_ints Tryd.underlying26 Tryd.underlying5 cellsU8 h with ⟨hcs, _⟩ | ⟨a, len, cap, zs, hcs, _, hl, hm, hz, _, hc, hwf⟩
  · exact ⟨_, [], hcs, Sl.nil W⟩
  · rw [if_pos rfl] at hz
    have hlen : (zs.take len).length = len := by simp; omega
    refine ⟨_, zs.take len, hcs, fun z hz => bounds_u8 (hwf z (List.mem_of_mem_take hz)), some a, cap, by rw [hlen], by omega, hm, (fun h => by cases h), fun hne => ?_⟩
    have h0 : 0 < len := by
      have := List.length_pos_iff.2 hne
      omega
    obtain ⟨b, off, spot⟩ := a
    have hc0 := hc 0 (by omega)
    have hspot : spot = none := by simpa [Addr.add] using World.cell?_spot hc0
    subst hspot
    refine ⟨b, off, rfl, fun i hi => ?_⟩
    have e : (⟨b, off, none⟩ : Addr).add i = ⟨b, off + i, none⟩ := by unfold Addr.add; split <;> simp_all
    rw [← e, hc i (by omega), getD_take zs len i (by omega)]

theorem trod_struct3 {H : Type} {enc : TypeId × Value → H} {P : Program} {w : World} {base : Nat} {spare : Nat → Bool} {held : Bool} {t : TypeId} {f0 f1 f2 : Field} {fuel : Nat} {cs : List Value} {x : DataW H × List MemPlace} (ht : P.underlying t = some (.struct #[f0, f1, f2])) (h : DataW.trod enc P w base spare held fuel t cs = some x) :
    ∃ y0 y1 y2 n, cs.length = P.cellsOf t ∧ DataW.trod enc P w base spare held n f0.type ((cs.drop f0.offset).take (P.cellsOf f0.type)) = some y0 ∧ DataW.trod enc P w base spare held n f1.type ((cs.drop f1.offset).take (P.cellsOf f1.type)) = some y1 ∧
      DataW.trod enc P w base spare held n f2.type ((cs.drop f2.offset).take (P.cellsOf f2.type)) = some y2 := by
  obtain ⟨xs, n, _, rfl, hl, hlen, hf⟩ := DataW.trod_struct ht h
  match xs, hlen with
  | [y0, y1, y2], _ => exact ⟨y0, y1, y2, n, hl, by simpa using hf 0 f0 rfl, by simpa using hf 1 f1 rfl, by simpa using hf 2 f2 rfl⟩

theorem fd_cells {w : World} {b off i : Nat} {f t m : Int} (h : ∀ j v, [Value.int .i32 f, .int .i32 t, .int .i64 m][j]? = some v → w.cell? (((⟨b, off, none⟩ : Addr).add (i * 3)).add j) = some v) :
    w.cell? ⟨b, off + i * 3, none⟩ = some (.int .i32 f) ∧ w.cell? ⟨b, off + i * 3 + 1, none⟩ = some (.int .i32 t) ∧ w.cell? ⟨b, off + i * 3 + 2, none⟩ = some (.int .i64 m) := by
  have e1 : (⟨b, off, none⟩ : Addr).add (i * 3) = ⟨b, off + i * 3, none⟩ := by unfold Addr.add; split <;> simp_all
  have e2 : ∀ j, (⟨b, off + i * 3, none⟩ : Addr).add j = ⟨b, off + i * 3 + j, none⟩ := fun j => by unfold Addr.add; split <;> simp_all
  have e : ∀ j, ((⟨b, off, none⟩ : Addr).add (i * 3)).add j = ⟨b, off + i * 3 + j, none⟩ := fun j => by rw [e1, e2]
  have h0 := h 0 _ rfl
  have h1 := h 1 _ rfl
  have h2 := h 2 _ rfl
  rw [e] at h0 h1 h2
  exact ⟨by simpa using h0, h1, h2⟩

theorem trod_tbl {H : Type} {enc : TypeId × Value → H} {W : World} {fuel : Nat} {cs : List Value} {x : DataW H × List MemPlace}
    (h : DataW.trod enc Tryd.prog W 0 (fun _ => true) true fuel 22 cs = some x) : ∃ v xs, cs = [v] ∧ Tbl W v xs := by
  rcases Go.Deep.open_slice Tryd.underlying22 h with ⟨hcs, _⟩ | ⟨a, len, cap, m, n, D, Pl, hcs, _, hl, hm, hmm, _, hel⟩
  · exact ⟨_, [], hcs, Tbl.nil W⟩
  · have each : ∀ i, i < len → ∃ p : Fd, FdOk p ∧ ∀ j v, [Value.int .i32 p.1, .int .i32 p.2.1, .int .i64 p.2.2][j]? = some v → W.cell? ((a.add (i * 3)).add j) = some v := by
      intro i hi
      obtain ⟨cs', hc, ht⟩ := hel i (by rw [hmm]; split <;> omega)
      rw [cellsFold] at hc
      obtain ⟨_, hlen, hcell⟩ := World.cells?_some hc
      obtain ⟨y0, y1, y2, n', _, t0, t1, t2⟩ := trod_struct3 Tryd.underlying54 ht
      match cs', hlen with
      | [p0, p1, p2], _ =>
        simp only [cellsI32, cellsInt] at t0 t1 t2
        obtain ⟨z0, h0, _, b0⟩ := DataW.trod_int Tryd.underlying21 t0
        obtain ⟨z1, h1, _, b1⟩ := DataW.trod_int Tryd.underlying21 t1
        obtain ⟨z2, h2, _, b2⟩ := DataW.trod_int Tryd.underlying3 t2
        simp at h0 h1 h2
        subst h0 h1 h2
        have q0 := (Lit.wf_int_iff _ _).1 b0
        have q1 := (Lit.wf_int_iff _ _).1 b1
        have q2 := (Lit.wf_int_iff _ _).1 b2
        rw [show IntKind.i32.min = -2147483648 by decide, show IntKind.i32.max = 2147483647 by decide] at q0 q1
        rw [show IntKind.i64.min = -9223372036854775808 by decide, show IntKind.i64.max = 9223372036854775807 by decide] at q2
        refine ⟨(z0, z1, z2), ⟨⟨?_, ?_⟩, ⟨?_, ?_⟩, ?_, ?_⟩, fun j v hj => ?_⟩
        · exact q0.1
        · exact q0.2
        · exact q1.1
        · exact q1.2
        · exact q2.1
        · exact q2.2
        · have hj2 : j < 3 := (List.getElem?_eq_some_iff.1 hj).1
          rw [hcell j hj2]
          exact hj
    haveI : Inhabited Fd := ⟨(0, 0, 0)⟩
    obtain ⟨f, hfn⟩ := Go.Deep.choose_lt each
    have hv : ((List.range len).map f).length = len := by simp
    have gv : ∀ i, i < len → ((List.range len).map f).getD i (0, 0, 0) = f i := by intro i hi; simp [List.getD, hi]
    refine ⟨_, (List.range len).map f, hcs, fun x hx => ?_, some a, cap, by rw [hv], by omega, hm, fun hne => ?_⟩
    · obtain ⟨i, hi, rfl⟩ := List.mem_map.1 hx
      exact (hfn i (by simpa using hi)).1
    · have h0 : 0 < len := by
        have := List.length_pos_iff.2 hne
        omega
      obtain ⟨b, off, spot⟩ := a
      have hc0 := (hfn 0 h0).2 0 _ rfl
      have hspot : spot = none := by simpa [Addr.add] using World.cell?_spot hc0
      subst hspot
      refine ⟨b, off, rfl, fun i hi => ?_⟩
      rw [hv] at hi
      rw [gv i hi]
      exact fd_cells (hfn i hi).2

set_option maxRecDepth 100000 in
theorem open_sl {H : Type} {enc : TypeId × Value → H} {W : World} {v : Value} {d : DataW H} {p : List MemPlace} {base : Nat} (hv : Value.okWide Tryd.prog W .any base 26 v)
    (h : DataW.Trod enc Tryd.prog W 0 (fun _ => true) true 26 v d p) : ∃ zs, Sl W v zs := by
  obtain ⟨a, n, c, rfl⟩ := okWide_slice Tryd.underlying26 hv
  obtain ⟨fuel, hf⟩ := h
  obtain ⟨u, zs, hu, hs⟩ := trod_sl hf
  simp [Value.cells] at hu
  subst hu
  exact ⟨zs, hs⟩
set_option maxRecDepth 100000 in
theorem open_tbl {H : Type} {enc : TypeId × Value → H} {W : World} {v : Value} {d : DataW H} {p : List MemPlace} {base : Nat} (hv : Value.okWide Tryd.prog W .any base 22 v)
    (h : DataW.Trod enc Tryd.prog W 0 (fun _ => true) true 22 v d p) : ∃ xs, Tbl W v xs := by
  obtain ⟨a, n, c, rfl⟩ := okWide_slice Tryd.underlying22 hv
  obtain ⟨fuel, hf⟩ := h
  obtain ⟨u, xs, hu, hs⟩ := trod_tbl hf
  simp [Value.cells] at hu
  subst hu
  exact ⟨xs, hs⟩

end Go.Proofs.YtimmfnjkknbofaaDoor
