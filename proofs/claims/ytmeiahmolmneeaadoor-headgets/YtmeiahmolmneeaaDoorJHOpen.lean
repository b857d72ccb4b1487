/- How what comes in is opened: a head. -/
import Derived.Test.YtmeiahmolmneeaaDoorFOpen2
import Derived.Test.YtmeiahmolmneeaaDoorJHLive
namespace Go.Proofs.YtmeiahmolmneeaaDoor
set_option maxRecDepth 20000
open Go.ChangeShapes Go.WideShapes Go.ChangeAt Go.RowKit
set_option linter.unusedVariables false

theorem cellsHead : Tryd.prog.cellsOf 26 = 4 := by kernel_rfl
theorem cellsInts : Tryd.prog.cellsOf 23 = 1 := by kernel_rfl

set_option maxRecDepth 100000 in
theorem open_head {H : Type} {enc : TypeId × Value → H} {W : World} {v : Value} {d : DataW H} {p : List MemPlace} {base : Nat} (hv : Value.okWide Tryd.prog W .any base 26 v)
    (h : DataW.Trod enc Tryd.prog W 0 (fun _ => true) true 26 v d p) : ∃ f, HdIn W v f := by
  obtain ⟨cs, rfl, hcs⟩ := okWide_struct Tryd.underlying26 hv
  rw [cellsHead] at hcs
  obtain ⟨fuel, hf⟩ := h
  obtain ⟨y0, y1, y2, y3, n', t0, t1, t2, t3⟩ := trod_struct4 Tryd.underlying26 hf
  obtain ⟨l, rfl⟩ : ∃ l : List Value, cs = l.toArray := ⟨cs.toList, by simp⟩
  match l, (by simpa using hcs : l.length = 4) with
  | [p0, p1, p2, p3], _ =>
    rw [cellsU64] at t0
    rw [cellsInt] at t1
    rw [cellsInts] at t2
    rw [cellsSl] at t3
    obtain ⟨x0, h0, _, w0⟩ := DataW.trod_int Tryd.underlying22 t0
    obtain ⟨x1, h1, _, w1⟩ := DataW.trod_int Tryd.underlying3 t1
    obtain ⟨v2, z2, h2, s2⟩ := trod_ks t2
    obtain ⟨v3, z3, h3, s3⟩ := trod_sl t3
    simp [Value.cells] at h0 h1 h2 h3
    subst h0 h1 h2 h3
    have hb := bounds_u64 w0
    obtain ⟨ma, mc, hm, hs⟩ := s2
    obtain ⟨ua, uc, rfl⟩ := sl_form' s3
    subst hm
    obtain ⟨E, rfl⟩ : ∃ E : Nat, x0 = E := ⟨x0.toNat, by omega⟩
    exact ⟨⟨E, x1, z2, z3⟩, ma, mc, ua, uc, rfl, ⟨ma, mc, rfl, hs⟩, s3, by simp only; omega⟩

end Go.Proofs.YtmeiahmolmneeaaDoor
