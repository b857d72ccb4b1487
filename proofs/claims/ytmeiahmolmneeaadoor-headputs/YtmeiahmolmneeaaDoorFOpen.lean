/- How what comes in is opened: a frame, and a slice of numbers. -/
import Derived.Test.YtmeiahmolmneeaaDoorCrcOpen
import Derived.Test.YtmeiahmolmneeaaDoorFShort
namespace Go.Proofs.YtmeiahmolmneeaaDoor
set_option maxRecDepth 20000
open Go.ChangeShapes Go.WideShapes Go.ChangeAt Go.RowKit
set_option linter.unusedVariables false

theorem cellsInt : Tryd.prog.cellsOf 3 = 1 := by kernel_rfl
theorem cellsU64 : Tryd.prog.cellsOf 22 = 1 := by kernel_rfl
theorem cellsFrame : Tryd.prog.cellsOf 59 = 4 := by kernel_rfl

theorem trod_struct4 {H : Type} {enc : TypeId × Value → H} {P : Program} {w : World} {base : Nat} {spare : Nat → Bool} {held : Bool} {t : TypeId} {f0 f1 f2 f3 : Field} {fuel : Nat} {cs : List Value} {x : DataW H × List MemPlace} (ht : P.underlying t = some (.struct #[f0, f1, f2, f3])) (h : DataW.trod enc P w base spare held fuel t cs = some x) :
    ∃ y0 y1 y2 y3 n, DataW.trod enc P w base spare held n f0.type ((cs.drop f0.offset).take (P.cellsOf f0.type)) = some y0 ∧ DataW.trod enc P w base spare held n f1.type ((cs.drop f1.offset).take (P.cellsOf f1.type)) = some y1 ∧
      DataW.trod enc P w base spare held n f2.type ((cs.drop f2.offset).take (P.cellsOf f2.type)) = some y2 ∧ DataW.trod enc P w base spare held n f3.type ((cs.drop f3.offset).take (P.cellsOf f3.type)) = some y3 := by
  obtain ⟨xs, n, _, rfl, hl, hlen, hf⟩ := DataW.trod_struct ht h
  match xs, hlen with
  | [y0, y1, y2, y3], _ => exact ⟨y0, y1, y2, y3, n, by simpa using hf 0 f0 rfl, by simpa using hf 1 f1 rfl, by simpa using hf 2 f2 rfl, by simpa using hf 3 f3 rfl⟩

/-- a frame that comes in -/
def FrIn (w : World) (v : Value) (f : Fm) (zs : List Int) : Prop := v = f.val ∧ Sl w (.slice f.a f.n f.c) zs ∧ f.e < 18446744073709551616

theorem open_frame {H : Type} {enc : TypeId × Value → H} {W : World} {v : Value} {d : DataW H} {p : List MemPlace} {base : Nat} (hv : Value.okWide Tryd.prog W .any base 59 v)
    (h : DataW.Trod enc Tryd.prog W 0 (fun _ => true) true 59 v d p) : ∃ f zs, FrIn W v f zs := by
  obtain ⟨cs, rfl, hcs⟩ := okWide_struct Tryd.underlying59 hv
  rw [cellsFrame] at hcs
  obtain ⟨fuel, hf⟩ := h
  obtain ⟨y0, y1, y2, y3, n', t0, t1, t2, t3⟩ := trod_struct4 Tryd.underlying59 hf
  obtain ⟨l, rfl⟩ : ∃ l : List Value, cs = l.toArray := ⟨cs.toList, by simp⟩
  match l, (by simpa using hcs : l.length = 4) with
  | [p0, p1, p2, p3], _ =>
    rw [cellsInt] at t0 t1
    rw [cellsU64] at t2
    rw [cellsSl] at t3
    obtain ⟨x0, h0, _, w0⟩ := DataW.trod_int Tryd.underlying3 t0
    obtain ⟨x1, h1, _, w1⟩ := DataW.trod_int Tryd.underlying3 t1
    obtain ⟨x2, h2, _, w2⟩ := DataW.trod_int Tryd.underlying22 t2
    obtain ⟨v3, z3, h3, s3⟩ := trod_sl t3
    simp [Value.cells] at h0 h1 h2 h3
    subst h0 h1 h2 h3
    have hb := bounds_u64 w2
    obtain ⟨a, n, c, rfl⟩ := sl_form s3
    obtain ⟨E, rfl⟩ : ∃ E : Nat, x2 = E := ⟨x2.toNat, by omega⟩
    exact ⟨⟨x0, x1, E, a, n, c⟩, z3, rfl, s3, by simp only; omega⟩

end Go.Proofs.YtmeiahmolmneeaaDoor
