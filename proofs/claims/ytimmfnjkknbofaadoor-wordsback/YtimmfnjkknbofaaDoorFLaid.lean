/- What the row's condition on package fold's rows of letters gives the walks; the door's own heap meets it. -/
import Derived.Test.YtimmfnjkknbofaaDoorFLet
import Derived.Test.YtimmfnjkknbofaaDoorTie
import Derived.Test.YtimmfnjkknbofaaDoorCards
import Derived.ProofKit
import Derived.LaidMore
import Derived.OpenShut
import Derived.Stop.Joined
import Derived.Lib.LaidTab
import Derived.ChangeSame
namespace Go.Proofs.YtimmfnjkknbofaaDoor
set_option maxRecDepth 20000
set_option linter.unusedSimpArgs false
open Go.ChangeShapes Go.WideShapes Go.ChangeAt Go.RowKit

def laidRows : List (String × DataW Unit) := [("incipit/fold.letterRows", Rows.laid_incipit_fold_letterRows)]

theorem gRows : Tryd.prog.globalNamed "incipit/fold.letterRows" = some 0 := by kernel_rfl
theorem tRows : (Tryd.prog.globals[0]?).map (·.type) = some 149 := by kernel_rfl
theorem cellsRow : Tryd.prog.cellsOf 117 = 2 := by kernel_rfl
theorem cellsI64 : Tryd.prog.cellsOf 2 = 1 := by kernel_rfl
theorem cellsRows : Tryd.prog.cellsOf 149 = 14 := by kernel_rfl

theorem door_met (os : Os) (args : Array Value) : laidMetH Tryd.prog laidRows ((World.doorLaid Tryd.prog 400 os).forCall (fun _ _ => 0) ⟨#[], args, []⟩).memory :=
  laidMetH_of_parts3 (fuel := 8) (laidMet_of_run' 8 (by kernel_rfl) (by kernel_rfl)) (by kernel_rfl) (by kernel_rfl)

section
variable {H : Type} {enc : TypeId × Value → H} {w : World} {base : Nat} {sp : Nat → Bool} {held : Bool} {fuel : Nat} {cs : List Value}
theorem rowL_of {b : DataW H × List MemPlace} {a0 a1 : Int} (h : DataW.trod enc Tryd.prog w base sp held fuel 117 cs = some b) (hb : b.1 = .agg [.lit (.int .i64 a0), .lit (.int .i64 a1)]) : cs[0]? = some (.int .i64 a0) ∧ cs[1]? = some (.int .i64 a1) := by
  obtain ⟨y0, y1, n, rfl, hl, h0, h1⟩ := trod_struct2 Tryd.underlying117 h
  simp only [cellsI64] at h0 h1
  obtain ⟨z0, e0, q0, _⟩ := DataW.trod_int Tryd.underlying2 h0
  obtain ⟨z1, e1, q1, _⟩ := DataW.trod_int Tryd.underlying2 h1
  subst q0
  subst q1
  simp only [DataW.agg.injEq, List.cons.injEq, DataW.lit.injEq, Lit.int.injEq, true_and, and_true] at hb
  obtain ⟨rfl, rfl⟩ := hb
  have f0 := congrArg (·[0]?) e0
  have f1 := congrArg (·[0]?) e1
  simp [List.getElem?_take, List.getElem?_drop] at f0 f1
  exact ⟨f0, f1⟩
theorem rowsL_of {p : List MemPlace} (h : DataW.trod enc Tryd.prog w base sp held fuel 149 cs = some (Rows.laid_incipit_fold_letterRows, p)) (i : Nat) (hi : i < 7) : cs[2 * i]? = some (.int .i64 (letRows.getD i (0, 0)).1) ∧ cs[2 * i + 1]? = some (.int .i64 (letRows.getD i (0, 0)).2) := by
  cases fuel with
  | zero => simp [DataW.trod] at h
  | succ fuel =>
    simp only [DataW.trod, Tryd.underlying149, cellsRow, cellsRows] at h
    split at h
    · obtain ⟨xs, hm, hx⟩ := Option.map_eq_some_iff.1 h
      have hxs := congrArg Prod.fst hx
      simp only [Rows.laid_incipit_fold_letterRows, DataW.agg.injEq] at hxs
      obtain ⟨b, hb, hf⟩ := Lib.mapM_at hm i i (by simp [hi])
      have hbi : (xs.map (·.1))[i]? = some b.1 := by simp [hb]
      rw [hxs] at hbi
      have key := fun (a0 a1 : Int) (e : b.1 = .agg [.lit (.int .i64 a0), .lit (.int .i64 a1)]) => rowL_of hf e
      have h7 : i = 0 ∨ i = 1 ∨ i = 2 ∨ i = 3 ∨ i = 4 ∨ i = 5 ∨ i = 6 := by omega
      have fin : ∀ a0 a1 : Int, b.1 = .agg [.lit (.int .i64 a0), .lit (.int .i64 a1)] → cs[2 * i]? = some (.int .i64 a0) ∧ cs[2 * i + 1]? = some (.int .i64 a1) := fun a0 a1 e => by
        obtain ⟨k0, k1⟩ := key a0 a1 e
        simp [List.getElem?_take, List.getElem?_drop] at k0 k1
        rw [Nat.mul_comm]
        exact ⟨k0, k1⟩
      rcases h7 with rfl | rfl | rfl | rfl | rfl | rfl | rfl <;> exact fin _ _ (Option.some.inj hbi).symm
    · cases h
end

theorem let_of_laid {W : World} (h : laidMetH Tryd.prog laidRows W) : Let W := by
  rw [MakeChecks.laidMetH_plain _ _ _ (by kernel_rfl)] at h
  obtain ⟨ps, ⟨g', t', cs, fuel, p, q, hg', ht', hvar, hd, _, _⟩, _⟩ := h
  obtain rfl := Option.some.inj (gRows.symm.trans hg')
  obtain rfl := Option.some.inj (tRows.symm.trans ht')
  intro i hi
  obtain ⟨h0, h1⟩ := rowsL_of hd i hi
  have e0 := World.var?_cell gRows hvar (2 * i)
  have e1 := World.var?_cell gRows hvar (2 * i + 1)
  exact ⟨e0.trans (by simpa using h0), e1.trans (by simpa using h1)⟩

end Go.Proofs.YtimmfnjkknbofaaDoor
