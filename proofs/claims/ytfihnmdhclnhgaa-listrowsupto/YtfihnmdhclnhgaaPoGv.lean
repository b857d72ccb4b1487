/- A posting in its two cells: laid, loaded, answered beside an error. No package's function. -/
import Derived.Test.YtfihnmdhclnhgaaPoMem
import Derived.Laws.ResultCell
import Derived.Laws.Rows
namespace Go.Proofs.Ytfihnmdhclnhgaa
set_option maxRecDepth 20000
open Go.RowKit
set_option linter.unusedVariables false
set_option linter.unusedSimpArgs false
set_option maxRecDepth 100000

theorem sizePo : (Try.prog.info? 63).map (·.size) = some 2 := by kernel_rfl
theorem load_po (w : World) (b : Nat) (x0 x1 : Value) (hB : Blk w b 63 [x0, x1]) : (loadVar 63 ⟨b, 0, none⟩).run Try.prog w = .ok (.agg #[x0, x1]) w :=
  run_loadVar_row (P := Try.prog) w b 63 63 #[x0, x1] (0, 0) _ hB Try.underlying63 rfl sizePo
theorem ret_po1 {fn : Func} {p u : Tmp} (h : fn.results = #[.cell p 63, .tmp u]) (tmps : Array Value) (w : World) (b : Nat) (x0 x1 er : Value) (hp : tmps.getD p undef = .pointer (some ⟨b, 0, none⟩)) (hu : tmps.getD u undef = er) (hB : Blk w b 63 [x0, x1]) :
    (results fn tmps).run Try.prog w = .ok (.tuple #[.agg #[x0, x1], er]) w := by
  rw [results_cell_tmp h, hp, hu]
  simp only [asAddr, Sem.run_pure, Result.andThen_ok]
  rw [load_po w b x0 x1 hB]
  rfl
/-- two cells, one behind the other -/
def laidP (w : World) (b : Nat) (x0 x1 : Value) : World := (w.setCell ⟨b, 0, none⟩ x0).setCell ⟨b, 1, none⟩ x1
theorem laidP_blk {w : World} {b : Nat} {y0 y1 : Value} (h : Blk w b 63 [y0, y1]) (x0 x1 : Value) : Blk (laidP w b x0 x1) b 63 [x0, x1] := (h.set 0 x0).set 1 x1
theorem laidP_only (w : World) (b : Nat) (x0 x1 : Value) : Only (fun k => k = b) w (laidP w b x0 x1) :=
  ((Only.refl (· = b) w).setCell ⟨b, 0, none⟩ _ (fun _ => rfl)).setCell ⟨b, 1, none⟩ _ (fun _ => rfl)
theorem po_cells {w : World} {b : Nat} {x0 x1 : Value} (h : Blk w b 63 [x0, x1]) : (w.cell? ⟨b, 0, none⟩ = some x0 ∧ w.cell? ⟨b, 1, none⟩ = some x1) ∧ w.frozen? ⟨b, 0, none⟩ = false ∧ w.frozen? ⟨b, 1, none⟩ = false :=
  ⟨⟨h.cell 0, h.cell 1⟩, h.frozen 0, h.frozen 1⟩
/-- a posting in memory of the call's own -/
def PoN (w : World) (base : Nat) (v : Value) (p : Po) : Prop := p.doc < 4294967296 ∧ ∃ u, v = .agg #[.int .u32 (p.doc : Int), u] ∧ Ints w base u p.pos
theorem PoN.val {w : World} {base : Nat} {v : Value} {p : Po} (h : PoN w base v p) : PoV w v p := by
  obtain ⟨h1, u, rfl, h2⟩ := h
  exact ⟨h1, u, rfl, h2.is⟩
theorem PoN.none (w : World) (base : Nat) : PoN w base (.agg #[.int .u32 0, .slice none 0 0]) noPo := ⟨by decide, _, rfl, Ints.nil _ _⟩
theorem PoN.only {S : Nat → Prop} {w w' : World} {base : Nat} {v : Value} {p : Po} (h : PoN w base v p) (ho : Only S w w') (hS : ∀ j, S j → j < base) : PoN w' base v p := by
  obtain ⟨h1, u, rfl, h2⟩ := h
  exact ⟨h1, u, rfl, h2.only ho (fun j hj hs => by have := (h2.lt j hj).1; have := hS j hs; omega)⟩
theorem PoN.below {w w' : World} {base : Nat} {v : Value} {p : Po} (h : PoN w base v p) (hb : Below w.heap.size w w') : PoN w' base v p := h.only (Only.of_below (fun _ => False) hb) (fun _ h => h.elim)
theorem PoN.le {w : World} {base base' : Nat} {v : Value} {p : Po} (h : PoN w base v p) (hb : base' ≤ base) : PoN w base' v p := by
  obtain ⟨h1, u, rfl, h2⟩ := h
  exact ⟨h1, u, rfl, h2.base hb⟩

end Go.Proofs.Ytfihnmdhclnhgaa
