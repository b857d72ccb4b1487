/- A node that is answered beside an error ('GivesN'); its four cells laid; a node of the call's own stays. No package's function. -/
import Derived.Test.YtoamdbjailpgdaaNNd
namespace Go.Proofs.Ytoamdbjailpgdaa
set_option maxRecDepth 20000
open Go.RowKit
set_option linter.unusedVariables false
set_option linter.unusedSimpArgs false
set_option maxRecDepth 100000

abbrev zeroC : List Value := [.bool false, .slice none 0 0, .slice none 0 0, .slice none 0 0]
theorem load_node (w : World) (b : Nat) (x0 x1 x2 x3 : Value) (hB : Blk w b 26 [x0, x1, x2, x3]) : (loadVar 26 ⟨b, 0, none⟩).run Try.prog w = .ok (.agg #[x0, x1, x2, x3]) w :=
  run_loadVar_row (P := Try.prog) w b 26 26 #[x0, x1, x2, x3] (0, 0) _ hB Try.underlying26 rfl sizeNode
theorem ret_node1 {fn : Func} {p u : Tmp} (h : fn.results = #[.cell p 26, .tmp u]) (tmps : Array Value) (w : World) (b : Nat) (x0 x1 x2 x3 er : Value) (hp : tmps.getD p undef = .pointer (some ⟨b, 0, none⟩)) (hu : tmps.getD u undef = er) (hB : Blk w b 26 [x0, x1, x2, x3]) :
    (results fn tmps).run Try.prog w = .ok (.tuple #[.agg #[x0, x1, x2, x3], er]) w := by
  rw [results_cell_tmp h, hp, hu]
  simp only [asAddr, Sem.run_pure, Result.andThen_ok]
  rw [load_node w b x0 x1 x2 x3 hB]
  rfl
/-- four cells, one behind the other -/
def laidN (w : World) (b : Nat) (x0 x1 x2 x3 : Value) : World := (((w.setCell ⟨b, 0, none⟩ x0).setCell ⟨b, 1, none⟩ x1).setCell ⟨b, 2, none⟩ x2).setCell ⟨b, 3, none⟩ x3
theorem laidN_blk {w : World} {b : Nat} {y0 y1 y2 y3 : Value} (h : Blk w b 26 [y0, y1, y2, y3]) (x0 x1 x2 x3 : Value) : Blk (laidN w b x0 x1 x2 x3) b 26 [x0, x1, x2, x3] :=
  (((h.set 0 x0).set 1 x1).set 2 x2).set 3 x3
theorem laidN_only (w : World) (b : Nat) (x0 x1 x2 x3 : Value) : Only (fun k => k = b) w (laidN w b x0 x1 x2 x3) :=
  ((((Only.refl (· = b) w).setCell ⟨b, 0, none⟩ _ (fun _ => rfl)).setCell ⟨b, 1, none⟩ _ (fun _ => rfl)).setCell ⟨b, 2, none⟩ _ (fun _ => rfl)).setCell ⟨b, 3, none⟩ _ (fun _ => rfl)
theorem node_cells {w : World} {b : Nat} {x0 x1 x2 x3 : Value} (h : Blk w b 26 [x0, x1, x2, x3]) : (w.cell? ⟨b, 0, none⟩ = some x0 ∧ w.cell? ⟨b, 1, none⟩ = some x1 ∧ w.cell? ⟨b, 2, none⟩ = some x2 ∧ w.cell? ⟨b, 3, none⟩ = some x3) ∧
    w.frozen? ⟨b, 0, none⟩ = false ∧ w.frozen? ⟨b, 1, none⟩ = false ∧ w.frozen? ⟨b, 2, none⟩ = false ∧ w.frozen? ⟨b, 3, none⟩ = false :=
  ⟨⟨h.cell 0, h.cell 1, h.cell 2, h.cell 3⟩, h.frozen 0, h.frozen 1, h.frozen 2, h.frozen 3⟩
theorem NdN.only {S : Nat → Prop} {w w' : World} {base : Nat} {v : Value} {n : Nd} (h : NdN w base v n) (ho : Only S w w') (hS : ∀ j, S j → j < base) : NdN w' base v n := by
  obtain ⟨vp, vk, vc, xs, ys, sv, rfl, h1, h2, h3, h4, h5, h6⟩ := h
  have hn : ∀ {e : TypeId} {size m : Nat} {u : Value} {zs : List Value}, w.ownsRow base e size u m zs → ∀ j, u.ownBlock = some j → ¬ S j := fun hr j hj hs => by have := (row_blk hr hj).1; have := hS j hs; omega
  have hx : ∀ u zs, Sl w u zs → Held w base sv u → Sl w' u zs ∧ Held w' base sv u := fun u zs a b => by
    have hk : ∀ j, u.ownBlock = some j → ¬ S j := fun j hj hs => by have := (b j hj).1; have := hS j hs; omega
    refine ⟨a.only ho hk, fun j hj => ?_⟩
    obtain ⟨c1, ⟨cs, c2⟩, c3⟩ := b j hj
    exact ⟨c1, ⟨cs, c2.only ho (hk j hj)⟩, c3⟩
  exact ⟨vp, vk, vc, xs, ys, sv, rfl, ownsRow_only h1 ho (hn h1), ownsRow_only h2 ho (hn h2), h3.only ho (hn h3), h4, fun i hi => ⟨hx _ _ (h5 i hi).1.1 (h5 i hi).1.2, hx _ _ (h5 i hi).2.1 (h5 i hi).2.2⟩, fun i hi => hx _ _ (h6 i hi).1 (h6 i hi).2⟩
theorem NdN.below {w w' : World} {base : Nat} {v : Value} {n : Nd} (h : NdN w base v n) (hb : Below w.heap.size w w') : NdN w' base v n := h.only (Only.of_below (fun _ => False) hb) (fun _ h => h.elim)
theorem NdN.le {w : World} {base base' : Nat} {v : Value} {n : Nd} (h : NdN w base v n) (hb : base' ≤ base) : NdN w base' v n := by
  obtain ⟨vp, vk, vc, xs, ys, sv, rfl, h1, h2, h3, h4, h5, h6⟩ := h
  have hx : ∀ u, Held w base sv u → Held w base' sv u := fun u b j hj => ⟨Nat.le_trans hb (b j hj).1, (b j hj).2⟩
  exact ⟨vp, vk, vc, xs, ys, sv, rfl, own_le' h1 hb, own_le' h2 hb, h3.base hb, h4, fun i hi => ⟨⟨(h5 i hi).1.1, hx _ (h5 i hi).1.2⟩, (h5 i hi).2.1, hx _ (h5 i hi).2.2⟩, fun i hi => ⟨(h6 i hi).1, hx _ (h6 i hi).2⟩⟩
theorem NdN.none (w : World) (base : Nat) : NdN w base (.agg #[.bool false, .slice none 0 0, .slice none 0 0, .slice none 0 0]) noNd :=
  ⟨nilS, nilS, nilS, [], [], nilS, rfl, World.ownsRow_nil _ _ _ _, World.ownsRow_nil _ _ _ _, Ints.nil _ _, rfl, fun i hi => absurd hi (by simp [noNd]), fun i hi => absurd hi (by simp [noNd])⟩
theorem NdN.form {w : World} {base : Nat} {v : Value} {n : Nd} (h : NdN w base v n) : ∃ pa np pc ka nk kc ca nc cc, v = .agg #[.bool n.lf, .slice pa np pc, .slice ka nk kc, .slice ca nc cc] := by
  obtain ⟨pa, pc, ka, kc, ca, cc, xs, ys, rfl, _⟩ := h.val.open
  exact ⟨pa, _, pc, ka, _, kc, ca, _, cc, rfl⟩

/-- a node that was answered, with an error -/
def GivesN (w : World) (n : Nd) (er : Int) (r : Ending) (w' : World) : Prop := ∃ u, r = .returned (.tuple #[u, .int .i64 er]) ∧ NdN w' w.heap.size u n ∧ Below w.heap.size w w'
theorem GivesN.no {w w' : World} (er : Int) (hb : Below w.heap.size w w') : GivesN w noNd er (.returned (.tuple #[.agg #[.bool false, .slice none 0 0, .slice none 0 0, .slice none 0 0], .int .i64 er])) w' := ⟨_, rfl, NdN.none _ _, hb⟩

end Go.Proofs.Ytoamdbjailpgdaa
