/- Nodes whose rows are written over: what stays. No package's function. -/
import Derived.Test.YtoamdbjailpgdaaNGv
namespace Go.Proofs.Ytoamdbjailpgdaa
set_option maxRecDepth 20000
open Go.RowKit
set_option linter.unusedVariables false
set_option linter.unusedSimpArgs false
set_option maxRecDepth 100000

/-- a row of one's own, whatever it holds -/
def Shp (W : World) (B : Nat) (e : TypeId) (m : Nat) (v : Value) (n : Nat) : Prop := ∃ L, W.ownsRow B e m v n L
theorem Shp.set {W : World} {B : Nat} {e : TypeId} {m n : Nat} {v : Value} (h : Shp W B e m v n) (g o : Nat) (u : Value) : Shp (W.setCell ⟨g, o, none⟩ u) B e m v n := by
  obtain ⟨L, h⟩ := h
  have ho : Only (· = g) W (W.setCell ⟨g, o, none⟩ u) := (Only.refl (· = g) W).setCell ⟨g, o, none⟩ _ (fun _ => rfl)
  rcases h.2 with ⟨rfl, h0⟩ | ⟨g', cap, cur, rfl, hb, hg, hnc, hcm, hcs, ht⟩
  · exact ⟨L, ownsRow_only h ho (fun j hj => by cases hj)⟩
  · by_cases hgg : g' = g
    · subst hgg
      obtain ⟨q1, q2, q3, q4, sp, hB, hsp⟩ := own_blk h
      have hs := hB.set o u
      have hl : ((L ++ sp).set o u).length = (L ++ sp).length := by simp
      refine ⟨((L ++ sp).set o u).take (n * m), blk_own (sp := ((L ++ sp).set o u).drop (n * m)) (by rw [List.take_append_drop]; exact hs) q1 q2 q3 ?_ ?_⟩
      · rw [List.length_take, hl, List.length_append]; omega
      · rw [List.length_drop, hl, List.length_append]; omega
    · exact ⟨L, ownsRow_only h ho (fun j hj e => by
        have : g' = j := by simpa [Value.ownBlock] using hj
        exact hgg (this.trans e))⟩
theorem Shp.keep {W W' : World} {B : Nat} {e : TypeId} {m n : Nat} {v : Value} (h : Shp W B e m v n) (hb : Below W.heap.size W W') : Shp W' B e m v n := by
  obtain ⟨L, h⟩ := h
  exact ⟨L, ownsRow_only h (Only.of_below (fun _ => False) hb) (fun _ _ h => h)⟩
/-- a cell of it -/
theorem Shp.at {W : World} {B : Nat} {e : TypeId} {m n cap : Nat} {a : Option Addr} (h : Shp W B e m (.slice a n cap) n) (i : Nat) (hi : i < n) : ∃ g cs, a = some ⟨g, 0, none⟩ ∧ B ≤ g ∧ Blk W g e cs ∧ n * m ≤ cs.length := by
  obtain ⟨L, h⟩ := h
  rcases h.2 with ⟨_, h0⟩ | ⟨g', cap', cur, hv, _⟩
  · omega
  · simp only [Value.slice.injEq, true_and] at hv
    obtain ⟨rfl, rfl⟩ := hv
    obtain ⟨q1, q2, q3, q4, sp, hB, hsp⟩ := own_blk h
    exact ⟨g', _, rfl, q1, hB, by rw [List.length_append]; omega⟩
/-- a node of such rows -/
def ShN (W : World) (B : Nat) (x : Bool × Value × Value × Value) : Prop := ∃ pa np pc ka nk kc ca nc cc, x = (x.1, .slice pa np pc, .slice ka nk kc, .slice ca nc cc) ∧ Shp W B 36 2 (.slice pa np pc) np ∧ Shp W B 34 1 (.slice ka nk kc) nk ∧ Shp W B 3 1 (.slice ca nc cc) nc
theorem ShN.of {W : World} {B : Nat} {l : Bool} {pa ka ca : Option Addr} {np pc nk kc nc cc : Nat} {n : Nd} (h : NdN W B (.agg #[.bool l, .slice pa np pc, .slice ka nk kc, .slice ca nc cc]) n) : ShN W B (l, .slice pa np pc, .slice ka nk kc, .slice ca nc cc) := by
  obtain ⟨vp, vk, vc, xs, ys, sv, he, h1, h2, h3, h4, h5, h6⟩ := h
  simp only [ndv, Value.agg.injEq] at he
  have e1 : Value.slice pa np pc = vp := by simpa using congrArg (fun a => a.getD 1 undef) he
  have e2 : Value.slice ka nk kc = vk := by simpa using congrArg (fun a => a.getD 2 undef) he
  have e3 : Value.slice ca nc cc = vc := by simpa using congrArg (fun a => a.getD 3 undef) he
  subst e1 e2 e3
  have n1 : np = n.ps.length := by
    obtain ⟨a, c, hh⟩ := own_form' h1
    simp only [Value.slice.injEq] at hh
    exact hh.2.1
  have n2 : nk = n.ks.length := by
    obtain ⟨a, c, hh⟩ := own_form' h2
    simp only [Value.slice.injEq] at hh
    exact hh.2.1
  have n3 : nc = n.cs.length := by
    obtain ⟨a, c, hh⟩ := h3.shape
    simp only [Value.slice.injEq] at hh
    exact hh.2.1
  subst n1 n2 n3
  exact ⟨_, _, _, _, _, _, _, _, _, rfl, ⟨_, h1⟩, ⟨_, h2⟩, ⟨_, h3⟩⟩
def cellsX (x : Bool × Value × Value × Value) : List Value := [.bool x.1, x.2.1, x.2.2.1, x.2.2.2]
/-- nodes in a literal, whose rows are written over -/
structure Zr (w5 : World) (B LB : Nat) (xs : List (Bool × Value × Value × Value)) (W : World) : Prop where
  below : Below B w5 W
  lit : Blk W LB 26 (xs.map cellsX).flatten
  rows : ∀ x ∈ xs, ShN W B x
section
variable {w5 W W' : World} {B LB : Nat} {xs : List (Bool × Value × Value × Value)}
theorem Zr.keep (h : Zr w5 B LB xs W) (hb : Below W.heap.size W W') (hB : B ≤ W.heap.size) : Zr w5 B LB xs W' := by
  refine ⟨h.below.trans (hb.mono hB), h.lit.below hb h.lit.lt, fun x hx => ?_⟩
  obtain ⟨pa, np, pc, ka, nk, kc, ca, nc, cc, he, a, b, c⟩ := h.rows x hx
  exact ⟨pa, np, pc, ka, nk, kc, ca, nc, cc, he, a.keep hb, b.keep hb, c.keep hb⟩
theorem Zr.set (h : Zr w5 B LB xs W) {g : Nat} {e : TypeId} {cs : List Value} (hg : Blk W g e cs) (hB : B ≤ g) (hne : e ≠ 26) (hsz : B ≤ W.heap.size) (o : Nat) (u : Value) : Zr w5 B LB xs (W.setCell ⟨g, o, none⟩ u) := by
  have ho : Only (· = g) W (W.setCell ⟨g, o, none⟩ u) := (Only.refl (· = g) W).setCell ⟨g, o, none⟩ _ (fun _ => rfl)
  refine ⟨h.below.trans (ho.below hsz (fun j hj e => by omega)), h.lit.only ho (fun e => (hg.ne h.lit hne) e.symm), fun x hx => ?_⟩
  obtain ⟨pa, np, pc, ka, nk, kc, ca, nc, cc, he, a, b, c⟩ := h.rows x hx
  exact ⟨pa, np, pc, ka, nk, kc, ca, nc, cc, he, a.set g o u, b.set g o u, c.set g o u⟩
/-- the i-th one -/
theorem Zr.get (h : Zr w5 B LB xs W) (i : Nat) (hi : i < xs.length) : W.rangeAt LB (i * 4) (cellsX xs[i]) :=
  h.lit.range (i * 4) _ (fun j hj => by
    rw [flat_get (m := 4) _ i (by simpa using hi) (fun r hr => by obtain ⟨x, _, rfl⟩ := List.mem_map.1 hr; rfl) j (by simpa [cellsX] using hj)]
    simp)
end

/-- one of them is written over -/
structure Zi (w5 : World) (B LB : Nat) (xs : List (Bool × Value × Value × Value)) (ZB : Nat) (l : Bool) (pa : Option Addr) (np pc : Nat) (ka : Option Addr) (nk kc : Nat) (ca : Option Addr) (nc cc : Nat) (W : World) : Prop where
  z : Zr w5 B LB xs W
  box : Blk W ZB 26 [.bool l, .slice pa np pc, .slice ka nk kc, .slice ca nc cc]
  sp : Shp W B 36 2 (.slice pa np pc) np
  sk : Shp W B 34 1 (.slice ka nk kc) nk
  sc : Shp W B 3 1 (.slice ca nc cc) nc
  size : B ≤ W.heap.size
theorem Zi.set {w5 W : World} {B LB ZB np pc nk kc nc cc : Nat} {xs : List (Bool × Value × Value × Value)} {l : Bool} {pa ka ca : Option Addr} (h : Zi w5 B LB xs ZB l pa np pc ka nk kc ca nc cc W) {g : Nat} {e : TypeId} {cs : List Value} (hg : Blk W g e cs) (hB : B ≤ g) (hne : e ≠ 26) (o : Nat) (u : Value) : Zi w5 B LB xs ZB l pa np pc ka nk kc ca nc cc (W.setCell ⟨g, o, none⟩ u) := by
  have ho : Only (· = g) W (W.setCell ⟨g, o, none⟩ u) := (Only.refl (· = g) W).setCell ⟨g, o, none⟩ _ (fun _ => rfl)
  exact ⟨h.z.set hg hB hne h.size o u, h.box.only ho (fun e => (hg.ne h.box hne) e.symm), h.sp.set g o u, h.sk.set g o u, h.sc.set g o u, Nat.le_trans h.size ho.size⟩
theorem cell_at {W : World} {g : Nat} {e : TypeId} {cs : List Value} (h : Blk W g e cs) (o : Nat) (ho : o < cs.length) : W.cell? ⟨g, o, none⟩ = some cs[o] ∧ W.frozen? ⟨g, o, none⟩ = false := ⟨by rw [h.cell]; exact List.getElem?_eq_getElem ho, h.frozen o⟩

end Go.Proofs.Ytoamdbjailpgdaa
