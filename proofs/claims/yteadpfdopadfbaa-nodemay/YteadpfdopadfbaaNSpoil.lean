/- A node in memory of its own, whose bytes and children are written over: what stays. -/
import Derived.Test.YteadpfdopadfbaaNRefN
namespace Go.Proofs.Yteadpfdopadfbaa
set_option maxRecDepth 20000
open Go.RowKit Go.Shelf
set_option linter.unusedVariables false
set_option linter.unusedSimpArgs false

theorem flip_ok (x : Int) (hx : 0 ≤ x ∧ x ≤ 255) : ∃ y : Int, bits .xor .u8 x 255 = y ∧ 0 ≤ y ∧ y ≤ 255 := by
  have h := u8_xor x 255 hx.1 (by omega) (by omega) (by omega)
  have hl : (x.toNat ^^^ 255) < 256 := Nat.xor_lt_two_pow (n := 8) (by omega) (by omega)
  exact ⟨_, rfl, by rw [h]; simp, by rw [h]; simp; omega⟩

/-- a text of m bytes, whatever they are, in memory from 'base' on -/
def Tx (W : World) (base : Nat) (x : Value) (m : Nat) : Prop := ∃ zs : List Int, zs.length = m ∧ Sl W x zs ∧ ∀ b, x.ownBlock = some b → base ≤ b ∧ ∃ cs, Blk W b 5 cs
theorem Tx.only {S : Nat → Prop} {W W' : World} {base : Nat} {x : Value} {m : Nat} (h : Tx W base x m) (ho : Only S W W') (hS : ∀ b, S b → ∀ cs, ¬ Blk W b 5 cs) : Tx W' base x m := by
  obtain ⟨zs, hl, hs, hb⟩ := h
  have hn : ∀ b, x.ownBlock = some b → ¬ S b := fun b e hs => by obtain ⟨_, cs, hB⟩ := hb b e; exact hS b hs cs hB
  exact ⟨zs, hl, hs.only ho hn, fun b e => ⟨(hb b e).1, by obtain ⟨_, cs, hB⟩ := hb b e; exact ⟨cs, hB.only ho (hn b e)⟩⟩⟩
theorem Tx.set {W : World} {base : Nat} {x : Value} {m b o : Nat} {z : Int} (h : Tx W base x m) (hz : 0 ≤ z ∧ z ≤ 255) {cs : List Value} (hB : Blk W b 5 cs) : Tx (W.setCell ⟨b, o, none⟩ (.int .u8 z)) base x m := by
  obtain ⟨zs, hl, hs, hb⟩ := h
  have ho : Only (· = b) W (W.setCell ⟨b, o, none⟩ (.int .u8 z)) := (Only.refl (· = b) W).setCell ⟨b, o, none⟩ _ (fun _ => rfl)
  have hown : ∀ j, x.ownBlock = some j → base ≤ j ∧ ∃ cs, Blk (W.setCell ⟨b, o, none⟩ (.int .u8 z)) j 5 cs := fun j e => by
    obtain ⟨h1, cs', h2⟩ := hb j e
    refine ⟨h1, ?_⟩
    by_cases hj : j = b
    · subst hj; exact ⟨_, hB.set o _⟩
    · exact ⟨_, h2.only ho hj⟩
  by_cases hx : x.ownBlock = some b
  · obtain ⟨hok, ao, cap, rfl, h1, h2, h3, h4⟩ := hs
    by_cases h0 : zs = []
    · exact ⟨zs, hl, ⟨hok, ao, cap, rfl, h1, h2, h3, fun h => absurd h0 h⟩, hown⟩
    · obtain ⟨b', off, rfl, hc⟩ := h4 h0
      obtain rfl : b' = b := by simpa [Value.ownBlock] using hx
      have hlen : ((List.range zs.length).map fun i => if off + i = o then z else zs.getD i 0).length = zs.length := by simp
      refine ⟨(List.range zs.length).map fun i => if off + i = o then z else zs.getD i 0, by rw [hlen]; exact hl, ⟨?_, _, cap, by rw [hlen], by rw [hlen]; exact h1, h2, h3, fun _ => ⟨b', off, rfl, fun i hi => ?_⟩⟩, hown⟩
      · intro y hy
        obtain ⟨i, hi, rfl⟩ := List.mem_map.1 hy
        have hi' : i < zs.length := by simpa using hi
        split
        · exact hz
        · exact hok _ (by simp only [List.getD, List.getElem?_eq_getElem hi']; exact List.getElem_mem hi')
      · rw [hlen] at hi
        have hci := hc i hi
        rw [hB.cell] at hci
        rw [(hB.set o (.int .u8 z)).cell, List.getElem?_set]
        have hd : ((List.range zs.length).map fun i => if off + i = o then z else zs.getD i 0).getD i 0 = if off + i = o then z else zs.getD i 0 := by simp [List.getD, hi]
        rw [hd]
        by_cases he : o = off + i
        · have hlt : off + i < cs.length := (List.getElem?_eq_some_iff.1 hci).1
          rw [if_pos he, if_pos (by omega), if_pos he.symm]
        · rw [if_neg he, if_neg (fun e => he e.symm)]
          exact hci
  · exact ⟨zs, hl, hs.only ho (fun j hj e => hx (e ▸ hj)), hown⟩

/-- what is spoiled: the box, the rows and the texts stand, whatever the bytes and the children are; all that was ahead stays -/
structure Sp (W0 : World) (cbx : Nat) (lf : Bool) (vp vk vc : Value) (np nk nc : Nat) (xs : List (Value × Value)) (ys : List Value) (ls : Value → Nat) (W : World) : Prop where
  box : Blk W cbx 26 [.bool lf, vp, vk, vc]
  prow : W.ownsRow W0.heap.size 36 2 vp np (flatP xs)
  xl : xs.length = np
  krow : W.ownsRow W0.heap.size 34 1 vk nk ys
  kids : ∃ cs : List Int, cs.length = nc ∧ Ints W W0.heap.size vc cs
  tp : ∀ i, i < np → Tx W W0.heap.size (xs.getD i nil2).1 (ls (xs.getD i nil2).1) ∧ Tx W W0.heap.size (xs.getD i nil2).2 (ls (xs.getD i nil2).2)
  tk : ∀ i, i < nk → Tx W W0.heap.size (ys.getD i nilS) (ls (ys.getD i nilS))
  below : Below W0.heap.size W0 W
theorem Sp.byte {W0 : World} {cbx : Nat} {lf : Bool} {vp vk vc : Value} {np nk nc : Nat} {xs : List (Value × Value)} {ys : List Value} {ls : Value → Nat} {W : World} (h : Sp W0 cbx lf vp vk vc np nk nc xs ys ls W) {b o : Nat} {z : Int} (hz : 0 ≤ z ∧ z ≤ 255) {cs : List Value} (hB : Blk W b 5 cs) (hb : W0.heap.size ≤ b) : Sp W0 cbx lf vp vk vc np nk nc xs ys ls (W.setCell ⟨b, o, none⟩ (.int .u8 z)) := by
  have ho : Only (· = b) W (W.setCell ⟨b, o, none⟩ (.int .u8 z)) := (Only.refl (· = b) W).setCell ⟨b, o, none⟩ _ (fun _ => rfl)
  obtain ⟨cs', k1, k2⟩ := h.kids
  exact ⟨h.box.only ho (h.box.ne hB (by decide)), ownsRow_only h.prow ho (fun j hj e => row_not_blk h.prow hB (by decide) (e ▸ hj)), h.xl, ownsRow_only h.krow ho (fun j hj e => row_not_blk h.krow hB (by decide) (e ▸ hj)), ⟨cs', k1, k2.only ho (fun j hj e => row_not_blk k2 hB (by decide) (e ▸ hj))⟩, fun i hi => ⟨(h.tp i hi).1.set hz hB, (h.tp i hi).2.set hz hB⟩, fun i hi => (h.tk i hi).set hz hB, h.below.trans (ho.below h.below.size (fun j hj e => by omega))⟩
theorem Sp.kid {W0 : World} {cbx : Nat} {lf : Bool} {vp vk : Value} {np nk nc g cap : Nat} {xs : List (Value × Value)} {ys : List Value} {ls : Value → Nat} {W : World} (h : Sp W0 cbx lf vp vk (.slice (some ⟨g, 0, none⟩) nc cap) np nk nc xs ys ls W) {i : Nat} (hi : i < nc) : Sp W0 cbx lf vp vk (.slice (some ⟨g, 0, none⟩) nc cap) np nk nc xs ys ls (W.setCell ⟨g, i, none⟩ (.int .i64 0)) := by
  have ho : Only (· = g) W (W.setCell ⟨g, i, none⟩ (.int .i64 0)) := (Only.refl (· = g) W).setCell ⟨g, i, none⟩ _ (fun _ => rfl)
  obtain ⟨cs, k1, k2⟩ := h.kids
  rcases k2.form with ⟨e, _⟩ | ⟨g', cap', sp, e, h1, h2, h3, h4, h5⟩
  · simp at e
  · simp only [Value.slice.injEq, Option.some.injEq, Addr.mk.injEq, and_true] at e
    obtain ⟨rfl, e2, rfl⟩ := e
    have hne : ∀ e cs', Blk W g e cs' → e = 3 := fun e cs' hb => by
      have := h4.symm.trans hb
      simp only [Option.some.injEq, Obj.cells.injEq] at this
      exact this.2.1.symm
    have hnrow : ∀ {e : TypeId} {size n : Nat} {v : Value} {zs : List Value}, W.ownsRow W0.heap.size e size v n zs → e ≠ 3 → ∀ j, v.ownBlock = some j → ¬ j = g := fun hr hn j hj e => by
      subst e
      exact row_not_blk hr h4 hn hj
    refine ⟨h.box.only ho (h.box.ne h4 (by decide)), ownsRow_only h.prow ho (hnrow h.prow (by decide)), h.xl, ownsRow_only h.krow ho (hnrow h.krow (by decide)), ⟨cs.set i 0, by simpa using k1, ?_⟩, fun j hj => ⟨(h.tp j hj).1.only ho (fun b e cs' hb => absurd (hne _ _ (e ▸ hb)) (by decide)), (h.tp j hj).2.only ho (fun b e cs' hb => absurd (hne _ _ (e ▸ hb)) (by decide))⟩, fun j hj => (h.tk j hj).only ho (fun b e cs' hb => absurd (hne _ _ (e ▸ hb)) (by decide)), h.below.trans (ho.below h.below.size (fun j hj e => by omega))⟩
    have hs := h4.set i (.int .i64 0)
    have he : (iv cs ++ sp).set i (.int .i64 0) = iv (cs.set i 0) ++ sp := by
      rw [List.set_append_left _ _ (by simp [iv]; omega)]
      congr 1
      simp [iv, List.map_set]
    rw [he] at hs
    have hl : (cs.set i 0).length = nc := by simpa using k1
    have := Ints.mk (zs := cs.set i 0) (cap := cap) hs h1 (by rw [hl, ← k1]; exact h2) h3 (by rw [hl, ← k1]; exact h5)
    rw [hl] at this
    exact this

section
variable {W0 : World} {cbx : Nat} {lf : Bool} {vp vk vc : Value} {np nk nc : Nat} {xs : List (Value × Value)} {ys : List Value} {ls : Value → Nat} {W W' : World}
theorem Sp.keep (h : Sp W0 cbx lf vp vk vc np nk nc xs ys ls W) (hb : Below W.heap.size W W') : Sp W0 cbx lf vp vk vc np nk nc xs ys ls W' := by
  have ho := Only.of_below (fun _ => False) hb
  obtain ⟨cs', k1, k2⟩ := h.kids
  exact ⟨h.box.only ho (fun h => h), ownsRow_only h.prow ho (fun _ _ h => h), h.xl, ownsRow_only h.krow ho (fun _ _ h => h), ⟨cs', k1, k2.below hb⟩, fun i hi => ⟨(h.tp i hi).1.only ho (fun _ h => h.elim), (h.tp i hi).2.only ho (fun _ h => h.elim)⟩, fun i hi => (h.tk i hi).only ho (fun _ h => h.elim), h.below.trans (hb.mono h.below.size)⟩
theorem Sp.atP {ao : Option Addr} {n cap : Nat} (h : Sp W0 cbx lf (.slice ao n cap) vk vc np nk nc xs ys ls W) (i : Nat) (hi : i < np) : ∃ g, ao = some ⟨g, 0, none⟩ ∧ W.cell? ⟨g, i * 2, none⟩ = some (xs.getD i nil2).1 ∧ W.cell? ⟨g, i * 2 + 1, none⟩ = some (xs.getD i nil2).2 := by
  have h1 := h.prow
  have hxl := h.xl
  rcases h1.2 with ⟨_, h0⟩ | ⟨g, cap', cur, hv, _⟩
  · omega
  · simp only [Value.slice.injEq] at hv
    obtain ⟨rfl, rfl, rfl⟩ := hv
    have hr : W.rangeAt g (i * 2) [(xs.getD i nil2).1, (xs.getD i nil2).2] := own_range h1 (i * 2) _ (fun j hj => flatP_at xs i (by omega) j hj)
    exact ⟨g, rfl, hr 0 _ rfl, hr 1 _ rfl⟩
theorem Sp.atK {ao : Option Addr} {n cap : Nat} (h : Sp W0 cbx lf vp (.slice ao n cap) vc np nk nc xs ys ls W) (i : Nat) (hi : i < nk) : ∃ g, ao = some ⟨g, 0, none⟩ ∧ W.cell? ⟨g, i, none⟩ = some (ys.getD i nilS) := by
  have h2 := h.krow
  have hyl : ys.length = nk := by have := h2.1; omega
  rcases h2.2 with ⟨_, h0⟩ | ⟨g, cap', cur, hv, _⟩
  · omega
  · simp only [Value.slice.injEq] at hv
    obtain ⟨rfl, rfl, rfl⟩ := hv
    refine ⟨g, rfl, ?_⟩
    rw [World.ownsRow.cellAt h2 i (by omega)]
    simp [List.getD, show i < ys.length by omega]
theorem Sp.atC {ao : Option Addr} {n cap : Nat} (h : Sp W0 cbx lf vp vk (.slice ao n cap) np nk nc xs ys ls W) (i : Nat) (hi : i < nc) : ∃ g, ao = some ⟨g, 0, none⟩ ∧ n = nc ∧ (∃ u, W.cell? ⟨g, i, none⟩ = some u) ∧ W.frozen? ⟨g, i, none⟩ = false := by
  obtain ⟨cs, k1, k2⟩ := h.kids
  rcases k2.form with ⟨e, h0⟩ | ⟨g, cap', sp, e, h1, h2, h3, h4, h5⟩
  · rw [h0] at k1; simp at k1; omega
  · simp only [Value.slice.injEq] at e
    obtain ⟨rfl, e2, rfl⟩ := e
    refine ⟨g, rfl, by omega, ?_, h4.frozen i⟩
    rw [h4.cell]
    exact ⟨_, List.getElem?_eq_getElem (by simp [iv]; omega)⟩
theorem Tx.form {base m : Nat} {x : Value} (h : Tx W base x m) : ∃ ao n cap, x = .slice ao n cap := by
  obtain ⟨zs, _, hs, _⟩ := h
  exact sl_form hs
theorem Tx.at {base n cap : Nat} {ao : Option Addr} (h : Tx W base (.slice ao n cap) (lenV (.slice ao n cap))) (k : Nat) (hk : k < n) : ∃ b off z cs, ao = some ⟨b, off, none⟩ ∧ W.cell? ⟨b, off + k, none⟩ = some (.int .u8 z) ∧ (0 ≤ z ∧ z ≤ 255) ∧ base ≤ b ∧ Blk W b 5 cs := by
  obtain ⟨zs, hl, ⟨hok, ao', cap', he, h1, h2, h3, h4⟩, hb⟩ := h
  simp only [Value.slice.injEq] at he
  obtain ⟨rfl, rfl, rfl⟩ := he
  obtain ⟨b, off, rfl, hc⟩ := h4 (by intro e; rw [e] at hk; simp at hk)
  obtain ⟨b1, cs, b2⟩ := hb b rfl
  exact ⟨b, off, _, cs, rfl, hc k hk, hok _ (by simp only [List.getD, List.getElem?_eq_getElem hk]; exact List.getElem_mem hk), b1, b2⟩
end

end Go.Proofs.Yteadpfdopadfbaa
