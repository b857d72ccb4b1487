/- What package node's Clone has laid so far ('Cl'): a shelf of bytes, rows of pairs and keys, the node in its box; what keeps it. -/
import Derived.Test.YtoamdbjailpgdaaNShelf
import Derived.Test.YtoamdbjailpgdaaNSl
namespace Go.Proofs.Ytoamdbjailpgdaa
set_option maxRecDepth 20000
open Go.RowKit
set_option linter.unusedVariables false
set_option linter.unusedSimpArgs false
set_option maxRecDepth 100000

structure Cl (sb cb base base0 : Nat) (lf : Bool) (pb kb cv : Value) (cs : List Int) (L : Nat) (v p k : Value) (xs : List (Value × Value)) (ys : List Value) (ex : List (Value × List Int)) (W : World) : Prop where
  sbox : Blk W sb 65 [v]
  row : ∃ XS, ownsB W base v XS ∧ XS.length ≤ L
  ex : ∀ q ∈ ex, Sl W q.1 q.2 ∧ Held W base v q.1
  cbox : Blk W cb 26 [.bool lf, pb, kb, cv]
  prow : W.ownsRow base 36 2 p xs.length (flatP xs)
  krow : W.ownsRow base 34 1 k ys.length ys
  ints : Ints W base0 cv cs
section
variable {sb cb base base0 : Nat} {lf : Bool} {pb kb cv : Value} {cs : List Int} {L : Nat} {v p k : Value} {xs : List (Value × Value)} {ys : List Value} {ex : List (Value × List Int)} {W W' : World}

/-- what is written elsewhere -/
theorem Cl.only {S : Nat → Prop} (h : Cl sb cb base base0 lf pb kb cv cs L v p k xs ys ex W) (ho : Only S W W') (h1 : ¬ S sb) (h2 : ¬ S cb) (hS : ∀ j, S j → j < base) (h6 : ∀ j, cv.ownBlock = some j → ¬ S j) : Cl sb cb base base0 lf pb kb cv cs L v p k xs ys ex W' := by
  obtain ⟨XS, a1, a2⟩ := h.row
  have hown : ∀ {e : TypeId} {size n : Nat} {u : Value} {zs : List Value}, W.ownsRow base e size u n zs → ∀ j, u.ownBlock = some j → ¬ S j := fun hr j hj hs => by have := (row_blk hr hj).1; have := hS j hs; omega
  refine ⟨h.sbox.only ho h1, ⟨XS, ownsRow_only a1 ho (hown a1), a2⟩, fun q hq => ?_, h.cbox.only ho h2, ownsRow_only h.prow ho (hown h.prow), ownsRow_only h.krow ho (hown h.krow), h.ints.only ho h6⟩
  obtain ⟨b1, b2⟩ := h.ex q hq
  have hn : ∀ j, q.1.ownBlock = some j → ¬ S j := fun j hj hs => by have := (b2 j hj).1; have := hS j hs; omega
  refine ⟨b1.only ho hn, fun j hj => ?_⟩
  obtain ⟨c1, ⟨cs', c2⟩, c3⟩ := b2 j hj
  exact ⟨c1, ⟨cs', c2.only ho (hn j hj)⟩, c3⟩
theorem Cl.below (h : Cl sb cb base base0 lf pb kb cv cs L v p k xs ys ex W) (hb : Below W.heap.size W W') : Cl sb cb base base0 lf pb kb cv cs L v p k xs ys ex W' :=
  h.only (Only.of_below (fun _ => False) hb) (fun h => h) (fun h => h) (fun _ h => h.elim) (fun _ _ h => h)

theorem keep_cl (h : Cl sb cb base base0 lf pb kb cv cs L v p k xs ys ex W) (u : Value) (zs : List Int) (hu : Sl W u zs) (hl : L + zs.length ≤ 1000000) (hbase : base ≤ W.heap.size) :
    Calls Try.prog 48 #[.pointer (some ⟨sb, 0, none⟩), u] W fun e w' => ∃ v' r, e = .returned r ∧ Cl sb cb base base0 lf pb kb cv cs (L + zs.length) v' p k xs ys (ex ++ [(r, zs)]) w' ∧ Only (fun j => j = sb ∨ v.ownBlock = some j) W w' ∧ ∀ j, v'.ownBlock = some j → v.ownBlock = some j ∨ W.heap.size ≤ j := by
  obtain ⟨XS, a1, a2⟩ := h.row
  refine (keep_any W base sb v u XS zs h.sbox a1 hu (by omega) hbase).mono ?_
  rintro e w' ⟨v', r, rfl, h1, h2, h3, h4, h5, h6, h7⟩
  refine ⟨v', r, rfl, ⟨h1, ⟨XS ++ zs, h2, by rw [List.length_append]; omega⟩, fun q hq => ?_, h.cbox.only h6 (fun e => ?_), ownsRow_only h.prow h6 (fun j hj e => ?_), ownsRow_only h.krow h6 (fun j hj e => ?_), h.ints.only h6 (fun j hj e => ?_)⟩, h6, h7⟩
  · rcases List.mem_append.1 hq with hq | hq
    · exact h5 q.1 q.2 (h.ex q hq).1 (h.ex q hq).2
    · obtain rfl : q = (r, zs) := by simpa using hq
      exact ⟨h3, h4⟩
  · rcases e with e | e
    · exact h.sbox.ne h.cbox (by decide) e.symm
    · exact row_not_blk a1 h.cbox (by decide) e
  · rcases e with rfl | e
    · exact row_not_blk h.prow h.sbox (by decide) hj
    · exact rows_ne h.prow a1 (by decide) hj e
  · rcases e with rfl | e
    · exact row_not_blk h.krow h.sbox (by decide) hj
    · exact rows_ne h.krow a1 (by decide) hj e
  · rcases e with rfl | e
    · exact row_not_blk h.ints h.sbox (by decide) hj
    · exact rows_ne h.ints a1 (by decide) hj e

theorem push_pair (h : Cl sb cb base base0 lf pb kb cv cs L v p k xs ys ex W) (g : Nat) (a1 a2 : Option Addr) (n1 n2 c1 c2 : Nat) (hg : Blk W g 36 [.slice a1 n1 c1, .slice a2 n2 c2]) (hl : xs.length ≤ 1000) (hbase : base ≤ W.heap.size) :
    ∃ p' w', (Builtin.append_ #[22, 22] 22 #[p, .slice (some ⟨g, 0, none⟩) 1 1]).run Try.prog W = .ok p' w' ∧ Cl sb cb base base0 lf pb kb cv cs L v p' k (xs ++ [(.slice a1 n1 c1, .slice a2 n2 c2)]) ys ex w' ∧ Only (fun j => p.ownBlock = some j) W w' ∧ (∀ j, p'.ownBlock = some j → p.ownBlock = some j ∨ W.heap.size ≤ j) ∧ ∃ a c, p' = .slice a (xs.length + 1) c := by
  obtain ⟨i0, hi, hz0, hz1, hz2⟩ := info_parts infoPair
  obtain ⟨p', w', hr, h1, h2, _, h4⟩ := run_append_own_at (P := Try.prog) W base 22 22 36 i0 _ 2 48 Try.underlying22 hi hz0 hz1 hz2 rfl (by decide) p xs.length (flatP xs) h.prow ⟨g, 0, none⟩ 1 1 [.slice a1 n1 c1, .slice a2 n2 c2] rfl
    (fun j u hj => by
      have hj2 : j < 2 := (List.getElem?_eq_some_iff.1 hj).1
      rw [Addr.add_mid, Nat.zero_add, hg.cell]
      exact hj) (by intro u hu; simp at hu; rcases hu with rfl | rfl <;> rfl) (by unfold maxLen; omega) (by omega) hbase
  have ho : Only (fun j => p.ownBlock = some j) W w' := (Only.refl _ W).grown h2 (fun j hj _ => hj)
  have hu8 : ∀ j cs, p.ownBlock = some j → ¬ Blk W j 5 cs := fun j cs hj hB => row_not_blk h.prow hB (by decide) hj
  have hst : Stays base W w' v v := Stays.other ho (fun j hj cs => hu8 j cs hj)
  obtain ⟨XS, b1, b2⟩ := h.row
  refine ⟨p', w', hr, ⟨h.sbox.only ho (row_not_blk h.prow h.sbox (by decide)), ⟨XS, ownsRow_only b1 ho (fun j hj e => rows_ne b1 h.prow (by decide) hj e), b2⟩, fun q hq => hst q.1 q.2 (h.ex q hq).1 (h.ex q hq).2, h.cbox.only ho (row_not_blk h.prow h.cbox (by decide)), ?_, ownsRow_only h.krow ho (fun j hj e => rows_ne h.krow h.prow (by decide) hj e), h.ints.only ho (fun j hj e => rows_ne h.ints h.prow (by decide) hj e)⟩, ho, fun j hj => ?_, ?_⟩
  · rw [flatP_snoc, List.length_append]
    exact h1
  · rcases h4 with h | h
    · exact .inl (h ▸ hj)
    · rw [h] at hj
      obtain rfl := Option.some.inj hj
      exact .inr (Nat.le_refl _)
  · exact own_form' h1

theorem push_key (h : Cl sb cb base base0 lf pb kb cv cs L v p k xs ys ex W) (g : Nat) (a1 : Option Addr) (n1 c1 : Nat) (hg : Blk W g 34 [.slice a1 n1 c1]) (hl : ys.length ≤ 1000) (hbase : base ≤ W.heap.size) :
    ∃ k' w', (Builtin.append_ #[23, 23] 23 #[k, .slice (some ⟨g, 0, none⟩) 1 1]).run Try.prog W = .ok k' w' ∧ Cl sb cb base base0 lf pb kb cv cs L v p k' xs (ys ++ [.slice a1 n1 c1]) ex w' ∧ Only (fun j => k.ownBlock = some j) W w' ∧ (∀ j, k'.ownBlock = some j → k.ownBlock = some j ∨ W.heap.size ≤ j) ∧ ∃ a c, k' = .slice a (ys.length + 1) c := by
  obtain ⟨i0, hi, hz0, hz1, hz2⟩ := info_parts infoRow
  obtain ⟨k', w', hr, h1, h2, _, h4⟩ := run_append_own_at (P := Try.prog) W base 23 23 34 i0 _ 1 24 Try.underlying23 hi hz0 hz1 hz2 rfl (by decide) k ys.length ys h.krow ⟨g, 0, none⟩ 1 1 [.slice a1 n1 c1] rfl
    (fun j u hj => by
      have hj2 : j < 1 := (List.getElem?_eq_some_iff.1 hj).1
      rw [Addr.add_mid, Nat.zero_add, hg.cell]
      exact hj) (by intro u hu; simp at hu; subst hu; rfl) (by unfold maxLen; omega) (by omega) hbase
  have ho : Only (fun j => k.ownBlock = some j) W w' := (Only.refl _ W).grown h2 (fun j hj _ => hj)
  have hu8 : ∀ j cs, k.ownBlock = some j → ¬ Blk W j 5 cs := fun j cs hj hB => row_not_blk h.krow hB (by decide) hj
  have hst : Stays base W w' v v := Stays.other ho (fun j hj cs => hu8 j cs hj)
  obtain ⟨XS, b1, b2⟩ := h.row
  refine ⟨k', w', hr, ⟨h.sbox.only ho (row_not_blk h.krow h.sbox (by decide)), ⟨XS, ownsRow_only b1 ho (fun j hj e => rows_ne b1 h.krow (by decide) hj e), b2⟩, fun q hq => hst q.1 q.2 (h.ex q hq).1 (h.ex q hq).2, h.cbox.only ho (row_not_blk h.krow h.cbox (by decide)), ownsRow_only h.prow ho (fun j hj e => rows_ne h.prow h.krow (by decide) hj e), ?_, h.ints.only ho (fun j hj e => rows_ne h.ints h.krow (by decide) hj e)⟩, ho, fun j hj => ?_, ?_⟩
  · rw [List.length_append]
    exact h1
  · rcases h4 with h | h
    · exact .inl (h ▸ hj)
    · rw [h] at hj
      obtain rfl := Option.some.inj hj
      exact .inr (Nat.le_refl _)
  · exact own_form' h1

/-- the node's box is written -/
theorem Cl.put (h : Cl sb cb base base0 lf pb kb cv cs L v p k xs ys ex W) (i : Nat) (u pb' kb' : Value) (hc : [.bool lf, pb, kb, cv].set i u = [.bool lf, pb', kb', cv]) : Cl sb cb base base0 lf pb' kb' cv cs L v p k xs ys ex (W.setCell ⟨cb, i, none⟩ u) ∧ Only (· = cb) W (W.setCell ⟨cb, i, none⟩ u) := by
  have ho : Only (· = cb) W (W.setCell ⟨cb, i, none⟩ u) := (Only.refl (· = cb) W).setCell ⟨cb, i, none⟩ _ (fun _ => rfl)
  have hst : Stays base W (W.setCell ⟨cb, i, none⟩ u) v v := Stays.other ho (fun j hj cs => by rw [hj]; exact fun hB => hB.ne h.cbox (by decide) rfl)
  obtain ⟨XS, b1, b2⟩ := h.row
  refine ⟨⟨h.sbox.only ho (h.sbox.ne h.cbox (by decide)), ⟨XS, ownsRow_only b1 ho (fun j hj e => row_not_blk b1 h.cbox (by decide) (e ▸ hj)), b2⟩, fun q hq => hst q.1 q.2 (h.ex q hq).1 (h.ex q hq).2, ?_, ownsRow_only h.prow ho (fun j hj e => row_not_blk h.prow h.cbox (by decide) (e ▸ hj)), ownsRow_only h.krow ho (fun j hj e => row_not_blk h.krow h.cbox (by decide) (e ▸ hj)), h.ints.only ho (fun j hj e => row_not_blk h.ints h.cbox (by decide) (e ▸ hj))⟩, ho⟩
  have := h.cbox.set i u
  rwa [hc] at this
end

end Go.Proofs.Ytoamdbjailpgdaa
