/- A node that is made of what is read: its box, the rows that grow, and what it is read of (R). -/
import Derived.Test.YthnppkeifhnceaaNRdK
import Derived.Test.YthnppkeifhnceaaNNd
import Derived.Test.YthnppkeifhnceaaRegionC
namespace Go.Proofs.Ythnppkeifhnceaa
set_option maxRecDepth 20000
open Go.RowKit Go.Shelf
set_option linter.unusedVariables false
set_option linter.unusedSimpArgs false
set_option maxRecDepth 100000
attribute [local go_sem] Oper.semAt_some

/-- what is written from 'lim' on does not touch it -/
def Stab (lim : Nat) (R : World → Prop) : Prop := ∀ W W', R W → Only (fun j => lim ≤ j) W W' → R W'

structure Ng (w : World) (lim cb : Nat) (R : World → Prop) (lf : Bool) (pb kb vb p k c : Value) (xs : List (Value × Value)) (ys : List Value) (cs : List Int) (ex : List (Value × List Int)) (W : World) : Prop where
  ex : ∀ q ∈ ex, ownsB W lim q.1 q.2
  cbox : Blk W cb 26 [.bool lf, pb, kb, vb]
  prow : W.ownsRow lim 36 2 p xs.length (flatP xs)
  krow : W.ownsRow lim 34 1 k ys.length ys
  ints : Ints W lim c cs
  b0 : Blk W w.heap.size 26 [.bool false, .slice none 0 0, .slice none 0 0, .slice none 0 0]
  lt : w.heap.size < lim
  le : lim ≤ cb
  rd : R W
  below : Below w.heap.size w W
section
variable {w : World} {lim cb : Nat} {R : World → Prop} {lf : Bool} {pb kb vb p k c : Value} {xs : List (Value × Value)} {ys : List Value} {cs : List Int} {ex : List (Value × List Int)} {W W' : World}

theorem Ng.size (h : Ng w lim cb R lf pb kb vb p k c xs ys cs ex W) : lim < W.heap.size := Nat.lt_of_le_of_lt h.le h.cbox.lt
theorem Ng.own_from (h : Ng w lim cb R lf pb kb vb p k c xs ys cs ex W) : w.heap.size ≤ W.heap.size := h.below.size
/-- what is read of is changed, ahead of 'lim' -/
theorem Ng.turn (h : Ng w lim cb R lf pb kb vb p k c xs ys cs ex W) {S : Nat → Prop} {R' : World → Prop} (ho : Only S W W') (hS : ∀ j, S j → w.heap.size < j ∧ j < lim) (hR : R' W') : Ng w lim cb R' lf pb kb vb p k c xs ys cs ex W' := by
  have hn : ∀ {e : TypeId} {size n : Nat} {u : Value} {zs : List Value}, W.ownsRow lim e size u n zs → ∀ j, u.ownBlock = some j → ¬ S j := fun hr j hj hs => by have := (row_blk hr hj).1; have := (hS j hs).2; omega
  have hle := h.le
  exact ⟨fun q hq => ownsRow_only (h.ex q hq) ho (hn (h.ex q hq)), h.cbox.only ho (fun hs => by have := hS _ hs; omega), ownsRow_only h.prow ho (hn h.prow), ownsRow_only h.krow ho (hn h.krow), h.ints.only ho (hn h.ints), h.b0.only ho (fun hs => by have := hS _ hs; omega), h.lt, h.le, hR, h.below.trans (ho.below h.below.size (fun j hj hs => by have := hS _ hs; omega))⟩
theorem Ng.keep (h : Ng w lim cb R lf pb kb vb p k c xs ys cs ex W) (hst : Stab lim R) (hb : Below W.heap.size W W') : Ng w lim cb R lf pb kb vb p k c xs ys cs ex W' :=
  h.turn (Only.of_below (fun _ => False) hb) (fun _ h => h.elim) (hst W W' h.rd (Only.of_below _ hb))
theorem Ng.add (h : Ng w lim cb R lf pb kb vb p k c xs ys cs ex W) (v : Value) (q : List Int) (ho : ownsB W lim v q) : Ng w lim cb R lf pb kb vb p k c xs ys cs (ex ++ [(v, q)]) W := by
  refine ⟨fun x hx => ?_, h.cbox, h.prow, h.krow, h.ints, h.b0, h.lt, h.le, h.rd, h.below⟩
  rcases List.mem_append.1 hx with hx | hx
  · exact h.ex x hx
  · obtain rfl : x = (v, q) := by simpa using hx
    exact ho
/-- one of the rows is turned -/
theorem Ng.row (h : Ng w lim cb R lf pb kb vb p k c xs ys cs ex W) (hst : Stab lim R) {u : Value} {e : TypeId} {size n : Nat} {zs : List Value} (hu : W.ownsRow lim e size u n zs) (ho : Only (fun j => u.ownBlock = some j) W W') (hne : e ≠ 5) (hnn : e ≠ 26) :
    (∀ q ∈ ex, ownsB W' lim q.1 q.2) ∧ Blk W' cb 26 [.bool lf, pb, kb, vb] ∧ Blk W' w.heap.size 26 [.bool false, .slice none 0 0, .slice none 0 0, .slice none 0 0] ∧ R W' ∧ Below w.heap.size w W' ∧
      (e ≠ 36 → W'.ownsRow lim 36 2 p xs.length (flatP xs)) ∧ (e ≠ 34 → W'.ownsRow lim 34 1 k ys.length ys) ∧ (e ≠ 3 → Ints W' lim c cs) := by
  have hlt := h.lt
  refine ⟨fun q hq => ownsRow_only (h.ex q hq) ho (fun j hj e => rows_ne (h.ex q hq) hu (fun e => hne e.symm) hj e), h.cbox.only ho (row_not_blk hu h.cbox hnn), h.b0.only ho (row_not_blk hu h.b0 hnn), hst W W' h.rd (ho.mono (fun j _ hj => (row_blk hu hj).1)), h.below.trans (ho.below h.below.size (fun j hj e => by have := (row_blk hu e).1; omega)), fun hx => ownsRow_only h.prow ho (fun j hj e => rows_ne h.prow hu (fun e => hx e.symm) hj e), fun hx => ownsRow_only h.krow ho (fun j hj e => rows_ne h.krow hu (fun e => hx e.symm) hj e), fun hx => h.ints.only ho (fun j hj e => rows_ne h.ints hu (fun e => hx e.symm) hj e)⟩
theorem Ng.pushP (h : Ng w lim cb R lf pb kb vb p k c xs ys cs ex W) (hst : Stab lim R) (g : Nat) (a1 a2 : Option Addr) (n1 n2 c1 c2 : Nat) (hg : Blk W g 36 [.slice a1 n1 c1, .slice a2 n2 c2]) (hl : xs.length ≤ 1000) :
    ∃ p' w', (Builtin.append_ #[22, 22] 22 #[p, .slice (some ⟨g, 0, none⟩) 1 1]).run Try.prog W = .ok p' w' ∧ Ng w lim cb R lf pb kb vb p' k c (xs ++ [(.slice a1 n1 c1, .slice a2 n2 c2)]) ys cs ex w' ∧ ∃ a c, p' = .slice a (xs.length + 1) c := by
  obtain ⟨i0, hi, hz0, hz1, hz2⟩ := info_parts infoPair
  obtain ⟨p', w', hr, h1, h2, _, h4⟩ := run_append_own_at (P := Try.prog) W lim 22 22 36 i0 _ 2 48 Try.underlying22 hi hz0 hz1 hz2 rfl (by decide) p xs.length (flatP xs) h.prow ⟨g, 0, none⟩ 1 1 [.slice a1 n1 c1, .slice a2 n2 c2] rfl
    (fun j u hj => by
      have hj2 : j < 2 := (List.getElem?_eq_some_iff.1 hj).1
      rw [Addr.add_mid, Nat.zero_add, hg.cell]
      exact hj) (by intro u hu; simp at hu; rcases hu with rfl | rfl <;> rfl) (by unfold maxLen; omega) (by omega) (Nat.le_of_lt h.size)
  have ho : Only (fun j => p.ownBlock = some j) W w' := (Only.refl _ W).grown h2 (fun j hj _ => hj)
  obtain ⟨a1, a2, a3, a4, a5, a6, a7, a8⟩ := h.row hst h.prow ho (by decide) (by decide)
  refine ⟨p', w', hr, ⟨a1, a2, ?_, a7 (by decide), a8 (by decide), a3, h.lt, h.le, a4, a5⟩, own_form' h1⟩
  rw [flatP_snoc, List.length_append]
  exact h1
theorem Ng.pushK (h : Ng w lim cb R lf pb kb vb p k c xs ys cs ex W) (hst : Stab lim R) (g : Nat) (a1 : Option Addr) (n1 c1 : Nat) (hg : Blk W g 34 [.slice a1 n1 c1]) (hl : ys.length ≤ 1000) :
    ∃ k' w', (Builtin.append_ #[23, 23] 23 #[k, .slice (some ⟨g, 0, none⟩) 1 1]).run Try.prog W = .ok k' w' ∧ Ng w lim cb R lf pb kb vb p k' c xs (ys ++ [.slice a1 n1 c1]) cs ex w' ∧ ∃ a c, k' = .slice a (ys.length + 1) c := by
  obtain ⟨i0, hi, hz0, hz1, hz2⟩ := info_parts infoRow
  obtain ⟨k', w', hr, h1, h2, _, h4⟩ := run_append_own_at (P := Try.prog) W lim 23 23 34 i0 _ 1 24 Try.underlying23 hi hz0 hz1 hz2 rfl (by decide) k ys.length ys h.krow ⟨g, 0, none⟩ 1 1 [.slice a1 n1 c1] rfl
    (fun j u hj => by
      have hj2 : j < 1 := (List.getElem?_eq_some_iff.1 hj).1
      rw [Addr.add_mid, Nat.zero_add, hg.cell]
      exact hj) (by intro u hu; simp at hu; subst hu; rfl) (by unfold maxLen; omega) (by omega) (Nat.le_of_lt h.size)
  have ho : Only (fun j => k.ownBlock = some j) W w' := (Only.refl _ W).grown h2 (fun j hj _ => hj)
  obtain ⟨a1, a2, a3, a4, a5, a6, a7, a8⟩ := h.row hst h.krow ho (by decide) (by decide)
  refine ⟨k', w', hr, ⟨a1, a2, a6 (by decide), ?_, a8 (by decide), a3, h.lt, h.le, a4, a5⟩, own_form' h1⟩
  rw [List.length_append]
  exact h1
theorem Ng.pushI (h : Ng w lim cb R lf pb kb vb p k c xs ys cs ex W) (hst : Stab lim R) (g : Nat) (x : Int) (hg : Blk W g 3 [.int .i64 x]) (hl : cs.length ≤ 1000) :
    ∃ c' w', (Builtin.append_ #[24, 24] 24 #[c, .slice (some ⟨g, 0, none⟩) 1 1]).run Try.prog W = .ok c' w' ∧ Ng w lim cb R lf pb kb vb p k c' xs ys (cs ++ [x]) ex w' ∧ ∃ a d, c' = .slice a (cs.length + 1) d := by
  obtain ⟨i0, hi, hz0, hz1, hz2⟩ := info_parts infoInt
  obtain ⟨c', w', hr, h1, h2, _, h4⟩ := run_append_own_at (P := Try.prog) W lim 24 24 3 i0 _ 1 8 Try.underlying24 hi hz0 hz1 hz2 rfl (by decide) c cs.length (iv cs) h.ints ⟨g, 0, none⟩ 1 1 [.int .i64 x] rfl
    (fun j u hj => by
      have hj2 : j < 1 := (List.getElem?_eq_some_iff.1 hj).1
      rw [Addr.add_mid, Nat.zero_add, hg.cell]
      exact hj) (by intro u hu; simp at hu; subst hu; rfl) (by unfold maxLen; omega) (by omega) (Nat.le_of_lt h.size)
  have ho : Only (fun j => c.ownBlock = some j) W w' := (Only.refl _ W).grown h2 (fun j hj _ => hj)
  obtain ⟨a1, a2, a3, a4, a5, a6, a7, a8⟩ := h.row hst h.ints ho (by decide) (by decide)
  refine ⟨c', w', hr, ⟨a1, a2, a6 (by decide), a7 (by decide), ?_, a3, h.lt, h.le, a4, a5⟩, own_form' h1⟩
  unfold Ints
  rw [List.length_append, show iv (cs ++ [x]) = iv cs ++ [.int .i64 x] by simp [iv]]
  exact h1
/-- the node's box is written -/
theorem Ng.put (h : Ng w lim cb R lf pb kb vb p k c xs ys cs ex W) (hst : Stab lim R) (i : Nat) (u pb' kb' vb' : Value) (hc : [.bool lf, pb, kb, vb].set i u = [.bool lf, pb', kb', vb']) : Ng w lim cb R lf pb' kb' vb' p k c xs ys cs ex (W.setCell ⟨cb, i, none⟩ u) := by
  have ho : Only (· = cb) W (W.setCell ⟨cb, i, none⟩ u) := (Only.refl (· = cb) W).setCell ⟨cb, i, none⟩ _ (fun _ => rfl)
  have hcb := h.le
  have hlt := h.lt
  refine ⟨fun q hq => ownsRow_only (h.ex q hq) ho (fun j hj e => row_not_blk (h.ex q hq) h.cbox (by decide) (e ▸ hj)), ?_, ownsRow_only h.prow ho (fun j hj e => row_not_blk h.prow h.cbox (by decide) (e ▸ hj)), ownsRow_only h.krow ho (fun j hj e => row_not_blk h.krow h.cbox (by decide) (e ▸ hj)), h.ints.only ho (fun j hj e => row_not_blk h.ints h.cbox (by decide) (e ▸ hj)), h.b0.only ho (by omega), h.lt, h.le, hst W _ h.rd (ho.mono (fun j _ e => by omega)), h.below.trans (ho.below h.below.size (fun j hj e => by omega))⟩
  have := h.cbox.set i u
  rwa [hc] at this
/-- what is handed over at the end -/
theorem Ng.val (h : Ng w lim cb R lf pb kb vb p k c xs ys cs ex W) {ps : List (List Int × List Int)} {ks : List (List Int)} (hx : xs.length = ps.length) (hy : ys.length = ks.length)
    (hP : ∀ i, i < ps.length → ((xs.getD i nil2).1, (ps.getD i ([], [])).1) ∈ ex ∧ ((xs.getD i nil2).2, (ps.getD i ([], [])).2) ∈ ex) (hK : ∀ i, i < ks.length → (ys.getD i nilS, ks.getD i []) ∈ ex) (hbp : ∀ i, i < ps.length → ByteOk (ps.getD i ([], [])).1 ∧ ByteOk (ps.getD i ([], [])).2) (hbk : ∀ i, i < ks.length → ByteOk (ks.getD i []))
    {S : Nat → Prop} (ho : Only S W W') (hS : ∀ j, S j → j = w.heap.size ∨ j = cb) : NdN W' w.heap.size (ndv lf p k c) ⟨lf, ps, ks, cs⟩ ∧ Below w.heap.size w W' := by
  have hlt := h.lt
  have hle := h.le
  have hn : ∀ {e : TypeId} {size n : Nat} {u : Value} {zs : List Value}, W.ownsRow lim e size u n zs → e ≠ 26 → ∀ j, u.ownBlock = some j → ¬ S j := fun hr hne j hj hs => by
    have := (row_blk hr hj).1
    rcases hS j hs with rfl | rfl
    · omega
    · exact row_not_blk hr h.cbox hne hj
  refine ⟨rc_val (ex := ex) (fun q hq => own_le' (ownsRow_only (h.ex q hq) ho (hn (h.ex q hq) (by decide))) (by omega)) (own_le' (ownsRow_only h.prow ho (hn h.prow (by decide))) (by omega)) (own_le' (ownsRow_only h.krow ho (hn h.krow (by decide))) (by omega)) ((h.ints.only ho (hn h.ints (by decide))).base (by omega)) hx hy hP hK hbp hbk, h.below.trans (ho.below h.below.size (fun j hj hs => by have := hS j hs; omega))⟩
end

/-! ### read by package pack's reader -/
def RdR (b lim : Nat) (zs : List Int) (er : Int) : World → Prop := fun W => RdK W b lim zs er
theorem RdR.stab (b lim : Nat) (zs : List Int) (er : Int) : Stab lim (RdR b lim zs er) := fun W W' h ho => RdK.only h ho (fun _ h => h)
section
variable {w : World} {lim cb b : Nat} {zr : List Int} {er : Int} {lf : Bool} {pb kb vb p k c : Value} {xs : List (Value × Value)} {ys : List Value} {cs : List Int} {ex : List (Value × List Int)} {W W' : World}
theorem Ng.text (h : Ng w lim cb (RdR b lim zr er) lf pb kb vb p k c xs ys cs ex W) (hb : w.heap.size < b) (most : Int) :
    Calls Try.prog 89 #[.pointer (some ⟨b, 0, none⟩), .int .i64 most] W fun e w' => ∃ v, e = .returned v ∧ Ng w lim cb (RdR b lim (textS zr er most).2.1 (textS zr er most).2.2) lf pb kb vb p k c xs ys cs (ex ++ [(v, (textS zr er most).1)]) w' := by
  refine (text_k h.rd).mono ?_
  rintro e w' ⟨v, rfl, ho, hg, hr⟩
  have hbl : b < lim := by obtain ⟨_, _, hh, _⟩ := h.rd; exact hh
  exact ⟨v, rfl, (h.turn (only_grown hg) (fun j hj => by omega) hr).add v _ (own_le' ho (Nat.le_of_lt h.size))⟩
theorem Ng.u16 (h : Ng w lim cb (RdR b lim zr er) lf pb kb vb p k c xs ys cs ex W) (hb : w.heap.size < b) :
    Calls Try.prog 90 #[.pointer (some ⟨b, 0, none⟩)] W fun e w' => e = .returned (.int .u16 (numOf (takeS zr er 2).1)) ∧ Ng w lim cb (RdR b lim (takeS zr er 2).2.1 (takeS zr er 2).2.2) lf pb kb vb p k c xs ys cs ex w' := by
  refine (u16_k h.rd).mono ?_
  rintro e w' ⟨rfl, hg, hr⟩
  have hbl : b < lim := by obtain ⟨_, _, hh, _⟩ := h.rd; exact hh
  exact ⟨rfl, h.turn (only_grown hg) (fun j hj => by omega) hr⟩
end

end Go.Proofs.Ythnppkeifhnceaa
