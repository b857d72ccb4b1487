/- The document's copy of a node: what it holds while it is made (incipitref10.own, and rows that grow). -/
import Derived.Test.YtoamdbjailpgdaaNKeep
import Derived.Test.YtoamdbjailpgdaaNClone
namespace Go.Proofs.Ytoamdbjailpgdaa
set_option maxRecDepth 20000
open Go.RowKit Go.Shelf
set_option linter.unusedVariables false
set_option linter.unusedSimpArgs false
set_option maxRecDepth 100000
attribute [local go_sem] Oper.semAt_some

theorem own_any (w : World) (u : Value) (zs : List Int) (h : Sl w u zs) (hl : zs.length ≤ 1000) :
    Calls Try.prog 45 #[u] w fun e w' => ∃ r, e = .returned r ∧ ownsB w' w.heap.size r zs ∧ Below w.heap.size w w' := by
  obtain ⟨a, n, c, rfl⟩ := sl_form h
  obtain ⟨v', w', hr, h1, h2, _⟩ := append_keepN w w.heap.size none 0 0 [] zs (World.ownsRow_nil _ _ _ _) a n c h (by simp; omega) (Nat.le_refl _)
  rw [List.nil_append] at h1
  have HR := hide hr
  have H1 := hide h1
  have H2 : Hid (Below w.heap.size w w') := (Below.refl _ w).grown h2 (Nat.le_refl _) (fun k hk => by cases hk)
  clear hr h1 h2 h
  go_enter Try.func45, Try.ntmps45
  go_wp2_with (at_builtin; refine wpList_append_run _ rfl _ _ 34 rfl _ _ rfl rfl _ _ HR.out ?_)
  go_ret
  exact ⟨_, rfl, H1.out, H2.out⟩

/-- how far the copy is: what was, the boxes, the rows, the texts that were put into memory of their own -/
structure Rc (w : World) (bx : List Value) (cb : Nat) (lf : Bool) (pb kb cv : Value) (cs : List Int) (p k : Value) (xs : List (Value × Value)) (ys : List Value) (ex : List (Value × List Int)) (W : World) : Prop where
  ex : ∀ q ∈ ex, ownsB W w.heap.size q.1 q.2
  cbox : Blk W cb 26 [.bool lf, pb, kb, cv]
  prow : W.ownsRow w.heap.size 36 2 p xs.length (flatP xs)
  krow : W.ownsRow w.heap.size 34 1 k ys.length ys
  ints : Ints W w.heap.size cv cs
  b0 : Blk W w.heap.size 26 bx
  b1 : Blk W (w.heap.size + 1) 26 [.bool false, .slice none 0 0, .slice none 0 0, .slice none 0 0]
  cbt : w.heap.size + 2 ≤ cb
  below : Below w.heap.size w W
section
variable {w : World} {bx : List Value} {cb : Nat} {lf : Bool} {pb kb cv : Value} {cs : List Int} {p k : Value} {xs : List (Value × Value)} {ys : List Value} {ex : List (Value × List Int)} {W W' : World}

theorem Rc.size (h : Rc w bx cb lf pb kb cv cs p k xs ys ex W) : w.heap.size < W.heap.size := h.b0.lt
theorem Rc.keep (h : Rc w bx cb lf pb kb cv cs p k xs ys ex W) (hb : Below W.heap.size W W') : Rc w bx cb lf pb kb cv cs p k xs ys ex W' := by
  have ho := Only.of_below (fun _ => False) hb
  exact ⟨fun q hq => (h.ex q hq).only ho (fun _ _ h => h), h.cbox.only ho (fun h => h), ownsRow_only h.prow ho (fun _ _ h => h), ownsRow_only h.krow ho (fun _ _ h => h), h.ints.below hb, h.b0.only ho (fun h => h), h.b1.only ho (fun h => h), h.cbt, h.below.trans (hb.mono h.below.size)⟩
theorem Rc.own (h : Rc w bx cb lf pb kb cv cs p k xs ys ex W) (u : Value) (zs : List Int) (hu : Sl w u zs) (hl : zs.length ≤ 1000) :
    Calls Try.prog 45 #[u] W fun e w' => ∃ r, e = .returned r ∧ Rc w bx cb lf pb kb cv cs p k xs ys (ex ++ [(r, zs)]) w' := by
  refine (own_any W u zs (hu.below h.below) hl).mono ?_
  rintro e w' ⟨r, rfl, ho, hb⟩
  have hk := h.keep hb
  refine ⟨r, rfl, { hk with ex := fun q hq => ?_ }⟩
  rcases List.mem_append.1 hq with hq | hq
  · exact hk.ex q hq
  · obtain rfl : q = (r, zs) := by simpa using hq
    exact own_le' ho (Nat.le_of_lt h.size)

theorem Rc.pushP (h : Rc w bx cb lf pb kb cv cs p k xs ys ex W) (g : Nat) (a1 a2 : Option Addr) (n1 n2 c1 c2 : Nat) (hg : Blk W g 36 [.slice a1 n1 c1, .slice a2 n2 c2]) (hl : xs.length ≤ 1000) :
    ∃ p' w', (Builtin.append_ #[22, 22] 22 #[p, .slice (some ⟨g, 0, none⟩) 1 1]).run Try.prog W = .ok p' w' ∧ Rc w bx cb lf pb kb cv cs p' k (xs ++ [(.slice a1 n1 c1, .slice a2 n2 c2)]) ys ex w' ∧ ∃ a c, p' = .slice a (xs.length + 1) c := by
  obtain ⟨i0, hi, hz0, hz1, hz2⟩ := info_parts infoPair
  obtain ⟨p', w', hr, h1, h2, _, h4⟩ := run_append_own_at (P := Try.prog) W w.heap.size 22 22 36 i0 _ 2 48 Try.underlying22 hi hz0 hz1 hz2 rfl (by decide) p xs.length (flatP xs) h.prow ⟨g, 0, none⟩ 1 1 [.slice a1 n1 c1, .slice a2 n2 c2] rfl
    (fun j u hj => by
      have hj2 : j < 2 := (List.getElem?_eq_some_iff.1 hj).1
      rw [Addr.add_mid, Nat.zero_add, hg.cell]
      exact hj) (by intro u hu; simp at hu; rcases hu with rfl | rfl <;> rfl) (by unfold maxLen; omega) (by omega) (Nat.le_of_lt h.size)
  have ho : Only (fun j => p.ownBlock = some j) W w' := (Only.refl _ W).grown h2 (fun j hj _ => hj)
  refine ⟨p', w', hr, ⟨fun q hq => (h.ex q hq).only ho (fun j hj e => rows_ne (h.ex q hq) h.prow (by decide) hj e), h.cbox.only ho (row_not_blk h.prow h.cbox (by decide)), ?_, ownsRow_only h.krow ho (fun j hj e => rows_ne h.krow h.prow (by decide) hj e), h.ints.only ho (fun j hj e => rows_ne h.ints h.prow (by decide) hj e), h.b0.only ho (row_not_blk h.prow h.b0 (by decide)), h.b1.only ho (row_not_blk h.prow h.b1 (by decide)), h.cbt, h.below.trans (ho.below (Nat.le_of_lt h.size) (fun j hj e => by have := (row_blk h.prow e).1; omega))⟩, own_form' h1⟩
  rw [flatP_snoc, List.length_append]
  exact h1
theorem Rc.pushK (h : Rc w bx cb lf pb kb cv cs p k xs ys ex W) (g : Nat) (a1 : Option Addr) (n1 c1 : Nat) (hg : Blk W g 34 [.slice a1 n1 c1]) (hl : ys.length ≤ 1000) :
    ∃ k' w', (Builtin.append_ #[23, 23] 23 #[k, .slice (some ⟨g, 0, none⟩) 1 1]).run Try.prog W = .ok k' w' ∧ Rc w bx cb lf pb kb cv cs p k' xs (ys ++ [.slice a1 n1 c1]) ex w' ∧ ∃ a c, k' = .slice a (ys.length + 1) c := by
  obtain ⟨i0, hi, hz0, hz1, hz2⟩ := info_parts infoRow
  obtain ⟨k', w', hr, h1, h2, _, h4⟩ := run_append_own_at (P := Try.prog) W w.heap.size 23 23 34 i0 _ 1 24 Try.underlying23 hi hz0 hz1 hz2 rfl (by decide) k ys.length ys h.krow ⟨g, 0, none⟩ 1 1 [.slice a1 n1 c1] rfl
    (fun j u hj => by
      have hj2 : j < 1 := (List.getElem?_eq_some_iff.1 hj).1
      rw [Addr.add_mid, Nat.zero_add, hg.cell]
      exact hj) (by intro u hu; simp at hu; subst hu; rfl) (by unfold maxLen; omega) (by omega) (Nat.le_of_lt h.size)
  have ho : Only (fun j => k.ownBlock = some j) W w' := (Only.refl _ W).grown h2 (fun j hj _ => hj)
  refine ⟨k', w', hr, ⟨fun q hq => (h.ex q hq).only ho (fun j hj e => rows_ne (h.ex q hq) h.krow (by decide) hj e), h.cbox.only ho (row_not_blk h.krow h.cbox (by decide)), ownsRow_only h.prow ho (fun j hj e => rows_ne h.prow h.krow (by decide) hj e), ?_, h.ints.only ho (fun j hj e => rows_ne h.ints h.krow (by decide) hj e), h.b0.only ho (row_not_blk h.krow h.b0 (by decide)), h.b1.only ho (row_not_blk h.krow h.b1 (by decide)), h.cbt, h.below.trans (ho.below (Nat.le_of_lt h.size) (fun j hj e => by have := (row_blk h.krow e).1; omega))⟩, own_form' h1⟩
  rw [List.length_append]
  exact h1
theorem Rc.put (h : Rc w bx cb lf pb kb cv cs p k xs ys ex W) (i : Nat) (u pb' kb' : Value) (hc : [.bool lf, pb, kb, cv].set i u = [.bool lf, pb', kb', cv]) : Rc w bx cb lf pb' kb' cv cs p k xs ys ex (W.setCell ⟨cb, i, none⟩ u) := by
  have ho : Only (· = cb) W (W.setCell ⟨cb, i, none⟩ u) := (Only.refl (· = cb) W).setCell ⟨cb, i, none⟩ _ (fun _ => rfl)
  have hcb := h.cbt
  refine ⟨fun q hq => (h.ex q hq).only ho (fun j hj e => row_not_blk (h.ex q hq) h.cbox (by decide) (e ▸ hj)), ?_, ownsRow_only h.prow ho (fun j hj e => row_not_blk h.prow h.cbox (by decide) (e ▸ hj)), ownsRow_only h.krow ho (fun j hj e => row_not_blk h.krow h.cbox (by decide) (e ▸ hj)), h.ints.only ho (fun j hj e => row_not_blk h.ints h.cbox (by decide) (e ▸ hj)), h.b0.only ho (by omega), h.b1.only ho (by omega), h.cbt, h.below.trans (ho.below (Nat.le_of_lt h.size) (fun j hj e => by omega))⟩
  have := h.cbox.set i u
  rwa [hc] at this
end

/-- numbers put behind nothing -/
theorem append_ints (w : World) (B : Nat) (a : Option Addr) (n c : Nat) (cs : List Int) (h : Is w (.slice a n c) cs) (hl : cs.length ≤ 1000) (hB : B ≤ w.heap.size) :
    ∃ v' w', (Builtin.append_ #[24, 24] 24 #[.slice none 0 0, .slice a n c]).run Try.prog w = .ok v' w' ∧ Ints w' B v' cs ∧ Below w.heap.size w w' := by
  obtain ⟨i0, hi, hz0, hz1, hz2⟩ := info_parts infoInt
  obtain ⟨ao, cap, he, hc, hm, hcell⟩ := h
  simp only [Value.slice.injEq] at he
  obtain ⟨rfl, rfl, rfl⟩ := he
  cases a with
  | none =>
    have h0 : cs = [] := by
      by_cases h0 : cs = []
      · exact h0
      · obtain ⟨_, _, he, _⟩ := hcell h0
        cases he
    subst h0
    exact ⟨.slice none 0 0, w, by simp [Builtin.append_, run_underlying Try.underlying24, sizeOf, typeInfo, hi, Builtin.lenOf, Builtin.firstCells], Ints.nil _ _, Below.refl _ _⟩
  | some ad =>
    obtain ⟨v', w', hr, h1, h2, _, _⟩ := run_append_own_at (P := Try.prog) w B 24 24 3 i0 _ 1 8 Try.underlying24 hi hz0 hz1 hz2 rfl (by decide) (.slice none 0 0) 0 [] (World.ownsRow_nil _ _ _ _) ad cs.length c (iv cs) (by simp [iv])
      (fun j u hj => by
        have hj2 : j < cs.length := by have := (List.getElem?_eq_some_iff.1 hj).1; simpa [iv] using this
        obtain ⟨b, off, he, hx⟩ := hcell (by intro e; rw [e] at hj2; simp at hj2)
        simp only [Option.some.injEq] at he
        subst he
        rw [Addr.add_mid, hx j hj2, ← hj]
        simp [iv, List.getD, hj2]) (by intro u hu; simp [iv] at hu; obtain ⟨z, _, rfl⟩ := hu; rfl) (by unfold maxLen; omega) (by omega) hB
    refine ⟨v', w', hr, ?_, (Below.refl _ w).grown h2 (Nat.le_refl _) (fun k hk => by cases hk)⟩
    unfold Ints
    rw [Nat.zero_add, List.nil_append] at h1
    exact h1

end Go.Proofs.Ytoamdbjailpgdaa
