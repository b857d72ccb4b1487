/- What changes of a node share: its box and the result's box, rows that are cut. No package's function. -/
import Derived.Test.YtoamdbjailpgdaaNJoin
import Derived.Test.YtoamdbjailpgdaaNDel
namespace Go.Proofs.Ytoamdbjailpgdaa
set_option maxRecDepth 20000
open Go.RowKit Go.Shelf
set_option linter.unusedVariables false
set_option linter.unusedSimpArgs false
set_option maxRecDepth 100000

/-- a node's box, and the result's -/
def CgB (w : World) (A ar : List Value) (W : World) : Prop := Below w.heap.size w W ∧ Blk W w.heap.size 26 A ∧ Blk W (w.heap.size + 1) 26 ar
def CgS (w : World) (A : List Value) (n : Nd) (er : Int) (o : Nat) : Nat → (Nat → Value) → World → Prop := fun i vals W => match i with
  | 0 => CgB w A zeroC W
  | 1 => ∃ l pa np pc ka nk kc ca nc cc, CgB w A [.bool l, .slice pa np pc, .slice ka nk kc, .slice ca nc cc] W ∧ NdN W (w.heap.size + 2) (.agg #[.bool l, .slice pa np pc, .slice ka nk kc, .slice ca nc cc]) n
  | _ => (∃ l pa np pc ka nk kc ca nc cc, CgB w A [.bool l, .slice pa np pc, .slice ka nk kc, .slice ca nc cc] W ∧ NdN W (w.heap.size + 2) (.agg #[.bool l, .slice pa np pc, .slice ka nk kc, .slice ca nc cc]) n) ∧ vals o = .int .i64 er
theorem CgB.keep {w W W' : World} {A ar : List Value} (h : CgB w A ar W) (ho : Only (fun _ => False) W W') : CgB w A ar W' :=
  ⟨h.1.trans (ho.below h.1.size (fun _ _ h => h)), h.2.1.only ho (fun h => h), h.2.2.only ho (fun h => h)⟩
theorem CgB.grow {w W W' : World} {A ar : List Value} (h : CgB w A ar W) (hb : Below W.heap.size W W') : CgB w A ar W' := h.keep (Only.of_below _ hb)
theorem CgS.one {w W : World} {A : List Value} {n : Nd} {er : Int} {o : Nat} {vals : Nat → Value} (h : CgS w A n er o 1 vals W) : ∃ l pa np pc ka nk kc ca nc cc, CgB w A [.bool l, .slice pa np pc, .slice ka nk kc, .slice ca nc cc] W ∧ NdN W (w.heap.size + 2) (.agg #[.bool l, .slice pa np pc, .slice ka nk kc, .slice ca nc cc]) n := h
theorem CgS.keep {w W W' : World} {A : List Value} {n : Nd} {er : Int} {o i : Nat} {vals : Nat → Value} (hi : i < 2) (h : CgS w A n er o i vals W) (ho : Only (fun _ => False) W W') : CgS w A n er o i vals W' := by
  rcases (show i = 0 ∨ i = 1 by omega) with rfl | rfl
  · exact CgB.keep (show CgB w A zeroC W from h) ho
  · obtain ⟨l, pa, np, pc, ka, nk, kc, ca, nc, cc, h1, h2⟩ := h.one
    exact (⟨l, pa, np, pc, ka, nk, kc, ca, nc, cc, h1.keep ho, h2.only ho (fun _ h => h.elim)⟩ : ∃ l pa np pc ka nk kc ca nc cc, CgB w A [.bool l, .slice pa np pc, .slice ka nk kc, .slice ca nc cc] W' ∧ NdN W' (w.heap.size + 2) (.agg #[.bool l, .slice pa np pc, .slice ka nk kc, .slice ca nc cc]) n)
theorem CgS.any {w W : World} {A : List Value} {n : Nd} {er : Int} {o i : Nat} {vals : Nat → Value} (hi : i < 2) (h : CgS w A n er o i vals W) : Below w.heap.size w W ∧ Blk W w.heap.size 26 A ∧ w.heap.size + 2 ≤ W.heap.size := by
  rcases (show i = 0 ∨ i = 1 by omega) with rfl | rfl
  · have h' : CgB w A zeroC W := h
    exact ⟨h'.1, h'.2.1, by have := h'.2.2.lt; omega⟩
  · obtain ⟨l, pa, np, pc, ka, nk, kc, ca, nc, cc, h', _⟩ := h.one
    exact ⟨h'.1, h'.2.1, by have := h'.2.2.lt; omega⟩
theorem CgS.ind {w : World} {A : List Value} {n : Nd} {er : Int} {o : Nat} {ch : List Nat} (hc : o ∈ ch) : ∀ k vals vals' W, (∀ j, j ∈ ch → vals j = vals' j) → CgS w A n er o k vals W → CgS w A n er o k vals' W := fun k vals vals' W hv h => by
  match k, h with
  | 0, h => exact h
  | 1, h => exact h
  | k + 2, ⟨h1, h2⟩ => exact ⟨h1, by rw [← hv o hc]; exact h2⟩
theorem cg_new (w : World) (x0 x1 x2 x3 : Value) : ∃ w1, (w.alloc (.cells #[x0, x1, x2, x3] 26)).alloc (.cells #[.bool false, .slice none 0 0, .slice none 0 0, .slice none 0 0] 26) = w1 ∧ CgB w [x0, x1, x2, x3] zeroC w1 := by
  refine ⟨_, rfl, ((Below.refl _ w).alloc (Nat.le_refl _) _).alloc (by simp) _, (Blk.new w _ _).alloc _, ?_⟩
  have := Blk.new (w.alloc (.cells #[x0, x1, x2, x3] 26)) 26 zeroC
  rw [World.size_alloc] at this
  exact this
/-- what an answer without a node leaves -/
theorem cg_no {w W : World} {A ar : List Value} (h : CgB w A ar W) (er : Int) (x0 x1 x2 x3 : Value) (hx : .agg #[x0, x1, x2, x3] = (.agg #[.bool false, .slice none 0 0, .slice none 0 0, .slice none 0 0] : Value)) : GivesN w noNd er (.returned (.tuple #[.agg #[x0, x1, x2, x3], .int .i64 er])) (laidN W (w.heap.size + 1) x0 x1 x2 x3) := by
  rw [hx]
  exact GivesN.no er (h.1.trans ((laidN_only W (w.heap.size + 1) x0 x1 x2 x3).below h.1.size (fun j hj e => by omega)))
/-- what an answer with a node leaves -/
theorem cg_yes {w W : World} {A ar : List Value} (h : CgB w A ar W) (er : Int) {x0 x1 x2 x3 : Value} {n : Nd} (hn : NdN W (w.heap.size + 2) (.agg #[x0, x1, x2, x3]) n) : GivesN w n er (.returned (.tuple #[.agg #[x0, x1, x2, x3], .int .i64 er])) (laidN W (w.heap.size + 1) x0 x1 x2 x3) :=
  ⟨_, rfl, (hn.only (laidN_only W (w.heap.size + 1) x0 x1 x2 x3) (fun j hj => by omega)).le (by omega), h.1.trans ((laidN_only W (w.heap.size + 1) x0 x1 x2 x3).below h.1.size (fun j hj e => by omega))⟩

/-! ### s[l:] of rows that are read -/
theorem Prs.low {W : World} {pa : Option Addr} {np pc : Nat} {xs : List (Value × Value)} {ps : List (List Int × List Int)} (h : Prs W (.slice pa np pc) xs ps) (hn : ps.length = np) (l : Nat) (hl : l ≤ np) : ∃ a' c', (∀ wx, (Instr.slice 22 (.slice pa np pc) (some (.int .i64 (l : Int))) none none).run Try.prog wx = .ok (.slice a' (np - l) c') wx) ∧ (∀ W', Prs W' (.slice pa np pc) xs ps → Prs W' (.slice a' (np - l) c') (xs.drop l) (ps.drop l)) ∧ np - l ≤ c' ∧ c' ≤ 9223372036854775807 := by
  subst hn
  obtain ⟨ao, cap, he, hc1, hc2⟩ := h.shape
  simp only [Value.slice.injEq, true_and] at he
  obtain ⟨rfl, rfl⟩ := he
  by_cases hlc : l < pc
  · exact ⟨_, _, fun wx => cut_low (P := Try.prog) 22 36 2 Try.underlying22 sizePair pa ps.length pc l hl hc1 hlc (by unfold maxLen; omega) wx, fun W' h' => h'.drop l hl, by omega, by omega⟩
  · obtain rfl : l = ps.length := by omega
    obtain rfl : pc = ps.length := by omega
    refine ⟨pa, 0, fun wx => by rw [Nat.sub_self]; exact cut_end (P := Try.prog) 22 36 2 Try.underlying22 sizePair pa ps.length (by unfold maxLen; omega) wx, fun W' h' => ?_, by omega, by omega⟩
    rw [Nat.sub_self, List.drop_eq_nil_of_le (Nat.le_refl _), List.drop_eq_nil_of_le (by rw [h'.1]; exact Nat.le_refl _)]
    exact ⟨rfl, pa, 0, rfl, Nat.le_refl _, by simp [maxLen], fun i hi => absurd hi (by simp), fun hne => absurd rfl hne⟩
theorem buildP3 (w : World) (a1 a2 a3 : Option Addr) (n1 n2 n3 c1 c2 c3 : Nat) : (Instr.buildSlice 104 3 #[(0, .slice a1 n1 c1), (1, .slice a2 n2 c2), (2, .slice a3 n3 c3)]).run Try.prog w = .ok (.slice (some ⟨w.heap.size, 0, none⟩) 3 3) (w.alloc (.cells #[.slice a1 n1 c1, .slice a2 n2 c2, .slice a3 n3 c3] 22)) := by kernel_rfl
theorem buildP2 (w : World) (a1 a2 : Option Addr) (n1 n2 c1 c2 : Nat) : (Instr.buildSlice 104 2 #[(0, .slice a1 n1 c1), (1, .slice a2 n2 c2)]).run Try.prog w = .ok (.slice (some ⟨w.heap.size, 0, none⟩) 2 2) (w.alloc (.cells #[.slice a1 n1 c1, .slice a2 n2 c2] 22)) := by kernel_rfl
theorem build_p1 (w : World) (a1 a2 : Option Addr) (n1 n2 c1 c2 : Nat) : (Instr.buildSlice 22 1 #[(0, .agg #[.slice a1 n1 c1, .slice a2 n2 c2])]).run Try.prog w = .ok (.slice (some ⟨w.heap.size, 0, none⟩) 1 1) (w.alloc (.cells #[.slice a1 n1 c1, .slice a2 n2 c2] 36)) := by kernel_rfl
/-- one pair, as a row that is read -/
theorem prs_one {W : World} {g : Nat} {u1 u2 : Value} {p : List Int × List Int} (hB : Blk W g 36 [u1, u2]) (h1 : Sl W u1 p.1) (h2 : Sl W u2 p.2) : Prs W (.slice (some ⟨g, 0, none⟩) 1 1) [(u1, u2)] [p] := by
  refine ⟨rfl, some ⟨g, 0, none⟩, 1, rfl, Nat.le_refl _, by simp [maxLen], fun i hi => ?_, fun _ => ⟨g, 0, rfl, fun i hi => ?_⟩⟩
  · obtain rfl : i = 0 := by simp at hi; omega
    exact ⟨h1, h2⟩
  · obtain rfl : i = 0 := by simp at hi; omega
    exact hB.range 0 _ (fun j hj => by rw [Nat.zero_add]; rfl)
/-- leaf's answer, of rows that are read -/
theorem leaf_prs (W : World) (g : Nat) (vs : List Value) (xss : List (List (Value × Value))) (pss : List (List (List Int × List Int))) (hl : vs.length = xss.length) (hl2 : vs.length = pss.length) (hk : vs.length ≤ 5) (hB : Blk W g 22 vs) (hr : ∀ i, i < vs.length → Prs W (vs.getD i nilS) (xss.getD i []) (pss.getD i []) ∧ (pss.getD i []).length ≤ 1000) :
    Calls Try.prog 74 #[.slice (some ⟨g, 0, none⟩) vs.length vs.length] W fun e w' => ∃ r N c, e = .returned (.agg #[.bool true, .slice r N c, .slice none 0 0, .slice none 0 0]) ∧ NdV w' (.agg #[.bool true, .slice r N c, .slice none 0 0, .slice none 0 0]) ⟨true, pss.flatten, [], []⟩ ∧ Below W.heap.size W w' := by
  refine (leaf_any W g vs (xss.map flatP) (by simp [hl]) hk hB (fun i hi => ?_)).mono ?_
  · have := hr i hi
    have hx : i < xss.length := by omega
    rw [show (xss.map flatP).getD i [] = flatP (xss.getD i []) by simp [List.getD, hx]]
    exact RowR.of_prs this.1 this.2
  · rintro e w' ⟨r, N, c, rfl, ho, hb'⟩
    have hfl : (xss.map flatP).flatten = flatP xss.flatten := by
      clear hr hl hl2 ho
      induction xss with
      | nil => rfl
      | cons x xs ih => rw [List.map_cons, List.flatten_cons, ih, List.flatten_cons, flatP_append]
    rw [hfl] at ho
    have hN : N = xss.flatten.length := by
      have := ho.1
      rw [flatP_len] at this
      omega
    have hall : ∀ (xss : List (List (Value × Value))) (pss : List (List (List Int × List Int))), xss.length = pss.length → (∀ i, i < xss.length → (xss.getD i []).length = (pss.getD i []).length ∧ ∀ k, k < (pss.getD i []).length → Sl w' ((xss.getD i []).getD k nil2).1 ((pss.getD i []).getD k ([], [])).1 ∧ Sl w' ((xss.getD i []).getD k nil2).2 ((pss.getD i []).getD k ([], [])).2) →
        xss.flatten.length = pss.flatten.length ∧ ∀ k, k < pss.flatten.length → Sl w' (xss.flatten.getD k nil2).1 (pss.flatten.getD k ([], [])).1 ∧ Sl w' (xss.flatten.getD k nil2).2 (pss.flatten.getD k ([], [])).2 := by
      intro xss
      induction xss with
      | nil => intro pss h1 h2; cases pss with
        | nil => exact ⟨rfl, fun k hk => absurd hk (by simp)⟩
        | cons p ps => simp at h1
      | cons x xs ih =>
        intro pss h1 h2
        cases pss with
        | nil => simp at h1
        | cons p ps =>
          obtain ⟨i1, i2⟩ := ih ps (by simpa using h1) (fun i hi => by simpa using h2 (i + 1) (by simpa using hi))
          have h0 := h2 0 (by simp)
          simp only [List.getD_cons_zero] at h0
          simp only [List.flatten_cons]
          refine ⟨by rw [List.length_append, List.length_append, i1, h0.1], ?_⟩
          exact texts_append h0.1 h0.2 i2
    have hpre := hall xss pss (by omega) (fun i hi => by
      have := (hr i (by omega)).1
      exact ⟨this.1, fun k hk => (this.below hb').texts k hk⟩)
    rw [hN] at ho
    exact ⟨r, N, c, rfl, ⟨_, _, _, xss.flatten, [], by rw [hN]; rfl, by
      have := prs_own ho hpre.1 hpre.2
      rw [← hN] at this ⊢
      exact this, Bss.nil _, Is.nil' _⟩, hb'⟩

end Go.Proofs.Ytoamdbjailpgdaa
