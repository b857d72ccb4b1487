/- Postings in a row that is owned, their positions in memory that an iterator made; one more put behind. -/
import Derived.Test.YtfihnmdhclnhgaaLsOpn
import Derived.Test.YtfihnmdhclnhgaaPoRng2
import Derived.Maps.AppendAt
namespace Go.Proofs.Ytfihnmdhclnhgaa
set_option maxRecDepth 20000
open Go.RowKit
set_option linter.unusedVariables false
set_option linter.unusedSimpArgs false
set_option maxRecDepth 100000

abbrev PE := Value × Po
def po2 (x : PE) : List Value := [.int .u32 (x.2.doc : Int), x.1]
def poRow (xs : List PE) : List Value := (xs.map po2).flatten
theorem poRow_len (xs : List PE) : (poRow xs).length = xs.length * 2 := by
  induction xs with
  | nil => rfl
  | cons x xs ih =>
    have e : poRow (x :: xs) = po2 x ++ poRow xs := by simp [poRow]
    rw [e, List.length_append, ih]
    simp [po2]
    omega
theorem poRow_snoc (xs : List PE) (x : PE) : poRow (xs ++ [x]) = poRow xs ++ po2 x := by simp [poRow]
theorem poRow_at : ∀ (xs : List PE) (i : Nat), i < xs.length → (poRow xs)[i * 2]? = some (.int .u32 ((xs.getD i (nilS, noPo)).2.doc : Int)) ∧ (poRow xs)[i * 2 + 1]? = some (xs.getD i (nilS, noPo)).1
  | x :: xs, 0, _ => ⟨rfl, rfl⟩
  | x :: xs, i + 1, h => by
    have := poRow_at xs i (by simpa using h)
    have e : poRow (x :: xs) = po2 x ++ poRow xs := by simp [poRow]
    rw [e]
    have l2 : (po2 x).length = 2 := rfl
    rw [List.getElem?_append_right (by rw [l2]; omega), List.getElem?_append_right (by rw [l2]; omega), l2, show (i + 1) * 2 - 2 = i * 2 by omega, show (i + 1) * 2 + 1 - 2 = i * 2 + 1 by omega]
    simpa using this
theorem infoPo : (Try.prog.info? 63).map (fun i => (i.zero, i.size, i.bytes)) = some (some (.agg #[.int .u32 0, .slice none 0 0]), 2, 32) := by kernel_rfl

/-- postings that are owned; their positions in rows of numbers -/
structure PpO (w : World) (base : Nat) (v : Value) (xs : List PE) : Prop where
  row : w.ownsRow base 63 2 v xs.length (poRow xs)
  each : ∀ x ∈ xs, x.2.doc < 4294967296 ∧ Ints w 0 x.1 x.2.pos
theorem Ints.stay {S : Nat → Prop} {W W' : World} {base : Nat} {u : Value} {zs : List Int} (h : Ints W base u zs) (ho : Only (fun j => S j ∧ noInts W j) W W') : Ints W' base u zs := by
  refine h.only ho (fun j hj hs => ?_)
  rcases h.form with ⟨rfl, _⟩ | ⟨g, cap, sp, rfl, _, _, _, hB, _⟩
  · cases hj
  · simp [Value.ownBlock] at hj
    subst hj
    exact hs.2 _ _ hB
theorem PpO.stay {S : Nat → Prop} {w w' : World} {base : Nat} {v : Value} {xs : List PE} (h : PpO w base v xs) (ho : Only (fun j => S j ∧ noInts w j) w w') (hn : ∀ k, v.ownBlock = some k → ¬ S k) : PpO w' base v xs :=
  ⟨ownsRow_only h.row ho (fun k hk hs => hn k hk hs.1), fun x hx => ⟨(h.each x hx).1, (h.each x hx).2.stay ho⟩⟩
theorem PpO.only {S : Nat → Prop} {w w' : World} {base : Nat} {v : Value} {xs : List PE} (h : PpO w base v xs) (ho : Only S w w') (hn : ∀ k, v.ownBlock = some k → ¬ S k) (he : ∀ e ∈ xs, ∀ j, e.1.ownBlock = some j → ¬ S j) : PpO w' base v xs :=
  ⟨ownsRow_only h.row ho hn, fun x hx => ⟨(h.each x hx).1, (h.each x hx).2.only ho (he x hx)⟩⟩
theorem PpO.fresh {w w' : World} {base : Nat} {v : Value} {xs : List PE} (h : PpO w base v xs) (hb : Below w.heap.size w w') : PpO w' base v xs :=
  h.stay (S := fun _ => False) ((Only.of_below (fun _ => False) hb).mono (fun _ _ h => h.elim)) (fun _ _ h => h)
theorem PpO.shape {w : World} {base : Nat} {v : Value} {xs : List PE} (h : PpO w base v xs) : ∃ ao cap, v = .slice ao xs.length cap := own_form' h.row
theorem PpO.lt {w : World} {base : Nat} {v : Value} {xs : List PE} (h : PpO w base v xs) (k : Nat) (hk : v.ownBlock = some k) : base ≤ k ∧ k < w.heap.size := World.ownsRow.lt h.row k hk
theorem PpO.noInts {w : World} {base : Nat} {v : Value} {xs : List PE} (h : PpO w base v xs) (k : Nat) (hk : v.ownBlock = some k) : noInts w k := by
  rcases h.row.2 with ⟨rfl, _⟩ | ⟨g, cap, cur, rfl, _, hB, _⟩
  · cases hk
  · simp [Value.ownBlock] at hk
    subst hk
    intro cs f e
    rw [hB] at e
    simp at e
theorem PpO.nil (w : World) (base : Nat) : PpO w base nilS [] := ⟨World.ownsRow_nil _ _ _ _, fun x hx => by cases hx⟩
/-- and read -/
theorem PpO.read {w : World} {base : Nat} {v : Value} {xs : List PE} (h : PpO w base v xs) : Pps w v (xs.map (·.1)) (xs.map (·.2)) := by
  obtain ⟨ao, cap, rfl⟩ := h.shape
  have hh := own_len h.row
  have e1 : ∀ i, (xs.map (·.2)).getD i noPo = (xs.getD i (nilS, noPo)).2 := fun i => by
    by_cases hi : i < xs.length
    · simp [List.getD, hi]
    · simp [List.getD, List.getElem?_eq_none (Nat.le_of_not_lt hi)]
  have e2 : ∀ i, (xs.map (·.1)).getD i nilS = (xs.getD i (nilS, noPo)).1 := fun i => by
    by_cases hi : i < xs.length
    · simp [List.getD, hi]
    · simp [List.getD, List.getElem?_eq_none (Nat.le_of_not_lt hi)]
  refine ⟨by simp, ao, cap, by simp, by simpa using hh.1, hh.2, fun i hi => ?_, fun hne => ?_⟩
  · rw [List.length_map] at hi
    rw [e1, e2]
    have hm : xs.getD i (nilS, noPo) ∈ xs := by
      simp only [List.getD, List.getElem?_eq_getElem hi, Option.getD_some]
      exact List.getElem_mem hi
    exact ⟨(h.each _ hm).1, (h.each _ hm).2.is⟩
  · have hpos : 0 < xs.length := by
      have := List.length_pos_iff.2 hne
      simpa using this
    have hr := h.row
    cases ao with
    | none =>
      rcases hr.2 with ⟨_, e⟩ | ⟨g, cap', sp, e, _⟩
      · omega
      · simp at e
    | some a =>
      rcases hr.2 with ⟨e, _⟩ | ⟨g, cap', sp, e, _⟩
      · simp at e
      · simp only [Value.slice.injEq, Option.some.injEq] at e
        obtain ⟨rfl, _⟩ := e
        refine ⟨g, 0, rfl, fun i hi => ?_⟩
        rw [List.length_map] at hi
        obtain ⟨m0, m1⟩ := poRow_at xs i hi
        rw [Nat.zero_add, e1, e2]
        intro j v hj
        match j, hj with
        | 0, hj => cases hj; exact (World.ownsRow.cellAt hr (i * 2) (by omega)).trans m0
        | 1, hj => cases hj; exact (World.ownsRow.cellAt hr (i * 2 + 1) (by omega)).trans m1

theorem build_po (w : World) (x y : Value) : (Instr.buildSlice 47 1 #[(0, .agg #[x, y])]).run Try.prog w = .ok (.slice (some ⟨w.heap.size, 0, none⟩) 1 1) (w.alloc (.cells #[x, y] 63)) := by kernel_rfl
/-- a posting more, behind postings that are owned -/
theorem push_po (W : World) (base : Nat) (v : Value) (xs : List PE) (h : PpO W base v xs) (x : PE) (hx : x.2.doc < 4294967296) (hi : Ints W 0 x.1 x.2.pos) (hu : x.1.oneCell' = true) (hl : xs.length ≤ 1000000) (hbase : base ≤ W.heap.size) :
    ∃ v2 w3, (Builtin.append_ #[47, 47] 47 #[v, .slice (some ⟨W.heap.size, 0, none⟩) 1 1]).run Try.prog (W.alloc (.cells #[.int .u32 (x.2.doc : Int), x.1] 63)) = .ok v2 w3 ∧ PpO w3 base v2 (xs ++ [x]) ∧
      Only (fun j => v.ownBlock = some j ∧ noInts W j) W w3 ∧ (v2.ownBlock = v.ownBlock ∨ ∃ k, v2.ownBlock = some k ∧ W.heap.size < k) ∧ ∃ ao cap, v2 = .slice ao (xs ++ [x]).length cap := by
  obtain ⟨i0, hi0, hz0, hz1, hz2⟩ := info_parts infoPo
  obtain ⟨W1, hW1⟩ : ∃ W1, W.alloc (.cells #[.int .u32 (x.2.doc : Int), x.1] 63) = W1 := ⟨_, rfl⟩
  have hs1 : W1.heap.size = W.heap.size + 1 := by rw [← hW1]; simp
  have hb1 : Below W.heap.size W W1 := by rw [← hW1]; exact (Below.refl _ W).alloc (Nat.le_refl _) _
  have hg : Blk W1 W.heap.size 63 [.int .u32 (x.2.doc : Int), x.1] := by rw [← hW1]; exact Blk.new W _ _
  have h' : PpO W1 base v xs := h.fresh hb1
  obtain ⟨p', w', hr, h1, h2, _, h4⟩ := run_append_own_at (P := Try.prog) W1 base 47 47 63 i0 _ 2 32 Try.underlying47 hi0 hz0 hz1 hz2 rfl (by decide) v xs.length (poRow xs) h'.row ⟨W.heap.size, 0, none⟩ 1 1 (po2 x) rfl
    (fun j u hj => by
      have hj2 : j < 2 := (List.getElem?_eq_some_iff.1 hj).1
      rw [Addr.add_mid, Nat.zero_add, hg.cell]
      exact hj) (by intro u hu'; simp [po2] at hu'; rcases hu' with rfl | rfl; rfl; exact hu) (by unfold maxLen; omega) (by omega) (by omega)
  rw [hW1]
  have hoA : Only (fun j => v.ownBlock = some j ∧ noInts W j) W w' := ((Only.of_below (fun j => v.ownBlock = some j) hb1).grown h2 (fun j e _ => e)).mono (fun i _ e => ⟨e, h.noInts i e⟩)
  have h1' : PpO w' base p' (xs ++ [x]) := by
    refine ⟨by rw [poRow_snoc, List.length_append]; exact h1, fun y hy => ?_⟩
    rcases List.mem_append.1 hy with hy | hy
    · exact ⟨(h.each y hy).1, (h.each y hy).2.stay hoA⟩
    · obtain rfl : y = x := by simpa using hy
      exact ⟨hx, hi.stay hoA⟩
  refine ⟨p', w', hr, h1', hoA, ?_, own_form' h1'.row⟩
  rcases h4 with h4 | h4
  · exact .inl h4
  · exact .inr ⟨_, h4, by omega⟩

end Go.Proofs.Ytfihnmdhclnhgaa
