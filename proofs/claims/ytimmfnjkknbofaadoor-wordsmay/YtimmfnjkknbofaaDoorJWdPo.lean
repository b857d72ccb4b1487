/- Ranges and texts that are owned, one more put behind; how far a text is taken and put behind (a call, a text, a literal, append, a store, in whatever order Go takes them). No package's function. -/
import Derived.Test.YtimmfnjkknbofaaDoorJWdBy
import Derived.Test.YtimmfnjkknbofaaDoorJHRd
import Derived.Test.YtimmfnjkknbofaaDoorRegionE
import Derived.Test.YtimmfnjkknbofaaDoorRegionL
namespace Go.Proofs.YtimmfnjkknbofaaDoor
set_option maxRecDepth 20000
open Go.RowKit
set_option linter.unusedVariables false
set_option linter.unusedSimpArgs false
set_option maxRecDepth 100000

theorem fdRow_snoc (xs : List Fd) (x : Fd) : fdRow (xs ++ [x]) = fdRow xs ++ fd3 x := by simp [fdRow]
structure FdO (w : World) (base : Nat) (v : Value) (xs : List Fd) : Prop where
  row : w.ownsRow base 54 3 v xs.length (fdRow xs)
  ok : ∀ x ∈ xs, FdOk x
theorem FdO.nil (w : World) (base : Nat) : FdO w base (.slice none 0 0) [] := ⟨World.ownsRow_nil _ _ _ _, fun x hx => by cases hx⟩
theorem FdO.shape {w : World} {base : Nat} {v : Value} {xs : List Fd} (h : FdO w base v xs) : ∃ ao cap, v = .slice ao xs.length cap := own_form' h.row
theorem FdO.lt {w : World} {base : Nat} {v : Value} {xs : List Fd} (h : FdO w base v xs) (k : Nat) (hk : v.ownBlock = some k) : base ≤ k ∧ k < w.heap.size := World.ownsRow.lt h.row k hk
theorem FdO.only {S : Nat → Prop} {w w' : World} {base : Nat} {v : Value} {xs : List Fd} (h : FdO w base v xs) (ho : Only S w w') (hn : ∀ k, v.ownBlock = some k → ¬ S k) : FdO w' base v xs := ⟨ownsRow_only h.row ho hn, h.ok⟩
theorem FdO.tbl {w : World} {base : Nat} {v : Value} {xs : List Fd} (h : FdO w base v xs) : Tbl w v xs := tbl_of_own h.row h.ok
theorem push_fd (W : World) (base : Nat) (v : Value) (xs : List Fd) (h : FdO W base v xs) (x : Fd) (hx : FdOk x) (hl : xs.length ≤ 1000000) (hbase : base ≤ W.heap.size) :
    ∃ ao cap w3, (Builtin.append_ #[22, 22] 22 #[v, .slice (some ⟨W.heap.size, 0, none⟩) 1 1]).run Tryd.prog (W.alloc (.cells #[.int .i32 x.1, .int .i32 x.2.1, .int .i64 x.2.2] 54)) = .ok (.slice ao (xs.length + 1) cap) w3 ∧ FdO w3 base (.slice ao (xs.length + 1) cap) (xs ++ [x]) ∧
      Only (fun j => v.ownBlock = some j) W w3 := by
  obtain ⟨i0, hi0, hz0, hz1, hz2⟩ := info_parts infoFold
  obtain ⟨W1, hW1⟩ : ∃ W1, W.alloc (.cells #[.int .i32 x.1, .int .i32 x.2.1, .int .i64 x.2.2] 54) = W1 := ⟨_, rfl⟩
  have hs1 : W1.heap.size = W.heap.size + 1 := by rw [← hW1]; simp
  have hb1 : Below W.heap.size W W1 := by rw [← hW1]; exact (Below.refl _ W).alloc (Nat.le_refl _) _
  have hg : Blk W1 W.heap.size 54 [.int .i32 x.1, .int .i32 x.2.1, .int .i64 x.2.2] := by rw [← hW1]; exact Blk.new W _ _
  have h' : FdO W1 base v xs := h.only (Only.of_below (fun _ => False) hb1) (fun _ _ h => h)
  obtain ⟨p', w', hr, h1, h2, _, h4⟩ := run_append_own_at (P := Tryd.prog) W1 base 22 22 54 i0 _ 3 16 Tryd.underlying22 hi0 hz0 hz1 hz2 rfl (by decide) v xs.length (fdRow xs) h'.row ⟨W.heap.size, 0, none⟩ 1 1 (fd3 x) rfl
    (fun j u hj => by
      rw [Addr.add_mid, Nat.zero_add, hg.cell]
      exact hj) (by intro u hu'; simp [fd3] at hu'; rcases hu' with rfl | rfl | rfl <;> rfl) (by unfold maxLen; omega) (by omega) (by omega)
  rw [hW1]
  have hoA : Only (fun j => v.ownBlock = some j) W w' := (Only.of_below (fun j => v.ownBlock = some j) hb1).grown h2 (fun j e _ => e)
  have h1' : FdO w' base p' (xs ++ [x]) := by
    refine ⟨by rw [fdRow_snoc, List.length_append]; exact h1, fun y hy => ?_⟩
    rcases List.mem_append.1 hy with hy | hy
    · exact h.ok y hy
    · obtain rfl : y = x := by simpa using hy
      exact hx
  obtain ⟨ao, cap, rfl⟩ := own_form' h1
  exact ⟨ao, cap, w', hr, h1', hoA⟩

structure SzO (w : World) (base : Nat) (v : Value) (ss : List (List Int)) : Prop where
  row : w.ownsRow base 9 1 v ss.length (strRow ss)
  ok : ∀ z ∈ ss, ByteOk z
theorem strRow_snoc (ss : List (List Int)) (z : List Int) : strRow (ss ++ [z]) = strRow ss ++ [.string (strOfNums z)] := by simp [strRow]
theorem SzO.nil (w : World) (base : Nat) : SzO w base (.slice none 0 0) [] := ⟨World.ownsRow_nil _ _ _ _, fun x hx => by cases hx⟩
theorem SzO.shape {w : World} {base : Nat} {v : Value} {ss : List (List Int)} (h : SzO w base v ss) : ∃ ao cap, v = .slice ao ss.length cap := own_form' h.row
theorem SzO.lt {w : World} {base : Nat} {v : Value} {ss : List (List Int)} (h : SzO w base v ss) (k : Nat) (hk : v.ownBlock = some k) : base ≤ k ∧ k < w.heap.size := World.ownsRow.lt h.row k hk
theorem SzO.only {S : Nat → Prop} {w w' : World} {base : Nat} {v : Value} {ss : List (List Int)} (h : SzO w base v ss) (ho : Only S w w') (hn : ∀ k, v.ownBlock = some k → ¬ S k) : SzO w' base v ss := ⟨ownsRow_only h.row ho hn, h.ok⟩
theorem SzO.strs {w : World} {base : Nat} {v : Value} {ss : List (List Int)} (h : SzO w base v ss) : Strs w v ss := strs_of_own h.row h.ok
/-- a literal's one text -/
theorem push_sz (W : World) (base : Nat) (v : Value) (ss : List (List Int)) (h : SzO W base v ss) (z : List Int) (hz : ByteOk z) (g c : Nat) (hc : W.cell? ⟨g, 0, none⟩ = some (.string (strOfNums z))) (hl : ss.length ≤ 1000000) (hbase : base ≤ W.heap.size) :
    ∃ ao cap w3, (Builtin.append_ #[23, 23] 23 #[v, .slice (some ⟨g, 0, none⟩) 1 c]).run Tryd.prog W = .ok (.slice ao (ss.length + 1) cap) w3 ∧ SzO w3 base (.slice ao (ss.length + 1) cap) (ss ++ [z]) ∧
      Only (fun j => v.ownBlock = some j) W w3 := by
  obtain ⟨i0, hi0, hz0, hz1, hz2⟩ := info_parts infoStr
  obtain ⟨p', w', hr, h1, h2, _, h4⟩ := run_append_own_at (P := Tryd.prog) W base 23 23 9 i0 _ 1 16 Tryd.underlying23 hi0 hz0 hz1 hz2 rfl (by decide) v ss.length (strRow ss) h.row ⟨g, 0, none⟩ 1 c [.string (strOfNums z)] rfl
    (fun j u hj => by
      have hj0 : j < 1 := by have := (List.getElem?_eq_some_iff.1 hj).1; simpa using this
      obtain rfl : j = 0 := by omega
      simp only [List.getElem?_cons_zero, Option.some.injEq] at hj
      subst hj
      exact hc) (by intro u hu'; simp at hu'; subst hu'; rfl) (by unfold maxLen; omega) (by omega) hbase
  have hoA : Only (fun j => v.ownBlock = some j) W w' := (Only.refl _ W).grown h2 (fun j e _ => e)
  have h1' : SzO w' base p' (ss ++ [z]) := by
    refine ⟨by rw [strRow_snoc, List.length_append]; exact h1, fun y hy => ?_⟩
    rcases List.mem_append.1 hy with hy | hy
    · exact h.ok y hy
    · obtain rfl : y = z := by simpa using hy
      exact hz
  obtain ⟨ao, cap, rfl⟩ := own_form' h1
  exact ⟨ao, cap, w', hr, h1', hoA⟩

/-- how far the round is: the text, as it is taken (3), a string (4), a literal (5), put behind (6), stored (8) -/
structure PrS (W : World) (rb lim B base : Nat) (s : RS) (vf K vs : Value) (ss : List (List Int)) (D : Nat → Bool) (vals : Nat → Value) (X : World) : Prop where
  only : Only (fun j => j = rb ∨ j = B ∨ base ≤ j) W X
  rd : if D 3 = true then RdK X rb lim (txtT s).2.1 (txtT s).2.2 else RdK X rb lim s.1 s.2
  bytes : D 3 = true → Sl X (vals 3) (txtT s).1 ∧ (∃ a n c, vals 3 = .slice a n c) ∧ ∀ j, (vals 3).ownBlock = some j → W.heap.size ≤ j
  str : D 4 = true → vals 4 = .string (strOfNums (txtT s).1)
  lit : D 5 = true → ∃ g, vals 5 = .slice (some ⟨g, 0, none⟩) 1 1 ∧ W.heap.size ≤ g ∧ X.cell? ⟨g, 0, none⟩ = some (.string (strOfNums (txtT s).1))
  old : D 6 = false → SzO X base vs ss
  new : D 6 = true → SzO X base (vals 6) (ss ++ [(txtT s).1]) ∧ ∃ a n c, vals 6 = .slice a n c
  box : Blk X B 25 [vf, if D 8 = true then vals 6 else vs, K]
section
variable {W X : World} {rb lim B base : Nat} {s : RS} {vf K vs : Value} {ss : List (List Int)} {D : Nat → Bool} {vals : Nat → Value}
theorem PrS.ind {D' : Nat → Bool} {vals' : Nat → Value} (h : PrS W rb lim B base s vf K vs ss D vals X) (hv : ∀ j, j ∈ [3, 4, 5, 6, 8] → D j = D' j ∧ vals j = vals' j) : PrS W rb lim B base s vf K vs ss D' vals' X := by
  obtain ⟨e1, e2⟩ := hv 3 (by decide)
  obtain ⟨e3, e4⟩ := hv 4 (by decide)
  obtain ⟨e5, e6⟩ := hv 5 (by decide)
  obtain ⟨e7, e8⟩ := hv 6 (by decide)
  obtain ⟨e9, _⟩ := hv 8 (by decide)
  obtain ⟨q1, q2, q3, q4, q5, q6, q7, q8⟩ := h
  rw [e1] at q2 q3
  rw [e2] at q3
  rw [e3, e4] at q4
  rw [e5, e6] at q5
  rw [e7] at q6 q7
  rw [e8] at q7 q8
  rw [e9] at q8
  exact ⟨q1, q2, q3, q4, q5, q6, q7, q8⟩
end

end Go.Proofs.YtimmfnjkknbofaaDoor
/- How far a text is taken and put behind: the steps. No package's function. -/
namespace Go.Proofs.YtimmfnjkknbofaaDoor
set_option maxRecDepth 20000
open Go.RowKit
set_option linter.unusedVariables false
set_option linter.unusedSimpArgs false
set_option maxRecDepth 100000

section
variable {W X : World} {rb lim B base : Nat} {s : RS} {vf K vs : Value} {ss : List (List Int)} {D : Nat → Bool} {vals : Nat → Value}
theorem PrS.call (h : PrS W rb lim B base s vf K vs ss D vals X) (h3 : D 3 = false) (h4 : D 4 = false) (h5 : D 5 = false) (h6 : D 6 = false) (h8 : D 8 = false) (hrb : rb < lim) (hB : lim ≤ B) (hBb : B < base)
    {X1 : World} {v : Value} (hv : X1.ownsRow X.heap.size 5 1 v (txtT s).1.length ((txtT s).1.map (Value.int .u8))) (hz : ByteOk (txtT s).1) (hg : X.grownBy X1 (some rb)) (hr : RdK X1 rb lim (txtT s).2.1 (txtT s).2.2) :
    PrS W rb lim B base s vf K vs ss (fun j => if j = 3 then true else D j) (updV vals 3 v) X1 := by
  have ho : Only (fun j => j = rb) X X1 := (Only.refl _ X).grown hg (fun k e _ => (Option.some.inj e).symm)
  have hold := h.old h6
  have hbox := h.box
  rw [h8] at hbox
  refine ⟨h.only.trans ho (fun i _ e => .inl e), by simpa using hr, fun _ => ⟨sl_of_own hv hz rfl, ?_⟩, fun e => ?_, fun e => ?_, fun _ => hold.only ho (fun k hk e => by have := (hold.lt k hk).1; omega), fun e => ?_, ?_⟩
  · obtain ⟨a, c, e⟩ := own_form' hv
    exact ⟨⟨a, _, c, e⟩, fun j hj => Nat.le_trans h.only.size (World.ownsRow.lt hv j hj).1⟩
  · simp [h4] at e
  · simp [h5] at e
  · simp [h6] at e
  · have := hbox.only ho (fun e => by omega)
    simpa [h8] using this
theorem PrS.str1 (h : PrS W rb lim B base s vf K vs ss D vals X) (h4 : D 4 = false) : PrS W rb lim B base s vf K vs ss (fun j => if j = 4 then true else D j) (updV vals 4 (.string (strOfNums (txtT s).1))) X := by
  obtain ⟨q1, q2, q3, q4, q5, q6, q7, q8⟩ := h
  exact ⟨q1, q2, q3, fun _ => rfl, q5, q6, q7, q8⟩
theorem PrS.lit1 (h : PrS W rb lim B base s vf K vs ss D vals X) (h4 : D 4 = true) (h5 : D 5 = false) (h6 : D 6 = false) (h8 : D 8 = false) :
    PrS W rb lim B base s vf K vs ss (fun j => if j = 5 then true else D j) (updV vals 5 (.slice (some ⟨X.heap.size, 0, none⟩) 1 1)) (X.alloc (.cells #[.string (strOfNums (txtT s).1)] 9)) := by
  have ho : Only (fun _ => False) X (X.alloc (.cells #[.string (strOfNums (txtT s).1)] 9)) := (Only.refl _ X).alloc _
  obtain ⟨q1, q2, q3, q4, q5, q6, q7, q8⟩ := h
  refine ⟨q1.trans ho (fun _ _ h => h.elim), ?_, fun e => ?_, fun e => q4 h4, fun _ => ⟨_, rfl, q1.size, (Blk.new X 9 [.string (strOfNums (txtT s).1)]).cell 0⟩, fun e => (q6 h6).only ho (fun _ _ h => h), fun e => ?_, ?_⟩
  · simp only [show (3 : Nat) ≠ 5 by decide, if_false]
    split at q2
    · rename_i e; rw [if_pos e]; exact q2.only ho (fun _ _ h => h)
    · rename_i e; rw [if_neg e]; exact q2.only ho (fun _ _ h => h)
  · obtain ⟨a, b⟩ := q3 (by simpa using e)
    exact ⟨a.only ho (fun _ _ h => h), b⟩
  · simp [h6] at e
  · have := q8.only ho (fun h => h)
    simpa [h8] using this
theorem PrS.app (h : PrS W rb lim B base s vf K vs ss D vals X) (h5 : D 5 = true) (h6 : D 6 = false) (h8 : D 8 = false) (hrb : rb < lim) (hB : lim ≤ B) (hBb : B < base) (hvs : ∀ j, vs.ownBlock = some j → base ≤ j ∧ j < W.heap.size)
    {X1 : World} {a : Option Addr} {n c : Nat} (hn : SzO X1 base (.slice a n c) (ss ++ [(txtT s).1])) (ho : Only (fun j => vs.ownBlock = some j) X X1) :
    PrS W rb lim B base s vf K vs ss (fun j => if j = 6 then true else D j) (updV vals 6 (.slice a n c)) X1 := by
  obtain ⟨q1, q2, q3, q4, q5, q6, q7, q8⟩ := h
  refine ⟨q1.trans ho (fun i _ e => .inr (.inr (hvs i e).1)), ?_, fun e => ?_, q4, fun e => ?_, fun e => ?_, fun _ => ⟨hn, _, _, _, rfl⟩, ?_⟩
  · simp only [show (3 : Nat) ≠ 6 by decide, if_false]
    split at q2
    · rename_i e; rw [if_pos e]; exact q2.only ho (fun k hk e => by have := (hvs k e).1; omega)
    · rename_i e; rw [if_neg e]; exact q2.only ho (fun k hk e => by have := (hvs k e).1; omega)
  · have e3 : D 3 = true := by simpa using e
    obtain ⟨p1, p2⟩ := q3 e3
    exact ⟨p1.only ho (fun k hk e => by have := (hvs k e).2; have := p2.2 k hk; omega), p2⟩
  · obtain ⟨g, e1, e2, e3⟩ := q5 h5
    refine ⟨g, e1, e2, ?_⟩
    have hlt := World.block_lt_of_cell? X _ e3
    rw [World.cell?_of_block (w := X) (ho.block g hlt (fun e => by have := (hvs g e).2; omega))]
    exact e3
  · simp at e
  · have := q8.only ho (fun e => by have := (hvs B e).1; omega)
    simpa [h8] using this
theorem PrS.put (h : PrS W rb lim B base s vf K vs ss D vals X) (h6 : D 6 = true) (h8 : D 8 = false) (hrb : rb < lim) (hB : lim ≤ B) (hBb : B < base) (hBW : B < W.heap.size) :
    PrS W rb lim B base s vf K vs ss (fun j => if j = 8 then true else D j) (updV vals 8 undef) (X.setCell ⟨B, 1, none⟩ (vals 6)) := by
  have ho : Only (· = B) X (X.setCell ⟨B, 1, none⟩ (vals 6)) := (Only.refl (· = B) X).setCell ⟨B, 1, none⟩ _ (fun _ => rfl)
  obtain ⟨q1, q2, q3, q4, q5, q6, q7, q8⟩ := h
  refine ⟨q1.trans ho (fun i _ e => .inr (.inl e)), ?_, fun e => ?_, q4, fun e => ?_, fun e => ?_, fun _ => ?_, ?_⟩
  · simp only [show (3 : Nat) ≠ 8 by decide, if_false]
    split at q2
    · rename_i e; rw [if_pos e]; exact q2.only ho (fun k hk e => by omega)
    · rename_i e; rw [if_neg e]; exact q2.only ho (fun k hk e => by omega)
  · have e3 : D 3 = true := by simpa using e
    obtain ⟨p1, p2⟩ := q3 e3
    exact ⟨p1.only ho (fun k hk e => by have := p2.2 k hk; omega), p2⟩
  · have e5' : D 5 = true := by simpa using e
    obtain ⟨g, e1, e2, e3⟩ := q5 e5'
    refine ⟨g, e1, e2, ?_⟩
    have hlt := World.block_lt_of_cell? X _ e3
    rw [World.cell?_of_block (w := X) (ho.block g hlt (fun e => by omega))]
    exact e3
  · simp [h6] at e
  · obtain ⟨p1, p2⟩ := q7 h6
    exact ⟨p1.only ho (fun k hk e => by have := (p1.lt k hk).1; omega), p2⟩
  · rw [h8] at q8
    have := q8.set 1 (vals 6)
    have e6 : updV vals 8 undef 6 = vals 6 := rfl
    simpa [e6] using this
end

end Go.Proofs.YtimmfnjkknbofaaDoor
