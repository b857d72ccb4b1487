/- How far the document's bytes of a range are (two calls, a literal, append, in whatever order Go takes them). No package's function. -/
import Derived.Test.YtimmfnjkknbofaaDoorJWdBy
import Derived.Test.YtimmfnjkknbofaaDoorJWdApp
namespace Go.Proofs.YtimmfnjkknbofaaDoor
set_option maxRecDepth 20000
open Go.RowKit
set_option linter.unusedVariables false
set_option linter.unusedSimpArgs false
set_option maxRecDepth 100000

/-- the row that stands -/
def curV (v : Value) (D : Nat → Bool) (vals : Nat → Value) : Value := if D 8 = true then vals 8 else if D 4 = true then vals 4 else v
def curZ (zs p1 p2 : List Int) (D : Nat → Bool) : List Int := if D 8 = true then zs ++ p1 ++ p2 else if D 4 = true then zs ++ p1 else zs
structure RpS (W : World) (base : Nat) (v : Value) (zs p1 p2 : List Int) (x : Int) (D : Nat → Bool) (vals : Nat → Value) (X : World) : Prop where
  only : Only (fun j => v.ownBlock = some j) W X
  row : D 14 = false → Ob X base (curV v D vals) (curZ zs p1 p2 D)
  own : ∀ j, (curV v D vals).ownBlock = some j → v.ownBlock = some j ∨ W.heap.size ≤ j
  s4 : D 4 = true → ∃ a c, vals 4 = .slice a (zs ++ p1).length c
  s8 : D 8 = true → ∃ a c, vals 8 = .slice a (zs ++ p1 ++ p2).length c
  lit : D 13 = true → D 14 = false → ∃ g, vals 13 = .slice (some ⟨g, 0, none⟩) 1 1 ∧ X.cell? ⟨g, 0, none⟩ = some (.int .u8 x) ∧ (curV v D vals).ownBlock ≠ some g
  fin : D 14 = true → Ob X base (vals 14) (zs ++ p1 ++ p2 ++ [x]) ∧ ∃ a n c, vals 14 = .slice a n c
  asg : D 15 = true → vals 15 = vals 14
section
variable {W X : World} {base : Nat} {v : Value} {zs p1 p2 : List Int} {x : Int} {D : Nat → Bool} {vals : Nat → Value}
theorem RpS.ind {D' : Nat → Bool} {vals' : Nat → Value} (h : RpS W base v zs p1 p2 x D vals X) (hv : ∀ j, j ∈ [4, 8, 13, 14, 15] → D j = D' j ∧ vals j = vals' j) : RpS W base v zs p1 p2 x D' vals' X := by
  obtain ⟨e1, e2⟩ := hv 4 (by decide)
  obtain ⟨e3, e4⟩ := hv 8 (by decide)
  obtain ⟨e5, e6⟩ := hv 13 (by decide)
  obtain ⟨e7, e8⟩ := hv 14 (by decide)
  obtain ⟨e9, e10⟩ := hv 15 (by decide)
  have c1 : curV v D vals = curV v D' vals' := by unfold curV; rw [e1, e2, e3, e4]
  have c2 : curZ zs p1 p2 D = curZ zs p1 p2 D' := by unfold curZ; rw [e1, e3]
  obtain ⟨q1, q2, q3, q4, q5, q6, q7, q8⟩ := h
  rw [c1, c2, e7] at q2
  rw [c1] at q3 q6
  rw [e1, e2] at q4
  rw [e3, e4] at q5
  rw [e5, e6, e7] at q6
  rw [e7, e8] at q7
  rw [e9, e10, e8] at q8
  exact ⟨q1, q2, q3, q4, q5, q6, q7, q8⟩
theorem RpS.start (h : Ob X base v zs) (ho : Only (fun j => v.ownBlock = some j) W X) : RpS W base v zs p1 p2 x (fun _ => false) vals X :=
  ⟨ho, fun _ => h, fun j e => .inl e, (fun h => by cases h), (fun h => by cases h), (fun h => by cases h), (fun h => by cases h), (fun h => by cases h)⟩
theorem upd_ne (vals : Nat → Value) {i j : Nat} (v : Value) (h : j ≠ i) : updV vals i v j = vals j := if_neg h
/-- the first two bytes -/
theorem RpS.one (h : RpS W base v zs p1 p2 x D vals X) (h4 : D 4 = false) (h8 : D 8 = false) (h14 : D 14 = false) (h15 : D 15 = false) {X1 : World} {a : Option Addr} {c : Nat} (hn : Ob X1 base (.slice a (zs ++ p1).length c) (zs ++ p1)) (ho : Only (fun j => v.ownBlock = some j) X X1)
    (hw : (Value.slice a (zs ++ p1).length c).ownBlock = v.ownBlock ∨ ∃ k, (Value.slice a (zs ++ p1).length c).ownBlock = some k ∧ X.heap.size < k) :
    RpS W base v zs p1 p2 x (fun j => if j = 4 then true else D j) (updV vals 4 (.slice a (zs ++ p1).length c)) X1 := by
  have c0 : curV v D vals = v := by unfold curV; rw [h4, h8]; rfl
  have c1 : curV v (fun j => if j = 4 then true else D j) (updV vals 4 (.slice a (zs ++ p1).length c)) = .slice a (zs ++ p1).length c := by
    unfold curV
    simp only [show (8 : Nat) ≠ 4 by decide, if_false, h8, Bool.false_eq_true, if_true]
    rfl
  have c2 : curZ zs p1 p2 (fun j => if j = 4 then true else D j) = zs ++ p1 := by
    unfold curZ
    simp only [show (8 : Nat) ≠ 4 by decide, if_false, h8, Bool.false_eq_true, if_true]
  have hs := h.only.size
  obtain ⟨q1, q2, q3, q4, q5, q6, q7, q8⟩ := h
  rw [c0] at q6
  refine ⟨q1.trans ho (fun _ _ e => e), fun _ => by rw [c1, c2]; exact hn, fun j hj => ?_, fun _ => ⟨a, c, rfl⟩, fun e => ?_, fun e _ => ?_, fun e => ?_, fun e => ?_⟩
  · rw [c1] at hj
    rcases hw with e | ⟨k, e, hk⟩
    · exact .inl (e ▸ hj)
    · rw [e] at hj
      have := Option.some.inj hj
      exact .inr (by omega)
  · simp [h8] at e
  · obtain ⟨g, e1, e2, e3⟩ := q6 (by simpa using e) h14
    have hlt := World.block_lt_of_cell? X _ e2
    refine ⟨g, e1, ?_, ?_⟩
    · rw [World.cell?_of_block (w := X) (ho.block g hlt e3)]
      exact e2
    · rw [c1]
      rcases hw with e | ⟨k, e, hk⟩
      · rw [e]; exact e3
      · rw [e]
        intro hh
        have := Option.some.inj hh
        simp only at hlt
        omega
  · simp [h14] at e
  · simp [h15] at e
/-- the next two -/
theorem RpS.two (h : RpS W base v zs p1 p2 x D vals X) (h4 : D 4 = true) (h8 : D 8 = false) (h14 : D 14 = false) (h15 : D 15 = false) {X1 : World} {a : Option Addr} {c : Nat} (hn : Ob X1 base (.slice a (zs ++ p1 ++ p2).length c) (zs ++ p1 ++ p2)) (ho : Only (fun j => (vals 4).ownBlock = some j) X X1)
    (hw : (Value.slice a (zs ++ p1 ++ p2).length c).ownBlock = (vals 4).ownBlock ∨ ∃ k, (Value.slice a (zs ++ p1 ++ p2).length c).ownBlock = some k ∧ X.heap.size < k) :
    RpS W base v zs p1 p2 x (fun j => if j = 8 then true else D j) (updV vals 8 (.slice a (zs ++ p1 ++ p2).length c)) X1 := by
  have c0 : curV v D vals = vals 4 := by unfold curV; rw [h4, h8]; rfl
  have c1 : curV v (fun j => if j = 8 then true else D j) (updV vals 8 (.slice a (zs ++ p1 ++ p2).length c)) = .slice a (zs ++ p1 ++ p2).length c := by
    unfold curV
    simp only [if_true]
    rfl
  have c2 : curZ zs p1 p2 (fun j => if j = 8 then true else D j) = zs ++ p1 ++ p2 := by
    unfold curZ
    simp only [if_true]
  have hs := h.only.size
  obtain ⟨q1, q2, q3, q4, q5, q6, q7, q8⟩ := h
  rw [c0] at q3 q6
  refine ⟨q1.trans ho (fun i hi e => by rcases q3 i e with e | e; exact e; omega), fun _ => by rw [c1, c2]; exact hn, fun j hj => ?_, fun e => ?_, fun _ => ⟨a, c, rfl⟩, fun e _ => ?_, fun e => ?_, fun e => ?_⟩
  · rw [c1] at hj
    rcases hw with e | ⟨k, e, hk⟩
    · exact q3 j (e ▸ hj)
    · rw [e] at hj
      have := Option.some.inj hj
      exact .inr (by omega)
  · exact q4 h4
  · obtain ⟨g, e1, e2, e3⟩ := q6 (by simpa using e) h14
    have hlt := World.block_lt_of_cell? X _ e2
    refine ⟨g, e1, ?_, ?_⟩
    · rw [World.cell?_of_block (w := X) (ho.block g hlt e3)]
      exact e2
    · rw [c1]
      rcases hw with e | ⟨k, e, hk⟩
      · rw [e]; exact e3
      · rw [e]
        intro hh
        have := Option.some.inj hh
        simp only at hlt
        omega
  · simp [h14] at e
  · simp [h15] at e
/-- the literal -/
theorem RpS.lit1 (h : RpS W base v zs p1 p2 x D vals X) (h13 : D 13 = false) (h14 : D 14 = false) (h15 : D 15 = false) (hv : ∀ j, v.ownBlock = some j → j < W.heap.size) :
    RpS W base v zs p1 p2 x (fun j => if j = 13 then true else D j) (updV vals 13 (.slice (some ⟨X.heap.size, 0, none⟩) 1 1)) (X.alloc (.cells #[.int .u8 x] 5)) := by
  have ho : Only (fun _ => False) X (X.alloc (.cells #[.int .u8 x] 5)) := (Only.refl _ X).alloc _
  have c1 : curV v (fun j => if j = 13 then true else D j) (updV vals 13 (.slice (some ⟨X.heap.size, 0, none⟩) 1 1)) = curV v D vals := by
    unfold curV
    simp only [show (8 : Nat) ≠ 13 by decide, show (4 : Nat) ≠ 13 by decide, if_false]
    rfl
  have c2 : curZ zs p1 p2 (fun j => if j = 13 then true else D j) = curZ zs p1 p2 D := by
    unfold curZ
    simp only [show (8 : Nat) ≠ 13 by decide, show (4 : Nat) ≠ 13 by decide, if_false]
  obtain ⟨q1, q2, q3, q4, q5, q6, q7, q8⟩ := h
  refine ⟨q1.trans ho (fun _ _ h => h.elim), fun _ => by rw [c1, c2]; exact (q2 h14).only ho (fun _ _ h => h), fun j hj => q3 j (by rw [c1] at hj; exact hj), fun e => q4 (by simpa using e), fun e => q5 (by simpa using e), fun _ _ => ⟨_, rfl, (Blk.new X 5 [.int .u8 x]).cell 0, ?_⟩, fun e => ?_, fun e => ?_⟩
  · rw [c1]
    intro hh
    have := ((q2 h14).lt _ hh).2
    omega
  · simp [h14] at e
  · simp [h15] at e
/-- put behind -/
theorem RpS.app (h : RpS W base v zs p1 p2 x D vals X) (h8 : D 8 = true) (h14 : D 14 = false) (h15 : D 15 = false) {X1 : World} {a : Option Addr} {n c : Nat} (hn : Ob X1 base (.slice a n c) (zs ++ p1 ++ p2 ++ [x])) (ho : Only (fun j => (vals 8).ownBlock = some j) X X1) :
    RpS W base v zs p1 p2 x (fun j => if j = 14 then true else D j) (updV vals 14 (.slice a n c)) X1 := by
  have c0 : curV v D vals = vals 8 := by unfold curV; rw [h8]; rfl
  have c1 : curV v (fun j => if j = 14 then true else D j) (updV vals 14 (.slice a n c)) = curV v D vals := by
    unfold curV
    simp only [show (8 : Nat) ≠ 14 by decide, show (4 : Nat) ≠ 14 by decide, if_false]
    rfl
  have hs := h.only.size
  obtain ⟨q1, q2, q3, q4, q5, q6, q7, q8⟩ := h
  refine ⟨q1.trans ho (fun i hi e => by rw [c0] at q3; rcases q3 i e with e | e; exact e; omega), fun e => ?_, fun j hj => q3 j (by rw [c1] at hj; exact hj), fun e => q4 (by simpa using e), fun e => q5 (by simpa using e), fun _ e => ?_, fun _ => ⟨hn, _, _, _, rfl⟩, fun e => ?_⟩
  · simp at e
  · simp at e
  · simp [h15] at e
theorem RpS.asg1 (h : RpS W base v zs p1 p2 x D vals X) (h14 : D 14 = true) : RpS W base v zs p1 p2 x (fun j => if j = 15 then true else D j) (updV vals 15 (vals 14)) X := by
  have c1 : curV v (fun j => if j = 15 then true else D j) (updV vals 15 (vals 14)) = curV v D vals := by
    unfold curV
    simp only [show (8 : Nat) ≠ 15 by decide, show (4 : Nat) ≠ 15 by decide, if_false]
    rfl
  obtain ⟨q1, q2, q3, q4, q5, q6, q7, q8⟩ := h
  refine ⟨q1, fun e => ?_, fun j hj => q3 j (by rw [c1] at hj; exact hj), fun e => q4 (by simpa using e), fun e => q5 (by simpa using e), fun _ e => ?_, fun _ => q7 h14, fun _ => rfl⟩
  · simp [h14] at e
  · simp [h14] at e
end

end Go.Proofs.YtimmfnjkknbofaaDoor
/- How far the document's bytes of a text are (a literal, two appends, in whatever order Go takes them). No package's function. -/
namespace Go.Proofs.YtimmfnjkknbofaaDoor
set_option maxRecDepth 20000
open Go.RowKit
set_option linter.unusedVariables false
set_option linter.unusedSimpArgs false
set_option maxRecDepth 100000

/-- a literal's one byte put behind -/
theorem push_b (w : World) (base : Nat) (v : Value) (zs : List Int) (h : Ob w base v zs) (x : Int) (hx : 0 ≤ x ∧ x ≤ 255) (g : Nat) (hc : w.cell? ⟨g, 0, none⟩ = some (.int .u8 x)) (hl : zs.length + 1 ≤ 1000000) (hb : base ≤ w.heap.size) :
    ∃ ao cap w', (Builtin.append_ #[26, 26] 26 #[v, .slice (some ⟨g, 0, none⟩) 1 1]).run Tryd.prog w = .ok (.slice ao (zs.length + 1) cap) w' ∧ Ob w' base (.slice ao (zs.length + 1) cap) (zs ++ [x]) ∧ Only (fun q => v.ownBlock = some q) w w' ∧ ((Value.slice ao (zs.length + 1) cap).ownBlock = v.ownBlock ∨ ∃ k, (Value.slice ao (zs.length + 1) cap).ownBlock = some k ∧ w.heap.size ≤ k) := by
  obtain ⟨i0, hi, hz, hs, hby⟩ := info_parts infoB
  obtain ⟨v', w', hr, h1, h2, _, h4⟩ := run_append_own_at (P := Tryd.prog) w base 26 26 5 i0 (.int .u8 0) 1 1 Tryd.underlying26 hi hz hs hby rfl (by decide) v zs.length (zs.map (Value.int .u8)) h.row ⟨g, 0, none⟩ 1 1 [.int .u8 x] rfl
    (fun j u hj => by
      have hj0 : j < 1 := by have := (List.getElem?_eq_some_iff.1 hj).1; simpa using this
      obtain rfl : j = 0 := by omega
      simp only [List.getElem?_cons_zero, Option.some.injEq] at hj
      subst hj
      exact hc) (by intro u hu; simp at hu; subst hu; rfl) (by unfold maxLen; omega) (by omega) hb
  obtain ⟨ao, cap, rfl⟩ := own_form' h1
  refine ⟨ao, cap, w', hr, ⟨by simpa using h1, ?_⟩, (Only.refl _ w).grown h2 (fun q e _ => e), ?_⟩
  rotate_left
  · rcases h4 with e | e
    · exact .inl e
    · exact .inr ⟨_, e, Nat.le_refl _⟩
  intro z hz
  rcases List.mem_append.1 hz with hz | hz
  · exact h.ok z hz
  · rw [List.mem_singleton] at hz
    omega
/-- a string's bytes put behind -/
theorem push_s (w : World) (base : Nat) (v : Value) (zs : List Int) (h : Ob w base v zs) (z : List Int) (hz : ByteOk z) (hl : zs.length + z.length ≤ 1000000) (hb : base ≤ w.heap.size) :
    ∃ ao cap w', (Builtin.append_ #[26, 9] 26 #[v, .string (strOfNums z)]).run Tryd.prog w = .ok (.slice ao (zs.length + z.length) cap) w' ∧ Ob w' base (.slice ao (zs.length + z.length) cap) (zs ++ z) ∧ Only (fun q => v.ownBlock = some q) w w' := by
  obtain ⟨i0, hi, hz0, hs, hby⟩ := info_parts infoB
  have hsz : (strOfNums z).size = z.length := by simp [strOfNums, ByteArray.size]
  obtain ⟨v', w', hr, h1, h2, _⟩ := Go.Lib.run_append_own_string (P := Tryd.prog) (w := w) base 26 9 26 5 i0 Tryd.underlying26 Tryd.underlying9 hi hz0 hs hby v zs.length _ h.row (strOfNums z) (by unfold maxLen; omega) (by omega) hb
  rw [hsz, cells_nums z hz] at h1
  obtain ⟨ao, cap, rfl⟩ := own_form' h1
  refine ⟨ao, cap, w', hr, ⟨by simpa using h1, ?_⟩, (Only.refl _ w).grown h2 (fun q e _ => e)⟩
  intro y hy
  rcases List.mem_append.1 hy with hy | hy
  · exact h.ok y hy
  · exact hz y hy
theorem exec_appR2 {P : Program} {o : Oper} {ρ : Operand → Value} {w w' : World} (t u : TypeId) (s x : Operand) (hop : o.op = Op.call { callee := Callee.builtin Builtin.append, args := #[s, x], argTypes := #[t, u] })
    (v y v' : Value) (hs : ρ s = v) (hx : ρ x = y) (hr : (Builtin.append_ #[t, u] o.type #[v, y]).run P w = .ok v' w') : (execOp ρ o).run P w = .ok (.value v') w' := by
  simp [execOp, hop, resolve, invoke, builtin, hs, hx, hr, Result.andThen]

structure RqS (W : World) (base : Nat) (v : Value) (zs : List Int) (n : Int) (z : List Int) (D : Nat → Bool) (vals : Nat → Value) (X : World) : Prop where
  only : Only (fun j => v.ownBlock = some j) W X
  row : D 9 = false → Ob X base v zs
  lit : D 8 = true → D 9 = false → ∃ g, vals 8 = .slice (some ⟨g, 0, none⟩) 1 1 ∧ X.cell? ⟨g, 0, none⟩ = some (.int .u8 n)
  mid : D 9 = true → (D 15 = false → Ob X base (vals 9) (zs ++ [n])) ∧ (∃ a c, vals 9 = .slice a (zs ++ [n]).length c) ∧ ∀ j, (vals 9).ownBlock = some j → v.ownBlock = some j ∨ W.heap.size ≤ j
  fin : D 15 = true → Ob X base (vals 15) (zs ++ [n] ++ z) ∧ ∃ a k c, vals 15 = .slice a k c
  asg : D 16 = true → vals 16 = vals 15
section
variable {W X : World} {base : Nat} {v : Value} {zs z : List Int} {n : Int} {D : Nat → Bool} {vals : Nat → Value}
theorem RqS.ind {D' : Nat → Bool} {vals' : Nat → Value} (h : RqS W base v zs n z D vals X) (hv : ∀ j, j ∈ [8, 9, 15, 16] → D j = D' j ∧ vals j = vals' j) : RqS W base v zs n z D' vals' X := by
  obtain ⟨e1, e2⟩ := hv 8 (by decide)
  obtain ⟨e3, e4⟩ := hv 9 (by decide)
  obtain ⟨e5, e6⟩ := hv 15 (by decide)
  obtain ⟨e7, e8⟩ := hv 16 (by decide)
  obtain ⟨q1, q2, q3, q4, q5, q6⟩ := h
  rw [e3] at q2
  rw [e1, e2, e3] at q3
  rw [e3, e4, e5] at q4
  rw [e5, e6] at q5
  rw [e7, e8, e6] at q6
  exact ⟨q1, q2, q3, q4, q5, q6⟩
theorem RqS.start (h : Ob X base v zs) (ho : Only (fun j => v.ownBlock = some j) W X) : RqS W base v zs n z (fun _ => false) vals X :=
  ⟨ho, fun _ => h, (fun h => by cases h), (fun h => by cases h), (fun h => by cases h), (fun h => by cases h)⟩
theorem RqS.lit1 (h : RqS W base v zs n z D vals X) (h9 : D 9 = false) (h15 : D 15 = false) (h16 : D 16 = false) :
    RqS W base v zs n z (fun j => if j = 8 then true else D j) (updV vals 8 (.slice (some ⟨X.heap.size, 0, none⟩) 1 1)) (X.alloc (.cells #[.int .u8 n] 5)) := by
  have ho : Only (fun _ => False) X (X.alloc (.cells #[.int .u8 n] 5)) := (Only.refl _ X).alloc _
  obtain ⟨q1, q2, q3, q4, q5, q6⟩ := h
  refine ⟨q1.trans ho (fun _ _ h => h.elim), fun _ => (q2 h9).only ho (fun _ _ h => h), fun _ _ => ⟨_, rfl, (Blk.new X 5 [.int .u8 n]).cell 0⟩, fun e => ?_, fun e => ?_, fun e => ?_⟩
  · simp [h9] at e
  · simp [h15] at e
  · simp [h16] at e
theorem RqS.one (h : RqS W base v zs n z D vals X) (h9 : D 9 = false) (h15 : D 15 = false) (h16 : D 16 = false) {X1 : World} {a : Option Addr} {c : Nat} (hn : Ob X1 base (.slice a (zs ++ [n]).length c) (zs ++ [n])) (ho : Only (fun j => v.ownBlock = some j) X X1)
    (hw : (Value.slice a (zs ++ [n]).length c).ownBlock = v.ownBlock ∨ ∃ k, (Value.slice a (zs ++ [n]).length c).ownBlock = some k ∧ X.heap.size ≤ k) :
    RqS W base v zs n z (fun j => if j = 9 then true else D j) (updV vals 9 (.slice a (zs ++ [n]).length c)) X1 := by
  have hs := h.only.size
  obtain ⟨q1, q2, q3, q4, q5, q6⟩ := h
  refine ⟨q1.trans ho (fun _ _ e => e), fun e => ?_, fun _ e => ?_, fun _ => ⟨fun _ => hn, ⟨a, c, rfl⟩, fun j hj => ?_⟩, fun e => ?_, fun e => ?_⟩
  · simp at e
  · simp at e
  · rw [show updV vals 9 (Value.slice a (zs ++ [n]).length c) 9 = .slice a (zs ++ [n]).length c from rfl] at hj
    rcases hw with e | ⟨k, e, hk⟩
    · exact .inl (e ▸ hj)
    · rw [e] at hj
      have := Option.some.inj hj
      exact .inr (by omega)
  · simp [h15] at e
  · simp [h16] at e
theorem RqS.two (h : RqS W base v zs n z D vals X) (h9 : D 9 = true) (h15 : D 15 = false) (h16 : D 16 = false) {X1 : World} {a : Option Addr} {k c : Nat} (hn : Ob X1 base (.slice a k c) (zs ++ [n] ++ z)) (ho : Only (fun j => (vals 9).ownBlock = some j) X X1) :
    RqS W base v zs n z (fun j => if j = 15 then true else D j) (updV vals 15 (.slice a k c)) X1 := by
  have hs := h.only.size
  obtain ⟨q1, q2, q3, q4, q5, q6⟩ := h
  obtain ⟨_, p2, p3⟩ := q4 h9
  refine ⟨q1.trans ho (fun i hi e => by rcases p3 i e with e | e; exact e; omega), fun e => ?_, fun _ e => ?_, fun _ => ⟨fun e => ?_, p2, p3⟩, fun _ => ⟨hn, _, _, _, rfl⟩, fun e => ?_⟩
  · simp [h9] at e
  · simp [h9] at e
  · simp at e
  · simp [h16] at e
theorem RqS.asg1 (h : RqS W base v zs n z D vals X) (h15 : D 15 = true) : RqS W base v zs n z (fun j => if j = 16 then true else D j) (updV vals 16 (vals 15)) X := by
  obtain ⟨q1, q2, q3, q4, q5, q6⟩ := h
  exact ⟨q1, fun e => q2 (by simpa using e), fun a b => q3 (by simpa using a) (by simpa using b), fun e => ⟨fun a => (q4 (by simpa using e)).1 (by simpa using a), (q4 (by simpa using e)).2⟩, fun _ => q5 h15, fun _ => rfl⟩
theorem RpS.conv {W X : World} {base : Nat} {v : Value} {zs p1 p2 : List Int} {x : Int} {D : Nat → Bool} {vals : Nat → Value} {i : Nat} (h : RpS W base v zs p1 p2 x (fun j => if j = i then true else D j) vals X) : RpS W base v zs p1 p2 x (fun j => decide (j = i) || D j) vals X := by
  have e : (fun j => decide (j = i) || D j) = fun j => if j = i then true else D j := by
    funext j
    by_cases hj : j = i <;> simp [hj]
  rw [e]
  exact h
theorem RqS.conv {i : Nat} (h : RqS W base v zs n z (fun j => if j = i then true else D j) vals X) : RqS W base v zs n z (fun j => decide (j = i) || D j) vals X := by
  have e : (fun j => decide (j = i) || D j) = fun j => if j = i then true else D j := by
    funext j
    by_cases hj : j = i <;> simp [hj]
  rw [e]
  exact h
end

end Go.Proofs.YtimmfnjkknbofaaDoor
