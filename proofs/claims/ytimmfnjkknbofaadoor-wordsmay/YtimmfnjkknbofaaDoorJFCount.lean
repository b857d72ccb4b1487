/- Contracts: package fold's Runes, Count. -/
import Derived.Test.YtimmfnjkknbofaaDoorJFU8
import Derived.Test.YtimmfnjkknbofaaDoorJFFirst
import Derived.Test.YtimmfnjkknbofaaDoorJCut
import Derived.Maps.AppendAt
namespace Go.Proofs.YtimmfnjkknbofaaDoor
set_option maxRecDepth 20000
open Go.RowKit Go.Shelf
set_option linter.unusedVariables false
set_option maxRecDepth 100000
attribute [local go_sem] Oper.semAt_some

theorem runes_any (w : World) (v : Value) (zs : List Int) (h : Sl w v zs) : Calls Tryd.prog 87 #[v] w fun e w' => e = .returned (.func (.func 110) #[] #[.pointer (some ⟨w.heap.size, 0, none⟩)]) ∧ w' = w.alloc (.cells #[.string (strOfNums zs)] 9) := by
  have hcv := run_convert_sl (P := Tryd.prog) w 26 5 9 Tryd.underlying26 Tryd.underlying5 Tryd.underlying9 v zs h
  generalize strOfNums zs = s at *
  obtain ⟨ao, n, cap, rfl⟩ := sl_form h
  clear h
  go_enter Tryd.func87, Tryd.ntmps87
  go_wp2
  go_ret
  exact ⟨rfl, rfl⟩

/-- between two rounds of Count -/
structure CtI (w : World) (s : ByteArray) (x : Nat) (Y : Nat → Prop) (W : World) : Prop where
  b1 : Blk W w.heap.size 3 [.int .i64 (x : Int)]
  b2 : Blk W (w.heap.size + 1) 9 [.string s]
  below : Below w.heap.size w W
  size : w.heap.size + 4 ≤ W.heap.size
  ys : ∀ j, Y j → w.heap.size + 4 ≤ j ∧ j < W.heap.size
theorem CtI.keep {w : World} {s : ByteArray} {x : Nat} {Y : Nat → Prop} {W W' : World} (h : CtI w s x Y W) (ho : Only (fun j => j = w.heap.size + 2 ∨ j = w.heap.size + 2 + 1) W W') : CtI w s x Y W' :=
  ⟨h.b1.only ho (by omega), h.b2.only ho (by omega), h.below.trans (ho.below h.below.size (fun j hj e => by omega)), Nat.le_trans h.size ho.size, fun j hj => ⟨(h.ys j hj).1, Nat.lt_of_lt_of_le (h.ys j hj).2 ho.size⟩⟩
theorem CtI.grow {w : World} {s : ByteArray} {x : Nat} {Y : Nat → Prop} {W W' : World} (h : CtI w s x Y W) (ho : Only Y W W') : CtI w s x (more Y W W') W' := by
  have hs := h.size
  have hy := h.ys
  refine ⟨h.b1.only ho (fun e => by have := (hy _ e).1; omega), h.b2.only ho (fun e => by have := (hy _ e).1; omega), h.below.trans (ho.below h.below.size (fun j hj e => by have := (hy _ e).1; omega)), Nat.le_trans h.size ho.size, fun j hj => ?_⟩
  rcases hj with hj | hj
  · exact ⟨(hy j hj).1, Nat.lt_of_lt_of_le (hy j hj).2 ho.size⟩
  · exact ⟨by omega, hj.2⟩


end Go.Proofs.YtimmfnjkknbofaaDoor
/- Runes of bytes in two pieces (pure). -/
namespace Go.Proofs.YtimmfnjkknbofaaDoor
set_option maxRecDepth 20000
open Go.RowKit
set_option linter.unusedVariables false
set_option linter.unusedSimpArgs false
set_option maxRecDepth 100000

theorem rnL_fuel : ∀ (f g p : Nat) (b : List Int), b.length ≤ f → b.length ≤ g → rnL f p b = rnL g p b
  | 0, g, p, b, h, _ => by
    obtain rfl : b = [] := List.eq_nil_of_length_eq_zero (by omega)
    rw [rnL_nil, rnL_nil]
  | f + 1, g, p, b, h1, h2 => by
    by_cases hb : b = []
    · subst hb; rw [rnL_nil, rnL_nil]
    · have hl := List.length_pos_iff.2 hb
      obtain ⟨g, rfl⟩ : ∃ g', g = g' + 1 := ⟨g - 1, by omega⟩
      have hp := decN_pos b hb
      rw [rnL_on f p hb, rnL_on g p hb, rnL_fuel f g _ _ (by simp; omega) (by simp; omega)]
def shiftM (q : Nat) (x : Nat × Nat) : Nat × Nat := (q + x.1, x.2)
theorem rnL_shift (q : Nat) : ∀ (f p : Nat) (b : List Int), rnL f (q + p) b = (rnL f p b).map (shiftM q)
  | 0, p, b => rfl
  | f + 1, p, b => by
    by_cases hb : b = []
    · subst hb; rw [rnL_nil, rnL_nil]; rfl
    · rw [rnL_on f _ hb, rnL_on f _ hb, List.map_cons, Nat.add_assoc, rnL_shift q f]
      rfl
/-- no byte from 128 to 191 ahead -/
def noOn (b : List Int) : Prop := ∀ z, b.head? = some z → ¬ (128 ≤ z ∧ z ≤ 191)
theorem rnL_app (b : List Int) (hb : ByteOk b) (hc : noOn b) : ∀ (f p : Nat) (a : List Int), ByteOk a → a.length + b.length ≤ f → rnL f p (a ++ b) = rnL a.length p a ++ rnL b.length (p + a.length) b
  | 0, p, a, _, hf => by
    obtain rfl : a = [] := List.eq_nil_of_length_eq_zero (by omega)
    obtain rfl : b = [] := List.eq_nil_of_length_eq_zero (by omega)
    rfl
  | f + 1, p, a, ha, hf => by
    by_cases hn : a = []
    · subst hn
      rw [List.nil_append, rnL_nil, List.nil_append, List.length_nil, Nat.add_zero]
      exact rnL_fuel _ _ _ _ (by simp at hf; omega) (Nat.le_refl _)
    · have hl := List.length_pos_iff.2 hn
      have hd := dec_app ha hb hn hc
      have hw : (decN a).2 ≤ a.length := by
        rcases dec_is ha hn with ⟨r, _, h2, h3⟩ | ⟨h3, _⟩
        · rw [h3]; exact h2.length_le
        · rw [h3]; exact hl
      have hp := decN_pos a hn
      obtain ⟨g, hg⟩ : ∃ g, a.length = g + 1 := ⟨a.length - 1, by omega⟩
      rw [rnL_on f p (by simp [hn]), hd, List.drop_append_of_le_length hw, rnL_app b hb hc f _ _ (ha.drop _) (by simp; omega)]
      rw [hg, rnL_on g p hn, List.cons_append]
      congr 1
      rw [rnL_fuel g (a.drop (decN a).2).length _ _ (by simp; omega) (Nat.le_refl _)]
      congr 2
      simp
      omega
theorem runes_app {a b : List Int} (ha : ByteOk a) (hb : ByteOk b) (hc : noOn b) : runesN (a ++ b) = runesN a ++ (runesN b).map (shiftM a.length) := by
  unfold runesN
  rw [rnL_app b hb hc _ 0 a ha (by simp), Nat.zero_add]
  congr 1
  have := rnL_shift a.length b.length 0 b
  rwa [Nat.add_zero] at this

theorem rnL_at : ∀ (f p : Nat) (b : List Int), ByteOk b → b.length ≤ f → ∀ x ∈ rnL f p b, x.1 < p + b.length
  | 0, p, b, _, h => by intro x hx; simp [rnL] at hx
  | f + 1, p, b, hb, h => by
    by_cases hn : b = []
    · subst hn; intro x hx; rw [rnL_nil] at hx; cases hx
    · have hl := List.length_pos_iff.2 hn
      have hw : (decN b).2 ≤ b.length := by
        rcases dec_is hb hn with ⟨r, _, h2, h3⟩ | ⟨h3, _⟩
        · rw [h3]; exact h2.length_le
        · rw [h3]; exact hl
      have hp := decN_pos b hn
      rw [rnL_on f p hn]
      intro x hx
      rcases List.mem_cons.1 hx with rfl | hx
      · simp; omega
      · have := rnL_at f _ _ (hb.drop _) (by simp; omega) x hx
        simp at this
        omega
theorem runesN_at {b : List Int} (hb : ByteOk b) : ∀ x ∈ runesN b, x.1 < b.length := fun x hx => by
  have := rnL_at _ 0 b hb (Nat.le_refl _) x hx
  omega

theorem sl_len {w : World} {ao : Option Addr} {n cap : Nat} {zs : List Int} (h : Sl w (.slice ao n cap) zs) : n = zs.length := by
  obtain ⟨_, ao', cap', he, _⟩ := h
  simp at he
  exact he.2.1

end Go.Proofs.YtimmfnjkknbofaaDoor
/- Contract: runes that are told, at most so many (incipitlaw13.marks), over whatever iterator. -/
namespace Go.Proofs.YtimmfnjkknbofaaDoor
set_option maxRecDepth 20000
open Go.RowKit Go.Shelf
set_option linter.unusedVariables false
set_option maxRecDepth 100000
attribute [local go_sem] Oper.semAt_some

theorem wpListIn_append_run {F : Fence} {n : Nat} {P : Program} (w : World) {ops : Array Oper} {rest : List Oper} {o : Oper} {a : Act} {Q : Exit → Act → World → Prop} (hg : o.guard = none) (s x : Operand) (t : TypeId)
    (hop : o.op = .call { callee := .builtin .append, args := #[s, x], argTypes := #[t, t] }) (v y : Value) (hs : a.eval s = v) (hx : a.eval x = y) (v' : Value) (w' : World)
    (hr : (Builtin.append_ #[t, t] o.type #[v, y]).run P w = .ok v' w') (h : wpListIn F n P ops Q rest (a.put o.dst v') w') : wpListIn F n P ops Q (o :: rest) a w := by
  refine wpListIn_plain hg fun K hK' => ?_
  unfold Oper.wpIn
  refine ⟨?_, ?_⟩
  · simp [Oper.about, hop, resolve, Target.leads, Sem.run_pure]
  · rw [Oper.semAt_plain F _ _ (by rw [hop]; intro c hc'; cases hc')]
    simp [execOp, hop, resolve, invoke, builtin, hs, hx, hr, Result.andThen]
    exact hK' _ _ h
def mark2 (x : Nat × Nat) : List Value := [.int .i64 (x.1 : Int), .int .i32 (x.2 : Int)]
def markRow (xs : List (Nat × Nat)) : List Value := (xs.map mark2).flatten
theorem markRow_snoc (xs : List (Nat × Nat)) (x : Nat × Nat) : markRow (xs ++ [x]) = markRow xs ++ mark2 x := by simp [markRow]
theorem infoMark : (Tryd.prog.info? 102).map (fun i => (i.zero, i.size, i.bytes)) = some (some (.agg #[.int .i64 0, .int .i32 0]), 2, 16) := by kernel_rfl
/-- a []one that is owned -/
def Marks (w : World) (base : Nat) (v : Value) (xs : List (Nat × Nat)) : Prop := w.ownsRow base 102 2 v xs.length (markRow xs)
theorem Marks.only {S : Nat → Prop} {w w' : World} {base : Nat} {v : Value} {xs : List (Nat × Nat)} (h : Marks w base v xs) (ho : Only S w w') (hn : ∀ k, v.ownBlock = some k → ¬ S k) : Marks w' base v xs := ownsRow_only h ho hn
theorem Marks.shape {w : World} {base : Nat} {v : Value} {xs : List (Nat × Nat)} (h : Marks w base v xs) : ∃ ao cap, v = .slice ao xs.length cap := own_form' h
theorem Marks.lt {w : World} {base : Nat} {v : Value} {xs : List (Nat × Nat)} (h : Marks w base v xs) (k : Nat) (hk : v.ownBlock = some k) : base ≤ k ∧ k < w.heap.size := World.ownsRow.lt h k hk

theorem run_append_mark (w : World) (base : Nat) (v : Value) (xs : List (Nat × Nat)) (h : Marks w base v xs) (x : Nat × Nat) (hl : xs.length + 1 ≤ 1000000) (hb : base ≤ w.heap.size) :
    ∃ v' w', (Builtin.append_ #[99, 99] 99 #[v, .slice (some ⟨w.heap.size, 0, none⟩) 1 1]).run Tryd.prog (w.alloc (.cells #[.int .i64 (x.1 : Int), .int .i32 (x.2 : Int)] 102)) = .ok v' w' ∧ Marks w' base v' (xs ++ [x]) ∧ (w.alloc (.cells #[.int .i64 (x.1 : Int), .int .i32 (x.2 : Int)] 102)).grownBy w' v.ownBlock ∧ (v'.ownBlock = v.ownBlock ∨ v'.ownBlock = some (w.heap.size + 1)) ∧ ∃ ao cap, v' = .slice ao (xs.length + 1) cap := by
  obtain ⟨i0, hi, hz, hs, hby⟩ := info_parts infoMark
  obtain ⟨v', w', hr, h1, h2, _, h4⟩ := run_append_own_at (P := Tryd.prog) (w.alloc (.cells #[.int .i64 (x.1 : Int), .int .i32 (x.2 : Int)] 102)) base 99 99 102 i0 _ 2 16 Tryd.underlying99 hi hz hs hby rfl (by decide) v xs.length (markRow xs) (World.ownsRow.alloc h _) ⟨w.heap.size, 0, none⟩ 1 1 (mark2 x) rfl
    (fun j u hj => by
      have hB := Blk.new w 102 (mark2 x)
      rw [Addr.add_mid, Nat.zero_add]
      exact (hB.cell j).trans hj) (by intro u hu; simp [mark2] at hu; rcases hu with rfl | rfl <;> rfl) (by unfold maxLen; omega) (by omega) (by simp; omega)
  refine ⟨v', w', hr, ?_, h2, ?_, ?_⟩
  · unfold Marks
    rw [markRow_snoc]
    simpa using h1
  · simpa using h4
  · exact own_form' h1

theorem eqlF (gf : Nat) (lb : Array Value) (w : World) : (binOp .eql 128 (.func (.func gf) #[] lb) .nilFunc).run Tryd.prog w = .ok (.bool false) w := by kernel_rfl

structure MkI (w : World) (most : Int) (xs : List (Nat × Nat)) (Y : Nat → Prop) (k : Nat) (W : World) : Prop where
  b1 : Blk W w.heap.size 3 [.int .i64 most]
  box : ∃ v, Blk W (w.heap.size + 1) 99 [v] ∧ Marks W w.heap.size v (xs.take k) ∧ ∀ j, v.ownBlock = some j → w.heap.size + 4 ≤ j ∧ ¬ Y j
  below : Below w.heap.size w W
  size : w.heap.size + 4 ≤ W.heap.size
  ys : ∀ j, Y j → w.heap.size + 4 ≤ j ∧ j < W.heap.size

theorem MkI.keep {w : World} {most : Int} {xs : List (Nat × Nat)} {Y : Nat → Prop} {k : Nat} {W W' : World} (h : MkI w most xs Y k W) (ho : Only (fun j => j = w.heap.size + 2 ∨ j = w.heap.size + 2 + 1) W W') : MkI w most xs Y k W' := by
  obtain ⟨v, h1, h2, h3⟩ := h.box
  exact ⟨h.b1.only ho (by omega), ⟨v, h1.only ho (by omega), h2.only ho (fun j hj e => by have := (h3 j hj).1; omega), h3⟩, h.below.trans (ho.below h.below.size (fun j hj e => by omega)), Nat.le_trans h.size ho.size, fun j hj => ⟨(h.ys j hj).1, Nat.lt_of_lt_of_le (h.ys j hj).2 ho.size⟩⟩
theorem MkI.grow {w : World} {most : Int} {xs : List (Nat × Nat)} {Y : Nat → Prop} {k : Nat} {W W' : World} (h : MkI w most xs Y k W) (ho : Only Y W W') : MkI w most xs (more Y W W') k W' := by
  obtain ⟨v, h1, h2, h3⟩ := h.box
  have hs := h.size
  have hy := h.ys
  refine ⟨h.b1.only ho (fun e => by have := (hy _ e).1; omega), ⟨v, h1.only ho (fun e => by have := (hy _ e).1; omega), h2.only ho (fun j hj e => (h3 j hj).2 e), fun j hj => ⟨(h3 j hj).1, fun hy => hy.elim (h3 j hj).2 (fun hy => by have := (h2.lt j hj).2; omega)⟩⟩, h.below.trans (ho.below h.below.size (fun j hj e => by have := (hy _ e).1; omega)), Nat.le_trans h.size ho.size, fun j hj => ?_⟩
  rcases hj with hj | hj
  · exact ⟨(h.ys j hj).1, Nat.lt_of_lt_of_le (h.ys j hj).2 ho.size⟩
  · exact ⟨by omega, hj.2⟩
theorem take_snoc {α : Type} (xs : List α) (k : Nat) (hk : k < xs.length) : xs.take (k + 1) = xs.take k ++ [xs[k]] := by rw [List.take_succ_eq_append_getElem hk]


theorem Marks.below {w w' : World} {base : Nat} {v : Value} {xs : List (Nat × Nat)} (h : Marks w base v xs) (hb : Below w.heap.size w w') : Marks w' base v xs := h.only (Only.of_below (fun _ => False) hb) (fun _ _ h => h)

end Go.Proofs.YtimmfnjkknbofaaDoor
/- Contract: the runes of bytes, by the document (incipitref13.Runes). -/
namespace Go.Proofs.YtimmfnjkknbofaaDoor
set_option maxRecDepth 20000
open Go.RowKit
set_option linter.unusedVariables false
set_option linter.unusedSimpArgs false
set_option maxRecDepth 100000

theorem marks_none (w : World) (base : Nat) (hb : base ≤ w.heap.size) : Marks (w.alloc (.cells #[] 102)) base (.slice (some ⟨w.heap.size, 0, none⟩) 0 0) [] :=
  ⟨rfl, .inr ⟨w.heap.size, 0, #[], rfl, hb, heap_alloc_new w _, Nat.le_refl _, by simp [maxLen], by simp, rfl⟩⟩
theorem dec_width {b : List Int} (hb : ByteOk b) (hne : b ≠ []) : (decN b).2 ≤ b.length := by
  rcases dec_is hb hne with ⟨r, _, h2, h3⟩ | ⟨h3, _⟩
  · rw [h3]; exact h2.length_le
  · rw [h3]; exact List.length_pos_iff.2 hne

set_option maxHeartbeats 2000000 in
theorem refRunes_any (w : World) (v : Value) (zs : List Int) (h : Sl w v zs) (hl : zs.length ≤ 100000) : Calls Tryd.prog 65 #[v] w fun e w' => ∃ u, e = .returned u ∧ Marks w' w.heap.size u (runesN zs) ∧ Below w.heap.size w w' := by
  have hok := h.1
  obtain ⟨ao, L, cap, rfl⟩ := sl_form h
  have hL := sl_len h
  have hLi : (L : Int) ≤ 100000 := by omega
  obtain ⟨w1, hw1⟩ : ∃ w1, w.alloc (.cells #[] 102) = w1 := ⟨_, rfl⟩
  have HM0 : Hid (Marks w1 w.heap.size (.slice (some ⟨w.heap.size, 0, none⟩) 0 0) []) := by rw [← hw1]; exact marks_none w _ (Nat.le_refl _)
  have HB0 : Hid (Below w.heap.size w w1) := by rw [← hw1]; exact (Below.refl _ w).alloc (Nat.le_refl _) _
  have HS := hide h
  have HL := hide hL
  have HOK := hide hok
  have HRL := hide (runesN_len zs)
  clear h hok hL hl
  go_enter Tryd.func65, Tryd.ntmps65
  go_wp2
  go_loopg [3, 4] L (fun gk l t wr => ∃ (p k : Nat) (al : Option Addr) (cl : Nat) (RR : List (Nat × Nat)), gk + p = L ∧ t = .int .i64 (p : Int) ∧ l = .slice al k cl ∧ RR.length = k ∧ Marks wr w.heap.size (.slice al k cl) RR ∧ RR ++ rnL gk p (zs.drop p) = runesN zs ∧ Below w.heap.size w wr)
  case atStart => exact ⟨0, 0, _, 0, [], rfl, rfl, rfl, rfl, HM0.out, by rw [HL.out]; rfl, HB0.out⟩
  case round =>
    clear HM0 HB0 hw1
    obtain ⟨p, k, al, cl, RR, hk, rfl, rfl, hrr, hm, hr, hbw⟩ := hrel
    have HM := hide hm
    have HR := hide hr
    have HBW := hide hbw
    have HK := hide hrr
    clear hm hr hbw hrr
    cases gk with
    | zero =>
      obtain rfl : p = L := by omega
      have hlt : ¬ (p : Int) < (p : Int) := by omega
      go_wp2
      go_ret
      refine ⟨_, rfl, ?_, HBW.out⟩
      have h1 := HR.out
      rw [show rnL 0 p (zs.drop p) = [] from rfl, List.append_nil] at h1
      rw [← h1]
      exact HM.out
    | succ g =>
      have hp : (p : Int) < (L : Int) := by omega
      have hpz : p < zs.length := by have := HL.out; omega
      have hne : zs.drop p ≠ [] := by
        intro e
        have := congrArg List.length e
        simp at this
        omega
      have hSz : Sl wr (.slice ao zs.length cap) zs := by rw [← HL.out]; exact HS.out.below HBW.out
      obtain ⟨a', c', hcut, hsl⟩ := cut_l wr ao zs cap p hSz (by omega)
      rw [← HL.out] at hcut
      have HSL := hide (hsl wr hSz)
      have hdok : ByteOk (zs.drop p) := HOK.out.drop p
      have hwid := dec_width hdok hne
      have hpos := decN_pos _ hne
      have hle := decN_le (zs.drop p)
      have HFI := hide (refFirst_any wr _ (zs.drop p) HSL.out hne)
      have hstep := rnL_on g p hne
      obtain ⟨m, hm⟩ : ∃ m, (zs.drop p).length = m := ⟨_, rfl⟩
      have hmL : m + p = L := by have := HL.out; rw [← hm]; simp; omega
      rw [hm] at hcut hwid HFI
      have HST : Hid (rnL (g + 1) p (zs.drop p) = (p, (decN (zs.drop p)).1) :: rnL (g + 1 - (decN (zs.drop p)).2) (p + (decN (zs.drop p)).2) (zs.drop (p + (decN (zs.drop p)).2))) := by
        show _ = _
        rw [hstep, List.drop_drop]
        congr 1
        exact rnL_fuel _ _ _ _ (by have := HL.out; simp only [List.length_drop]; omega) (by have := HL.out; simp only [List.length_drop]; omega)
      generalize decN (zs.drop p) = d at *
      obtain ⟨r, n⟩ := d
      simp only at hwid hpos hle HFI HST
      have hpi : (p : Int) + (n : Int) ≤ 100000 := by omega
      have HAP : Hid (∀ W, Below wr.heap.size wr W → ∃ w3 ao2 cap2, (Builtin.append_ #[99, 99] 99 #[.slice al k cl, .slice (some ⟨W.heap.size, 0, none⟩) 1 1]).run Tryd.prog (W.alloc (.cells #[.int .i64 (p : Int), .int .i32 (r : Int)] 102)) = .ok (.slice ao2 (k + 1) cap2) w3 ∧ Marks w3 w.heap.size (.slice ao2 (k + 1) cap2) (RR ++ [(p, r)]) ∧ Below w.heap.size w w3) := fun W hW => by
        have hMW := HM.out.below hW
        obtain ⟨v2, w3, hr, hi2, hg2, hv2, ao2, cap2, rfl⟩ := run_append_mark W w.heap.size _ _ hMW (p, r) (by have h1 := congrArg List.length HR.out; simp at h1; have h2 := HRL.out; have h3 := HL.out; omega) (by have := HBW.out.size; have := hW.size; omega)
        rw [HK.out] at hr hi2
        refine ⟨w3, ao2, cap2, hr, hi2, ?_⟩
        have hoA : Only (fun q => (Value.slice al k cl).ownBlock = some q) W w3 := ((Only.refl _ W).alloc _).grown hg2 (fun q e _ => e)
        have hbW := HBW.out.trans (hW.mono HBW.out.size)
        exact hbW.trans (hoA.below hbW.size (fun q hq e => by have h1 := (hMW.lt q e).1; omega))
      clear hstep hdok hne hm hSz hsl
      go_wp2_with (first
        | (go_at_call 84; refine HFI.out.mono ?_; rintro e w2 ⟨rfl, hb⟩; obtain ⟨w3, ao2, cap2, hap, hm3, hb3⟩ := HAP.out w2 hb; have HA3 := hide hap; have HM3 := hide hm3; have HB3 := hide hb3; clear HFI HAP hb hap hm3 hb3)
        | (at_builtin; (with_reducible refine wpList_append_run _ rfl (.tmp 19) (.tmp 23) 99 rfl _ _ ?_ ?_ _ _ HA3.out ?_); exact rfl; exact rfl; clear HA3))
      go_roundg (g + 1 - n)
      case measure => omega
      case rel =>
        refine ⟨p + n, k + 1, ao2, cap2, RR ++ [(p, r)], by omega, by go_num, rfl, by simp; have := HK.out; omega, HM3.out, ?_, HB3.out⟩
        rw [List.append_assoc, ← HR.out, HST.out]
        rfl

end Go.Proofs.YtimmfnjkknbofaaDoor
