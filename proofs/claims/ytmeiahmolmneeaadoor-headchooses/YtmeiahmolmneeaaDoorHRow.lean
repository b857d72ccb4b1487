/- What walks over heads share: numbers of the call's own, a result that is a head, the result's block so far. -/
import Derived.Test.YtmeiahmolmneeaaDoorHRd
import Derived.Test.YtmeiahmolmneeaaDoorHPut
import Derived.Test.YtmeiahmolmneeaaDoorRegionM
namespace Go.Proofs.YtmeiahmolmneeaaDoor
set_option maxRecDepth 20000
open Go.RowKit
set_option linter.unusedVariables false

theorem infoInt : (Tryd.prog.info? 3).map (fun i => (i.zero, i.size, i.bytes)) = some (some (.int .i64 0), 1, 8) := by kernel_rfl
theorem oneCell_ints (zs : List Int) : ∀ v ∈ zs.map (Value.int .i64), v.oneCell' = true := by
  intro v hv
  obtain ⟨z, _, rfl⟩ := List.mem_map.1 hv
  rfl
/-- numbers of the call's own, as numbers that are read -/
theorem is_of_own {w : World} {base : Nat} {v : Value} {n : Nat} {zs : List Int} (h : w.ownsRow base 3 1 v n (zs.map (Value.int .i64))) : Is w v zs := by
  obtain ⟨h1, h2⟩ := h
  have hn : zs.length = n := by simpa using h1
  subst hn
  rcases h2 with ⟨rfl, h0⟩ | ⟨g, cap, cur, rfl, _, hg, hnc, hcm, hcs, ht⟩
  · exact ⟨none, 0, by rw [h0], by omega, by simp [maxLen], fun hz => absurd (List.eq_nil_of_length_eq_zero h0) hz⟩
  · refine ⟨_, cap, rfl, hnc, hcm, fun _ => ⟨g, 0, rfl, fun i hi => ?_⟩⟩
    rw [cell_of_row w g (0 + i) cur 3 (0, 0) hg]
    have : (cur.toList.take (zs.length * 1))[i]? = (zs.map (Value.int .i64))[i]? := by rw [ht]
    rw [List.getElem?_take, if_pos (by omega)] at this
    simp at this
    rw [Nat.zero_add, this]
    rw [getD_lt zs hi]
    simp [hi]

theorem run_append_int (w : World) (base : Nat) (a : Option Addr) (n c : Nat) (xs : List Int) (hown : w.ownsRow base 3 1 (.slice a n c) xs.length (xs.map (Value.int .i64))) (g : Nat) (x : Int) (hg : Blk w g 3 [.int .i64 x]) (hl : xs.length ≤ 1000) (hb : base ≤ w.heap.size) :
    ∃ v' w', (Builtin.append_ #[23, 23] 23 #[.slice a n c, .slice (some ⟨g, 0, none⟩) 1 1]).run Tryd.prog w = .ok v' w' ∧ w'.ownsRow base 3 1 v' (xs ++ [x]).length ((xs ++ [x]).map (Value.int .i64)) ∧ w.grownBy w' (Value.slice a n c).ownBlock := by
  obtain ⟨i0, hi, hz0, hz1, hz2⟩ := info_parts infoInt
  obtain ⟨v', w', hr, h1, h2, _⟩ := run_append_own (P := Tryd.prog) w base 23 23 3 i0 (.int .i64 0) 1 8 Tryd.underlying23 hi hz0 hz1 hz2 rfl (by decide) (.slice a n c) xs.length (xs.map (Value.int .i64)) hown ⟨g, 0, none⟩ 1 1 [.int .i64 x] rfl (by
    intro j u hj
    have hj1 := (List.getElem?_eq_some_iff.1 hj).1
    have : j = 0 := by simp at hj1; omega
    subst this
    simp [Addr.add]
    rw [hg.cell]
    exact hj) (by intro u hu; simp at hu; subst hu; rfl) (by unfold maxLen; omega) (by omega) hb
  refine ⟨v', w', hr, ?_, h2⟩
  have e : (xs ++ [x]).length = xs.length + 1 := by simp
  rw [e, List.map_append]
  exact h1

theorem sizeHead : (Tryd.prog.info? 26).map (·.size) = some 4 := by kernel_rfl
theorem zeroHeadRun (w : World) : (zeroValue 26).run Tryd.prog w = .ok (.agg #[.int .u64 0, .int .i64 0, .slice none 0 0, .slice none 0 0]) w := by kernel_rfl

theorem load_head (w : World) (b : Nat) (x0 x1 x2 x3 : Value) (hB : Blk w b 26 [x0, x1, x2, x3]) : (loadVar 26 ⟨b, 0, none⟩).run Tryd.prog w = .ok (.agg #[x0, x1, x2, x3]) w :=
  run_loadVar_row (P := Tryd.prog) w b 26 26 #[x0, x1, x2, x3] (0, 0) _ hB Tryd.underlying26 rfl sizeHead
/-- what is returned of a head's cells -/
theorem ret_head0 {fn : Func} {p : Tmp} (h : fn.results = #[.cell p 26]) (tmps : Array Value) (w : World) (b : Nat) (x0 x1 x2 x3 : Value) (hp : tmps.getD p undef = .pointer (some ⟨b, 0, none⟩)) (hB : Blk w b 26 [x0, x1, x2, x3]) :
    (results fn tmps).run Tryd.prog w = .ok (.agg #[x0, x1, x2, x3]) w :=
  results_cell_row h tmps w b 26 #[x0, x1, x2, x3] (0, 0) _ hp hB Tryd.underlying26 rfl sizeHead
/-- .. and of one more -/
theorem ret_head1 {fn : Func} {p u : Tmp} (h : fn.results = #[.cell p 26, .tmp u]) (tmps : Array Value) (w : World) (b : Nat) (x0 x1 x2 x3 er : Value) (hp : tmps.getD p undef = .pointer (some ⟨b, 0, none⟩)) (hu : tmps.getD u undef = er) (hB : Blk w b 26 [x0, x1, x2, x3]) :
    (results fn tmps).run Tryd.prog w = .ok (.tuple #[.agg #[x0, x1, x2, x3], er]) w := by
  rw [results_cell_tmp h, hp, hu]
  simp only [asAddr, Sem.run_pure, Result.andThen_ok]
  rw [load_head w b x0 x1 x2 x3 hB]
  rfl
theorem results_cell_tmp2 {fn : Func} {p u u' : Tmp} {ty : TypeId} (h : fn.results = #[.cell p ty, .tmp u, .tmp u']) (tmps : Array Value) (P : Program) (w : World) :
    (results fn tmps).run P w =
      ((asAddr (tmps.getD p undef)).run P w).andThen fun a w₁ => ((loadVar ty a).run P w₁).andThen fun v w₂ => .ok (.tuple #[v, tmps.getD u undef, tmps.getD u' undef]) w₂ := by
  simp only [results, h]
  simp [Sem.run_bind, Result.andThen]
/-- .. and of two more -/
theorem ret_head2 {fn : Func} {p u u' : Tmp} (h : fn.results = #[.cell p 26, .tmp u, .tmp u']) (tmps : Array Value) (w : World) (b : Nat) (x0 x1 x2 x3 n er : Value) (hp : tmps.getD p undef = .pointer (some ⟨b, 0, none⟩)) (hu : tmps.getD u undef = n) (hu' : tmps.getD u' undef = er) (hB : Blk w b 26 [x0, x1, x2, x3]) :
    (results fn tmps).run Tryd.prog w = .ok (.tuple #[.agg #[x0, x1, x2, x3], n, er]) w := by
  rw [results_cell_tmp2 h, hp, hu, hu']
  simp only [asAddr, Sem.run_pure, Result.andThen_ok]
  rw [load_head w b x0 x1 x2 x3 hB]
  rfl

/-- so far: what was there is as it was, and the result's block holds no head -/
def Hs (w w1 : World) : Prop := Below w.heap.size w w1 ∧ Blk w1 w.heap.size 26 [.int .u64 0, .int .i64 0, .slice none 0 0, .slice none 0 0]
theorem Hs.new (w : World) : Hs w (w.alloc (.cells #[.int .u64 0, .int .i64 0, .slice none 0 0, .slice none 0 0] 26)) := ⟨(Below.refl _ w).alloc (Nat.le_refl _) _, Blk.new w _ [.int .u64 0, .int .i64 0, .slice none 0 0, .slice none 0 0]⟩
theorem Hs.below {w w1 w2 : World} (h : Hs w w1) (hb : Below w1.heap.size w1 w2) : Hs w w2 := ⟨h.1.trans (hb.mono h.1.size), h.2.below hb h.2.lt⟩
theorem Hs.alloc {w w1 : World} (h : Hs w w1) (o : Obj) : Hs w (w1.alloc o) := h.below ((Below.refl _ w1).alloc (Nat.le_refl _) o)
theorem Hs.only {S : Nat → Prop} {w w1 w2 : World} (h : Hs w w1) (ho : Only S w1 w2) (hS : ∀ k, S k → w.heap.size < k) : Hs w w2 :=
  ⟨h.1.trans (ho.below h.1.size (fun k hk hs => by have := hS k hs; omega)), h.2.only ho (fun hs => by have := hS _ hs; omega)⟩
theorem Hs.grown {w w1 w2 : World} {b : Nat} (h : Hs w w1) (hg : w1.grownBy w2 (some b)) (hb : w.heap.size < b) : Hs w w2 :=
  h.only (S := fun k => k = b) ((Only.refl _ w1).grown hg (fun k hk _ => by cases hk; rfl)) (fun k hk => by omega)
/-- a head's cells laid into a block, one by one -/
def laidH (w1 : World) (b : Nat) (x0 x1 x2 x3 : Value) : World := (((w1.setCell ⟨b, 0, none⟩ x0).setCell ⟨b, 1, none⟩ x1).setCell ⟨b, 2, none⟩ x2).setCell ⟨b, 3, none⟩ x3
theorem laidH_blk {w : World} {b : Nat} {y0 y1 y2 y3 : Value} (h : Blk w b 26 [y0, y1, y2, y3]) (x0 x1 x2 x3 : Value) : Blk (laidH w b x0 x1 x2 x3) b 26 [x0, x1, x2, x3] := by
  have h2 := h.setMany [x0, x1, x2, x3] 0 w (by simp)
  have e : splice [y0, y1, y2, y3] 0 [x0, x1, x2, x3] = [x0, x1, x2, x3] := by simp [splice]
  rw [e] at h2
  exact h2
theorem laidH_only (w : World) (b : Nat) (x0 x1 x2 x3 : Value) : Only (fun k => k = b) w (laidH w b x0 x1 x2 x3) := Only.setCells b [x0, x1, x2, x3] 0 _ (Only.refl _ w) (fun _ => rfl)
theorem Hs.store {w w1 : World} (h : Hs w w1) (x0 x1 x2 x3 : Value) : Blk (laidH w1 w.heap.size x0 x1 x2 x3) w.heap.size 26 [x0, x1, x2, x3] ∧ Below w.heap.size w (laidH w1 w.heap.size x0 x1 x2 x3) ∧ ∀ k, k ≠ w.heap.size → (laidH w1 w.heap.size x0 x1 x2 x3).heap[k]? = w1.heap[k]? := by
  refine ⟨laidH_blk h.2 _ _ _ _, ?_, fun k hk => ?_⟩
  · have ho := laidH_only w1 w.heap.size x0 x1 x2 x3
    exact h.1.trans (ho.below h.1.size (fun k hk hs => by omega))
  · unfold laidH
    rw [Below.heap_setCell _ _ _ _ hk, Below.heap_setCell _ _ _ _ hk, Below.heap_setCell _ _ _ _ hk, Below.heap_setCell _ _ _ _ hk]
/-- what a store into a head's block asks for -/
theorem head_cells {w1 : World} {b : Nat} {x0 x1 x2 x3 : Value} (h : Blk w1 b 26 [x0, x1, x2, x3]) : (w1.cell? ⟨b, 0, none⟩ = some x0 ∧ w1.cell? ⟨b, 1, none⟩ = some x1 ∧ w1.cell? ⟨b, 2, none⟩ = some x2 ∧ w1.cell? ⟨b, 3, none⟩ = some x3) ∧
    w1.frozen? ⟨b, 0, none⟩ = false ∧ w1.frozen? ⟨b, 1, none⟩ = false ∧ w1.frozen? ⟨b, 2, none⟩ = false ∧ w1.frozen? ⟨b, 3, none⟩ = false :=
  ⟨box_cells h, h.frozen 0, h.frozen 1, h.frozen 2, h.frozen 3⟩

theorem only_grown {w w' : World} {b : Nat} (h : w.grownBy w' (some b)) : Only (fun k => k = b) w w' := (Only.refl _ w).grown h (fun k hk _ => by cases hk; rfl)
theorem only_grown' {w w' : World} {r : Option Nat} (h : w.grownBy w' r) : Only (fun k => r = some k) w w' := (Only.refl _ w).grown h (fun k hk _ => hk)
theorem RdK.only {G : Nat → Prop} {w w' : World} {b lim : Nat} {zs : List Int} {er : Int} (h : RdK w b lim zs er) (ho : Only G w w') (hG : ∀ k, G k → lim ≤ k) : RdK w' b lim zs er := by
  obtain ⟨u, ⟨h1, h2, h3⟩, hb, hk⟩ := h
  refine ⟨u, ⟨?_, h2.only ho (fun k hkk hg => by have := hk k hkk; have := hG k hg; omega), fun k hkk => ⟨(h3 k hkk).1, Nat.lt_of_lt_of_le (h3 k hkk).2 ho.size⟩⟩, hb, hk⟩
  rw [ho.block b (Array.getElem?_eq_some_iff.1 h1).1 (fun hg => by have := hG b hg; omega)]
  exact h1
theorem RdK.below {w w' : World} {b lim : Nat} {zs : List Int} {er : Int} (h : RdK w b lim zs er) (hb : Below w.heap.size w w') : RdK w' b lim zs er := h.only (Only.of_below (fun _ => False) hb) (fun _ h => h.elim)

theorem Is.only {S : Nat → Prop} {w w' : World} {v : Value} {ks : List Int} (h : Is w v ks) (ho : Only S w w') (hn : ∀ k, v.ownBlock = some k → ¬ S k) : Is w' v ks := by
  obtain ⟨ao, cap, rfl, h1, h2, h3⟩ := h
  refine ⟨ao, cap, rfl, h1, h2, fun hne => ?_⟩
  obtain ⟨b, off, rfl, hc⟩ := h3 hne
  refine ⟨b, off, rfl, fun i hi => ?_⟩
  rw [World.cell?_of_block (w := w) (ho.block b (World.block_lt_of_cell? w _ (hc i hi)) (hn b rfl))]
  exact hc i hi
/-- a head's value, its slices' blocks from B on -/
def HdO (w : World) (B : Nat) (v : Value) (h : Hd) : Prop := ∃ ma mc ua uc, v = hdV h.e h.p ma h.ms.length mc ua h.us.length uc ∧ Is w (.slice ma h.ms.length mc) h.ms ∧ Sl w (.slice ua h.us.length uc) h.us ∧ h.e < 18446744073709551616 ∧
  ∀ k, ((Value.slice ma h.ms.length mc).ownBlock = some k ∨ (Value.slice ua h.us.length uc).ownBlock = some k) → B ≤ k
theorem HdO.val {w : World} {B : Nat} {v : Value} {h : Hd} (hv : HdO w B v h) : HdV w v h := by
  obtain ⟨ma, mc, ua, uc, rfl, h1, h2, h3, _⟩ := hv
  exact ⟨ma, mc, ua, uc, rfl, h1, h2, h3⟩
theorem HdO.le {w : World} {B B' : Nat} {v : Value} {h : Hd} (hv : HdO w B v h) (hB : B' ≤ B) : HdO w B' v h := by
  obtain ⟨ma, mc, ua, uc, rfl, h1, h2, h3, h4⟩ := hv
  exact ⟨ma, mc, ua, uc, rfl, h1, h2, h3, fun k hk => Nat.le_trans hB (h4 k hk)⟩
theorem HdO.only {S : Nat → Prop} {w w' : World} {B : Nat} {v : Value} {h : Hd} (hv : HdO w B v h) (ho : Only S w w') (hS : ∀ k, S k → k < B) : HdO w' B v h := by
  obtain ⟨ma, mc, ua, uc, rfl, h1, h2, h3, h4⟩ := hv
  exact ⟨ma, mc, ua, uc, rfl, h1.only ho (fun k hk hs => by have := h4 k (.inl hk); have := hS k hs; omega), h2.only ho (fun k hk hs => by have := h4 k (.inr hk); have := hS k hs; omega), h3, h4⟩
theorem HdO.below {w w' : World} {B : Nat} {v : Value} {h : Hd} (hv : HdO w B v h) (hb : Below w.heap.size w w') : HdO w' B v h := hv.only (Only.of_below (fun _ => False) hb) (fun _ h => h.elim)
theorem HdO.alloc {w : World} {B : Nat} {v : Value} {h : Hd} (hv : HdO w B v h) (o : Obj) : HdO (w.alloc o) B v h := hv.below ((Below.refl _ w).alloc (Nat.le_refl _) o)
theorem HdO.no (w : World) (B : Nat) : HdO w B (hdV 0 0 none 0 0 none 0 0) noHd := ⟨none, 0, none, 0, rfl, Is.nil w, Sl.nil w, by decide, fun k hk => by rcases hk with hk | hk <;> cases hk⟩

/-- two operations of a region that write -/
def two (m1 m2 : Nat) (F G : Nat → Prop) : Nat → Nat → Prop := fun i k => (i = m1 ∧ F k) ∨ (i = m2 ∧ G k)
theorem two_all {m1 m2 : Nat} {F G : Nat → Prop} {w w' : World} (h : Only (fun k => ∃ i, two m1 m2 F G i k) w w') : Only (fun k => F k ∨ G k) w w' := h.mono (fun k _ ⟨i, hi⟩ => hi.elim (fun h => .inl h.2) (fun h => .inr h.2))
theorem two_1 {m1 m2 : Nat} {F G : Nat → Prop} {w w' : World} (h : Only (fun k => ∃ j, j ≠ m1 ∧ two m1 m2 F G j k) w w') : Only G w w' := h.mono (fun k _ ⟨i, hn, hi⟩ => hi.elim (fun h => absurd h.1 hn) (fun h => h.2))
theorem two_2 {m1 m2 : Nat} {F G : Nat → Prop} {w w' : World} (h : Only (fun k => ∃ j, j ≠ m2 ∧ two m1 m2 F G j k) w w') : Only F w w' := h.mono (fun k _ ⟨i, hn, hi⟩ => hi.elim (fun h => h.2) (fun h => absurd h.1 hn))
theorem of_1 {m1 m2 : Nat} {F G : Nat → Prop} {w w' : World} (h : Only F w w') : Only (two m1 m2 F G m1) w w' := h.mono (fun _ _ h => .inl ⟨rfl, h⟩)
theorem of_2 {m1 m2 : Nat} {F G : Nat → Prop} {w w' : World} (h : Only G w w') : Only (two m1 m2 F G m2) w w' := h.mono (fun _ _ h => .inr ⟨rfl, h⟩)
theorem two_st {m1 m2 k0 : Nat} {F G : Nat → Prop} {p : Value → World → Prop} (hm : m1 ≠ m2) (h1 : k0 ≠ m1 → ∀ v w w', Only F w w' → p v w → p v w') (h2 : k0 ≠ m2 → ∀ v w w', Only G w w' → p v w → p v w') (h0 : ∀ v w w', Only (fun _ => False) w w' → p v w → p v w') : ∀ i, i ≠ k0 → StS (two m1 m2 F G i) p := by
  intro i hi v w w' ho hp
  by_cases e1 : i = m1
  · subst e1
    exact h1 (Ne.symm hi) v w w' (ho.mono (fun k _ h => h.elim (fun h => h.2) (fun h => absurd h.1 hm))) hp
  · by_cases e2 : i = m2
    · subst e2
      exact h2 (Ne.symm hi) v w w' (ho.mono (fun k _ h => h.elim (fun h => absurd h.1 e1) (fun h => h.2))) hp
    · exact h0 v w w' (ho.mono (fun k _ h => h.elim (fun h => absurd h.1 e1) (fun h => absurd h.1 e2))) hp

end Go.Proofs.YtmeiahmolmneeaaDoor
