/- Contract: package words' All. -/
import Derived.Test.YtimmfnjkknbofaaDoorJWdCl
import Derived.Test.YtimmfnjkknbofaaDoorJWdAi
namespace Go.Proofs.YtimmfnjkknbofaaDoor
set_option maxRecDepth 20000
open Go.RowKit
set_option linter.unusedVariables false
set_option linter.unusedSimpArgs false
set_option maxRecDepth 100000

def cellsV : Value → List Value
  | .agg a => a.toList
  | v => [v]
/-- how far All's own memory is made: a copy of the way (1), its box (4, filled by 6), the text's box (5, filled by 7) -/
def alS (w1 : World) (C : Cn) (K : Int) (s : ByteArray) (D : Nat → Bool) (vals : Nat → Value) (W : World) : Prop :=
  Below w1.heap.size w1 W ∧
  (D 1 = true → ∃ x y, vals 1 = .agg #[x, y, .int .i64 K] ∧ Tbl W x C.fs ∧ Strs W y C.ss ∧ ∀ j, (x.ownBlock = some j ∨ y.ownBlock = some j) → j < W.heap.size ∧ (D 4 = true → vals 4 ≠ .pointer (some ⟨j, 0, none⟩)) ∧ (D 5 = true → vals 5 ≠ .pointer (some ⟨j, 0, none⟩))) ∧
  (D 4 = true → ∃ g, vals 4 = .pointer (some ⟨g, 0, none⟩) ∧ w1.heap.size ≤ g ∧ Blk W g 25 (if D 6 = true then cellsV (vals 1) else [.slice none 0 0, .slice none 0 0, .int .i64 0])) ∧
  (D 5 = true → ∃ g, vals 5 = .pointer (some ⟨g, 0, none⟩) ∧ w1.heap.size ≤ g ∧ Blk W g 9 [.string (if D 7 = true then s else ⟨#[]⟩)])
section
variable {w1 W : World} {C : Cn} {K : Int} {s : ByteArray} {D : Nat → Bool} {vals : Nat → Value}
theorem alS.ind {D' : Nat → Bool} {vals' : Nat → Value} (h : alS w1 C K s D vals W) (hv : ∀ j, j ∈ [1, 4, 5, 6, 7] → D j = D' j ∧ vals j = vals' j) : alS w1 C K s D' vals' W := by
  obtain ⟨e1, e2⟩ := hv 1 (by decide)
  obtain ⟨e3, e4⟩ := hv 4 (by decide)
  obtain ⟨e5, e6⟩ := hv 5 (by decide)
  obtain ⟨e7, _⟩ := hv 6 (by decide)
  obtain ⟨e8, _⟩ := hv 7 (by decide)
  unfold alS at h ⊢
  rw [e1, e2, e3, e4, e5, e6, e7, e8] at h
  exact h
theorem ptr_inj {a b : Nat} (h : Value.pointer (some ⟨a, 0, none⟩) = .pointer (some ⟨b, 0, none⟩)) : a = b := by simpa using h
theorem alS.made {W' : World} {u : Value} (h : alS w1 C K s D vals W) (h1 : D 1 = false) (h6 : D 6 = false) (hu : ∃ x y, u = .agg #[x, y, .int .i64 K] ∧ Tbl W' x C.fs ∧ Strs W' y C.ss ∧ (∀ j, x.ownBlock = some j → W.heap.size ≤ j ∧ j < W'.heap.size) ∧ (∀ j, y.ownBlock = some j → W.heap.size ≤ j ∧ j < W'.heap.size)) (hb : Below W.heap.size W W') :
    alS w1 C K s (fun j => if j = 1 then true else D j) (updV vals 1 u) W' := by
  obtain ⟨q0, q1, q4, q5⟩ := h
  obtain ⟨x, y, hu0, hx, hy, ox, oy⟩ := hu
  have e1 : updV vals 1 u 1 = u := rfl
  have e4 : updV vals 1 u 4 = vals 4 := rfl
  have e5 : updV vals 1 u 5 = vals 5 := rfl
  have ho : Only (fun _ => False) W W' := Only.of_below _ hb
  unfold alS
  rw [e1, e4, e5]
  simp only [if_true, show (4 : Nat) ≠ 1 by decide, show (5 : Nat) ≠ 1 by decide, show (6 : Nat) ≠ 1 by decide, show (7 : Nat) ≠ 1 by decide, if_false, h6, Bool.false_eq_true] at q4 ⊢
  refine ⟨q0.trans (hb.mono q0.size), fun _ => ⟨x, y, hu0, hx, hy, fun j hj => ?_⟩, fun d => ?_, fun d => ?_⟩
  · have hjj : W.heap.size ≤ j ∧ j < W'.heap.size := hj.elim (ox j) (oy j)
    refine ⟨hjj.2, fun d e => ?_, fun d e => ?_⟩
    · obtain ⟨g, hg, _, hB⟩ := q4 d
      have := ptr_inj (hg.symm.trans e)
      have := hB.lt
      omega
    · obtain ⟨g, hg, _, hB⟩ := q5 d
      have := ptr_inj (hg.symm.trans e)
      have := hB.lt
      omega
  · obtain ⟨g, hg, hl, hB⟩ := q4 d
    exact ⟨g, hg, hl, hB.only ho (fun h => h)⟩
  · obtain ⟨g, hg, hl, hB⟩ := q5 d
    exact ⟨g, hg, hl, hB.only ho (fun h => h)⟩
theorem alS.box (h : alS w1 C K s D vals W) (h4 : D 4 = false) (h6 : D 6 = false) :
    alS w1 C K s (fun j => if j = 4 then true else D j) (updV vals 4 (.pointer (some ⟨W.heap.size, 0, none⟩))) (W.alloc (.cells #[.slice none 0 0, .slice none 0 0, .int .i64 0] 25)) := by
  obtain ⟨q0, q1, q4, q5⟩ := h
  have e4 : updV vals 4 (.pointer (some ⟨W.heap.size, 0, none⟩)) 4 = .pointer (some ⟨W.heap.size, 0, none⟩) := rfl
  have e1 : updV vals 4 (.pointer (some ⟨W.heap.size, 0, none⟩)) 1 = vals 1 := rfl
  have e5 : updV vals 4 (.pointer (some ⟨W.heap.size, 0, none⟩)) 5 = vals 5 := rfl
  obtain ⟨W', hW'⟩ : ∃ W', W.alloc (.cells #[.slice none 0 0, .slice none 0 0, .int .i64 0] 25) = W' := ⟨_, rfl⟩
  have hB := Blk.new W 25 [.slice none 0 0, .slice none 0 0, .int .i64 0]
  have hb : Below W.heap.size W W' := by rw [← hW']; exact (Below.refl _ W).alloc (Nat.le_refl _) _
  have hs : W'.heap.size = W.heap.size + 1 := by rw [← hW']; simp
  have ho : Only (fun _ => False) W W' := Only.of_below _ hb
  rw [show (W.alloc (.cells [Value.slice none 0 0, .slice none 0 0, .int .i64 0].toArray 25)) = W' from hW'] at hB
  unfold alS
  rw [hW', e1, e4, e5]
  simp only [if_true, show (1 : Nat) ≠ 4 by decide, show (5 : Nat) ≠ 4 by decide, show (6 : Nat) ≠ 4 by decide, show (7 : Nat) ≠ 4 by decide, if_false, h6, Bool.false_eq_true]
  refine ⟨q0.trans (hb.mono q0.size), fun d => ?_, fun _ => ⟨_, rfl, q0.size, hB⟩, fun d => ?_⟩
  · obtain ⟨x, y, hu0, hx, hy, ha⟩ := q1 d
    refine ⟨x, y, hu0, hx.below hb, hy.below hb, fun j hj => ?_⟩
    obtain ⟨a1, a2, a3⟩ := ha j hj
    refine ⟨by omega, fun _ e => ?_, a3⟩
    have := ptr_inj e
    omega
  · obtain ⟨g, hg, hl, hB⟩ := q5 d
    exact ⟨g, hg, hl, hB.only ho (fun h => h)⟩
theorem alS.str (h : alS w1 C K s D vals W) (h5 : D 5 = false) (h7 : D 7 = false) :
    alS w1 C K s (fun j => if j = 5 then true else D j) (updV vals 5 (.pointer (some ⟨W.heap.size, 0, none⟩))) (W.alloc (.cells #[.string ⟨#[]⟩] 9)) := by
  obtain ⟨q0, q1, q4, q5⟩ := h
  have e5 : updV vals 5 (.pointer (some ⟨W.heap.size, 0, none⟩)) 5 = .pointer (some ⟨W.heap.size, 0, none⟩) := rfl
  have e1 : updV vals 5 (.pointer (some ⟨W.heap.size, 0, none⟩)) 1 = vals 1 := rfl
  have e4 : updV vals 5 (.pointer (some ⟨W.heap.size, 0, none⟩)) 4 = vals 4 := rfl
  obtain ⟨W', hW'⟩ : ∃ W', W.alloc (.cells #[.string ⟨#[]⟩] 9) = W' := ⟨_, rfl⟩
  have hB := Blk.new W 9 [.string ⟨#[]⟩]
  have hb : Below W.heap.size W W' := by rw [← hW']; exact (Below.refl _ W).alloc (Nat.le_refl _) _
  have hs : W'.heap.size = W.heap.size + 1 := by rw [← hW']; simp
  have ho : Only (fun _ => False) W W' := Only.of_below _ hb
  rw [show (W.alloc (.cells [Value.string ⟨#[]⟩].toArray 9)) = W' from hW'] at hB
  unfold alS
  rw [hW', e1, e4, e5]
  simp only [if_true, show (1 : Nat) ≠ 5 by decide, show (4 : Nat) ≠ 5 by decide, show (6 : Nat) ≠ 5 by decide, show (7 : Nat) ≠ 5 by decide, if_false, h7, Bool.false_eq_true]
  refine ⟨q0.trans (hb.mono q0.size), fun d => ?_, fun d => ?_, fun _ => ⟨_, rfl, q0.size, hB⟩⟩
  · obtain ⟨x, y, hu0, hx, hy, ha⟩ := q1 d
    refine ⟨x, y, hu0, hx.below hb, hy.below hb, fun j hj => ?_⟩
    obtain ⟨a1, a2, a3⟩ := ha j hj
    refine ⟨by omega, a2, fun _ e => ?_⟩
    have := ptr_inj e
    omega
  · obtain ⟨g, hg, hl, hB⟩ := q4 d
    exact ⟨g, hg, hl, hB.only ho (fun h => h)⟩
theorem alS.put6 (h : alS w1 C K s D vals W) (h1 : D 1 = true) (h4 : D 4 = true) (h6 : D 6 = false) :
    ∃ g a8 n8 c8 a9 n9 c9, vals 1 = .agg #[.slice a8 n8 c8, .slice a9 n9 c9, .int .i64 K] ∧ vals 4 = .pointer (some ⟨g, 0, none⟩) ∧ Blk W g 25 [.slice none 0 0, .slice none 0 0, .int .i64 0] ∧
      alS w1 C K s (fun j => if j = 6 then true else D j) (updV vals 6 undef) (((W.setCell ⟨g, 0, none⟩ (.slice a8 n8 c8)).setCell ⟨g, 1, none⟩ (.slice a9 n9 c9)).setCell ⟨g, 2, none⟩ (.int .i64 K)) := by
  obtain ⟨q0, q1, q4, q5⟩ := h
  obtain ⟨g, hg, hl, hB⟩ := q4 h4
  obtain ⟨x, y, hu0, hx, hy, ha⟩ := q1 h1
  obtain ⟨a8, c8, rfl⟩ := hx.len
  obtain ⟨a9, c9, rfl⟩ := hy.len
  rw [h6] at hB
  simp only [Bool.false_eq_true, if_false] at hB
  refine ⟨g, a8, _, c8, a9, _, c9, hu0, hg, hB, ?_⟩
  obtain ⟨W', hW'⟩ : ∃ W', ((W.setCell ⟨g, 0, none⟩ (.slice a8 C.fs.length c8)).setCell ⟨g, 1, none⟩ (.slice a9 C.ss.length c9)).setCell ⟨g, 2, none⟩ (.int .i64 K) = W' := ⟨_, rfl⟩
  have ho : Only (· = g) W W' := by rw [← hW']; exact (((Only.refl (· = g) W).setCell _ _ (fun _ => rfl)).setCell _ _ (fun _ => rfl)).setCell _ _ (fun _ => rfl)
  have hB' : Blk W' g 25 [.slice a8 C.fs.length c8, .slice a9 C.ss.length c9, .int .i64 K] := by rw [← hW']; exact ((hB.set 0 _).set 1 _).set 2 _
  have e1 : updV vals 6 undef 1 = vals 1 := rfl
  have e4 : updV vals 6 undef 4 = vals 4 := rfl
  have e5 : updV vals 6 undef 5 = vals 5 := rfl
  unfold alS
  rw [hW', e1, e4, e5]
  simp only [if_true, show (1 : Nat) ≠ 6 by decide, show (4 : Nat) ≠ 6 by decide, show (5 : Nat) ≠ 6 by decide, show (7 : Nat) ≠ 6 by decide, if_false]
  refine ⟨q0.trans (ho.below q0.size (fun j hj e => by omega)), fun d => ?_, fun _ => ⟨g, hg, hl, by rw [hu0]; exact hB'⟩, fun d => ?_⟩
  · refine ⟨_, _, hu0, hx.keepO (fun k hk hlt => ho.block k hlt (fun e => ?_)), hy.keep (fun k hk hlt => ho.block k hlt (fun e => ?_)), fun j hj => ?_⟩
    · exact (ha k (.inl hk)).2.1 h4 (by rw [hg, e])
    · exact (ha k (.inr hk)).2.1 h4 (by rw [hg, e])
    · obtain ⟨b1, b2, b3⟩ := ha j hj
      exact ⟨Nat.lt_of_lt_of_le b1 ho.size, b2, b3⟩
  · obtain ⟨g', hg', hl', hB5⟩ := q5 d
    exact ⟨g', hg', hl', hB5.only ho (Blk.ne hB5 hB (by decide))⟩
theorem alS.put7 (h : alS w1 C K s D vals W) (h5 : D 5 = true) (h7 : D 7 = false) :
    ∃ g, vals 5 = .pointer (some ⟨g, 0, none⟩) ∧ Blk W g 9 [.string ⟨#[]⟩] ∧ alS w1 C K s (fun j => if j = 7 then true else D j) (updV vals 7 undef) (W.setCell ⟨g, 0, none⟩ (.string s)) := by
  obtain ⟨q0, q1, q4, q5⟩ := h
  obtain ⟨g, hg, hl, hB⟩ := q5 h5
  rw [h7] at hB
  simp only [Bool.false_eq_true, if_false] at hB
  refine ⟨g, hg, hB, ?_⟩
  obtain ⟨W', hW'⟩ : ∃ W', W.setCell ⟨g, 0, none⟩ (.string s) = W' := ⟨_, rfl⟩
  have ho : Only (· = g) W W' := by rw [← hW']; exact (Only.refl (· = g) W).setCell _ _ (fun _ => rfl)
  have hB' : Blk W' g 9 [.string s] := by rw [← hW']; exact hB.set 0 _
  have e1 : updV vals 7 undef 1 = vals 1 := rfl
  have e4 : updV vals 7 undef 4 = vals 4 := rfl
  have e5 : updV vals 7 undef 5 = vals 5 := rfl
  unfold alS
  rw [hW', e1, e4, e5]
  simp only [if_true, show (1 : Nat) ≠ 7 by decide, show (4 : Nat) ≠ 7 by decide, show (5 : Nat) ≠ 7 by decide, show (6 : Nat) ≠ 7 by decide, if_false]
  refine ⟨q0.trans (ho.below q0.size (fun j hj e => by omega)), fun d => ?_, fun d => ?_, fun _ => ⟨g, hg, hl, hB'⟩⟩
  · obtain ⟨x, y, hu0, hx, hy, ha⟩ := q1 d
    refine ⟨x, y, hu0, hx.keepO (fun k hk hlt => ho.block k hlt (fun e => ?_)), hy.keep (fun k hk hlt => ho.block k hlt (fun e => ?_)), fun j hj => ?_⟩
    · exact (ha k (.inl hk)).2.2 h5 (by rw [hg, e])
    · exact (ha k (.inr hk)).2.2 h5 (by rw [hg, e])
    · obtain ⟨b1, b2, b3⟩ := ha j hj
      exact ⟨Nat.lt_of_lt_of_le b1 ho.size, b2, b3⟩
  · obtain ⟨g', hg', hl', hB4⟩ := q4 d
    exact ⟨g', hg', hl', hB4.only ho (Blk.ne hB4 hB (by decide))⟩
end

/-- what All answers: the empty iterator, or the one over the words, with a copy of the way, and the text -/
def AllR (C : Cn) (s : ByteArray) (v : Value) (W : World) : Prop :=
  (mayC C = false ∧ v = .func (.func 71) #[] #[]) ∨
  (mayC C = true ∧ ∃ g6 g5, v = .func (.func 73) #[] #[.pointer (some ⟨g6, 0, none⟩), .pointer (some ⟨g5, 0, none⟩)] ∧ (Let W → AllW g6 g5 C s W))

set_option maxHeartbeats 2000000 in
theorem all_any (w : World) (v : Value) (C : Cn) (h : CnfV w v C) (hok : CnOk C) (vt : Value) (zs : List Int) (hz : Sl w vt zs) (hL : Let w) :
    Calls Tryd.prog 47 #[v, vt] w fun e w' => ∃ u, e = .returned u ∧ AllR C (strOfNums zs) u w' ∧ Below w.heap.size w w' := by
  obtain ⟨fo, fc, so, sc, w1, rfl, hw1, hb1, hB, hT, hS⟩ := box_cnf w v C h
  have HCK := hide (checkC_any w1 _ C (h.below hb1) hok (hL.below hb1))
  have HCL0 : Hid (∀ W, Below w1.heap.size w1 W → Calls Tryd.prog 72 #[.agg #[.slice fo C.fs.length fc, .slice so C.ss.length sc, .int .i64 C.cap]] W fun e w' => ∃ u, e = .returned u ∧ (∃ x y, u = .agg #[x, y, .int .i64 C.cap] ∧ Tbl w' x C.fs ∧ Strs w' y C.ss ∧ (∀ j, x.ownBlock = some j → W.heap.size ≤ j ∧ j < w'.heap.size) ∧ (∀ j, y.ownBlock = some j → W.heap.size ≤ j ∧ j < w'.heap.size)) ∧ Below W.heap.size W w') := fun W hb => cloneC_any W _ C (h.below (hb1.trans (hb.mono hb1.size))) hok
  have HCV0 : Hid (∀ W, Below w1.heap.size w1 W → ∀ v0, v0 = vt → (convert 26 9 v0).run Tryd.prog W = .ok (.string (strOfNums zs)) W) := fun W hb v0 e => by
    rw [e]
    exact run_convert_sl (P := Tryd.prog) W 26 5 9 Tryd.underlying26 Tryd.underlying5 Tryd.underlying9 vt zs (hz.below (hb1.trans (hb.mono hb1.size)))
  obtain ⟨to, tn, tc, rfl⟩ := sl_form hz
  have HB1 := hide hb1
  have HBX1 := hide hB
  have c0 : w1.cell? ⟨w.heap.size, 0, none⟩ = some (.slice fo C.fs.length fc) := hB.cell 0
  have c1 : w1.cell? ⟨w.heap.size, 1, none⟩ = some (.slice so C.ss.length sc) := hB.cell 1
  have c2 : w1.cell? ⟨w.heap.size, 2, none⟩ = some (.int .i64 C.cap) := hB.cell 2
  obtain ⟨s, hs⟩ : ∃ s, strOfNums zs = s := ⟨_, rfl⟩
  rw [hs] at HCV0 ⊢
  obtain ⟨fn, hfn⟩ : ∃ n, C.fs.length = n := ⟨_, rfl⟩
  obtain ⟨sn, hsn⟩ : ∃ n, C.ss.length = n := ⟨_, rfl⟩
  obtain ⟨K, hK⟩ : ∃ n, C.cap = n := ⟨_, rfl⟩
  have HKC := hide hK
  have HFN := hide hfn
  have HSN := hide hsn
  rw [hfn] at hw1 c0 HCK HCL0 HBX1 ⊢
  rw [hsn] at hw1 c1 HCK HCL0 HBX1 ⊢
  rw [hK] at hw1 c2 HCK HCL0 HBX1 ⊢
  have HE : Hid (mayE C = if mayC C = true then 0 else 140) := rfl
  clear h hT hS hB hb1 hok hL hz hs hfn hsn hK
  cases hM : mayC C with
  | false =>
    rw [HE.out, hM, if_neg (by simp)] at HCK
    have HM := hide hM
    clear hM HE HCL0 HCV0
    go_enter Tryd.func47, Tryd.ntmps47
    go_wp2_with (go_at_call 12; refine HCK.out.mono ?_; rintro e w2 ⟨rfl, hb⟩; have HB2 := hide (HB1.out.trans (hb.mono HB1.out.size)); clear HCK hb)
    go_ret
    exact ⟨_, rfl, .inl ⟨HM.out, rfl⟩, HB2.out⟩
  | true =>
    rw [HE.out, hM, if_pos rfl] at HCK
    have HM := hide hM
    clear hM HE
    go_enter Tryd.func47, Tryd.ntmps47
    go_wp2_with (go_at_call 12; refine HCK.out.mono ?_; rintro e w2 ⟨rfl, hb⟩; have HB12 := hide hb; have HBX := hide (HBX1.out.below hb HBX1.out.lt); clear HCK hb)
    have HCL : Hid (∀ W, Below w2.heap.size w2 W → Calls Tryd.prog 72 #[.agg #[.slice fo fn fc, .slice so sn sc, .int .i64 K]] W fun e w' => ∃ u, e = .returned u ∧ (∃ x y, u = .agg #[x, y, .int .i64 K] ∧ Tbl w' x C.fs ∧ Strs w' y C.ss ∧ (∀ j, x.ownBlock = some j → W.heap.size ≤ j ∧ j < w'.heap.size) ∧ (∀ j, y.ownBlock = some j → W.heap.size ≤ j ∧ j < w'.heap.size)) ∧ Below W.heap.size W w') := fun W hb => HCL0.out W (HB12.out.trans (hb.mono HB12.out.size))
    have HCV : Hid (∀ W, Below w2.heap.size w2 W → (convert 26 9 (.slice to tn tc)).run Tryd.prog W = .ok (.string s) W) := fun W hb => HCV0.out W (HB12.out.trans (hb.mono HB12.out.size)) _ rfl
    have HB2 : Hid (Below w.heap.size w w2) := HB1.out.trans (HB12.out.mono HB1.out.size)
    clear HCL0 HCV0 c0 c1 c2 hw1 HBX1
    refine wp_region_set [some (.agg #[.slice fo fn fc, .slice so sn sc, .int .i64 K]), none, some (.slice to tn tc), some (.string s), none, none, none, none] [1, 4, 5, 6, 7] (alS w2 C K s) 15 (by kernel_rfl) (by kernel_rfl) (by kernel_rfl) (by kernel_rfl) rfl ?_ ?_ ?_ ?_
    · exact fun vals0 => ⟨⟨rfl, rfl, rfl, Nat.le_refl _, fun _ _ => rfl⟩, (fun h => by cases h), (fun h => by cases h), (fun h => by cases h)⟩
    · exact fun D D' vals vals' W hv hs => alS.ind hs hv
    · refine ⟨?_, ?_, ?_, ?_, ?_, ?_, ?_, ?_, trivial⟩
      · intro D vals act wx hu h hs
        have e2 : act.eval (.tmp 2) = .pointer (some ⟨w.heap.size, 0, none⟩) := h.old 2 (by kernel_rfl)
        clear h
        have hbx := HBX.out.below hs.1 HBX.out.lt
        have c0 := hbx.cell 0
        have c1 := hbx.cell 1
        have c2 := hbx.cell 2
        simp only [List.getElem?_cons_zero, List.getElem?_cons_succ] at c0 c1 c2
        clear hbx
        refine gives_by rfl act.eval rfl ?_
        generalize act.eval = ρ at *
        intro hf hc
        go_simp
        exact ⟨rfl, hs⟩
      · intro D vals act wx hu h hs
        have e10 : act.eval (.tmp 10) = .agg #[.slice fo fn fc, .slice so sn sc, .int .i64 K] := h.q 0 10 (by kernel_rfl) rfl
        clear h
        refine gives_by rfl act.eval rfl ?_
        generalize act.eval = ρ at *
        intro hf hc
        go_simp
        refine (HCL.out wx hs.1).mono ?_
        rintro e wy ⟨u, rfl, hu1, hb⟩
        exact ⟨u, rfl, alS.made hs hu.self (hu.not 6 (by decide) (by kernel_rfl)) hu1 hb⟩
      · intro D vals act wx hu h hs
        have e1 : act.eval (.tmp 1) = .slice to tn tc := h.old 1 (by kernel_rfl)
        clear h
        refine gives_by rfl act.eval rfl ?_
        generalize act.eval = ρ at *
        intro hf hc
        go_simp
        exact ⟨rfl, hs⟩
      · intro D vals act wx hu h hs
        have e12 : act.eval (.tmp 12) = .slice to tn tc := h.q 2 12 (by kernel_rfl) rfl
        clear h
        have hcv := HCV.out wx hs.1
        refine gives_by rfl act.eval rfl ?_
        generalize act.eval = ρ at *
        intro hf hc
        go_simp
        exact ⟨rfl, hs⟩
      · intro D vals act wx hu h hs
        clear h
        have hres := alS.box hs hu.self (hu.not 6 (by decide) (by kernel_rfl))
        refine gives_by rfl act.eval rfl ?_
        generalize act.eval = ρ at *
        intro hf hc
        go_simp
        exact hres
      · intro D vals act wx hu h hs
        clear h
        have hres := alS.str hs hu.self (hu.not 7 (by decide) (by kernel_rfl))
        refine gives_by rfl act.eval rfl ?_
        generalize act.eval = ρ at *
        intro hf hc
        go_simp
        exact hres
      · intro D vals act wx hu h hs
        have e5 : act.eval (.tmp 5) = vals 4 := h.val 4 5 (by kernel_rfl)
        have e11 : act.eval (.tmp 11) = vals 1 := h.val 1 11 (by kernel_rfl)
        clear h
        obtain ⟨g, a8, n8, c8, a9, n9, c9, h1, h4, hx, hres⟩ := alS.put6 hs (hu.done 1 (by kernel_rfl)) (hu.done 4 (by kernel_rfl)) hu.self
        rw [h4] at e5
        rw [h1] at e11
        have k0 := hx.cell 0
        have k1 := hx.cell 1
        have k2 := hx.cell 2
        have f0 := hx.frozen 0
        have f1 := hx.frozen 1
        have f2 := hx.frozen 2
        refine gives_of_skip rfl (w' := ((wx.setCell ⟨g, 0, none⟩ (.slice a8 n8 c8)).setCell ⟨g, 1, none⟩ (.slice a9 n9 c9)).setCell ⟨g, 2, none⟩ (.int .i64 K)) ?_ hres
        clear hres hx hs h1 h4
        generalize act.eval = ρ at *
        go_simp
      · intro D vals act wx hu h hs
        have e6 : act.eval (.tmp 6) = vals 5 := h.val 5 6 (by kernel_rfl)
        have e13 : act.eval (.tmp 13) = .string s := h.q 3 13 (by kernel_rfl) rfl
        clear h
        obtain ⟨g, h5, hx, hres⟩ := alS.put7 hs (hu.done 5 (by kernel_rfl)) hu.self
        rw [h5] at e6
        have k0 := hx.cell 0
        have f0 := hx.frozen 0
        refine gives_of_skip rfl (w' := wx.setCell ⟨g, 0, none⟩ (.string s)) ?_ hres
        clear hres hx hs h5
        generalize act.eval = ρ at *
        go_simp
    · intro D vals w3 hq hD hs
      obtain ⟨q0, q1, q4, q5⟩ := hs
      obtain ⟨g5, hg5, _, hB5⟩ := q4 (hD 4 (by decide))
      obtain ⟨g6, hg6, _, hB6⟩ := q5 (hD 5 (by decide))
      obtain ⟨x, y, hu0, hx, hy, _⟩ := q1 (hD 1 (by decide))
      rw [if_pos (hD 6 (by decide)), hu0] at hB5
      rw [if_pos (hD 7 (by decide))] at hB6
      obtain ⟨a8, c8, rfl⟩ := hx.len
      obtain ⟨a9, c9, rfl⟩ := hy.len
      have HR : Hid (Let w3 → AllW g6 g5 C s w3) := fun hL => ⟨hB6.cell 0, ⟨a8, c8, a9, c9, hB5.cell 0, hB5.cell 1, by rw [HKC.out]; exact hB5.cell 2, hx, hy⟩, hL⟩
      have HB3 : Hid (Below w.heap.size w w3) := HB2.out.trans (q0.mono HB2.out.size)
      clear q0 q1 q4 q5 hB5 hB6 hx hy hu0 hD hq
      simp only [putAll, Act.put, List.setIfInBounds_toArray, List.set_cons_zero, List.set_cons_succ, Nat.zero_add, Nat.reduceAdd, hg5, hg6]
      go_wp2
      go_ret
      exact ⟨_, rfl, .inr ⟨HM.out, g6, g5, rfl, HR.out⟩, HB3.out⟩

end Go.Proofs.YtimmfnjkknbofaaDoor
