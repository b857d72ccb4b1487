/- Contract: package words' All. -/
import Derived.Test.YtimmfnjkknbofaaDoorJWdCl
import Derived.Test.YtimmfnjkknbofaaDoorJWdAi
import Derived.Lib.SlBytesConst
namespace Go.Proofs.YtimmfnjkknbofaaDoor
set_option maxRecDepth 20000
open Go.RowKit
set_option linter.unusedVariables false
set_option linter.unusedSimpArgs false
set_option maxRecDepth 100000

def cellsV : Value → List Value
  | .agg a => a.toList
  | v => [v]
/-- how far All's own memory is made: a copy of the way (1), its box (4, filled by 6), the text's box (5, filled by 7) -/
def alS (w1 : World) (C : Cn) (K : Int) (s : ByteArray) (D : Nat → Bool) (vals : Nat → Value) (W : World) : Prop :=
  Below w1.heap.size w1 W ∧
  (D 1 = true → ∃ x y, vals 1 = .agg #[x, y, .int .i64 K] ∧ Tbl W x C.fs ∧ Strs W y C.ss ∧ ∀ j, (x.ownBlock = some j ∨ y.ownBlock = some j) → j < W.heap.size ∧ (D 4 = true → vals 4 ≠ .pointer (some ⟨j, 0, none⟩)) ∧ (D 5 = true → vals 5 ≠ .pointer (some ⟨j, 0, none⟩))) ∧
  (D 4 = true → ∃ g, vals 4 = .pointer (some ⟨g, 0, none⟩) ∧ w1.heap.size ≤ g ∧ Blk W g 25 (if D 6 = true then cellsV (vals 1) else [.slice none 0 0, .slice none 0 0, .int .i64 0])) ∧
  (D 5 = true → ∃ g, vals 5 = .pointer (some ⟨g, 0, none⟩) ∧ w1.heap.size ≤ g ∧ Blk W g 9 [.string (if D 7 = true then s else ⟨#[]⟩)])
section
variable {w1 W : World} {C : Cn} {K : Int} {s : ByteArray} {D : Nat → Bool} {vals : Nat → Value}
theorem alS.ind {D' : Nat → Bool} {vals' : Nat → Value} (h : alS w1 C K s D vals W) (hv : ∀ j, j ∈ [1, 4, 5, 6, 7] → D j = D' j ∧ vals j = vals' j) : alS w1 C K s D' vals' W := by
  obtain ⟨e1, e2⟩ := hv 1 (by decide)
  obtain ⟨e3, e4⟩ := hv 4 (by decide)
  obtain ⟨e5, e6⟩ := hv 5 (by decide)
  obtain ⟨e7, _⟩ := hv 6 (by decide)
  obtain ⟨e8, _⟩ := hv 7 (by decide)
  unfold alS at h ⊢
  rw [e1, e2, e3, e4, e5, e6, e7, e8] at h
  exact h
theorem ptr_inj {a b : Nat} (h : Value.pointer (some ⟨a, 0, none⟩) = .pointer (some ⟨b, 0, none⟩)) : a = b := by simpa using h
theorem alS.made {W' : World} {u : Value} (h : alS w1 C K s D vals W) (h1 : D 1 = false) (h6 : D 6 = false) (hu : ∃ x y, u = .agg #[x, y, .int .i64 K] ∧ Tbl W' x C.fs ∧ Strs W' y C.ss ∧ (∀ j, x.ownBlock = some j → W.heap.size ≤ j ∧ j < W'.heap.size) ∧ (∀ j, y.ownBlock = some j → W.heap.size ≤ j ∧ j < W'.heap.size)) (hb : Below W.heap.size W W') :
    alS w1 C K s (fun j => if j = 1 then true else D j) (updV vals 1 u) W' := by
  obtain ⟨q0, q1, q4, q5⟩ := h
  obtain ⟨x, y, hu0, hx, hy, ox, oy⟩ := hu
  have e1 : updV vals 1 u 1 = u := rfl
  have e4 : updV vals 1 u 4 = vals 4 := rfl
  have e5 : updV vals 1 u 5 = vals 5 := rfl
  have ho : Only (fun _ => False) W W' := Only.of_below _ hb
  unfold alS
  rw [e1, e4, e5]
  simp only [if_true, show (4 : Nat) ≠ 1 by decide, show (5 : Nat) ≠ 1 by decide, show (6 : Nat) ≠ 1 by decide, show (7 : Nat) ≠ 1 by decide, if_false, h6, Bool.false_eq_true] at q4 ⊢
  refine ⟨q0.trans (hb.mono q0.size), fun _ => ⟨x, y, hu0, hx, hy, fun j hj => ?_⟩, fun d => ?_, fun d => ?_⟩
  · have hjj : W.heap.size ≤ j ∧ j < W'.heap.size := hj.elim (ox j) (oy j)
    refine ⟨hjj.2, fun d e => ?_, fun d e => ?_⟩
    · obtain ⟨g, hg, _, hB⟩ := q4 d
      have := ptr_inj (hg.symm.trans e)
      have := hB.lt
      omega
    · obtain ⟨g, hg, _, hB⟩ := q5 d
      have := ptr_inj (hg.symm.trans e)
      have := hB.lt
      omega
  · obtain ⟨g, hg, hl, hB⟩ := q4 d
    exact ⟨g, hg, hl, hB.only ho (fun h => h)⟩
  · obtain ⟨g, hg, hl, hB⟩ := q5 d
    exact ⟨g, hg, hl, hB.only ho (fun h => h)⟩
theorem alS.box (h : alS w1 C K s D vals W) (h4 : D 4 = false) (h6 : D 6 = false) :
    alS w1 C K s (fun j => if j = 4 then true else D j) (updV vals 4 (.pointer (some ⟨W.heap.size, 0, none⟩))) (W.alloc (.cells #[.slice none 0 0, .slice none 0 0, .int .i64 0] 25)) := by
  obtain ⟨q0, q1, q4, q5⟩ := h
  have e4 : updV vals 4 (.pointer (some ⟨W.heap.size, 0, none⟩)) 4 = .pointer (some ⟨W.heap.size, 0, none⟩) := rfl
  have e1 : updV vals 4 (.pointer (some ⟨W.heap.size, 0, none⟩)) 1 = vals 1 := rfl
  have e5 : updV vals 4 (.pointer (some ⟨W.heap.size, 0, none⟩)) 5 = vals 5 := rfl
  obtain ⟨W', hW'⟩ : ∃ W', W.alloc (.cells #[.slice none 0 0, .slice none 0 0, .int .i64 0] 25) = W' := ⟨_, rfl⟩
  have hB := Blk.new W 25 [.slice none 0 0, .slice none 0 0, .int .i64 0]
  have hb : Below W.heap.size W W' := by rw [← hW']; exact (Below.refl _ W).alloc (Nat.le_refl _) _
  have hs : W'.heap.size = W.heap.size + 1 := by rw [← hW']; simp
  have ho : Only (fun _ => False) W W' := Only.of_below _ hb
  rw [show (W.alloc (.cells [Value.slice none 0 0, .slice none 0 0, .int .i64 0].toArray 25)) = W' from hW'] at hB
  unfold alS
  rw [hW', e1, e4, e5]
  simp only [if_true, show (1 : Nat) ≠ 4 by decide, show (5 : Nat) ≠ 4 by decide, show (6 : Nat) ≠ 4 by decide, show (7 : Nat) ≠ 4 by decide, if_false, h6, Bool.false_eq_true]
  refine ⟨q0.trans (hb.mono q0.size), fun d => ?_, fun _ => ⟨_, rfl, q0.size, hB⟩, fun d => ?_⟩
  · obtain ⟨x, y, hu0, hx, hy, ha⟩ := q1 d
    refine ⟨x, y, hu0, hx.below hb, hy.below hb, fun j hj => ?_⟩
    obtain ⟨a1, a2, a3⟩ := ha j hj
    refine ⟨by omega, fun _ e => ?_, a3⟩
    have := ptr_inj e
    omega
  · obtain ⟨g, hg, hl, hB⟩ := q5 d
    exact ⟨g, hg, hl, hB.only ho (fun h => h)⟩
theorem alS.str (h : alS w1 C K s D vals W) (h5 : D 5 = false) (h7 : D 7 = false) :
    alS w1 C K s (fun j => if j = 5 then true else D j) (updV vals 5 (.pointer (some ⟨W.heap.size, 0, none⟩))) (W.alloc (.cells #[.string ⟨#[]⟩] 9)) := by
  obtain ⟨q0, q1, q4, q5⟩ := h
  have e5 : updV vals 5 (.pointer (some ⟨W.heap.size, 0, none⟩)) 5 = .pointer (some ⟨W.heap.size, 0, none⟩) := rfl
  have e1 : updV vals 5 (.pointer (some ⟨W.heap.size, 0, none⟩)) 1 = vals 1 := rfl
  have e4 : updV vals 5 (.pointer (some ⟨W.heap.size, 0, none⟩)) 4 = vals 4 := rfl
  obtain ⟨W', hW'⟩ : ∃ W', W.alloc (.cells #[.string ⟨#[]⟩] 9) = W' := ⟨_, rfl⟩
  have hB := Blk.new W 9 [.string ⟨#[]⟩]
  have hb : Below W.heap.size W W' := by rw [← hW']; exact (Below.refl _ W).alloc (Nat.le_refl _) _
  have hs : W'.heap.size = W.heap.size + 1 := by rw [← hW']; simp
  have ho : Only (fun _ => False) W W' := Only.of_below _ hb
  rw [show (W.alloc (.cells [Value.string ⟨#[]⟩].toArray 9)) = W' from hW'] at hB
  unfold alS
  rw [hW', e1, e4, e5]
  simp only [if_true, show (1 : Nat) ≠ 5 by decide, show (4 : Nat) ≠ 5 by decide, show (6 : Nat) ≠ 5 by decide, show (7 : Nat) ≠ 5 by decide, if_false, h7, Bool.false_eq_true]
  refine ⟨q0.trans (hb.mono q0.size), fun d => ?_, fun d => ?_, fun _ => ⟨_, rfl, q0.size, hB⟩⟩
  · obtain ⟨x, y, hu0, hx, hy, ha⟩ := q1 d
    refine ⟨x, y, hu0, hx.below hb, hy.below hb, fun j hj => ?_⟩
    obtain ⟨a1, a2, a3⟩ := ha j hj
    refine ⟨by omega, a2, fun _ e => ?_⟩
    have := ptr_inj e
    omega
  · obtain ⟨g, hg, hl, hB⟩ := q4 d
    exact ⟨g, hg, hl, hB.only ho (fun h => h)⟩
theorem alS.put6 (h : alS w1 C K s D vals W) (h1 : D 1 = true) (h4 : D 4 = true) (h6 : D 6 = false) :
    ∃ g a8 n8 c8 a9 n9 c9, vals 1 = .agg #[.slice a8 n8 c8, .slice a9 n9 c9, .int .i64 K] ∧ vals 4 = .pointer (some ⟨g, 0, none⟩) ∧ Blk W g 25 [.slice none 0 0, .slice none 0 0, .int .i64 0] ∧
      alS w1 C K s (fun j => if j = 6 then true else D j) (updV vals 6 undef) (((W.setCell ⟨g, 0, none⟩ (.slice a8 n8 c8)).setCell ⟨g, 1, none⟩ (.slice a9 n9 c9)).setCell ⟨g, 2, none⟩ (.int .i64 K)) := by
  obtain ⟨q0, q1, q4, q5⟩ := h
  obtain ⟨g, hg, hl, hB⟩ := q4 h4
  obtain ⟨x, y, hu0, hx, hy, ha⟩ := q1 h1
  obtain ⟨a8, c8, rfl⟩ := hx.len
  obtain ⟨a9, c9, rfl⟩ := hy.len
  rw [h6] at hB
  simp only [Bool.false_eq_true, if_false] at hB
  refine ⟨g, a8, _, c8, a9, _, c9, hu0, hg, hB, ?_⟩
  obtain ⟨W', hW'⟩ : ∃ W', ((W.setCell ⟨g, 0, none⟩ (.slice a8 C.fs.length c8)).setCell ⟨g, 1, none⟩ (.slice a9 C.ss.length c9)).setCell ⟨g, 2, none⟩ (.int .i64 K) = W' := ⟨_, rfl⟩
  have ho : Only (· = g) W W' := by rw [← hW']; exact (((Only.refl (· = g) W).setCell _ _ (fun _ => rfl)).setCell _ _ (fun _ => rfl)).setCell _ _ (fun _ => rfl)
  have hB' : Blk W' g 25 [.slice a8 C.fs.length c8, .slice a9 C.ss.length c9, .int .i64 K] := by rw [← hW']; exact ((hB.set 0 _).set 1 _).set 2 _
  have e1 : updV vals 6 undef 1 = vals 1 := rfl
  have e4 : updV vals 6 undef 4 = vals 4 := rfl
  have e5 : updV vals 6 undef 5 = vals 5 := rfl
  unfold alS
  rw [hW', e1, e4, e5]
  simp only [if_true, show (1 : Nat) ≠ 6 by decide, show (4 : Nat) ≠ 6 by decide, show (5 : Nat) ≠ 6 by decide, show (7 : Nat) ≠ 6 by decide, if_false]
  refine ⟨q0.trans (ho.below q0.size (fun j hj e => by omega)), fun d => ?_, fun _ => ⟨g, hg, hl, by rw [hu0]; exact hB'⟩, fun d => ?_⟩
  · refine ⟨_, _, hu0, hx.keepO (fun k hk hlt => ho.block k hlt (fun e => ?_)), hy.keep (fun k hk hlt => ho.block k hlt (fun e => ?_)), fun j hj => ?_⟩
    · exact (ha k (.inl hk)).2.1 h4 (by rw [hg, e])
    · exact (ha k (.inr hk)).2.1 h4 (by rw [hg, e])
    · obtain ⟨b1, b2, b3⟩ := ha j hj
      exact ⟨Nat.lt_of_lt_of_le b1 ho.size, b2, b3⟩
  · obtain ⟨g', hg', hl', hB5⟩ := q5 d
    exact ⟨g', hg', hl', hB5.only ho (Blk.ne hB5 hB (by decide))⟩
theorem alS.put7 (h : alS w1 C K s D vals W) (h5 : D 5 = true) (h7 : D 7 = false) :
    ∃ g, vals 5 = .pointer (some ⟨g, 0, none⟩) ∧ Blk W g 9 [.string ⟨#[]⟩] ∧ alS w1 C K s (fun j => if j = 7 then true else D j) (updV vals 7 undef) (W.setCell ⟨g, 0, none⟩ (.string s)) := by
  obtain ⟨q0, q1, q4, q5⟩ := h
  obtain ⟨g, hg, hl, hB⟩ := q5 h5
  rw [h7] at hB
  simp only [Bool.false_eq_true, if_false] at hB
  refine ⟨g, hg, hB, ?_⟩
  obtain ⟨W', hW'⟩ : ∃ W', W.setCell ⟨g, 0, none⟩ (.string s) = W' := ⟨_, rfl⟩
  have ho : Only (· = g) W W' := by rw [← hW']; exact (Only.refl (· = g) W).setCell _ _ (fun _ => rfl)
  have hB' : Blk W' g 9 [.string s] := by rw [← hW']; exact hB.set 0 _
  have e1 : updV vals 7 undef 1 = vals 1 := rfl
  have e4 : updV vals 7 undef 4 = vals 4 := rfl
  have e5 : updV vals 7 undef 5 = vals 5 := rfl
  unfold alS
  rw [hW', e1, e4, e5]
  simp only [if_true, show (1 : Nat) ≠ 7 by decide, show (4 : Nat) ≠ 7 by decide, show (5 : Nat) ≠ 7 by decide, show (6 : Nat) ≠ 7 by decide, if_false]
  refine ⟨q0.trans (ho.below q0.size (fun j hj e => by omega)), fun d => ?_, fun d => ?_, fun _ => ⟨g, hg, hl, hB'⟩⟩
  · obtain ⟨x, y, hu0, hx, hy, ha⟩ := q1 d
    refine ⟨x, y, hu0, hx.keepO (fun k hk hlt => ho.block k hlt (fun e => ?_)), hy.keep (fun k hk hlt => ho.block k hlt (fun e => ?_)), fun j hj => ?_⟩
    · exact (ha k (.inl hk)).2.2 h5 (by rw [hg, e])
    · exact (ha k (.inr hk)).2.2 h5 (by rw [hg, e])
    · obtain ⟨b1, b2, b3⟩ := ha j hj
      exact ⟨Nat.lt_of_lt_of_le b1 ho.size, b2, b3⟩
  · obtain ⟨g', hg', hl', hB4⟩ := q4 d
    exact ⟨g', hg', hl', hB4.only ho (Blk.ne hB4 hB (by decide))⟩
end

/-- what All answers: the empty iterator, or the one over the words, with a copy of the way, and the text -/
def AllR (C : Cn) (s : ByteArray) (v : Value) (W : World) : Prop :=
  (mayC C = false ∧ v = .func (.func 71) #[] #[]) ∨
  (mayC C = true ∧ ∃ g6 g5, v = .func (.func 73) #[] #[.pointer (some ⟨g6, 0, none⟩), .pointer (some ⟨g5, 0, none⟩)] ∧ (Let W → AllW g6 g5 C s W))

set_option maxHeartbeats 2000000 in
theorem all_any (w : World) (v : Value) (C : Cn) (h : CnfV w v C) (hok : CnOk C) (vt : Value) (zs : List Int) (hz : Sl w vt zs) (hL : Let w) :
    Calls Tryd.prog 47 #[v, vt] w fun e w' => ∃ u, e = .returned u ∧ AllR C (strOfNums zs) u w' ∧ Below w.heap.size w w' := by
  obtain ⟨fo, fc, so, sc, w1, rfl, hw1, hb1, hB, hT, hS⟩ := box_cnf w v C h
  have HCK := hide (checkC_any w1 _ C (h.below hb1) hok (hL.below hb1))
  have HCL0 : Hid (∀ W, Below w1.heap.size w1 W → Calls Tryd.prog 72 #[.agg #[.slice fo C.fs.length fc, .slice so C.ss.length sc, .int .i64 C.cap]] W fun e w' => ∃ u, e = .returned u ∧ (∃ x y, u = .agg #[x, y, .int .i64 C.cap] ∧ Tbl w' x C.fs ∧ Strs w' y C.ss ∧ (∀ j, x.ownBlock = some j → W.heap.size ≤ j ∧ j < w'.heap.size) ∧ (∀ j, y.ownBlock = some j → W.heap.size ≤ j ∧ j < w'.heap.size)) ∧ Below W.heap.size W w') := fun W hb => cloneC_any W _ C (h.below (hb1.trans (hb.mono hb1.size))) hok
  have HCV0 : Hid (∀ W, Below w1.heap.size w1 W → ∀ v0, v0 = vt → (convert 26 9 v0).run Tryd.prog W = .ok (.string (strOfNums zs)) W) := fun W hb v0 e => by
    rw [e]
    exact run_convert_sl (P := Tryd.prog) W 26 5 9 Tryd.underlying26 Tryd.underlying5 Tryd.underlying9 vt zs (hz.below (hb1.trans (hb.mono hb1.size)))
  obtain ⟨to, tn, tc, rfl⟩ := sl_form hz
  have HB1 := hide hb1
  have HBX1 := hide hB
  have c0 : w1.cell? ⟨w.heap.size, 0, none⟩ = some (.slice fo C.fs.length fc) := hB.cell 0
  have c1 : w1.cell? ⟨w.heap.size, 1, none⟩ = some (.slice so C.ss.length sc) := hB.cell 1
  have c2 : w1.cell? ⟨w.heap.size, 2, none⟩ = some (.int .i64 C.cap) := hB.cell 2
  obtain ⟨s, hs⟩ : ∃ s, strOfNums zs = s := ⟨_, rfl⟩
  rw [hs] at HCV0 ⊢
  obtain ⟨fn, hfn⟩ : ∃ n, C.fs.length = n := ⟨_, rfl⟩
  obtain ⟨sn, hsn⟩ : ∃ n, C.ss.length = n := ⟨_, rfl⟩
  obtain ⟨K, hK⟩ : ∃ n, C.cap = n := ⟨_, rfl⟩
  have HKC := hide hK
  have HFN := hide hfn
  have HSN := hide hsn
  rw [hfn] at hw1 c0 HCK HCL0 HBX1 ⊢
  rw [hsn] at hw1 c1 HCK HCL0 HBX1 ⊢
  rw [hK] at hw1 c2 HCK HCL0 HBX1 ⊢
  have HE : Hid (mayE C = if mayC C = true then 0 else 140) := rfl
  clear h hT hS hB hb1 hok hL hz hs hfn hsn hK
  cases hM : mayC C with
  | false =>
    rw [HE.out, hM, if_neg (by simp)] at HCK
    have HM := hide hM
    clear hM HE HCL0 HCV0
    go_enter Tryd.func47, Tryd.ntmps47
    go_wp2_with (go_at_call 12; refine HCK.out.mono ?_; rintro e w2 ⟨rfl, hb⟩; have HB2 := hide (HB1.out.trans (hb.mono HB1.out.size)); clear HCK hb)
    go_ret
    exact ⟨_, rfl, .inl ⟨HM.out, rfl⟩, HB2.out⟩
  | true =>
    rw [HE.out, hM, if_pos rfl] at HCK
    have HM := hide hM
    clear hM HE
    go_enter Tryd.func47, Tryd.ntmps47
    go_wp2_with (go_at_call 12; refine HCK.out.mono ?_; rintro e w2 ⟨rfl, hb⟩; have HB12 := hide hb; have HBX := hide (HBX1.out.below hb HBX1.out.lt); clear HCK hb)
    have HCL : Hid (∀ W, Below w2.heap.size w2 W → Calls Tryd.prog 72 #[.agg #[.slice fo fn fc, .slice so sn sc, .int .i64 K]] W fun e w' => ∃ u, e = .returned u ∧ (∃ x y, u = .agg #[x, y, .int .i64 K] ∧ Tbl w' x C.fs ∧ Strs w' y C.ss ∧ (∀ j, x.ownBlock = some j → W.heap.size ≤ j ∧ j < w'.heap.size) ∧ (∀ j, y.ownBlock = some j → W.heap.size ≤ j ∧ j < w'.heap.size)) ∧ Below W.heap.size W w') := fun W hb => HCL0.out W (HB12.out.trans (hb.mono HB12.out.size))
    have HCV : Hid (∀ W, Below w2.heap.size w2 W → (convert 26 9 (.slice to tn tc)).run Tryd.prog W = .ok (.string s) W) := fun W hb => HCV0.out W (HB12.out.trans (hb.mono HB12.out.size)) _ rfl
    have HB2 : Hid (Below w.heap.size w w2) := HB1.out.trans (HB12.out.mono HB1.out.size)
    clear HCL0 HCV0 c0 c1 c2 hw1 HBX1
    refine wp_region_set [some (.agg #[.slice fo fn fc, .slice so sn sc, .int .i64 K]), none, some (.slice to tn tc), some (.string s), none, none, none, none] [1, 4, 5, 6, 7] (alS w2 C K s) 15 (by kernel_rfl) (by kernel_rfl) (by kernel_rfl) (by kernel_rfl) rfl ?_ ?_ ?_ ?_
    · exact fun vals0 => ⟨⟨rfl, rfl, rfl, Nat.le_refl _, fun _ _ => rfl⟩, (fun h => by cases h), (fun h => by cases h), (fun h => by cases h)⟩
    · exact fun D D' vals vals' W hv hs => alS.ind hs hv
    · refine ⟨?_, ?_, ?_, ?_, ?_, ?_, ?_, ?_, trivial⟩
      · intro D vals act wx hu h hs
        have e2 : act.eval (.tmp 2) = .pointer (some ⟨w.heap.size, 0, none⟩) := h.old 2 (by kernel_rfl)
        clear h
        have hbx := HBX.out.below hs.1 HBX.out.lt
        have c0 := hbx.cell 0
        have c1 := hbx.cell 1
        have c2 := hbx.cell 2
        simp only [List.getElem?_cons_zero, List.getElem?_cons_succ] at c0 c1 c2
        clear hbx
        refine gives_by rfl act.eval rfl ?_
        generalize act.eval = ρ at *
        intro hf hc
        go_simp
        exact ⟨rfl, hs⟩
      · intro D vals act wx hu h hs
        have e10 : act.eval (.tmp 10) = .agg #[.slice fo fn fc, .slice so sn sc, .int .i64 K] := h.q 0 10 (by kernel_rfl) rfl
        clear h
        refine gives_by rfl act.eval rfl ?_
        generalize act.eval = ρ at *
        intro hf hc
        go_simp
        refine (HCL.out wx hs.1).mono ?_
        rintro e wy ⟨u, rfl, hu1, hb⟩
        exact ⟨u, rfl, alS.made hs hu.self (hu.not 6 (by decide) (by kernel_rfl)) hu1 hb⟩
      · intro D vals act wx hu h hs
        have e1 : act.eval (.tmp 1) = .slice to tn tc := h.old 1 (by kernel_rfl)
        clear h
        refine gives_by rfl act.eval rfl ?_
        generalize act.eval = ρ at *
        intro hf hc
        go_simp
        exact ⟨rfl, hs⟩
      · intro D vals act wx hu h hs
        have e12 : act.eval (.tmp 12) = .slice to tn tc := h.q 2 12 (by kernel_rfl) rfl
        clear h
        have hcv := HCV.out wx hs.1
        refine gives_by rfl act.eval rfl ?_
        generalize act.eval = ρ at *
        intro hf hc
        go_simp
        exact ⟨rfl, hs⟩
      · intro D vals act wx hu h hs
        clear h
        have hres := alS.box hs hu.self (hu.not 6 (by decide) (by kernel_rfl))
        refine gives_by rfl act.eval rfl ?_
        generalize act.eval = ρ at *
        intro hf hc
        go_simp
        exact hres
      · intro D vals act wx hu h hs
        clear h
        have hres := alS.str hs hu.self (hu.not 7 (by decide) (by kernel_rfl))
        refine gives_by rfl act.eval rfl ?_
        generalize act.eval = ρ at *
        intro hf hc
        go_simp
        exact hres
      · intro D vals act wx hu h hs
        have e5 : act.eval (.tmp 5) = vals 4 := h.val 4 5 (by kernel_rfl)
        have e11 : act.eval (.tmp 11) = vals 1 := h.val 1 11 (by kernel_rfl)
        clear h
        obtain ⟨g, a8, n8, c8, a9, n9, c9, h1, h4, hx, hres⟩ := alS.put6 hs (hu.done 1 (by kernel_rfl)) (hu.done 4 (by kernel_rfl)) hu.self
        rw [h4] at e5
        rw [h1] at e11
        have k0 := hx.cell 0
        have k1 := hx.cell 1
        have k2 := hx.cell 2
        have f0 := hx.frozen 0
        have f1 := hx.frozen 1
        have f2 := hx.frozen 2
        refine gives_of_skip rfl (w' := ((wx.setCell ⟨g, 0, none⟩ (.slice a8 n8 c8)).setCell ⟨g, 1, none⟩ (.slice a9 n9 c9)).setCell ⟨g, 2, none⟩ (.int .i64 K)) ?_ hres
        clear hres hx hs h1 h4
        generalize act.eval = ρ at *
        go_simp
      · intro D vals act wx hu h hs
        have e6 : act.eval (.tmp 6) = vals 5 := h.val 5 6 (by kernel_rfl)
        have e13 : act.eval (.tmp 13) = .string s := h.q 3 13 (by kernel_rfl) rfl
        clear h
        obtain ⟨g, h5, hx, hres⟩ := alS.put7 hs (hu.done 5 (by kernel_rfl)) hu.self
        rw [h5] at e6
        have k0 := hx.cell 0
        have f0 := hx.frozen 0
        refine gives_of_skip rfl (w' := wx.setCell ⟨g, 0, none⟩ (.string s)) ?_ hres
        clear hres hx hs h5
        generalize act.eval = ρ at *
        go_simp
    · intro D vals w3 hq hD hs
      obtain ⟨q0, q1, q4, q5⟩ := hs
      obtain ⟨g5, hg5, _, hB5⟩ := q4 (hD 4 (by decide))
      obtain ⟨g6, hg6, _, hB6⟩ := q5 (hD 5 (by decide))
      obtain ⟨x, y, hu0, hx, hy, _⟩ := q1 (hD 1 (by decide))
      rw [if_pos (hD 6 (by decide)), hu0] at hB5
      rw [if_pos (hD 7 (by decide))] at hB6
      obtain ⟨a8, c8, rfl⟩ := hx.len
      obtain ⟨a9, c9, rfl⟩ := hy.len
      have HR : Hid (Let w3 → AllW g6 g5 C s w3) := fun hL => ⟨hB6.cell 0, ⟨a8, c8, a9, c9, hB5.cell 0, hB5.cell 1, by rw [HKC.out]; exact hB5.cell 2, hx, hy⟩, hL⟩
      have HB3 : Hid (Below w.heap.size w w3) := HB2.out.trans (q0.mono HB2.out.size)
      clear q0 q1 q4 q5 hB5 hB6 hx hy hu0 hD hq
      simp only [putAll, Act.put, List.setIfInBounds_toArray, List.set_cons_zero, List.set_cons_succ, Nat.zero_add, Nat.reduceAdd, hg5, hg6]
      go_wp2
      go_ret
      exact ⟨_, rfl, .inr ⟨HM.out, g6, g5, rfl, HR.out⟩, HB3.out⟩

end Go.Proofs.YtimmfnjkknbofaaDoor
/- Contract: package words' Tokens. -/
namespace Go.Proofs.YtimmfnjkknbofaaDoor
set_option maxRecDepth 20000
open Go.RowKit
set_option linter.unusedVariables false
set_option linter.unusedSimpArgs false
set_option maxRecDepth 100000

theorem tokC_ok (C : Cn) (l : List Nat) : ∀ x ∈ tokC C l, ByteOk x.1 := by
  unfold tokC
  split
  · exact tokL_ok _ _ _ _
  · intro x hx; cases hx
theorem tokC_len (C : Cn) (l : List Nat) : (tokC C l).length ≤ l.length := by
  unfold tokC
  split
  · exact tokL_len _ _ _ _
  · simp
theorem mayC_cap {C : Cn} (h : mayC C = true) : ∃ m : Nat, C.cap = (m : Int) ∧ m ≤ 100 ∧ C.cap.toNat = m ∧ 1 ≤ m ∧ m ≤ 12 := by
  unfold mayC at h
  simp only [Bool.and_eq_true, decide_eq_true_iff] at h
  exact ⟨C.cap.toNat, by omega, by omega, rfl, by omega, by omega⟩
/-- the iterator that All answers, as one -/
theorem allR_iter {C : Cn} (hok : CnOk C) (zs : List Int) (hb : ByteOk zs) (hl : zs.length ≤ 1000000) {u : Value} {W : World} (h : AllR C (strOfNums zs) u W) (hL : Let W) :
    ∃ gf lb V, u = .func (.func gf) #[] lb ∧ (∀ args w, (callFunc gf args).run Tryd.prog w = .ok (.enter gf args) w) ∧ Iter2 Tryd.prog gf lb encT (tokC C (rs zs)) V ∧ ∀ W', Below W.heap.size W W' → ∀ k W'', Only (fun _ => False) W' W'' → V k W'' := by
  rcases h with ⟨hm, rfl⟩ | ⟨hm, g6, g5, rfl, hA⟩
  · refine ⟨_, _, _, rfl, enters_all1, ?_, fun _ _ _ _ _ => trivial⟩
    rw [show tokC C (rs zs) = [] from if_neg (by rw [hm]; simp)]
    exact all1_iter
  · obtain ⟨m, h1, h2, h3, _⟩ := mayC_cap hm
    refine ⟨_, _, _, rfl, enters_all2, ?_, fun W' hb' k W'' ho => ((hA hL).below hb').below (ho.below (Nat.le_refl _) (fun _ _ h => h))⟩
    rw [show tokC C (rs zs) = tokL (useL C.fs) C.cap.toNat C.ss (rs zs) from if_pos hm, h3]
    exact all2_iter g6 g5 C hok m h1 h2 zs hb hl

set_option maxHeartbeats 1000000 in
theorem tokens_any (w : World) (v : Value) (C : Cn) (h : CnfV w v C) (hok : CnOk C) (vt : Value) (zs : List Int) (hz : Sl w vt zs) (hl : zs.length ≤ 1000000) (hL : Let w) :
    Calls Tryd.prog 25 #[v, vt] w fun e w' => ∃ u, e = .returned u ∧ TkO w' w.heap.size u (tokC C (rs zs)) ∧ Below w.heap.size w w' := by
  obtain ⟨fo, fc, so, sc, w1, rfl, hw1, hb1, hB, hT, hS⟩ := box_cnf w v C h
  have HAL := hide (all_any w1 _ C (h.below hb1) hok vt zs (hz.below hb1) (hL.below hb1))
  have HCT : Hid (∀ u w2, Below w1.heap.size w1 w2 → AllR C (strOfNums zs) u w2 → ∃ gf lb, u = .func (.func gf) #[] lb ∧ Calls Tryd.prog 52 #[.func (.func gf) #[] lb] w2 fun e w' => ∃ v, e = .returned v ∧ TkO w' w2.heap.size v (tokC C (rs zs)) ∧ Below w2.heap.size w2 w') := fun u w2 hb hu => by
    obtain ⟨gf, lb, V, e, eg, hit, hV⟩ := allR_iter hok zs hz.1 hl hu (hL.below (hb1.trans (hb.mono hb1.size)))
    exact ⟨gf, lb, e, collectT_any w2 gf lb _ V eg hit (hV w2 (Below.refl _ w2)) (by have := tokC_len C (rs zs); have := rs_len zs; omega)⟩
  obtain ⟨to, tn, tc, rfl⟩ := sl_form hz
  have HB1 := hide hb1
  have c0 : w1.cell? ⟨w.heap.size, 0, none⟩ = some (.slice fo C.fs.length fc) := hB.cell 0
  have c1 : w1.cell? ⟨w.heap.size, 1, none⟩ = some (.slice so C.ss.length sc) := hB.cell 1
  have c2 : w1.cell? ⟨w.heap.size, 2, none⟩ = some (.int .i64 C.cap) := hB.cell 2
  have HBASE : Hid (∀ w' b u xs, w.heap.size ≤ b → TkO w' b u xs → TkO w' w.heap.size u xs) := fun w' b u xs hb ⟨h1, h2⟩ => ⟨h1, h2.imp id (fun ⟨g, cap, cur, q1, q2, q3⟩ => ⟨g, cap, cur, q1, Nat.le_trans hb q2, q3⟩)⟩
  generalize tokC C (rs zs) = T at *
  generalize strOfNums zs = s at *
  obtain ⟨fn, hfn⟩ : ∃ n, C.fs.length = n := ⟨_, rfl⟩
  obtain ⟨sn, hsn⟩ : ∃ n, C.ss.length = n := ⟨_, rfl⟩
  obtain ⟨K, hK⟩ : ∃ n, C.cap = n := ⟨_, rfl⟩
  rw [hfn] at hw1 c0 HAL ⊢
  rw [hsn] at hw1 c1 HAL ⊢
  rw [hK] at hw1 c2 HAL ⊢
  clear h hT hS hB hb1 hok hL hz hfn hsn hK hl
  go_enter Tryd.func25, Tryd.ntmps25
  go_wp2_with (first
    | (go_at_call 47; refine HAL.out.mono ?_; rintro e w2 ⟨u, rfl, hu, hb⟩; obtain ⟨gf, lb, rfl, hc⟩ := HCT.out u w2 hb hu; have HC := hide hc; have HB2 := hide (HB1.out.trans (hb.mono HB1.out.size)); clear HAL HCT hb hu hc)
    | (go_at_call 52; refine HC.out.mono ?_; rintro e w3 ⟨u3, rfl, ht, hb⟩; have HT3 := hide ht; have HB3 := hide (HB2.out.trans (hb.mono HB2.out.size)); clear HC hb ht))
  go_ret
  exact ⟨_, rfl, HBASE.out _ _ _ _ HB2.out.size HT3.out, HB3.out⟩

end Go.Proofs.YtimmfnjkknbofaaDoor
/- Contract: the beginning of layer 14's laws (incipitlaw14.live). -/
namespace Go.Proofs.YtimmfnjkknbofaaDoor
set_option maxRecDepth 20000
open Go.RowKit
set_option linter.unusedVariables false
set_option linter.unusedSimpArgs false
set_option maxRecDepth 100000

theorem sl_markK (w : World) (e : TypeId) (fr : Nat × Nat) (zs : List Int) (hb : ByteOk zs) (hm : zs.length ≤ maxLen) :
    Sl (w.alloc (.cells (zs.map (Value.int .u8)).toArray e fr)) (.slice (some ⟨w.heap.size, 0, none⟩) zs.length zs.length) zs := by
  refine ⟨hb, _, _, rfl, Nat.le_refl _, hm, (fun h => by cases h), fun _ => ⟨_, 0, rfl, fun i hi => ?_⟩⟩
  rw [World.cell?_alloc_mark, Nat.zero_add, getD_lt zs hi]
  simp [hi]
def exC : Cn := ⟨[(65, 97, 26)], [[116, 104, 101]], 4⟩
def exT : List Int := [84, 104, 101, 32, 67, 97, 116, 115, 44, 32, 116, 104, 101, 32, 67, 65, 84, 83, 39, 32, 49, 50]
def exK : List Tk := [([99, 97, 116, 115], 1), ([99, 97, 116, 115], 3), ([49, 50], 4)]
theorem ex_tok : tokC exC (rs exT) = exK := by decide +kernel
theorem exC_ok : CnOk exC := ⟨by decide, by decide, by decide, by decide, by decide⟩
theorem exT_ok : ByteOk exT := by
  intro z hz
  simp [exT] at hz
  omega

theorem some_any (w : World) : Calls Tryd.prog 26 #[] w fun e w' => ∃ fo so, e = .returned (.agg #[.slice fo 1 1, .slice so 1 1, .int .i64 4]) ∧ CnfV w' (.agg #[.slice fo 1 1, .slice so 1 1, .int .i64 4]) exC ∧ Below w.heap.size w w' := by
  go_enter Tryd.func26, Tryd.ntmps26
  go_wp2
  obtain ⟨w1, hw1⟩ : ∃ w1, w.alloc (.cells #[.slice (some ⟨w.heap.size + 1, 0, none⟩) 1 1, .slice (some ⟨w.heap.size + 1 + 1, 0, none⟩) 1 1, .int .i64 4] 25) = w1 := ⟨_, rfl⟩
  obtain ⟨w2, hw2⟩ : ∃ w2, w1.alloc (.cells #[.int .i32 65, .int .i32 97, .int .i64 26] 54) = w2 := ⟨_, rfl⟩
  obtain ⟨w3, hw3⟩ : ∃ w3, w2.alloc (.cells #[.string ⟨#[116, 104, 101]⟩] 9) = w3 := ⟨_, rfl⟩
  have s1 : w1.heap.size = w.heap.size + 1 := by rw [← hw1]; simp
  have s2 : w2.heap.size = w.heap.size + 1 + 1 := by rw [← hw2]; simp [s1]
  have b1 : Blk w3 w.heap.size 25 [.slice (some ⟨w.heap.size + 1, 0, none⟩) 1 1, .slice (some ⟨w.heap.size + 1 + 1, 0, none⟩) 1 1, .int .i64 4] := by
    rw [← hw3, ← hw2, ← hw1]; exact ((Blk.new w _ _).alloc _).alloc _
  have b2 : Blk w3 (w.heap.size + 1) 54 [.int .i32 65, .int .i32 97, .int .i64 26] := by
    rw [← hw3, ← hw2, ← s1]; exact (Blk.new w1 _ _).alloc _
  have b3 : Blk w3 (w.heap.size + 1 + 1) 9 [.string ⟨#[116, 104, 101]⟩] := by
    rw [← hw3, ← s2]; exact Blk.new w2 _ _
  have hb : Below w.heap.size w w3 := by rw [← hw3, ← hw2, ← hw1]; exact (((Below.refl _ w).alloc (Nat.le_refl _) _).alloc (by simp) _).alloc (by simp; omega) _
  rw [hw1, hw2, hw3]
  refine bodyPost_ret (results_cell_row rfl _ _ w.heap.size 25 #[.slice (some ⟨w.heap.size + 1, 0, none⟩) 1 1, .slice (some ⟨w.heap.size + 1 + 1, 0, none⟩) 1 1, .int .i64 4] (0, 0) _ rfl b1 Tryd.underlying25 rfl sizeConf) rfl ?_
  refine ⟨_, _, rfl, ⟨_, _, _, _, rfl, ⟨?_, _, _, rfl, by decide, by decide, fun _ => ⟨_, 0, rfl, fun i hi => ?_⟩⟩, ⟨?_, _, _, rfl, by decide, by decide, fun _ => ⟨_, 0, rfl, fun i hi => ?_⟩⟩⟩, hb⟩
  · intro x hx
    obtain rfl : x = (65, 97, 26) := by simpa [exC] using hx
    exact ⟨⟨by decide, by decide⟩, ⟨by decide, by decide⟩, by decide, by decide⟩
  · obtain rfl : i = 0 := by simp [exC] at hi; omega
    exact ⟨b2.cell 0, b2.cell 1, b2.cell 2⟩
  · intro z hz
    obtain rfl : z = [116, 104, 101] := by simpa [exC] using hz
    intro y hy
    simp at hy
    omega
  · obtain rfl : i = 0 := by simp [exC] at hi; omega
    exact b3.cell 0

theorem cvK (w : World) (C : Array Value) (n c b : Nat) (hb : w.heap.size = b) : (convert 26 26 (.slice (some ⟨b, 0, none⟩) n c)).run Tryd.prog (w.alloc (.cells C 5)) = .ok (.slice (some ⟨b, 0, none⟩) n c) (w.alloc (.cells C 5 (C.size, C.size + 1))) := by
  subst hb
  exact Lib.run_convert_bytes_const (P := Tryd.prog) w 26 5 C n c Tryd.underlying26 Tryd.underlying5
abbrev exA : Array Value := #[.int .u8 84, .int .u8 104, .int .u8 101, .int .u8 32, .int .u8 67, .int .u8 97, .int .u8 116, .int .u8 115, .int .u8 44, .int .u8 32, .int .u8 116, .int .u8 104, .int .u8 101, .int .u8 32, .int .u8 67, .int .u8 65, .int .u8 84, .int .u8 83, .int .u8 39, .int .u8 32, .int .u8 49, .int .u8 50]
theorem ex_tks (w : World) : Tks (w.alloc (.cells #[.string ⟨#[99, 97, 116, 115]⟩, .int .i64 1, .string ⟨#[99, 97, 116, 115]⟩, .int .i64 3, .string ⟨#[49, 50]⟩, .int .i64 4] 48)) (.slice (some ⟨w.heap.size, 0, none⟩) 3 3) exK := by
  have hB := Blk.new w 48 [.string ⟨#[99, 97, 116, 115]⟩, .int .i64 1, .string ⟨#[99, 97, 116, 115]⟩, .int .i64 3, .string ⟨#[49, 50]⟩, .int .i64 4]
  refine ⟨_, _, rfl, by decide, by decide, by decide, fun _ => ⟨_, 0, rfl, fun i hi => ?_⟩⟩
  obtain rfl | rfl | rfl : i = 0 ∨ i = 1 ∨ i = 2 := by simp [exK] at hi; omega
  · exact ⟨hB.cell 0, hB.cell 1⟩
  · exact ⟨hB.cell 2, hB.cell 3⟩
  · exact ⟨hB.cell 4, hB.cell 5⟩

set_option maxHeartbeats 1000000 in
theorem liveW_any (w : World) (hL : Let w) : Calls Tryd.prog 6 #[] w fun e w' => e = .returned (.bool true) ∧ Below w.heap.size w w' := by
  have HSM := hide (some_any w)
  have HCV : Hid (∀ W : World, (convert 26 26 (.slice (some ⟨W.heap.size, 0, none⟩) 22 22)).run Tryd.prog (W.alloc (.cells exA 5)) = .ok (.slice (some ⟨W.heap.size, 0, none⟩) 22 22) (W.alloc (.cells exA 5 (22, 23)))) := fun W => cvK W exA 22 22 W.heap.size rfl
  have HTK : Hid (∀ W v, Below w.heap.size w W → CnfV W v exC → Calls Tryd.prog 25 #[v, .slice (some ⟨W.heap.size, 0, none⟩) 22 22] (W.alloc (.cells exA 5 (22, 23))) fun e w' => ∃ u, e = .returned u ∧ Tks w' u exK ∧ Below w.heap.size w w') := fun W v hb hv => by
    have h1 : Below W.heap.size W (W.alloc (.cells exA 5 (22, 23))) := (Below.refl _ W).alloc (Nat.le_refl _) _
    have h2 : Sl (W.alloc (.cells exA 5 (22, 23))) (.slice (some ⟨W.heap.size, 0, none⟩) 22 22) exT := sl_markK W 5 (22, 23) exT exT_ok (by decide)
    have h3 := hb.trans (h1.mono hb.size)
    refine (tokens_any _ v exC (hv.below h1) exC_ok _ exT h2 (by decide) (hL.below h3)).mono ?_
    rintro e w' ⟨u, rfl, ht, hb'⟩
    rw [ex_tok] at ht
    exact ⟨u, rfl, ht.read (by decide), h3.trans (hb'.mono h3.size)⟩
  have HEQ : Hid (∀ W v u, Tks W v exK → Tks W u exK → Calls Tryd.prog 24 #[v, u] W fun e w' => e = .returned (.bool true) ∧ Below W.heap.size W w') := fun W v u h1 h2 => by
    have hk : ∀ x ∈ exK, ByteOk x.1 := by rw [← ex_tok]; exact tokC_ok _ _
    have := equalT_any W v u exK exK h1 h2 hk hk
    rwa [decide_eq_true rfl] at this
  clear hL
  go_enter Tryd.func6, Tryd.ntmps6
  go_wp2_with (first
    | (go_at_call 26; refine HSM.out.mono ?_; rintro e w1 ⟨fo, so, rfl, hv, hb⟩; have cv := HCV.out w1; have HT := hide (HTK.out w1 _ hb hv); clear HSM HTK HCV hv hb)
    | (go_at_call 25; refine HT.out.mono ?_; rintro e w2 ⟨u, rfl, ht, hb⟩; obtain ⟨ua, uc, rfl⟩ := ht.len; have HX := ex_tks w2; obtain ⟨w3, hw3⟩ : ∃ w3, w2.alloc (.cells #[.string ⟨#[99, 97, 116, 115]⟩, .int .i64 1, .string ⟨#[99, 97, 116, 115]⟩, .int .i64 3, .string ⟨#[49, 50]⟩, .int .i64 4] 48) = w3 := ⟨_, rfl⟩; rw [hw3] at HX; have hb23 : Below w2.heap.size w2 w3 := (by rw [← hw3]; exact (Below.refl _ w2).alloc (Nat.le_refl _) _); have HE := hide (HEQ.out w3 _ _ (ht.below hb23) HX); have HB3 := hide (hb.trans (hb23.mono hb.size)); clear HT HEQ ht hb hb23 HX)
    | (go_at_call 24; refine HE.out.mono ?_; rintro e w4 ⟨rfl, hb⟩; have HB4 := hide (HB3.out.trans (hb.mono HB3.out.size)); clear HE hb))
  go_ret
  exact ⟨rfl, HB4.out⟩

end Go.Proofs.YtimmfnjkknbofaaDoor
