/- What the document's changes of a node hold while rows are put together, in whatever order: rows, a literal, a box. No package's function. -/
import Derived.Test.YtoamdbjailpgdaaNGrow
import Derived.Test.YtoamdbjailpgdaaRegionE
namespace Go.Proofs.Ytoamdbjailpgdaa
set_option maxRecDepth 20000
open Go.RowKit
set_option linter.unusedVariables false
set_option linter.unusedSimpArgs false
set_option maxRecDepth 100000

abbrev upD (D : Nat → Bool) (i : Nat) : Nat → Bool := fun j => if j = i then true else D j
/-- a row of the call's own -/
def rowF (B : Nat) (e : TypeId) (m : Nat) (cs : List Value) (v : Value) (W : World) : Prop := ∃ a n c, v = .slice a n c ∧ n ≤ 3000 ∧ W.ownsRow B e m (.slice a n c) n cs
section
variable {B m : Nat} {e : TypeId} {cs c1 c2 : List Value} {v : Value} {W W' : World} {o1 o2 i : Nat} {D : Nat → Bool} {vals : Nat → Value}
theorem rowF.keep (h : rowF B e m cs v W) (ho : Only (fun _ => False) W W') : rowF B e m cs v W' := by
  obtain ⟨a, n, c, h1, h2, h3⟩ := h
  exact ⟨a, n, c, h1, h2, ownsRow_only h3 ho (fun _ _ h => h)⟩
theorem rowF.other {e' : TypeId} {m' n' : Nat} {u : Value} {ys : List Value} (h : rowF B e m cs v W) (h' : W.ownsRow B e' m' u n' ys) (hne : e ≠ e') (ho : Only (fun j => u.ownBlock = some j) W W') : rowF B e m cs v W' := by
  obtain ⟨a, n, c, h1, h2, h3⟩ := h
  exact ⟨a, n, c, h1, h2, ownsRow_only h3 ho (fun j hj => rows_ne h3 h' hne hj)⟩
theorem rowF.box {b : Nat} {X : List Value} (h : rowF B e m cs v W) (hb : Blk W b 26 X) (hne : e ≠ 26) (ho : Only (· = b) W W') : rowF B e m cs v W' := by
  obtain ⟨a, n, c, h1, h2, h3⟩ := h
  exact ⟨a, n, c, h1, h2, ownsRow_only h3 ho (fun j hj e => row_not_blk h3 hb hne (e ▸ hj))⟩

/-- a row that is put together of two: how far it is -/
def row2 (B : Nat) (e : TypeId) (m o1 : Nat) (c1 : List Value) (o2 : Nat) (c2 : List Value) (D : Nat → Bool) (vals : Nat → Value) (W : World) : Prop := (D o2 = true → rowF B e m c2 (vals o2) W) ∧ (D o2 = false → D o1 = true → rowF B e m c1 (vals o1) W)
theorem row2.map (h : row2 B e m o1 c1 o2 c2 D vals W) (f : ∀ cs v, rowF B e m cs v W → rowF B e m cs v W') : row2 B e m o1 c1 o2 c2 D vals W' := ⟨fun h2 => f _ _ (h.1 h2), fun h2 h1 => f _ _ (h.2 h2 h1)⟩
theorem row2.ne (h : row2 B e m o1 c1 o2 c2 D vals W) (h1 : o1 ≠ i) (h2 : o2 ≠ i) : row2 B e m o1 c1 o2 c2 (upD D i) (updV vals i v) W := by
  unfold row2 upD updV
  simp only [if_neg h1, if_neg h2]
  exact h
theorem row2.first (hn : o2 ≠ o1) (hd : D o2 = false) (h : rowF B e m c1 v W) : row2 B e m o1 c1 o2 c2 (upD D o1) (updV vals o1 v) W := by
  unfold row2 upD updV
  simp only [if_neg hn, if_true, hd]
  exact ⟨fun h => (by cases h), fun _ _ => h⟩
theorem row2.second (h : rowF B e m c2 v W) : row2 B e m o1 c1 o2 c2 (upD D o2) (updV vals o2 v) W := by
  unfold row2 upD updV
  simp only [if_true]
  exact ⟨fun _ => h, fun h => by cases h⟩
theorem row2.none : row2 B e m o1 c1 o2 c2 (fun _ => false) vals W := ⟨fun h => (by cases h), fun _ h => by cases h⟩
theorem row2.ind {D' : Nat → Bool} {vals' : Nat → Value} (h : row2 B e m o1 c1 o2 c2 D vals W) (h1 : D o1 = D' o1 ∧ vals o1 = vals' o1) (h2 : D o2 = D' o2 ∧ vals o2 = vals' o2) : row2 B e m o1 c1 o2 c2 D' vals' W := by
  unfold row2 at h ⊢
  rw [← h1.1, ← h1.2, ← h2.1, ← h2.2]
  exact h
end
/-- a literal of one element, till it is used -/
def litF (B : Nat) (e : TypeId) (ol o2 : Nat) (x : Value) (D : Nat → Bool) (vals : Nat → Value) (W : World) : Prop := D o2 = false → D ol = true → ∃ g, vals ol = .slice (some ⟨g, 0, none⟩) 1 1 ∧ Blk W g e [x]
section
variable {B ol o2 i : Nat} {e : TypeId} {x v : Value} {W W' : World} {D : Nat → Bool} {vals : Nat → Value}
theorem litF.map (h : litF B e ol o2 x D vals W) (f : ∀ g, Blk W g e [x] → Blk W' g e [x]) : litF B e ol o2 x D vals W' := fun h2 h1 => by
  obtain ⟨g, a, b⟩ := h h2 h1
  exact ⟨g, a, f g b⟩
theorem litF.ne (h : litF B e ol o2 x D vals W) (h1 : ol ≠ i) (h2 : o2 ≠ i) : litF B e ol o2 x (upD D i) (updV vals i v) W := by
  unfold litF upD updV
  simp only [if_neg h1, if_neg h2]
  exact h
theorem litF.used : litF B e ol o2 x (upD D o2) (updV vals o2 v) W := fun h => by simp [upD] at h
theorem litF.made {g : Nat} (hB : Blk W g e [x]) : litF B e ol o2 x (upD D ol) (updV vals ol (.slice (some ⟨g, 0, none⟩) 1 1)) W := fun _ _ => ⟨g, updV_same _ _ _, hB⟩
theorem litF.none : litF B e ol o2 x (fun _ => false) vals W := fun _ h => by cases h
theorem litF.ind {D' : Nat → Bool} {vals' : Nat → Value} (h : litF B e ol o2 x D vals W) (h1 : D ol = D' ol ∧ vals ol = vals' ol) (h2 : D o2 = D' o2 ∧ vals o2 = vals' o2) : litF B e ol o2 x D' vals' W := by
  unfold litF at h ⊢
  rw [← h1.1, ← h1.2, ← h2.1]
  exact h
end
/-- a box that is made, and filled -/
def box2 (B oa os : Nat) (f : (Nat → Value) → List Value) (D : Nat → Bool) (vals : Nat → Value) (W : World) : Prop := D oa = true → ∃ b, vals oa = .pointer (some ⟨b, 0, none⟩) ∧ B ≤ b ∧ Blk W b 26 (if D os = true then f vals else zeroC)
section
variable {B oa os i : Nat} {f : (Nat → Value) → List Value} {v : Value} {W W' : World} {D : Nat → Bool} {vals : Nat → Value}
theorem box2.map (h : box2 B oa os f D vals W) (g : ∀ b X, Blk W b 26 X → Blk W' b 26 X) : box2 B oa os f D vals W' := fun h1 => by
  obtain ⟨b, a, c, d⟩ := h h1
  exact ⟨b, a, c, g _ _ d⟩
theorem box2.ne (h : box2 B oa os f D vals W) (h1 : oa ≠ i) (h2 : os ≠ i) (hd : D os = false) : box2 B oa os f (upD D i) (updV vals i v) W := by
  unfold box2 upD updV
  simp only [if_neg h1, if_neg h2, hd]
  unfold box2 at h
  rw [hd] at h
  exact h
theorem box2.made {b : Nat} (hn : os ≠ oa) (hd : D os = false) (hb : B ≤ b) (hB : Blk W b 26 zeroC) : box2 B oa os f (upD D oa) (updV vals oa (.pointer (some ⟨b, 0, none⟩))) W := by
  unfold box2 upD
  simp only [if_neg hn, hd]
  exact fun _ => ⟨b, updV_same _ _ _, hb, hB⟩
theorem box2.filled {b : Nat} (hn : oa ≠ os) (ha : vals oa = .pointer (some ⟨b, 0, none⟩)) (hb : B ≤ b) (hf : f (updV vals os v) = f vals) (hB : Blk W b 26 (f vals)) : box2 B oa os f (upD D os) (updV vals os v) W := by
  unfold box2 upD
  simp only [if_neg hn, if_true, updV_other _ _ hn, hf]
  exact fun _ => ⟨b, ha, hb, hB⟩
theorem box2.none : box2 B oa os f (fun _ => false) vals W := fun h => by cases h
theorem box2.ind {D' : Nat → Bool} {vals' : Nat → Value} (h : box2 B oa os f D vals W) (h1 : D oa = D' oa ∧ vals oa = vals' oa) (h2 : D os = D' os) (h3 : f vals = f vals') : box2 B oa os f D' vals' W := by
  unfold box2 at h ⊢
  rw [← h1.1, ← h1.2, ← h2, ← h3]
  exact h
end
/-- what is built of rows -/
def bldF (ob : Nat) (f : (Nat → Value) → List Value) (D : Nat → Bool) (vals : Nat → Value) : Prop := D ob = true → vals ob = .agg (f vals).toArray
theorem bldF.ne {ob i : Nat} {f : (Nat → Value) → List Value} {D : Nat → Bool} {vals : Nat → Value} {v : Value} (h : bldF ob f D vals) (h1 : ob ≠ i) (hf : f (updV vals i v) = f vals) : bldF ob f (upD D i) (updV vals i v) := by
  unfold bldF upD
  rw [if_neg h1, updV_other _ _ h1, hf]
  exact h
theorem bldF.not {ob i : Nat} {f : (Nat → Value) → List Value} {D : Nat → Bool} {vals : Nat → Value} {v : Value} (h1 : ob ≠ i) (hd : D ob = false) : bldF ob f (upD D i) (updV vals i v) := by
  unfold bldF upD
  rw [if_neg h1, hd]
  exact fun h => by cases h
theorem bldF.made {ob : Nat} {f : (Nat → Value) → List Value} {D : Nat → Bool} {vals : Nat → Value} {v : Value} (hv : v = .agg (f vals).toArray) (hf : f (updV vals ob v) = f vals) : bldF ob f (upD D ob) (updV vals ob v) := fun _ => by rw [updV_same, hf]; exact hv
theorem bldF.none {ob : Nat} {f : (Nat → Value) → List Value} {vals : Nat → Value} : bldF ob f (fun _ => false) vals := fun h => by cases h
theorem bldF.ind {ob : Nat} {f : (Nat → Value) → List Value} {D D' : Nat → Bool} {vals vals' : Nat → Value} (h : bldF ob f D vals) (h1 : D ob = D' ob ∧ vals ob = vals' ob) (h3 : f vals = f vals') : bldF ob f D' vals' := by
  unfold bldF at h ⊢
  rw [← h1.1, ← h1.2, ← h3]
  exact h

/-- the boxes ahead stay -/
theorem CgB.only {w W W' : World} {A ar : List Value} {S : Nat → Prop} (h : CgB w A ar W) (ho : Only S W W') (hS : ∀ j, S j → w.heap.size + 2 ≤ j) : CgB w A ar W' :=
  ⟨h.1.trans (ho.below h.1.size (fun j hj e => by have := hS j e; omega)), h.2.1.only ho (fun e => by have := hS _ e; omega), h.2.2.only ho (fun e => by have := hS _ e; omega)⟩
/-- 'append' of a row that is read to a row of one's own -/
theorem app_gen {t e : TypeId} {i0 : TypeInfo} {z : Value} {size bytes : Nat} (ht : Try.prog.underlying t = some (.slice e)) (hi : Try.prog.info? e = some i0) (hz : i0.zero = some z) (hs : i0.size = size) (hby : i0.bytes = bytes) (hzs : z.cells.size = size) (hpos : 0 < size) (hb64 : bytes ≤ 64)
    {B : Nat} {W : World} (v : Value) (n : Nat) (xs : List Value) (ho : W.ownsRow B e size v n xs) (hn : n ≤ 2000) (x : Value) (cs : List Value) (hr : RowR W size x cs) (hB : B ≤ W.heap.size) :
    ∃ v' w', (Builtin.append_ #[t, t] t #[v, x]).run Try.prog W = .ok v' w' ∧ rowF B e size (xs ++ cs) v' w' ∧ Only (fun j => v.ownBlock = some j) W w' := by
  obtain ⟨v', w', k, hr', hk, hk2, hl, ho', hg⟩ := append_row ht hi hz hs hby hzs hpos hb64 W B v n xs ho x cs hr (by omega) hB
  obtain ⟨a, c, rfl⟩ := own_form' ho'
  exact ⟨_, w', hr', ⟨a, n + k, c, rfl, by omega, ho'⟩, (Only.refl _ W).grown hg (fun k hk _ => hk)⟩
theorem appP {B : Nat} {W : World} (v : Value) (n : Nat) (xs : List Value) (ho : W.ownsRow B 36 2 v n xs) (hn : n ≤ 2000) (x : Value) (cs : List Value) (hr : RowR W 2 x cs) (hB : B ≤ W.heap.size) :
    ∃ v' w', (Builtin.append_ #[22, 22] 22 #[v, x]).run Try.prog W = .ok v' w' ∧ rowF B 36 2 (xs ++ cs) v' w' ∧ Only (fun j => v.ownBlock = some j) W w' := by
  obtain ⟨i0, hi, hz0, hz1, hz2⟩ := info_parts infoPair
  exact app_gen Try.underlying22 hi hz0 hz1 hz2 rfl (by decide) (by decide) v n xs ho hn x cs hr hB
theorem appK {B : Nat} {W : World} (v : Value) (n : Nat) (xs : List Value) (ho : W.ownsRow B 34 1 v n xs) (hn : n ≤ 2000) (x : Value) (cs : List Value) (hr : RowR W 1 x cs) (hB : B ≤ W.heap.size) :
    ∃ v' w', (Builtin.append_ #[23, 23] 23 #[v, x]).run Try.prog W = .ok v' w' ∧ rowF B 34 1 (xs ++ cs) v' w' ∧ Only (fun j => v.ownBlock = some j) W w' := by
  obtain ⟨i0, hi, hz0, hz1, hz2⟩ := info_parts infoRow
  exact app_gen Try.underlying23 hi hz0 hz1 hz2 rfl (by decide) (by decide) v n xs ho hn x cs hr hB
theorem appI {B : Nat} {W : World} (v : Value) (n : Nat) (xs : List Value) (ho : W.ownsRow B 3 1 v n xs) (hn : n ≤ 2000) (x : Value) (cs : List Value) (hr : RowR W 1 x cs) (hB : B ≤ W.heap.size) :
    ∃ v' w', (Builtin.append_ #[24, 24] 24 #[v, x]).run Try.prog W = .ok v' w' ∧ rowF B 3 1 (xs ++ cs) v' w' ∧ Only (fun j => v.ownBlock = some j) W w' := by
  obtain ⟨i0, hi, hz0, hz1, hz2⟩ := info_parts infoInt
  exact app_gen Try.underlying24 hi hz0 hz1 hz2 rfl (by decide) (by decide) v n xs ho hn x cs hr hB
theorem one_row {W : World} {g : Nat} {e : TypeId} {x : Value} (hB : Blk W g e [x]) (h1 : x.oneCell' = true) : RowR W 1 (.slice (some ⟨g, 0, none⟩) 1 1) [x] :=
  ⟨some ⟨g, 0, none⟩, 1, 1, rfl, by simp, by omega, fun h => (by cases h), fun b hb j u hj => (by
    obtain rfl := (Option.some.inj hb)
    rw [Addr.add_mid, Nat.zero_add, hB.cell]
    exact hj), fun u hu => (by simp at hu; subst hu; exact h1)⟩

/-- a row is put behind a row of the box at b, and the row into the box: how far it is -/
def ap2 (w : World) (A : List Value) (O : World → Prop) (e : TypeId) (m : Nat) (C X : List Value) (cur : Value) (n b : Nat) (f : Value → List Value) (d1 d2 : Bool) (v : Value) (W : World) : Prop :=
  CgB w A zeroC W ∧ O W ∧ (d1 = true → rowF (w.heap.size + 2) e m (C ++ X) v W) ∧ (d1 = false → W.ownsRow (w.heap.size + 2) e m cur n C) ∧ Blk W b 26 (if d2 = true then f v else f cur)
section
variable {w : World} {A C X : List Value} {O : World → Prop} {e : TypeId} {m n b : Nat} {cur v : Value} {f : Value → List Value} {d1 d2 : Bool} {W W' : World}
theorem ap2.box (h : ap2 w A O e m C X cur n b f d1 d2 v W) (hd : d2 = false) : Blk W b 26 (f cur) := by
  have := h.2.2.2.2
  rw [hd, if_neg Bool.false_ne_true] at this
  exact this
theorem ap2.app {v' : Value} (h : ap2 w A O e m C X cur n b f d1 d2 v W) (h1 : d1 = false) (h2 : d2 = false) (hne : e ≠ 26) (hrow : rowF (w.heap.size + 2) e m (C ++ X) v' W') (hon : Only (fun j => cur.ownBlock = some j) W W') (hO : O W → O W') : ap2 w A O e m C X cur n b f true d2 v' W' := by
  have hbx := h.box h2
  obtain ⟨hg, hot, r1, r2, hx⟩ := h
  have hr0 := r2 h1
  exact ⟨hg.only hon (fun j hj => (row_blk hr0 hj).1), hO hot, fun _ => hrow, fun h => (by cases h), by rw [if_neg (by rw [h2]; exact Bool.false_ne_true)]; exact hbx.only hon (fun e => row_not_blk hr0 hbx hne e)⟩
theorem ap2.put (p : Nat) (h : ap2 w A O e m C X cur n b f d1 d2 v W) (h1 : d1 = true) (h2 : d2 = false) (hne : e ≠ 26) (hb : w.heap.size + 2 ≤ b) (hf : (f cur).set p v = f v) (hO : ∀ W', Only (· = b) W W' → O W → O W') : ap2 w A O e m C X cur n b f d1 true v (W.setCell ⟨b, p, none⟩ v) := by
  have hbx := h.box h2
  obtain ⟨hg, hot, r1, r2, hx⟩ := h
  have ho8 : Only (· = b) W (W.setCell ⟨b, p, none⟩ v) := (Only.refl (· = b) W).setCell ⟨b, p, none⟩ _ (fun _ => rfl)
  refine ⟨hg.only ho8 (fun j hj => by subst hj; exact hb), hO _ ho8 hot, fun hd => (r1 hd).box hbx hne ho8, fun hd => (by rw [h1] at hd; cases hd), ?_⟩
  rw [if_pos rfl, ← hf]
  exact hbx.set p v
theorem ap2.start (hg : CgB w A zeroC W) (hot : O W) (ho : W.ownsRow (w.heap.size + 2) e m cur n C) (hx : Blk W b 26 (f cur)) : ap2 w A O e m C X cur n b f false false v W := ⟨hg, hot, fun h => (by cases h), fun _ => ho, by rw [if_neg Bool.false_ne_true]; exact hx⟩
end

end Go.Proofs.Ytoamdbjailpgdaa
