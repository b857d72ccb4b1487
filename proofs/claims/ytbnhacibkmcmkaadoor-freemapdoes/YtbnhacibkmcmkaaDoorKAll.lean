/- Contracts: package freemap's All, as an iterator over an iterator. -/
import Derived.Test.YtbnhacibkmcmkaaDoorKOpen
import Derived.Test.YtbnhacibkmcmkaaDoorKRange
import Derived.Test.YtbnhacibkmcmkaaDoorRegionL
namespace Go.Proofs.YtbnhacibkmcmkaaDoor
set_option maxRecDepth 20000
open Go.RowKit Go.Shelf
set_option linter.unusedVariables false
set_option maxRecDepth 100000
attribute [local go_sem] Oper.semAt_some

theorem mall_any (w : World) (p : Option Addr) : Calls Tryd.prog 35 #[.pointer p] w fun e w' => e = .returned (.func (.func 60) #[] #[.pointer (some ⟨w.heap.size, 0, none⟩)]) ∧ w' = w.alloc (.cells #[.pointer p] 37) := by
  go_enter Tryd.func35, Tryd.ntmps35
  go_wp2
  go_ret
  exact ⟨rfl, rfl⟩
theorem enters_mall : ∀ args w, (callFunc 60 args).run Tryd.prog w = .ok (.enter 60 args) w := enters_of Tryd.func60 (by kernel_rfl) rfl

theorem filt_step {α : Type} (R : List α) (f : α → Bool) (j : Nat) (hj : j < R.length) : (R.take (j + 1)).filter f = (R.take j).filter f ++ (if f R[j] = true then [R[j]] else []) := by
  rw [List.take_succ_eq_append_getElem hj, List.filter_append]
  congr 1
  rw [List.filter_cons]
  split <;> rfl
theorem filt_at {α : Type} (R : List α) (f : α → Bool) (j : Nat) (hj : j < R.length) (hf : f R[j] = true) : ∃ hk : ((R.take j).filter f).length < (R.filter f).length, (R.filter f)[((R.take j).filter f).length] = R[j] := by
  have e : R.filter f = (R.take j).filter f ++ (R[j] :: (R.drop (j + 1)).filter f) := by
    conv => lhs; rw [← List.take_append_drop j R, List.drop_eq_getElem_cons hj, List.filter_append, List.filter_cons, if_pos hf]
  have hk : ((R.take j).filter f).length < (R.filter f).length := by rw [e]; simp
  refine ⟨hk, ?_⟩
  have : (R.filter f)[((R.take j).filter f).length]? = some R[j] := by
    rw [e, List.getElem?_append_right (Nat.le_refl _)]; simp
  rw [List.getElem?_eq_getElem hk] at this
  exact Option.some.inj this

/-- what the iterator reads: the map, at its beginning alone -/
def MapV (Bs b n : Nat) (f g : Nat → Bool) (k : Nat) (W : World) : Prop := TabB W ∧ (k = 0 → W.cell? ⟨Bs, 0, none⟩ = some (dp b) ∧ ∃ B, MapE W B b n f g)

def isSetN (B n : Nat) (f : Nat → Bool) : Value → World → Prop := fun v w => ∃ c, v = dp c ∧ B ≤ c ∧ SetB w c n f
theorem stS_isSetN (B n : Nat) (f : Nat → Bool) : StS (fun _ => False) (isSetN B n f) := fun v w w' hb ⟨c, h1, h2, h3⟩ => ⟨c, h1, h2, h3.only hb (fun h => h)⟩
def isBoxN (B : Nat) (e : TypeId) (z : Value) : Value → World → Prop := fun v w => ∃ q, v = .pointer (some ⟨q, 0, none⟩) ∧ B ≤ q ∧ Blk w q e [z]
theorem stS_isBoxN (B : Nat) (e : TypeId) (z : Value) : StS (fun _ => False) (isBoxN B e z) := fun v w w' hb ⟨c, h1, h2, h3⟩ => ⟨c, h1, h2, h3.only hb (fun h => h)⟩

/-- blocks in which the iterator keeps what it goes over: A .. B0 + 1, with yield's box, the box q of the copy c, the box at p of the rest d -/
structure AllK (A B0 q c p d n : Nat) (f g : Nat → Bool) (yv : Value) (W : World) : Prop where
  ybox : Blk W A 63 [yv]
  qbox : Blk W q 64 [dp c]
  cset : SetB W c n g
  pbox : Blk W p 64 [dp d]
  dset : SetB W d n (ntF n f)
  size : B0 + 2 ≤ W.heap.size
structure AllN (A B0 q c p d : Nat) : Prop where
  a : A < B0
  q1 : A ≤ q
  q2 : q < B0
  c1 : A ≤ c
  c2 : c < B0
  p1 : A ≤ p
  p2 : p < B0
  d1 : A ≤ d
  d2 : d < B0
theorem AllK.only {A B0 q c p d n : Nat} {f g : Nat → Bool} {yv : Value} {W W' : World} {S : Nat → Prop} (h : AllK A B0 q c p d n f g yv W) (hn : AllN A B0 q c p d) (ho : Only S W W') (hS : ∀ j, S j → B0 ≤ j) : AllK A B0 q c p d n f g yv W' := by
  obtain ⟨a, q1, q2, c1, c2, p1, p2, d1, d2⟩ := hn
  exact ⟨h.ybox.only ho (fun e => by have := hS _ e; omega), h.qbox.only ho (fun e => by have := hS _ e; omega), h.cset.only ho (fun e => by have := hS _ e; omega), h.pbox.only ho (fun e => by have := hS _ e; omega), h.dset.only ho (fun e => by have := hS _ e; omega), Nat.le_trans h.size ho.size⟩
theorem AllK.keepY {A B0 q c p d n : Nat} {f g : Nat → Bool} {yv : Value} {W W' : World} {Z : Nat → Prop} (h : AllK A B0 q c p d n f g yv W) (hn : AllN A B0 q c p d) (hz : ∀ j, A ≤ j → j < B0 + 2 → Z j) (hk : KeepsY Z W W') : AllK A B0 q c p d n f g yv W' := by
  obtain ⟨a, q1, q2, c1, c2, p1, p2, d1, d2⟩ := hn
  have hlt : B0 + 1 < W.heap.size := by have := h.size; omega
  refine ⟨(hk _ (hz _ (Nat.le_refl _) (by omega))).trans h.ybox, (hk _ (hz _ q1 (by omega))).trans h.qbox, h.cset.keepY hk (hz _ c1 (by omega)), (hk _ (hz _ p1 (by omega))).trans h.pbox, h.dset.keepY hk (hz _ d1 (by omega)), ?_⟩
  have e := hk _ (hz (B0 + 1) (by omega) (by omega))
  rw [Array.getElem?_eq_getElem hlt] at e
  have := (Array.getElem?_eq_some_iff.1 e).1
  omega
/-- what it made is among what the rounds leave alone -/
structure AllZ (A B0 : Nat) (Y Z : Nat → Prop) : Prop where
  z : ∀ j, A ≤ j → j < B0 + 2 → Z j
  y : ∀ j, Y j → Z j ∧ B0 + 2 ≤ j
theorem AllZ.more {A B0 : Nat} {Y Z : Nat → Prop} (h : AllZ A B0 Y Z) {W W' : World} (hs : B0 + 2 ≤ W.heap.size) : AllZ A B0 (more Y W W') (more Z W W') :=
  ⟨fun j h1 h2 => .inl (h.z j h1 h2), fun j hj => by
    rcases hj with hj | hj
    · exact ⟨.inl (h.y j hj).1, (h.y j hj).2⟩
    · exact ⟨.inr hj, by omega⟩⟩
theorem AllZ.part {A B0 : Nat} {Y Y' Z : Nat → Prop} (h : AllZ A B0 Y Z) (hy : ∀ j, Y' j → Y j) : AllZ A B0 Y' Z := ⟨h.z, fun j hj => h.y j (hy j hj)⟩

set_option maxHeartbeats 4000000 in
theorem mall_iter (Bs b n : Nat) (f g : Nat → Bool) : Iter2 Tryd.prog 60 #[.pointer (some ⟨Bs, 0, none⟩)] encP (pagesF (frF n f g) n) (MapV Bs b n f g) := by
  rw [← pages_fr]
  obtain ⟨R, hR⟩ : ∃ R, pagesF (ntF n f) n = R := ⟨_, rfl⟩
  rw [hR]
  have HRM : Hid (pagesF (ntF n f) n = R) := hR
  clear hR
  intro l J Jx hJ hJx hV hY Y W h0
  obtain ⟨hT, hz⟩ := hV Y 0 W h0
  obtain ⟨hc, B, t, s, hm⟩ := hz rfl
  have hbs : Bs < W.heap.size := World.block_lt_of_cell? W _ hc
  obtain ⟨A, hA⟩ : ∃ A, W.heap.size = A := ⟨_, rfl⟩
  obtain ⟨yv, hyv⟩ : ∃ yv, Value.func (.yield l) #[] #[] = yv := ⟨_, rfl⟩
  obtain ⟨W1, hW1⟩ : ∃ W1, W.alloc (.cells #[.func (.yield l) #[] #[]] 63) = W1 := ⟨_, rfl⟩
  have hb1 : Below W.heap.size W W1 := by rw [← hW1]; exact (Below.refl _ W).alloc (Nat.le_refl _) _
  have hsz1 : W1.heap.size = A + 1 := by rw [← hW1]; simp [hA]
  have hyb : Blk W1 A 63 [yv] := by rw [← hW1, ← hA, ← hyv]; exact Blk.new W _ _
  have hm1 := hm.below hb1
  have c1 : W1.cell? ⟨Bs, 0, none⟩ = some (dp b) := (hb1.cell (p := ⟨Bs, 0, none⟩) hbs).trans hc
  have HM := hide (mmade_cell W1 b t hm1.c0)
  have HV0 : Hid (∀ w, Only (fun _ => False) W1 w → w.cell? ⟨Bs, 0, none⟩ = some (dp b) ∧ w.cell? ⟨b, 0, none⟩ = some (dp t) ∧ w.cell? ⟨b, 1, none⟩ = some (dp s) ∧ SetB w t n f ∧ SetB w s n g) := fun w ho => by
    have hb : Below W1.heap.size W1 w := ho.below (Nat.le_refl _) (fun _ _ h => h)
    have hm2 := hm1.below hb
    exact ⟨(hb.cell (p := ⟨Bs, 0, none⟩) (by show Bs < W1.heap.size; omega)).trans c1, hm2.c0, hm2.c1, hm2.ts, hm2.ss⟩
  have HJ := hide hJ
  have HJX := hide hJx
  have HV := hide hV
  have HY := hide hY
  have H0 := hide h0
  have HB1 := hide hb1
  have HYB := hide hyb
  have HA := hide hA
  have HS1 := hide hsz1
  have HYV := hide hyv
  clear hT hz hm hm1 hJ hJx hV hY h0 hc hbs hb1 hyb hA hsz1 hyv
  refine callsIn_wide.2 ((callsIn_wide (n := 3)).1 ?_)
  refine callsIn_of_wp_marks Tryd.func60 rfl trivial ?_ rfl
  simp only [Tryd.ntmps60, List.size_toArray, List.length_cons, List.length_nil, Nat.reduceAdd, Nat.reduceSub, Array.replicate_succ, Array.replicate_zero, List.push_toArray, List.append_toArray, List.nil_append, List.cons_append]
  gi_wp2_with (first
    | (refine ⟨trivial, ?_⟩; gi_at_call 52; refine (callsIn_wide.2 HM.out).mono ?_; rintro e w1 ⟨rfl, hw⟩; subst w1; clear HM))
  clear hW1
  rw [HA.out]
  refine wpIn_wide.2 ?_
  refine wp_region_only (fun _ => False) [isV (.pointer (some ⟨b, 0, none⟩)), isV (.pointer (some ⟨b, 0, none⟩)), isV (.pointer (some ⟨b, 0, none⟩)), isV (.pointer (some ⟨t, 0, none⟩)), isSetN A n (ntF n f), isV (.pointer (some ⟨b, 0, none⟩)), isV (.pointer (some ⟨b, 0, none⟩)), isV (.pointer (some ⟨b, 1, none⟩)), isV (.pointer (some ⟨s, 0, none⟩)), isSetN A n g, isBoxN A 64 (.pointer none), isSetN A n (ntF n f)] 99 32 12 (by kernel_rfl) (by kernel_rfl) (by kernel_rfl) (by kernel_rfl) rfl ?_ ?_ ?_
  · repeat (first | exact trivial | refine allStL_isV ?_ | refine ⟨stS_isSetN _ _ _, fun _ => stS_isSetN _ _ _, ?_⟩ | refine ⟨stS_isBoxN _ _ _, fun _ => stS_isBoxN _ _ _, ?_⟩)
  · refine ⟨?_, ?_, ?_, ?_, ?_, ?_, ?_, ?_, ?_, ?_, ?_, ?_, trivial⟩
    · intro act wx h
      have e1 : act.eval (.tmp 1) = .pointer (some ⟨Bs, 0, none⟩) := h.old 1 (by kernel_rfl)
      have hrel := h.rel
      clear h
      have cx := (HV0.out wx hrel).1
      refine gives_by rfl act.eval rfl ?_
      generalize act.eval = ρ at *
      intro hf hc
      go_simp
      exact ⟨relM_quiet (by decide) (Only.refl _ _), rfl⟩
    · intro act wx h
      obtain ⟨v9, e9, f9⟩ := h.val 0 9 (by kernel_rfl)
      obtain rfl : v9 = .pointer (some ⟨b, 0, none⟩) := f9
      have hrel := h.rel
      clear h
      refine gives_by rfl act.eval rfl ?_
      generalize act.eval = ρ at *
      intro hf hc
      go_simp
      exact ⟨relM_quiet (by decide) (Only.refl _ _), rfl⟩
    · intro act wx h
      obtain ⟨v10, e10, f10⟩ := h.val 1 10 (by kernel_rfl)
      obtain rfl : v10 = .pointer (some ⟨b, 0, none⟩) := f10
      have hrel := h.rel
      clear h
      refine gives_by rfl act.eval rfl ?_
      generalize act.eval = ρ at *
      intro hf hc
      go_simp
      exact ⟨relM_quiet (by decide) (Only.refl _ _), rfl⟩
    · intro act wx h
      obtain ⟨v11, e11, f11⟩ := h.val 2 11 (by kernel_rfl)
      obtain rfl : v11 = .pointer (some ⟨b, 0, none⟩) := f11
      have hrel := h.rel
      clear h
      have cx := (HV0.out wx hrel).2.1
      refine gives_by rfl act.eval rfl ?_
      generalize act.eval = ρ at *
      intro hf hc
      go_simp
      exact ⟨relM_quiet (by decide) (Only.refl _ _), rfl⟩
    · intro act wx h
      obtain ⟨v12, e12, f12⟩ := h.val 3 12 (by kernel_rfl)
      obtain rfl : v12 = .pointer (some ⟨t, 0, none⟩) := f12
      have hrel := h.rel
      clear h
      refine gives_by rfl act.eval rfl ?_
      generalize act.eval = ρ at *
      intro hf hc
      go_simp
      refine (not_any wx t n f (HV0.out wx hrel).2.2.2.1).mono ?_
      rintro e wy ⟨rfl, hs, hb⟩
      exact ⟨_, rfl, relM_quiet (by decide) (Only.of_below _ hb), _, rfl, by have := hrel.size; have := HS1.out; omega, hs⟩
    · intro act wx h
      have e1 : act.eval (.tmp 1) = .pointer (some ⟨Bs, 0, none⟩) := h.old 1 (by kernel_rfl)
      have hrel := h.rel
      clear h
      have cx := (HV0.out wx hrel).1
      refine gives_by rfl act.eval rfl ?_
      generalize act.eval = ρ at *
      intro hf hc
      go_simp
      exact ⟨relM_quiet (by decide) (Only.refl _ _), rfl⟩
    · intro act wx h
      obtain ⟨v14, e14, f14⟩ := h.val 5 14 (by kernel_rfl)
      obtain rfl : v14 = .pointer (some ⟨b, 0, none⟩) := f14
      have hrel := h.rel
      clear h
      refine gives_by rfl act.eval rfl ?_
      generalize act.eval = ρ at *
      intro hf hc
      go_simp
      exact ⟨relM_quiet (by decide) (Only.refl _ _), rfl⟩
    · intro act wx h
      obtain ⟨v15, e15, f15⟩ := h.val 6 15 (by kernel_rfl)
      obtain rfl : v15 = .pointer (some ⟨b, 0, none⟩) := f15
      have hrel := h.rel
      clear h
      refine gives_by rfl act.eval rfl ?_
      generalize act.eval = ρ at *
      intro hf hc
      go_simp
      exact ⟨relM_quiet (by decide) (Only.refl _ _), rfl⟩
    · intro act wx h
      obtain ⟨v16, e16, f16⟩ := h.val 7 16 (by kernel_rfl)
      obtain rfl : v16 = .pointer (some ⟨b, 1, none⟩) := f16
      have hrel := h.rel
      clear h
      have cx := (HV0.out wx hrel).2.2.1
      refine gives_by rfl act.eval rfl ?_
      generalize act.eval = ρ at *
      intro hf hc
      go_simp
      exact ⟨relM_quiet (by decide) (Only.refl _ _), rfl⟩
    · intro act wx h
      obtain ⟨v17, e17, f17⟩ := h.val 8 17 (by kernel_rfl)
      obtain rfl : v17 = .pointer (some ⟨s, 0, none⟩) := f17
      have hrel := h.rel
      clear h
      refine gives_by rfl act.eval rfl ?_
      generalize act.eval = ρ at *
      intro hf hc
      go_simp
      refine (clone_any wx s n g (HV0.out wx hrel).2.2.2.2).mono ?_
      rintro e wy ⟨rfl, hw⟩
      have hbw : Below wx.heap.size wx wy := by rw [hw]; exact (Below.refl _ wx).alloc (Nat.le_refl _) _
      have hss := (HV0.out wx hrel).2.2.2.2
      exact ⟨_, rfl, relM_quiet (by decide) (Only.of_below _ hbw), _, rfl, by have := hrel.size; have := HS1.out; omega, ⟨by rw [hw]; exact Blk.new wx _ _, hss.lo, hss.hi, hss.out⟩⟩
    · intro act wx h
      have hrel := h.rel
      clear h
      refine gives_by rfl act.eval rfl ?_
      generalize act.eval = ρ at *
      intro hf hc
      go_simp
      exact ⟨relM_quiet (by decide) ((Only.refl _ _).alloc _), _, rfl, by have := hrel.size; have := HS1.out; omega, Blk.new wx _ _⟩
    · intro act wx h
      obtain ⟨v13, e13, f13⟩ := h.val 4 13 (by kernel_rfl)
      obtain ⟨cx, rfl, hcx, hsx⟩ := f13
      have hrel := h.rel
      clear h
      refine gives_by rfl act.eval rfl ?_
      generalize act.eval = ρ at *
      intro hf hc
      go_simp
      exact ⟨relM_quiet (by decide) (Only.refl _ _), _, rfl, hcx, hsx⟩
  · intro oL hoL vals w3 ho3 hv
    simp only [List.getElem?_toArray, List.getElem?_cons_succ, List.getElem?_cons_zero, Option.some.injEq] at hoL
    subst hoL
    have hv9 : isSetN A n g (vals 9) w3 := hv 9 18 (by decide) (by kernel_rfl)
    have hv10 : isBoxN A 64 (.pointer none) (vals 10) w3 := hv 10 4 (by decide) (by kernel_rfl)
    have hv11 : isSetN A n (ntF n f) (vals 11) w3 := hv 11 3 (by decide) (by kernel_rfl)
    clear hv
    generalize hact : putAll _ vals 0 _ = act
    obtain ⟨c, hq9, hcA, hcs⟩ := hv9
    obtain ⟨q, hq10, hqA, hqb⟩ := hv10
    obtain ⟨d, hq11, hdA, hds⟩ := hv11
    have hqc : q ≠ c := Blk.ne hqb hcs.blk (by decide)
    have hqd : q ≠ d := Blk.ne hqb hds.blk (by decide)
    have hqy : q ≠ A := Blk.ne hqb (HYB.out.only ho3 (fun h => h)) (by decide)
    have k1 : w3.cell? ⟨q, 0, none⟩ = some (.pointer none) := hqb.cell 0
    have k2 := hqb.frozen 0
    obtain ⟨W4, hW4⟩ : ∃ W4, w3.setCell ⟨q, 0, none⟩ (dp c) = W4 := ⟨_, rfl⟩
    have ho4 : Only (· = q) w3 W4 := by rw [← hW4]; exact (Only.refl (· = q) w3).setCell ⟨q, 0, none⟩ _ (fun _ => rfl)
    have hqb4 : Blk W4 q 64 [dp c] := by rw [← hW4]; exact hqb.set 0 _
    have hoW : Only (fun _ => False) W W4 := by
      have h1 : Only (fun _ => False) W w3 := (Only.of_below (fun _ => False) HB1.out).trans ho3 (fun _ _ h => h)
      exact h1.trans ho4 (fun i hi e => by have := HA.out; omega)
    obtain ⟨W5, hW5⟩ : ∃ W5, W4.alloc (.cells #[dp d] 64) = W5 := ⟨_, rfl⟩
    have HAL := hide (all_any W4 (some ⟨d, 0, none⟩))
    rw [hW5] at HAL
    have hb5 : Below W4.heap.size W4 W5 := by rw [← hW5]; exact (Below.refl _ W4).alloc (Nat.le_refl _) _
    have hs5 : W5.heap.size = W4.heap.size + 1 := by rw [← hW5]; simp
    have hs4 := hoW.size
    have hyb4 : Blk W4 A 63 [yv] := (HYB.out.only ho3 (fun h => h)).only ho4 (Ne.symm hqy)
    have hAN : AllN A W5.heap.size q c W4.heap.size d := by
      have := hyb4.lt
      have := hqb4.lt
      have := (hcs.only ho4 (Ne.symm hqc)).lt
      have := (hds.only ho4 (Ne.symm hqd)).lt
      have := HA.out
      exact ⟨by omega, hqA, by omega, hcA, by omega, by omega, by omega, hdA, by omega⟩
    have HAN := hide hAN
    have HK0 : Hid (∀ W1, Only (fun _ => False) W5 W1 → W1.heap.size = W5.heap.size + 2 → AllK A W5.heap.size q c W4.heap.size d n f g yv W1 ∧ AllZ A W5.heap.size (fun _ => False) (more Y W W1) ∧ J (more Y W W1) 0 W1) := fun W1 ho hsz => by
      have o5 := Only.of_below (fun _ => False) hb5
      have hpb : Blk W5 W4.heap.size 64 [dp d] := by rw [← hW5]; exact Blk.new W4 _ _
      refine ⟨⟨(hyb4.below hb5 hyb4.lt).only ho (fun h => h), (hqb4.below hb5 hqb4.lt).only ho (fun h => h), ((hcs.only ho4 (Ne.symm hqc)).below hb5).only ho (fun h => h), hpb.only ho (fun h => h), ((hds.only ho4 (Ne.symm hqd)).below hb5).only ho (fun h => h), by omega⟩, ⟨fun j h1 h2 => .inr ⟨by have := HA.out; omega, by omega⟩, fun _ h => h.elim⟩, ?_⟩
      exact HJ.out Y 0 W W1 H0.out (((hoW.trans o5 (fun _ _ h => h)).trans ho (fun _ _ h => h)).mono (fun _ _ h => h.elim))
    subst hact
    simp only [List.dropLast, putAll, Act.put, List.setIfInBounds_toArray, List.set_cons_zero, List.set_cons_succ, hq9, hq10, hq11]
    refine gives_of_skip rfl (w' := w3.setCell ⟨q, 0, none⟩ (dp c)) (by go_simp) ?_
    rw [hW4]
    clear k1 k2 hW4 hq9 hq10 hq11 hqc hqd hqy ho4 hcs hqb hds hoW hqb4 hb5 hs4 hyb4 hAN HB1 HYB HS1 H0 ho3 hs5 hcA hqA hdA c1 HV0
    gi_wp2_with (first
      | (refine ⟨trivial, ?_⟩; gi_at_call 56; refine (callsIn_wide.2 HAL.out).mono ?_; rintro e w1 ⟨rfl, hw⟩; subst w1; clear HAL))
    obtain rfl := HYV.out
    refine wp_range6 (gf := 66) (lb := #[.pointer (some ⟨W4.heap.size, 0, none⟩)]) (xs := R) (encs := encP) (V := SetV W4.heap.size d n (ntF n f)) rfl enters_all (by rw [← HRM.out]; exact (all_iter W4.heap.size d n (ntF n f)).two) (fun _ => rfl)
      (fun Y' k W' => ∃ Z k', k' = ((R.take k).filter (fun p => !g p)).length ∧ J Z k' W' ∧ AllZ A W5.heap.size Y' Z ∧ AllK A W5.heap.size q c W4.heap.size d n f g (.func (.yield l) #[] #[]) W')
      (fun Y' cc k W' => cc = .ret ∧ ∃ Z k', k' < (R.filter (fun p => !g p)).length ∧ Jx Z (k' + 1) W' ∧ AllZ A W5.heap.size Y' Z ∧ W5.heap.size + 2 ≤ W'.heap.size) ?_ ?_ ?_ ?_ ?_ ?_
      (fun x => { tmps := #[.func (.yield l) #[] #[], .pointer (some ⟨Bs, 0, none⟩), .pointer (some ⟨A, 0, none⟩), dp d, .pointer (some ⟨q, 0, none⟩), .int .i64 (x : Int), dp b, .bool true, .bool false, vals 0, vals 1, vals 2, vals 3, vals 4, vals 5, vals 6, vals 7, vals 8, dp c, dp d, .func (.func 66) #[] #[.pointer (some ⟨W4.heap.size, 0, none⟩)], .int .i64 (x : Int), undef, undef, undef, undef, undef, undef, undef, undef, undef, undef], defers := [] }) ?assign ?body ?done ?stop
    · rintro Y' k W' W'' ⟨Z, k', e, hj, hz, hk⟩ ho
      have hj' := HJ.out Z k' W' W'' hj (ho.mono (fun i _ e => hz.z i (by have := HAN.out.a; omega) (by omega)))
      exact ⟨_, k', e, hj', (hz.more hk.size).part (fun _ h => .inl h), hk.only HAN.out ho (fun j e => by omega)⟩
    · rintro Y' k W' W'' ⟨Z, k', e, hj, hz, hk⟩ ho
      have hj' := HJ.out Z k' W' W'' hj (ho.mono (fun i _ e => (hz.y i e).1))
      exact ⟨_, k', e, hj', hz.more hk.size, hk.only HAN.out ho (fun j e => by have := (hz.y j e).2; omega)⟩
    · rintro Y' cc k W' W'' ⟨rfl, Z, k', e, hj, hz, hk⟩ ho
      have hj' := HJX.out Z (k' + 1) W' W'' hj (ho.mono (fun i _ e => hz.z i (by have := HAN.out.a; omega) (by omega)))
      exact ⟨rfl, _, k', e, hj', (hz.more hk).part (fun _ h => .inl h), Nat.le_trans hk ho.size⟩
    · rintro Y' cc k W' W'' ⟨rfl, Z, k', e, hj, hz, hk⟩ ho
      have hj' := HJX.out Z (k' + 1) W' W'' hj (ho.mono (fun i _ e => (hz.y i e).1))
      exact ⟨rfl, _, k', e, hj', hz.more hk, Nat.le_trans hk ho.size⟩
    · rintro Y' k W' ⟨Z, k', e, hj, hz, hk⟩
      exact ⟨(HV.out Z k' W' hj).1, fun _ => ⟨hk.pbox.cell 0, hk.dset⟩⟩
    · intro W' ho hs
      obtain ⟨h1, h2, h3⟩ := HK0.out W' ho hs
      exact ⟨_, 0, by simp, h3, h2, h1⟩
    case assign =>
      intro l2 k hk W' K hK
      gi_wp2
      exact hK
    case body =>
      rintro l2 Y' k hk W' ⟨Z, k', he, hj, hz, hK⟩
      obtain ⟨x, hx⟩ : ∃ x, R[k] = x := ⟨_, rfl⟩
      rw [hx]
      have cq : W'.cell? ⟨q, 0, none⟩ = some (dp c) := hK.qbox.cell 0
      have cA : W'.cell? ⟨A, 0, none⟩ = some (.func (.yield l) #[] #[]) := hK.ybox.cell 0
      have hH := has_any W' c n g (x : Int) hK.cset
      rw [show hasI g (x : Int) = g x by simp [hasI]] at hH
      have HKK := hide hK
      have HZ := hide hz
      have HJJ := hide hj
      have HE := hide he
      have HSTEP := hide (filt_step R (fun p => !g p) k hk)
      have HAT := hide (filt_at R (fun p => !g p) k hk)
      have HX := hide hx
      clear hK hz hj he HK0 hx
      have HN : Hid (∀ m, J (more Z W' (W'.drewN m)) k' (W'.drewN m) ∧ AllZ A W5.heap.size Y' (more Z W' (W'.drewN m)) ∧ AllK A W5.heap.size q c W4.heap.size d n f g (.func (.yield l) #[] #[]) (W'.drewN m)) := fun m => by
        have ho := only_drewN (fun _ => False) W' m
        exact ⟨HJ.out Z k' W' _ HJJ.out (ho.mono (fun _ _ h => h.elim)), (HZ.out.more HKK.out.size).part (fun _ h => .inl h), HKK.out.only HAN.out ho (fun _ h => h.elim)⟩
      cases hg : g x with
      | true =>
        rw [hg] at hH
        have HH := hide hH
        have HKN : Hid (k' = ((R.take (k + 1)).filter (fun p => !g p)).length) := by
          show _ = _
          rw [HSTEP.out, HX.out, hg]
          simpa using HE.out
        clear hH hg
        gi_wp2_with (first
          | (refine ⟨trivial, ?_⟩; gi_at_call 57; refine (calls_wideR HH.out _ _).mono ?_; rintro e w1 ⟨rfl, m, hw⟩; subst w1; clear HH))
        refine ⟨fun _ h => (by cases h), ?_⟩
        gi_wp2
        obtain ⟨n1, n2, n3⟩ := HN.out m
        exact ⟨Keeps2.of_only (only_drewN (fun _ => False) W' m) (fun h => h) (fun h => h), fun j hj => rfl, _, k', HKN.out, n1, n2, n3⟩
      | false =>
        rw [hg] at hH
        have HH := hide hH
        obtain ⟨a1, a2⟩ := HAT.out (by rw [HX.out, hg]; rfl)
        have hkk : k' < (R.filter (fun p => !g p)).length := by rw [HE.out]; exact a1
        have hxx : (R.filter (fun p => !g p))[k'] = x := by
          rw [← HX.out, ← a2]
          congr 1 <;> exact HE.out
        have HKN : Hid (k' + 1 = ((R.take (k + 1)).filter (fun p => !g p)).length) := by
          show _ = _
          rw [HSTEP.out, HX.out, hg]
          simpa using HE.out
        have HYY : Hid (∀ m, ∃ fn tmps assign body, (Instr.yield l #[.int .i64 (x : Int)]).run Tryd.prog (W'.drewN m) = .ok (.round l fn tmps assign body) (W'.drewN m) ∧ Hid (RoundIn Fence.wide 1 Tryd.prog l fn tmps assign body (W'.drewN m) fun e W3 => (e = .returned (.bool true) ∧ J (more Z W' (W'.drewN m)) (k' + 1) W3 ∧ KeepsY (more Z W' (W'.drewN m)) (W'.drewN m) W3) ∨ (e = .returned (.bool false) ∧ Jx (more Z W' (W'.drewN m)) (k' + 1) W3 ∧ KeepsY (more Z W' (W'.drewN m)) (W'.drewN m) W3))) := fun m => by
          have hy0 := HY.out _ k' hkk _ (HN.out m).1
          rw [hxx] at hy0
          obtain ⟨fn, tmps, assign, body, h1, h2⟩ := hy0
          exact ⟨fn, tmps, assign, body, h1, h2⟩
        have HKL := hide hkk
        clear hH hg a1 a2 hkk hxx
        gi_wp2_with (first
          | (refine ⟨trivial, ?_⟩; gi_at_call 57; refine (calls_wideR HH.out _ _).mono ?_; rintro e w1 ⟨rfl, m, hw⟩; subst w1; obtain ⟨fn, tmps, assign, body, hyy, HRR⟩ := HYY.out m; clear HH HYY))
        refine (round_wide HRR.out _ _).mono ?_
        obtain ⟨n1, n2, n3⟩ := HN.out m
        have hfin : ∀ W3, KeepsY (more Z W' (W'.drewN m)) (W'.drewN m) W3 → Keeps2 W5.heap.size W' W3 ∧ KeepsY Y' W' W3 ∧ AllK A W5.heap.size q c W4.heap.size d n f g (.func (.yield l) #[] #[]) W3 := fun W3 hk3 =>
          ⟨fun j hj o ho => (hk3 j (n2.z j (by have := HAN.out.a; omega) (by omega))).trans ho, fun j hj => hk3 j (n2.y j hj).1, n3.keepY HAN.out n2.z hk3⟩
        have HFIN := hide hfin
        have HN2 := hide n2
        clear hfin n1 n2 n3
        rintro e W3 (⟨rfl, hJ3, hkY⟩ | ⟨rfl, hJ3, hkY⟩)
        · obtain ⟨b1, b2, b3⟩ := HFIN.out W3 hkY
          have HB1 := hide b1
          have HB2 := hide b2
          have HB3 := hide b3
          have HJ3 := hide hJ3
          clear b1 b2 b3 hJ3 hkY HRR hyy HFIN
          gi_wp2
          exact ⟨HB1.out, HB2.out, _, k' + 1, HKN.out, HJ3.out, HN2.out, HB3.out⟩
        · obtain ⟨b1, b2, b3⟩ := HFIN.out W3 hkY
          have HB1 := hide b1
          have HB2 := hide b2
          have HB3 := hide b3
          have HJ3 := hide hJ3
          clear b1 b2 b3 hJ3 hkY HRR hyy HFIN
          gi_wp2
          exact ⟨HB1.out, HB2.out, rfl, _, k', HKL.out, HJ3.out, HN2.out, HB3.out.size⟩
    case done =>
      rintro Y' W' ⟨Z, k', he, hj, hz, hK⟩ hD
      rw [List.take_of_length_le (Nat.le_refl _)] at he
      subst he
      have HD := hide hD
      have HJJ := hide hj
      have HZ := hide hz
      have HSZ := hide hK.size
      clear hD hj hz hK HK0
      gi_wp2
      refine ⟨by simp, .inl ⟨_, _, rfl, run_takeDeferred HD.out, ?_⟩⟩
      have hoD : Only (· = W5.heap.size) W' (W'.putObj W5.heap.size (.deferred none)) := only_put1 W' _ _ _ rfl
      refine ⟨_, results_none rfl _ _ _, ⟨_, rfl⟩, _, .inl (HJ.out Z _ W' _ HJJ.out (hoD.mono (fun i _ e => HZ.out.z i (by have := HAN.out.a; omega) (by omega))))⟩
    case stop =>
      rintro Y' cc k W' hk ⟨rfl, Z, k', hk', hj, hz, hsz⟩ hD
      have HD := hide hD
      have HJJ := hide hj
      have HZ := hide hz
      clear hD hj hz HK0
      gi_wp2
      refine ⟨by simp, .inl ⟨_, _, rfl, run_takeDeferred HD.out, ?_⟩⟩
      have hoD : Only (· = W5.heap.size) W' (W'.putObj W5.heap.size (.deferred none)) := only_put1 W' _ _ _ rfl
      refine ⟨_, results_none rfl _ _ _, ⟨_, rfl⟩, _, .inr ⟨k', hk', HJX.out Z _ W' _ HJJ.out (hoD.mono (fun i _ e => HZ.out.z i (by have := HAN.out.a; omega) (by omega)))⟩⟩

end Go.Proofs.YtbnhacibkmcmkaaDoor
