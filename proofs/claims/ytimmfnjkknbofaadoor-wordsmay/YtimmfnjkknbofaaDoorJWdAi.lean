/- Contracts: package words' iterators of All (the empty one, and the one that goes over the words). -/
import Derived.Test.YtimmfnjkknbofaaDoorJWdIt
import Derived.Test.YtimmfnjkknbofaaDoorJWdTerm
import Derived.Test.YtimmfnjkknbofaaDoorJWdRng
namespace Go.Proofs.YtimmfnjkknbofaaDoor
set_option maxRecDepth 20000
open Go.RowKit Go.Shelf
set_option linter.unusedVariables false
set_option linter.unusedSimpArgs false
set_option maxRecDepth 100000
attribute [local go_sem] Oper.semAt_some

/-- is a word's term told -/
def toldB (us : List Fd) (m : Nat) (ss : List (List Int)) (p : List Nat × Nat) : Bool := !decide (termZ us m p.1 ∈ ss)
def tkOf (us : List Fd) (m : Nat) (p : List Nat × Nat) : Tk := (termZ us m p.1, p.2)
/-- the tokens of a text's runes, by a way that may be -/
def tokL (us : List Fd) (m : Nat) (ss : List (List Int)) (l : List Nat) : List Tk := ((wdsN l).filter (toldB us m ss)).map (tkOf us m)
/-- by any way -/
def tokC (C : Cn) (l : List Nat) : List Tk := if mayC C = true then tokL (useL C.fs) C.cap.toNat C.ss l else []
theorem filtK_step {α : Type} (R : List α) (f : α → Bool) (j : Nat) (hj : j < R.length) : (R.take (j + 1)).filter f = (R.take j).filter f ++ (if f R[j] = true then [R[j]] else []) := by
  rw [List.take_succ_eq_append_getElem hj, List.filter_append]
  congr 1
  rw [List.filter_cons]
  split <;> rfl
theorem filtK_at {α : Type} (R : List α) (f : α → Bool) (j : Nat) (hj : j < R.length) (hf : f R[j] = true) : ∃ hk : ((R.take j).filter f).length < (R.filter f).length, (R.filter f)[((R.take j).filter f).length] = R[j] := by
  have e : R.filter f = (R.take j).filter f ++ (R[j] :: (R.drop (j + 1)).filter f) := by
    conv => lhs; rw [← List.take_append_drop j R, List.drop_eq_getElem_cons hj, List.filter_append, List.filter_cons, if_pos hf]
  have hk : ((R.take j).filter f).length < (R.filter f).length := by rw [e]; simp
  refine ⟨hk, ?_⟩
  have : (R.filter f)[((R.take j).filter f).length]? = some R[j] := by
    rw [e, List.getElem?_append_right (Nat.le_refl _)]; simp
  rw [List.getElem?_eq_getElem hk] at this
  exact Option.some.inj this
theorem tokL_len (us : List Fd) (m : Nat) (ss : List (List Int)) (l : List Nat) : (tokL us m ss l).length ≤ l.length := by
  unfold tokL
  rw [List.length_map]
  have h1 := List.length_filter_le (toldB us m ss) (wdsN l)
  have h2 := wdsN_len l
  have h3 := wds_len l
  omega
theorem tokL_ok (us : List Fd) (m : Nat) (ss : List (List Int)) (l : List Nat) : ∀ x ∈ tokL us m ss l, ByteOk x.1 := by
  intro x hx
  obtain ⟨p, _, rfl⟩ := List.mem_map.1 hx
  exact fmL_ok _

/-- the way in its box, the text in its box -/
structure AllW (g6 g5 : Nat) (C : Cn) (s : ByteArray) (W : World) : Prop where
  str : W.cell? ⟨g6, 0, none⟩ = some (.string s)
  cnf : ∃ fo fc so sc, W.cell? ⟨g5, 0, none⟩ = some (.slice fo C.fs.length fc) ∧ W.cell? ⟨g5, 1, none⟩ = some (.slice so C.ss.length sc) ∧ W.cell? ⟨g5, 2, none⟩ = some (.int .i64 C.cap) ∧ Tbl W (.slice fo C.fs.length fc) C.fs ∧ Strs W (.slice so C.ss.length sc) C.ss
  let_ : Let W
theorem Tbl.below' {w w' : World} {v : Value} {xs : List Fd} (h : Tbl w v xs) (hb : Below w.heap.size w w') : Tbl w' v xs := h.below hb
theorem AllW.below {g6 g5 : Nat} {C : Cn} {s : ByteArray} {W W' : World} (h : AllW g6 g5 C s W) (hb : Below W.heap.size W W') : AllW g6 g5 C s W' := by
  obtain ⟨fo, fc, so, sc, c0, c1, c2, ht, hs⟩ := h.cnf
  have k : ∀ (b i : Nat) (x : Value), W.cell? ⟨b, i, none⟩ = some x → W'.cell? ⟨b, i, none⟩ = some x := fun b i x hx => (World.cell?_of_block (w := W) (a := ⟨b, i, none⟩) (hb.block b (World.block_lt_of_cell? W _ hx))).trans hx
  exact ⟨k _ _ _ h.str, ⟨fo, fc, so, sc, k _ _ _ c0, k _ _ _ c1, k _ _ _ c2, ht.below hb, hs.below hb⟩, h.let_.below hb⟩

theorem enters_all1 : ∀ args w, (callFunc 71 args).run Tryd.prog w = .ok (.enter 71 args) w := enters_of Tryd.func71 (by kernel_rfl) rfl
theorem enters_all2 : ∀ args w, (callFunc 73 args).run Tryd.prog w = .ok (.enter 73 args) w := enters_of Tryd.func73 (by kernel_rfl) rfl

theorem all1_iter : Iter2 Tryd.prog 71 #[] encT [] (fun _ _ => True) := by
  intro l J Jx hJ hJx hV hY Y W h0
  have H0 := hide h0
  clear hJ hJx hV hY h0
  refine callsIn_wide.2 ((callsIn_wide (n := 3)).1 ?_)
  refine callsIn_of_wp_marks Tryd.func71 rfl trivial ?_ rfl
  simp only [Tryd.ntmps71, List.size_toArray, List.length_cons, List.length_nil, Nat.reduceAdd, Nat.reduceSub, Array.replicate_succ, Array.replicate_zero, List.push_toArray, List.append_toArray, List.nil_append, List.cons_append]
  gi_wp2
  exact ⟨_, results_none rfl _ _ _, ⟨_, rfl⟩, Y, .inl H0.out⟩

/-- what the iterator made: yield's box at A, the text's box at B; behind it the loop's two blocks -/
structure AiK (A B B0 : Nat) (yv : Value) (s : ByteArray) (W : World) : Prop where
  ybox : Blk W A 107 [yv]
  sbox : Blk W B 9 [.string s]
  size : B0 + 2 ≤ W.heap.size
theorem AiK.only {A B B0 : Nat} {yv : Value} {s : ByteArray} {W W' : World} {S : Nat → Prop} (h : AiK A B B0 yv s W) (hA : A < B0) (hB : B < B0) (ho : Only S W W') (hS : ∀ j, S j → B0 ≤ j) : AiK A B B0 yv s W' :=
  ⟨h.ybox.only ho (fun e => by have := hS _ e; omega), h.sbox.only ho (fun e => by have := hS _ e; omega), Nat.le_trans h.size ho.size⟩
theorem AiK.keepY {A B B0 : Nat} {yv : Value} {s : ByteArray} {W W' : World} {Z : Nat → Prop} (h : AiK A B B0 yv s W) (hA : A < B) (hB : B < B0) (hz : ∀ j, A ≤ j → j < B0 + 2 → Z j) (hk : KeepsY Z W W') : AiK A B B0 yv s W' := by
  have hlt : B0 + 1 < W.heap.size := by have := h.size; omega
  refine ⟨(hk _ (hz _ (Nat.le_refl _) (by omega))).trans h.ybox, (hk _ (hz _ (by omega) (by omega))).trans h.sbox, ?_⟩
  have e := hk _ (hz (B0 + 1) (by omega) (by omega))
  rw [Array.getElem?_eq_getElem hlt] at e
  have := (Array.getElem?_eq_some_iff.1 e).1
  omega
structure AiZ (A B0 : Nat) (Y Z : Nat → Prop) : Prop where
  z : ∀ j, A ≤ j → j < B0 + 2 → Z j
  y : ∀ j, Y j → Z j ∧ B0 + 2 ≤ j
theorem AiZ.more {A B0 : Nat} {Y Z : Nat → Prop} (h : AiZ A B0 Y Z) {W W' : World} (hs : B0 + 2 ≤ W.heap.size) : AiZ A B0 (more Y W W') (more Z W W') :=
  ⟨fun j h1 h2 => .inl (h.z j h1 h2), fun j hj => by
    rcases hj with hj | hj
    · exact ⟨.inl (h.y j hj).1, (h.y j hj).2⟩
    · exact ⟨.inr hj, by omega⟩⟩
theorem AiZ.part {A B0 : Nat} {Y Y' Z : Nat → Prop} (h : AiZ A B0 Y Z) (hy : ∀ j, Y' j → Y j) : AiZ A B0 Y' Z := ⟨h.z, fun j hj => h.y j (hy j hj)⟩

set_option maxHeartbeats 4000000 in
theorem all2_iter (g6 g5 : Nat) (C : Cn) (hok : CnOk C) (m : Nat) (hm : C.cap = (m : Int)) (hm2 : m ≤ 100) (zs : List Int) (hb : ByteOk zs) (hl : zs.length ≤ 1000000) :
    Iter2 Tryd.prog 73 #[.pointer (some ⟨g6, 0, none⟩), .pointer (some ⟨g5, 0, none⟩)] encT (tokL (useL C.fs) m C.ss (rs zs)) (fun _ W => AllW g6 g5 C (strOfNums zs) W) := by
  obtain ⟨R, hR⟩ : ∃ R, wdsN (rs zs) = R := ⟨_, rfl⟩
  have HRL : Hid (∀ x ∈ R, ∀ r ∈ x.1, letN r = true) := fun x hx => by
    rw [← hR] at hx
    exact (wds_in (rs zs) x.1 (by
      obtain ⟨i, hi, e⟩ := List.mem_iff_getElem.1 hx
      rw [wdsN_at _ i hi] at e
      rw [← e]
      exact List.getElem_mem _)).2
  have HWI : Hid (∀ Bs, Iter2 Tryd.prog 66 #[.pointer (some ⟨Bs, 0, none⟩)] encW R (fun _ W => W.cell? ⟨Bs, 0, none⟩ = some (.string (strOfNums zs)) ∧ Let W)) := fun Bs => by rw [← hR]; exact words_iter Bs zs hb hl
  unfold tokL
  rw [hR]
  obtain ⟨f, hf⟩ : ∃ f, toldB (useL C.fs) m C.ss = f := ⟨_, rfl⟩
  obtain ⟨tk, htk⟩ : ∃ f, tkOf (useL C.fs) m = f := ⟨_, rfl⟩
  rw [hf, htk]
  have HF := hide hf
  have HTK := hide htk
  clear hR hf htk
  intro l J Jx hJ hJx hV hY Y W h0
  have hw0 := hV Y 0 W h0
  obtain ⟨A, hA⟩ : ∃ A, W.heap.size = A := ⟨_, rfl⟩
  obtain ⟨yv, hyv⟩ : ∃ yv, Value.func (.yield l) #[] #[] = yv := ⟨_, rfl⟩
  obtain ⟨W1, hW1⟩ : ∃ W1, W.alloc (.cells #[.func (.yield l) #[] #[]] 107) = W1 := ⟨_, rfl⟩
  have hb1 : Below W.heap.size W W1 := by rw [← hW1]; exact (Below.refl _ W).alloc (Nat.le_refl _) _
  have hs1 : W1.heap.size = A + 1 := by rw [← hW1]; simp [hA]
  have hyb : Blk W1 A 107 [yv] := by rw [← hW1, ← hA, ← hyv]; exact Blk.new W _ _
  have hw1 := hw0.below hb1
  have c6 : W1.cell? ⟨g6, 0, none⟩ = some (.string (strOfNums zs)) := hw1.str
  obtain ⟨s, hs⟩ : ∃ s, strOfNums zs = s := ⟨_, rfl⟩
  rw [hs] at c6 HWI hV
  have HWO := hide (wordsOf_any W1 s)
  obtain ⟨W2, hW2⟩ : ∃ W2, W1.alloc (.cells #[.string s] 9) = W2 := ⟨_, rfl⟩
  rw [hW2] at HWO
  have hb2 : Below W.heap.size W W2 := by rw [← hW2]; exact hb1.alloc (by omega) _
  have hs2 : W2.heap.size = A + 2 := by rw [← hW2]; simp [hs1]
  have hyb2 : Blk W2 A 107 [yv] := by rw [← hW2]; exact hyb.alloc _
  have hsb2 : Blk W2 (A + 1) 9 [.string s] := by rw [← hW2, ← hs1]; exact Blk.new W1 _ _
  have HK0 : Hid (∀ W', Only (fun _ => False) W2 W' → W'.heap.size = W2.heap.size + 2 → AiK A (A + 1) W2.heap.size yv s W' ∧ AiZ A W2.heap.size (fun _ => False) (more Y W W') ∧ J (more Y W W') 0 W') := fun W' ho hsz =>
    ⟨⟨hyb2.only ho (fun h => h), hsb2.only ho (fun h => h), by omega⟩, ⟨fun j h1 h2 => .inr ⟨by omega, by omega⟩, fun _ h => h.elim⟩,
      hJ Y 0 W W' h0 (((Only.of_below (fun _ => False) hb2).trans ho (fun _ _ h => h)).mono (fun _ _ h => h.elim))⟩
  have HJ := hide hJ
  have HJX := hide hJx
  have HV := hide hV
  have HY := hide hY
  have HA := hide hA
  have HS2 := hide hs2
  have HS1 := hide hs1
  have HYV := hide hyv
  clear hJ hJx hV hY h0 hw0 hw1 hb1 hyb hA hs hs1 hyv hW2 hb2 hyb2 hsb2 hs2
  refine callsIn_wide.2 ((callsIn_wide (n := 3)).1 ?_)
  refine callsIn_of_wp_marks Tryd.func73 rfl trivial ?_ rfl
  simp only [Tryd.ntmps73, List.size_toArray, List.length_cons, List.length_nil, Nat.reduceAdd, Nat.reduceSub, Array.replicate_succ, Array.replicate_zero, List.push_toArray, List.append_toArray, List.nil_append, List.cons_append]
  gi_wp2_with (first
    | (refine ⟨trivial, ?_⟩; gi_at_call 43; refine (callsIn_wide.2 HWO.out).mono ?_; rintro e w1 ⟨rfl, hw⟩; subst w1; clear HWO))
  clear hW1 c6
  rw [HS1.out, HA.out]
  obtain rfl := HYV.out
  refine wp_range6 (gf := 66) (lb := #[.pointer (some ⟨A + 1, 0, none⟩)]) (xs := R) (encs := encW) (V := fun _ W => W.cell? ⟨A + 1, 0, none⟩ = some (.string s) ∧ Let W) rfl enters_words (HWI.out _) (fun _ => rfl)
    (fun Y' k W' => ∃ Z k', k' = ((R.take k).filter f).length ∧ J Z k' W' ∧ AiZ A W2.heap.size Y' Z ∧ AiK A (A + 1) W2.heap.size (.func (.yield l) #[] #[]) s W' ∧ ∀ j, Y' j → j < W'.heap.size)
    (fun Y' cc k W' => cc = .ret ∧ ∃ Z k', k' < ((R.filter f).map tk).length ∧ Jx Z (k' + 1) W' ∧ AiZ A W2.heap.size Y' Z ∧ W2.heap.size + 2 ≤ W'.heap.size) ?_ ?_ ?_ ?_ ?_ ?_
    (fun x => { tmps := #[.func (.yield l) #[] #[], .pointer (some ⟨g6, 0, none⟩), .pointer (some ⟨g5, 0, none⟩), .pointer (some ⟨A, 0, none⟩), .int .i64 (x.2 : Int), .string (strOfNums (fmL x.1)), undef, .string s, .func (.func 66) #[] #[.pointer (some ⟨A + 1, 0, none⟩)], .int .i64 (x.2 : Int), .string (strOfNums (fmL x.1)), undef, undef, undef, undef, undef, undef, undef, undef, undef, undef, undef, undef, undef, undef, undef], defers := [] }) ?assign ?body ?done ?stop
  · rintro Y' k W' W'' ⟨Z, k', e, hj, hz, hk, hyl⟩ ho
    have hj' := HJ.out Z k' W' W'' hj (ho.mono (fun i _ e => hz.z i (by have := HS2.out; omega) (by omega)))
    exact ⟨_, k', e, hj', (hz.more hk.size).part (fun _ h => .inl h), hk.only (by have := HS2.out; omega) (by have := HS2.out; omega) ho (fun j e => by omega), fun j hj => Nat.lt_of_lt_of_le (hyl j hj) ho.size⟩
  · rintro Y' k W' W'' ⟨Z, k', e, hj, hz, hk, hyl⟩ ho
    have hj' := HJ.out Z k' W' W'' hj (ho.mono (fun i _ e => (hz.y i e).1))
    exact ⟨_, k', e, hj', hz.more hk.size, hk.only (by have := HS2.out; omega) (by have := HS2.out; omega) ho (fun j e => by have := (hz.y j e).2; omega), fun j hj => hj.elim (fun h => Nat.lt_of_lt_of_le (hyl j h) ho.size) (fun h => h.2)⟩
  · rintro Y' cc k W' W'' ⟨rfl, Z, k', e, hj, hz, hk⟩ ho
    have hj' := HJX.out Z (k' + 1) W' W'' hj (ho.mono (fun i _ e => hz.z i (by have := HS2.out; omega) (by omega)))
    exact ⟨rfl, _, k', e, hj', (hz.more hk).part (fun _ h => .inl h), Nat.le_trans hk ho.size⟩
  · rintro Y' cc k W' W'' ⟨rfl, Z, k', e, hj, hz, hk⟩ ho
    have hj' := HJX.out Z (k' + 1) W' W'' hj (ho.mono (fun i _ e => (hz.y i e).1))
    exact ⟨rfl, _, k', e, hj', hz.more hk, Nat.le_trans hk ho.size⟩
  · rintro Y' k W' ⟨Z, k', e, hj, hz, hk, _⟩
    exact ⟨hk.sbox.cell 0, (HV.out Z k' W' hj).let_⟩
  · intro W' ho hs
    obtain ⟨h1, h2, h3⟩ := HK0.out W' ho hs
    exact ⟨_, 0, by simp, h3, h2, h1, fun _ h => h.elim⟩
  case assign =>
    intro l2 k hk W' K hK
    gi_wp2
    exact hK
  case body =>
    rintro l2 Y' k hk W' ⟨Z, k', he, hj, hz, hK, hyl⟩
    have HYL := hide hyl
    clear hyl
    have hLt := HRL.out _ (List.getElem_mem hk)
    have hstep := filtK_step R f k hk
    have hat := filtK_at R f k hk
    obtain ⟨x, hx⟩ : ∃ x, R[k] = x := ⟨_, rfl⟩
    rw [hx] at hLt hstep hat ⊢
    obtain ⟨L, p⟩ := x
    simp only at hLt
    have hAW := HV.out Z k' W' hj
    obtain ⟨fo, fc, so, sc, c0, c1, c2, ht, hs⟩ := hAW.cnf
    have HCV : Hid (∀ W4, Below W'.heap.size W' W4 → CnfV W4 (.agg #[.slice fo C.fs.length fc, .slice so C.ss.length sc, .int .i64 C.cap]) C) := fun W4 h4 => ⟨fo, fc, so, sc, rfl, ht.below h4, hs.below h4⟩
    have HTM := hide (termOf_any W' _ C (HCV.out W' (Below.refl _ _)) m hm hm2 L hLt hAW.let_)
    have HST : Hid (∀ W4, Below W'.heap.size W' W4 → Calls Tryd.prog 51 #[.agg #[.slice fo C.fs.length fc, .slice so C.ss.length sc, .int .i64 C.cap], .string (strOfNums (termZ (useL C.fs) m L))] W4 fun e w' => e = .returned (.bool (!f (L, p))) ∧ Below W4.heap.size W4 w') := fun W4 h4 => by
      have := isStop_any W4 _ C (HCV.out W4 h4) (termZ (useL C.fs) m L) (fmL_ok _)
      have e : decide (termZ (useL C.fs) m L ∈ C.ss) = !f (L, p) := by rw [← HF.out]; simp [toldB]
      rwa [e] at this
    have HCC : Hid (∀ W4 (i : Nat) (y : Value), Below W'.heap.size W' W4 → W'.cell? ⟨g5, i, none⟩ = some y → W4.cell? ⟨g5, i, none⟩ = some y) := fun W4 i y h4 hy => (World.cell?_of_block (w := W') (a := ⟨g5, i, none⟩) (h4.block g5 (World.block_lt_of_cell? W' _ hy))).trans hy
    have C0 := hide c0
    have C1 := hide c1
    have C2 := hide c2
    have hts : tk (L, p) = (termZ (useL C.fs) m L, p) := by rw [← HTK.out]; rfl
    obtain ⟨T, hT⟩ : ∃ T, strOfNums (termZ (useL C.fs) m L) = T := ⟨_, rfl⟩
    have HTS : Hid (encT (tk (L, p)) = #[.agg #[.string T, .int .i64 (p : Int)]]) := by rw [hts, ← hT]; rfl
    rw [hT] at HTM HST
    generalize C.fs.length = fn at *
    generalize C.ss.length = sn at *
    generalize C.cap = K at *
    generalize strOfNums (fmL L) = S1 at *
    have cA : W'.cell? ⟨A, 0, none⟩ = some (.func (.yield l) #[] #[]) := hK.ybox.cell 0
    have HCA : Hid (∀ W4, Below W'.heap.size W' W4 → W4.cell? ⟨A, 0, none⟩ = some (.func (.yield l) #[] #[])) := fun W4 h4 => (World.cell?_of_block (w := W') (a := ⟨A, 0, none⟩) (h4.block A (World.block_lt_of_cell? W' _ cA))).trans cA
    have HKK := hide hK
    have HZ := hide hz
    have HJJ := hide hj
    have HE := hide he
    have HSTEP := hide hstep
    have HAT := hide hat
    have HN : Hid (∀ W4, Below W'.heap.size W' W4 → J (more Z W' W4) k' W4 ∧ AiZ A W2.heap.size Y' (more Z W' W4) ∧ AiK A (A + 1) W2.heap.size (.func (.yield l) #[] #[]) s W4) := fun W4 h4 => by
      have ho : Only (fun _ => False) W' W4 := Only.of_below _ h4
      exact ⟨HJ.out Z k' W' _ HJJ.out (ho.mono (fun _ _ h => h.elim)), (HZ.out.more HKK.out.size).part (fun _ h => .inl h), HKK.out.only (by have := HS2.out; omega) (by have := HS2.out; omega) ho (fun _ h => h.elim)⟩
    have HY2 : Hid (f (L, p) = true → ∀ W4, Below W'.heap.size W' W4 → k' < ((R.filter f).map tk).length ∧ YieldAt Fence.wide 1 Tryd.prog l #[.agg #[.string T, .int .i64 (p : Int)]] W4 fun e W3 => (e = .returned (.bool true) ∧ J (more Z W' W4) (k' + 1) W3 ∧ KeepsY (more Z W' W4) W4 W3) ∨ (e = .returned (.bool false) ∧ Jx (more Z W' W4) (k' + 1) W3 ∧ KeepsY (more Z W' W4) W4 W3)) := fun hfx W4 h4 => by
      obtain ⟨a1, a2⟩ := HAT.out hfx
      have hkk : k' < (R.filter f).length := by rw [HE.out]; exact a1
      have hxx : (R.filter f)[k'] = (L, p) := by
        rw [← a2]
        congr 1 <;> exact HE.out
      have hkm : k' < ((R.filter f).map tk).length := by rw [List.length_map]; exact hkk
      have hy0 := HY.out _ k' hkm W4 (HN.out W4 h4).1
      rw [List.getElem_map, hxx, HTS.out] at hy0
      exact ⟨hkm, hy0⟩
    clear hK hz hj he HK0 hx hAW ht hs hLt hstep hat hT hts hm HCV
    cases hg : f (L, p) with
    | false =>
      rw [hg] at HST HSTEP
      have HKN : Hid (k' = ((R.take (k + 1)).filter f).length) := by
        show _ = _
        rw [HSTEP.out]
        simpa using HE.out
      clear hg HY2
      simp only [Bool.not_false] at HST
      gi_wp2_with (first
        | (refine ⟨trivial, ?_⟩; gi_at_call 44; refine (calls_wideR HTM.out _ _).mono ?_; rintro e w3 ⟨rfl, hb3⟩; have HB3 := hide hb3; have c0 := HCC.out w3 0 _ hb3 C0.out; have c1 := HCC.out w3 1 _ hb3 C1.out; have c2 := HCC.out w3 2 _ hb3 C2.out; clear HTM hb3)
        | (refine ⟨trivial, ?_⟩; gi_at_call 51; refine (calls_wideR (HST.out w3 HB3.out) _ _).mono ?_; rintro e w4 ⟨rfl, hb4⟩; have HB4 := hide (HB3.out.trans (hb4.mono HB3.out.size)); clear HST hb4))
      refine ⟨fun _ h => (by cases h), ?_⟩
      gi_wp2
      obtain ⟨n1, n2, n3⟩ := HN.out w4 HB4.out
      have ho4 : Only (fun _ => False) W' w4 := Only.of_below _ HB4.out
      exact ⟨Keeps2.of_only ho4 (fun h => h) (fun h => h), fun j hj => ho4.block j (HYL.out j hj) (fun h => h), _, k', HKN.out, n1, n2, n3, fun j hj => Nat.lt_of_lt_of_le (HYL.out j hj) ho4.size⟩
    | true =>
      rw [hg] at HST HSTEP
      have HKN : Hid (k' + 1 = ((R.take (k + 1)).filter f).length) := by
        show _ = _
        rw [HSTEP.out]
        simpa using HE.out
      have HY3 := hide (HY2.out hg)
      clear hg HY2
      simp only [Bool.not_true] at HST
      gi_wp2_with (first
        | (refine ⟨trivial, ?_⟩; gi_at_call 44; refine (calls_wideR HTM.out _ _).mono ?_; rintro e w3 ⟨rfl, hb3⟩; have HB3 := hide hb3; have c0 := HCC.out w3 0 _ hb3 C0.out; have c1 := HCC.out w3 1 _ hb3 C1.out; have c2 := HCC.out w3 2 _ hb3 C2.out; clear HTM hb3)
        | (refine ⟨trivial, ?_⟩; gi_at_call 51; refine (calls_wideR (HST.out w3 HB3.out) _ _).mono ?_; rintro e w4 ⟨rfl, hb4⟩; have HB4 := hide (HB3.out.trans (hb4.mono HB3.out.size)); have cA4 := HCA.out w4 HB4.out; obtain ⟨hkm, fn2, tmps, assign, body, hyy, hrr⟩ := HY3.out w4 HB4.out; have HRR := hide hrr; have HKM := hide hkm; clear HST hb4 HY3 hrr hkm))
      refine (round_wide HRR.out _ _).mono ?_
      obtain ⟨n1, n2, n3⟩ := HN.out w4 HB4.out
      have hfin : ∀ W3, KeepsY (more Z W' w4) w4 W3 → Keeps2 W2.heap.size W' W3 ∧ KeepsY Y' W' W3 ∧ AiK A (A + 1) W2.heap.size (.func (.yield l) #[] #[]) s W3 ∧ ∀ j, Y' j → j < W3.heap.size := fun W3 hk3 => by
        have ho4 : Only (fun _ => False) W' w4 := Only.of_below _ HB4.out
        exact ⟨fun j hj o ho => (hk3 j (n2.z j (by have := HS2.out; omega) (by omega))).trans ((ho4.block j (Array.getElem?_eq_some_iff.1 ho).1 (fun h => h)).trans ho), fun j hj => (hk3 j (n2.y j hj).1).trans (ho4.block j (HYL.out j hj) (fun h => h)), n3.keepY (by omega) (by have := HS2.out; omega) n2.z hk3, fun j hj => by
          have hjl := Nat.lt_of_lt_of_le (HYL.out j hj) ho4.size
          have e := hk3 j (n2.y j hj).1
          rw [Array.getElem?_eq_getElem hjl] at e
          exact (Array.getElem?_eq_some_iff.1 e).1⟩
      have HFIN := hide hfin
      have HN2 := hide n2
      clear hfin n1 n2 n3
      rintro e W3 (⟨rfl, hJ3, hkY⟩ | ⟨rfl, hJ3, hkY⟩)
      · obtain ⟨b1, b2, b3, b4⟩ := HFIN.out W3 hkY
        have HB4' := hide b4
        have HB1 := hide b1
        have HB2 := hide b2
        have HB3' := hide b3
        have HJ3 := hide hJ3
        clear b1 b2 b3 b4 hJ3 hkY HRR hyy HFIN
        gi_wp2
        exact ⟨HB1.out, HB2.out, _, k' + 1, HKN.out, HJ3.out, HN2.out, HB3'.out, HB4'.out⟩
      · obtain ⟨b1, b2, b3, b4⟩ := HFIN.out W3 hkY
        have HB4' := hide b4
        have HB1 := hide b1
        have HB2 := hide b2
        have HB3' := hide b3
        have HJ3 := hide hJ3
        clear b1 b2 b3 b4 hJ3 hkY HRR hyy HFIN
        gi_wp2
        exact ⟨HB1.out, HB2.out, rfl, _, k', HKM.out, HJ3.out, HN2.out, HB3'.out.size⟩
  case done =>
    rintro Y' W' ⟨Z, k', he, hj, hz, hK, _⟩ hD
    rw [List.take_of_length_le (Nat.le_refl _)] at he
    subst he
    have HD := hide hD
    have HJJ := hide hj
    have HZ := hide hz
    have HSZ := hide hK.size
    clear hD hj hz hK HK0
    gi_wp2
    refine ⟨by simp, .inl ⟨_, _, rfl, run_takeDeferred HD.out, ?_⟩⟩
    have hoD : Only (· = W2.heap.size) W' (W'.putObj W2.heap.size (.deferred none)) := only_put1 W' _ _ _ rfl
    refine ⟨_, results_none rfl _ _ _, ⟨_, rfl⟩, _, .inl (HJ.out Z _ W' _ HJJ.out (hoD.mono (fun i _ e => HZ.out.z i (by have := HS2.out; omega) (by omega))))⟩
  case stop =>
    rintro Y' cc k W' hk ⟨rfl, Z, k', hk', hj, hz, hsz⟩ hD
    have HD := hide hD
    have HJJ := hide hj
    have HZ := hide hz
    clear hD hj hz HK0
    gi_wp2
    refine ⟨by simp, .inl ⟨_, _, rfl, run_takeDeferred HD.out, ?_⟩⟩
    have hoD : Only (· = W2.heap.size) W' (W'.putObj W2.heap.size (.deferred none)) := only_put1 W' _ _ _ rfl
    refine ⟨_, results_none rfl _ _ _, ⟨_, rfl⟩, _, .inr ⟨k', (by rw [List.length_map] at hk'; exact hk'), HJX.out Z _ W' _ HJJ.out (hoD.mono (fun i _ e => HZ.out.z i (by have := HS2.out; omega) (by omega)))⟩⟩

end Go.Proofs.YtimmfnjkknbofaaDoor
