/- What a table folds, as an iterator (fold.Letters). -/
import Derived.Test.YtfpphepjkpofiaaDoorFLtr
namespace Go.Proofs.YtfpphepjkpofiaaDoor
set_option maxRecDepth 20000
open Go.RowKit Go.Shelf
set_option linter.unusedVariables false
set_option maxRecDepth 100000
attribute [local go_sem] Oper.semAt_some

def lettersL (us : List Fd) : List (Int × Int) := us.flatMap fun x => foldsL x.1 x.2.1 x.2.2.toNat
def LetV (Bs : Nat) (u : Value) (us : List Fd) (_ : Nat) (W : World) : Prop := W.cell? ⟨Bs, 0, none⟩ = some u ∧ Tbl W u us
def cntL (us : List Fd) (k : Nat) : Nat := (lettersL (us.take k)).length
theorem cntL_zero (us : List Fd) : cntL us 0 = 0 := by simp [cntL, lettersL]
theorem cntL_all (us : List Fd) : cntL us us.length = (lettersL us).length := by simp [cntL]
theorem foldsL_len (f t : Int) (N : Nat) : (foldsL f t N).length = N := by simp [foldsL]
theorem lettersL_step (us : List Fd) (k : Nat) (x : Fd) (h : us[k]? = some x) : lettersL (us.take (k + 1)) = lettersL (us.take k) ++ foldsL x.1 x.2.1 x.2.2.toNat := by
  obtain ⟨hk, rfl⟩ := List.getElem?_eq_some_iff.1 h
  rw [List.take_succ_eq_append_getElem hk, lettersL, List.flatMap_append]
  simp [lettersL]
theorem cntL_step (us : List Fd) (k : Nat) (x : Fd) (h : us[k]? = some x) : cntL us (k + 1) = cntL us k + x.2.2.toNat := by
  unfold cntL
  rw [lettersL_step us k x h, List.length_append, foldsL_len]
theorem lettersL_at (us : List Fd) (k : Nat) (x : Fd) (h : us[k]? = some x) (i : Nat) (hi : i < x.2.2.toNat) : (lettersL us)[cntL us k + i]? = (foldsL x.1 x.2.1 x.2.2.toNat)[i]? := by
  have hd := drop_at h
  have e : lettersL us = lettersL (us.take k) ++ (foldsL x.1 x.2.1 x.2.2.toNat ++ lettersL (us.drop (k + 1))) := by
    conv => lhs; rw [← List.take_append_drop k us, hd]
    simp [lettersL]
  rw [e, List.getElem?_append_right (show (lettersL (us.take k)).length ≤ cntL us k + i from Nat.le_add_right _ _), show cntL us k + i - (lettersL (us.take k)).length = i from Nat.add_sub_cancel_left ..]
  rw [List.getElem?_append_left (by rw [foldsL_len]; exact hi)]

/-- what Letters made, and what it keeps: its box of yield, what its ranges left behind -/
structure LtS (A l : Nat) (bs : List Nat) (Z : Nat → Prop) (W : World) : Prop where
  ybox : Blk W A 74 [.func (.yield l) #[] #[]]
  dfr : ∀ b ∈ bs, W.heap[b]? = some (.deferred (some []))
  za : Z A
  zb : ∀ b ∈ bs, Z b
  nd : bs.Nodup
theorem LtS.lt {A l : Nat} {bs : List Nat} {Z : Nat → Prop} {W : World} (h : LtS A l bs Z W) : ∀ b ∈ bs, b < W.heap.size := fun b hb => (Array.getElem?_eq_some_iff.1 (h.dfr b hb)).1
theorem LtS.only {A l : Nat} {bs : List Nat} {Z Z' S : Nat → Prop} {W W' : World} (h : LtS A l bs Z W) (ho : Only S W W') (hA : ¬ S A) (hb : ∀ b ∈ bs, ¬ S b) (hz : ∀ j, Z j → Z' j) : LtS A l bs Z' W' :=
  ⟨h.ybox.only ho hA, fun b hbb => (ho.block b (h.lt b hbb) (hb b hbb)).trans (h.dfr b hbb), hz _ h.za, fun b hbb => hz _ (h.zb b hbb), h.nd⟩
theorem LtS.keepY {A l : Nat} {bs : List Nat} {Z : Nat → Prop} {W W' : World} (h : LtS A l bs Z W) (hk : KeepsY Z W W') : LtS A l bs Z W' :=
  ⟨(hk _ h.za).trans h.ybox, fun b hbb => (hk b (h.zb b hbb)).trans (h.dfr b hbb), h.za, h.zb, h.nd⟩
/-- what a range over a range's runes made is among what the rounds leave alone -/
structure LtZ (q B : Nat) (Y Z : Nat → Prop) : Prop where
  q : Z q
  b : Z B
  c : Z (B + 1)
  y : ∀ j, Y j → Z j ∧ B + 2 ≤ j
theorem LtZ.two {q B : Nat} {Y Z : Nat → Prop} (h : LtZ q B Y Z) {j : Nat} (hj : j = B ∨ j = B + 1) : Z j := by
  rcases hj with rfl | rfl
  · exact h.b
  · exact h.c
theorem LtZ.more {q B : Nat} {Y Z : Nat → Prop} (h : LtZ q B Y Z) {W W' : World} (hs : B + 2 ≤ W.heap.size) : LtZ q B (more Y W W') (more Z W W') :=
  ⟨.inl h.q, .inl h.b, .inl h.c, fun j hj => by
    rcases hj with hj | hj
    · exact ⟨.inl (h.y j hj).1, (h.y j hj).2⟩
    · exact ⟨.inr hj, by omega⟩⟩
theorem LtZ.part {q B : Nat} {Y Y' Z : Nat → Prop} (h : LtZ q B Y Z) (hy : ∀ j, Y' j → Y j) : LtZ q B Y' Z := ⟨h.q, h.b, h.c, fun j hj => h.y j (hy j hj)⟩
theorem Cells3.only {S : Nat → Prop} {w w' : World} {b : Nat} {f t m : Int} (h : Cells3 w b f t m) (ho : Only S w w') (hb : ¬ S b) : Cells3 w' b f t m := by
  obtain ⟨h0, h1, h2⟩ := h
  have hbb := ho.block b (World.block_lt_of_cell? w _ h0) hb
  exact ⟨(World.cell?_of_block (w := w) (a := ⟨b, _, none⟩) hbb).trans h0, (World.cell?_of_block (w := w) (a := ⟨b, _, none⟩) hbb).trans h1, (World.cell?_of_block (w := w) (a := ⟨b, _, none⟩) hbb).trans h2⟩
theorem Cells3.keepY {Z : Nat → Prop} {w w' : World} {b : Nat} {f t m : Int} (h : Cells3 w b f t m) (hk : KeepsY Z w w') (hb : Z b) : Cells3 w' b f t m := by
  obtain ⟨h0, h1, h2⟩ := h
  have hbb := hk b hb
  exact ⟨(World.cell?_of_block (w := w) (a := ⟨b, _, none⟩) hbb).trans h0, (World.cell?_of_block (w := w) (a := ⟨b, _, none⟩) hbb).trans h1, (World.cell?_of_block (w := w) (a := ⟨b, _, none⟩) hbb).trans h2⟩
theorem keepY_size {Z : Nat → Prop} {W W' : World} (hk : KeepsY Z W W') {c : Nat} (hz : Z c) (hc : c < W.heap.size) : c < W'.heap.size := by
  have e := hk c hz
  rw [Array.getElem?_eq_getElem hc] at e
  exact (Array.getElem?_eq_some_iff.1 e).1

set_option maxHeartbeats 1000000 in
theorem letters_iter (Bs : Nat) (u : Value) (us : List Fd) (hus : AllN us) : Iter2 Tryd.prog 47 #[.pointer (some ⟨Bs, 0, none⟩)] encI (lettersL us) (LetV Bs u us) := by
  intro l J Jx hJ hJx hV hY Y W h0
  obtain ⟨hc, hT⟩ := hV Y 0 W h0
  obtain ⟨ao, cap, rfl⟩ := hT.len
  have hmx := hT.max
  have hbs : Bs < W.heap.size := World.block_lt_of_cell? W _ hc
  obtain ⟨A, hA⟩ : ∃ A, W.heap.size = A := ⟨_, rfl⟩
  obtain ⟨W1, hW1⟩ : ∃ W1, W.alloc (.cells #[.func (.yield l) #[] #[]] 74) = W1 := ⟨_, rfl⟩
  have c1 : W1.cell? ⟨Bs, 0, none⟩ = some (.slice ao us.length cap) := by
    rw [← hW1]
    exact (((Below.refl _ W).alloc (Nat.le_refl _) _).cell (p := ⟨Bs, 0, none⟩) hbs).trans hc
  have HI0 : Hid (∃ Z, J Z (cntL us 0) W1 ∧ LtS A l [] Z W1) := by
    have ho : Only Y W W1 := by rw [← hW1]; exact (Only.refl _ W).alloc _
    exact ⟨more Y W W1, by rw [cntL_zero]; exact hJ Y 0 W W1 h0 ho, by rw [← hW1, ← hA]; exact Blk.new W _ _, (fun b hb => by cases hb), Or.inr ⟨by omega, by rw [← hW1]; simp [hA]⟩, (fun b hb => by cases hb), List.nodup_nil⟩
  have HJ := hide hJ
  have HJX := hide hJx
  have HV : Hid (∀ Y k W, J Y k W → Tbl W (.slice ao us.length cap) us) := fun Y k W h => (hV Y k W h).2
  have HY := hide hY
  obtain ⟨n, hn⟩ : ∃ n, us.length = n := ⟨_, rfl⟩
  have HN := hide hn
  have HU := hide hus
  rw [hn] at c1 hmx HV
  clear hJ hJx hV hY h0 hT hc hbs hn hus
  refine callsIn_wide.2 ((callsIn_wide (n := 3)).1 ?_)
  refine callsIn_of_wp_marks Tryd.func47 rfl trivial ?_ rfl
  simp only [Tryd.ntmps47, List.size_toArray, List.length_cons, List.length_nil, Nat.reduceAdd, Nat.reduceSub, Array.replicate_succ, Array.replicate_zero, List.push_toArray, List.append_toArray, List.nil_append, List.cons_append]
  gi_wp2
  refine wpIn_wide.2 (wp_scope_straight ((wpIn_wide (n := 3)).1 (wpIn_seq (wpIn_label ?_))))
  show Code.wpIn _ _ _ _ _ _ _
  gi_wp2
  clear hW1 c1 hA Y
  refine wpIn_loop (fun a w => ∃ (k : Nat) (bs : List Nat) (Z : Nat → Prop) (v4 v10 v11 v12 v13 v14 v22 : Value), k ≤ n ∧ a = { tmps := #[.func (.yield l) #[] #[], .pointer (some ⟨Bs, 0, none⟩), .pointer (some ⟨A, 0, none⟩), undef, v4, undef, undef, .slice ao n cap, .int .i64 (n : Int), .int .i64 (k : Int), v10, v11, v12, v13, v14, undef, undef, undef, undef, undef, undef, undef, v22], defers := bs.map colD } ∧ J Z (cntL us k) w ∧ LtS A l bs Z w)
    (fun a _ => n - (intOf (a.tmps.getD 9 undef)).toNat) ?_ ?_
  · obtain ⟨Z, h1, h2⟩ := HI0.out
    exact ⟨0, [], Z, _, _, _, _, _, _, _, Nat.zero_le _, rfl, h1, h2⟩
  · clear HI0 W1 W
    rintro _ wr ⟨k, bs, Z, v4, v10, v11, v12, v13, v14, v22, hk, rfl, hj, hS⟩
    have HJ0 := hide hj
    have HS := hide hS
    clear hj hS
    have HK0 : Hid (k ≤ n) := hk
    clear hk
    by_cases hkl : k < n
    · have hki : (k : Int) < (n : Int) := by omega
      obtain ⟨b, off, ⟨f, t, m⟩, rfl, hx, hok, q0, q1, q2⟩ := (HV.out Z _ wr HJ0.out).at k (by rw [HN.out]; exact hkl)
      simp only at q0 q1 q2
      obtain ⟨⟨hm1, hm2⟩, hf1, hf2, ht1, ht2⟩ := HU.out _ (List.mem_of_getElem? hx)
      simp only at hm1 hm2 hf1 hf2 ht1 ht2
      obtain ⟨N, rfl⟩ : ∃ N : Nat, (N : Int) = m := ⟨m.toNat, by omega⟩
      obtain ⟨W0, hW0⟩ : ∃ W0, wr.alloc (.cells #[.int .i32 f, .int .i32 t, .int .i64 (N : Int)] 40) = W0 := ⟨_, rfl⟩
      obtain ⟨W2, hW2⟩ : ∃ W2, W0.alloc (.cells #[.int .i32 f, .int .i32 t, .int .i64 (N : Int)] 40) = W2 := ⟨_, rfl⟩
      have HAL := hide (foldsOf_any W0 f t (N : Int))
      rw [hW2] at HAL
      have hc3 : Cells3 W2 W0.heap.size f t (N : Int) := by rw [← hW2]; exact Cells3.new W0 f t _
      obtain ⟨q, hq⟩ : ∃ q, W0.heap.size = q := ⟨_, rfl⟩
      rw [hq] at hc3 HAL
      have hs2 : W2.heap.size = q + 1 := by rw [← hW2]; simp [hq]
      have hsq : q = wr.heap.size + 1 := by rw [← hq, ← hW0]; simp
      have ho2 : Only (fun _ => False) wr W2 := by rw [← hW2, ← hW0]; exact ((Only.refl _ wr).alloc _).alloc _
      obtain ⟨d0, d1, d2⟩ : Cells3 W0 wr.heap.size f t (N : Int) := by rw [← hW0]; exact Cells3.new wr f t _
      have HC3 := hide hc3
      have HS2 := hide hs2
      have HSQ := hide hsq
      have HO2 := hide ho2
      have HX := hide hx
      have HB := hide (show N ≤ 256 ∧ (0 ≤ f ∧ f ≤ 1279) ∧ (0 ≤ t ∧ t ≤ 1279) from ⟨by omega, ⟨hf1, hf2⟩, ht1, ht2⟩)
      clear hc3 hs2 hsq ho2 hx hok hm1 hm2 hf1 hf2 ht1 ht2 hq
      gi_wp2_with (first
        | (refine ⟨trivial, ?_⟩; gi_at_call 48; refine (callsIn_wide.2 HAL.out).mono ?_; rintro e w1 ⟨rfl, hw⟩; subst w1; clear HAL))
      obtain ⟨R, hR⟩ : ∃ R, foldsL f t N = R := ⟨_, rfl⟩
      have HRL : Hid (R.length = N) := by rw [← hR]; exact foldsL_len f t N
      have HAT : Hid (∀ i (hi : i < R.length), ∃ h : cntL us k + i < (lettersL us).length, (lettersL us)[cntL us k + i] = R[i]) := fun i hi => by
        have e := lettersL_at us k _ HX.out i (by rw [← HRL.out]; exact hi)
        simp only [Int.toNat_natCast] at e
        rw [hR, List.getElem?_eq_getElem hi] at e
        exact List.getElem?_eq_some_iff.1 e
      have HST : Hid (cntL us (k + 1) = cntL us k + R.length) := by
        have e := cntL_step us k _ HX.out
        simp only [Int.toNat_natCast] at e
        rw [HRL.out]
        exact e
      have HIT : Hid (Iter2 Tryd.prog 58 #[.pointer (some ⟨q, 0, none⟩)] encI R (CelV q f t (N : Int))) := by
        rw [← hR]
        exact (foldsOf_iter q f t N HB.out.1 HB.out.2.1 HB.out.2.2).two
      have HLT : Hid (A < q ∧ ∀ b ∈ bs, b < q) := by
        have := HSQ.out
        have h1 := HS.out.ybox.lt
        exact ⟨by omega, fun b hb => by have := HS.out.lt b hb; omega⟩
      clear hR hW0 hW2 d0 d1 d2 q0 q1 q2
      refine wp_range6 (gf := 58) (lb := #[.pointer (some ⟨q, 0, none⟩)]) (xs := R) (encs := encI) (V := CelV q f t (N : Int)) rfl enters_foldsOf HIT.out (fun _ => rfl)
        (fun Y' k2 W' => ∃ Z2, J Z2 (cntL us k + k2) W' ∧ LtZ q W2.heap.size Y' Z2 ∧ LtS A l bs Z2 W' ∧ Cells3 W' q f t (N : Int) ∧ W2.heap.size + 2 ≤ W'.heap.size)
        (fun Y' cc k2 W' => cc = .exit 0 ∧ ∃ Z2 k', k' < (lettersL us).length ∧ Jx Z2 (k' + 1) W' ∧ LtZ q W2.heap.size Y' Z2 ∧ LtS A l bs Z2 W' ∧ W2.heap.size + 2 ≤ W'.heap.size) ?_ ?_ ?_ ?_ ?_ ?_
        (fun x => { tmps := #[.func (.yield l) #[] #[], .pointer (some ⟨Bs, 0, none⟩), .pointer (some ⟨A, 0, none⟩), undef, .pointer (some ⟨wr.heap.size, 0, none⟩), .int .i32 x.1, .int .i32 x.2, .slice (some ⟨b, off, none⟩) n cap, .int .i64 (n : Int), .int .i64 (k : Int), .bool true, .pointer (some ⟨b, off + k * 3, none⟩), .agg #[.int .i32 f, .int .i32 t, .int .i64 (N : Int)], .agg #[.int .i32 f, .int .i32 t, .int .i64 (N : Int)], .func (.func 58) #[] #[.pointer (some ⟨q, 0, none⟩)], .int .i32 x.1, .int .i32 x.2, undef, undef, undef, undef, undef, v22], defers := [] }) ?assign ?body ?done ?stop
      · rintro Y' k2 W' W'' ⟨Z2, hj, hz, hs, hc, hsz⟩ ho
        have hj' := HJ.out Z2 _ W' W'' hj (ho.mono (fun i _ e => hz.two e))
        have := HS2.out
        exact ⟨_, hj', (hz.more hsz).part (fun _ h => .inl h), hs.only ho (fun e => by have := HLT.out.1; omega) (fun b hb e => by have := HLT.out.2 b hb; omega) (fun _ h => .inl h), hc.only ho (fun e => by omega), Nat.le_trans hsz ho.size⟩
      · rintro Y' k2 W' W'' ⟨Z2, hj, hz, hs, hc, hsz⟩ ho
        have hj' := HJ.out Z2 _ W' W'' hj (ho.mono (fun i _ e => (hz.y i e).1))
        have := HS2.out
        exact ⟨_, hj', hz.more hsz, hs.only ho (fun e => by have := (hz.y _ e).2; have := HLT.out.1; omega) (fun b hb e => by have := (hz.y _ e).2; have := HLT.out.2 b hb; omega) (fun _ h => .inl h), hc.only ho (fun e => by have := (hz.y _ e).2; omega), Nat.le_trans hsz ho.size⟩
      · rintro Y' cc k2 W' W'' ⟨rfl, Z2, k', hk', hj, hz, hs, hsz⟩ ho
        have hj' := HJX.out Z2 _ W' W'' hj (ho.mono (fun i _ e => hz.two e))
        have := HS2.out
        exact ⟨rfl, _, k', hk', hj', (hz.more hsz).part (fun _ h => .inl h), hs.only ho (fun e => by have := HLT.out.1; omega) (fun b hb e => by have := HLT.out.2 b hb; omega) (fun _ h => .inl h), Nat.le_trans hsz ho.size⟩
      · rintro Y' cc k2 W' W'' ⟨rfl, Z2, k', hk', hj, hz, hs, hsz⟩ ho
        have hj' := HJX.out Z2 _ W' W'' hj (ho.mono (fun i _ e => (hz.y i e).1))
        have := HS2.out
        exact ⟨rfl, _, k', hk', hj', hz.more hsz, hs.only ho (fun e => by have := (hz.y _ e).2; have := HLT.out.1; omega) (fun b hb e => by have := (hz.y _ e).2; have := HLT.out.2 b hb; omega) (fun _ h => .inl h), Nat.le_trans hsz ho.size⟩
      · rintro Y' k2 W' ⟨Z2, hj, hz, hs, hc, hsz⟩
        exact hc
      · intro W' ho hsz
        have h2 := HS2.out
        have hq := HSQ.out
        have ho2 : Only (fun _ => False) wr W' := HO2.out.trans ho (fun _ _ h => h)
        exact ⟨more Z wr W', HJ.out Z _ wr W' HJ0.out (ho2.mono (fun _ _ h => h.elim)), ⟨Or.inr ⟨by omega, by omega⟩, Or.inr ⟨by omega, by omega⟩, Or.inr ⟨by omega, by omega⟩, fun _ h => h.elim⟩, HS.out.only ho2 (fun h => h) (fun _ _ h => h) (fun _ h => .inl h), HC3.out.only ho (fun h => h), by omega⟩
      case assign =>
        intro l2 k2 hk2 W' K hK
        gi_wp2
        exact hK
      case body =>
        rintro l2 Y' k2 hk2 W' ⟨Z2, hj, hz, hs, hc, hsz⟩
        obtain ⟨hkk, hx⟩ := HAT.out k2 hk2
        have hy0 := HY.out Z2 _ hkk W' hj
        rw [hx] at hy0
        obtain ⟨⟨x1, x2⟩, hxx⟩ : ∃ x, R[k2] = x := ⟨_, rfl⟩
        rw [hxx] at hy0 ⊢
        have cA : W'.cell? ⟨A, 0, none⟩ = some (.func (.yield l) #[] #[]) := hs.ybox.cell 0
        obtain ⟨fn, tmps, assign, body, hyy, hRR⟩ := hy0
        have HRR := hide hRR
        have HZ := hide hz
        have HSS := hide hs
        have HC := hide hc
        have HSZ := hide hsz
        have HKK := hide hkk
        clear hj hz hs hc hsz hkk hx hxx hRR
        gi_wp2
        refine (round_wide HRR.out _ _).mono ?_
        have HFIN : Hid (∀ W3, KeepsY Z2 W' W3 → Keeps2 W2.heap.size W' W3 ∧ KeepsY Y' W' W3 ∧ LtS A l bs Z2 W3 ∧ Cells3 W3 q f t (N : Int) ∧ W2.heap.size + 2 ≤ W3.heap.size) := fun W3 hk3 =>
          ⟨fun j hj o ho => (hk3 j (HZ.out.two hj)).trans ho, fun j hj => hk3 j (HZ.out.y j hj).1, HSS.out.keepY hk3, HC.out.keepY hk3 HZ.out.q, keepY_size hk3 HZ.out.c (by have := HSZ.out; omega)⟩
        rintro e W3 (⟨rfl, hJ3, hkY⟩ | ⟨rfl, hJ3, hkY⟩)
        · obtain ⟨b1, b2, b3, b4, b5⟩ := HFIN.out W3 hkY
          have HB1 := hide b1
          have HB2 := hide b2
          have HB3 := hide b3
          have HB4 := hide b4
          have HB5 := hide b5
          have HJ3 := hide hJ3
          clear b1 b2 b3 b4 b5 hJ3 hkY HRR hyy HFIN
          gi_wp2
          exact ⟨HB1.out, HB2.out, Z2, HJ3.out, HZ.out, HB3.out, HB4.out, HB5.out⟩
        · obtain ⟨b1, b2, b3, b4, b5⟩ := HFIN.out W3 hkY
          have HB1 := hide b1
          have HB2 := hide b2
          have HB3 := hide b3
          have HB5 := hide b5
          have HJ3 := hide hJ3
          clear b1 b2 b3 b4 b5 hJ3 hkY HRR hyy HFIN
          gi_wp2
          exact ⟨HB1.out, HB2.out, rfl, Z2, _, HKK.out, HJ3.out, HZ.out, HB3.out, HB5.out⟩
      case done =>
        rintro Y' W' ⟨Z2, hj, hz, hs, hc, hsz⟩ hD
        have HNS : Hid (LtS A l (W2.heap.size :: bs) Z2 W') := ⟨hs.ybox, fun b hb => by
          rcases List.mem_cons.1 hb with rfl | hb
          · exact hD
          · exact hs.dfr b hb, hs.za, fun b hb => by
          rcases List.mem_cons.1 hb with rfl | hb
          · exact hz.b
          · exact hs.zb b hb, List.nodup_cons.2 ⟨fun h => by have := HLT.out.2 _ h; have := HS2.out; omega, hs.nd⟩⟩
        rw [← HST.out] at hj
        have HJJ := hide hj
        clear hj hz hs hc hsz hD
        gi_wp2
        refine ⟨⟨k + 1, W2.heap.size :: bs, Z2, _, _, _, _, _, _, _, by omega, rfl, HJJ.out, HNS.out⟩, ?_⟩
        simp [intOf]
        omega
      case stop =>
        rintro Y' cc k2 W' hk2 ⟨rfl, Z2, k', hk', hj, hz, hs, hsz⟩ hD
        have HNS : Hid (LtS A l (W2.heap.size :: bs) Z2 W') := ⟨hs.ybox, fun b hb => by
          rcases List.mem_cons.1 hb with rfl | hb
          · exact hD
          · exact hs.dfr b hb, hs.za, fun b hb => by
          rcases List.mem_cons.1 hb with rfl | hb
          · exact hz.b
          · exact hs.zb b hb, List.nodup_cons.2 ⟨fun h => by have := HLT.out.2 _ h; have := HS2.out; omega, hs.nd⟩⟩
        have HJJ := hide hj
        have HKK := hide hk'
        clear hj hz hs hsz hD hk'
        gi_wp2
        show LeavesInM Fence.wide 3 Tryd.prog _ _ _ ((W2.heap.size :: bs).map colD) .returning W'
        refine leaves_all _ W' HNS.out.nd HNS.out.dfr (fun W'' ho => ?_)
        exact ⟨_, results_none rfl _ _ _, ⟨_, rfl⟩, _, .inr ⟨k', HKK.out, HJX.out Z2 _ W' W'' HJJ.out (ho.mono (fun i _ e => HNS.out.zb i e))⟩⟩
    · obtain rfl : k = n := by have := HK0.out; omega
      gi_wp2
      show LeavesInM Fence.wide 3 Tryd.prog _ _ _ (bs.map colD) .returning wr
      refine leaves_all _ wr HS.out.nd HS.out.dfr (fun W'' ho => ?_)
      have e := cntL_all us
      rw [HN.out] at e
      refine ⟨_, results_none rfl _ _ _, ⟨_, rfl⟩, more Z wr W'', .inl ?_⟩
      rw [← e]
      exact HJ.out Z _ wr W'' HJ0.out (ho.mono (fun i _ e => HS.out.zb i e))

end Go.Proofs.YtfpphepjkpofiaaDoor
