/- Contracts: package fold's Check, usable, Rune, Plain (slices.ContainsFunc and IndexFunc at isNoRange). -/
import Derived.Test.YtimmfnjkknbofaaDoorJFChk
import Derived.Maps.AppendAt
namespace Go.Proofs.YtimmfnjkknbofaaDoor
set_option maxRecDepth 20000
open Go.RowKit
set_option linter.unusedVariables false
set_option linter.unusedSimpArgs false
set_option maxRecDepth 100000

/-- where the first range stands that may be in no table -/
def noAt : List Fd → Nat → Int
  | [], _ => -1
  | x :: xs, j => if noB x = true then (j : Int) else noAt xs (j + 1)
theorem noAt_any : ∀ (xs : List Fd) (j : Nat), decide (0 ≤ noAt xs j) = xs.any noB
  | [], _ => rfl
  | x :: xs, j => by
    unfold noAt
    cases h : noB x with
    | true => simp [h]
    | false => simp [h, noAt_any xs (j + 1)]

set_option maxHeartbeats 2000000 in
theorem indexNo_any (w : World) (v : Value) (xs : List Fd) (hT : Tbl w v xs) (hL : Let w) :
    Calls Tryd.prog 79 #[v, .func (.func 60) #[] #[]] w fun e w' => e = .returned (.int .i64 (noAt xs 0)) ∧ Below w.heap.size w w' := by
  obtain ⟨ao, cap, rfl⟩ := hT.len
  have hmx := hT.max
  have HT := hide hT
  have HL := hide hL
  obtain ⟨n, hn⟩ : ∃ n, xs.length = n := ⟨_, rfl⟩
  have HN := hide hn
  rw [hn] at HT hmx ⊢
  clear hT hL hn
  go_enter Tryd.func79, Tryd.ntmps79
  go_wp2
  go_loopg [8] n (fun k i wr => ∃ j : Nat, k + j = n ∧ i = .int .i64 (j : Int) ∧ noAt (xs.drop j) j = noAt xs 0 ∧ Below w.heap.size w wr)
  case atStart => exact ⟨0, rfl, rfl, rfl, Below.refl _ w⟩
  case round =>
    obtain ⟨j, hk, rfl, hs, hbw⟩ := hrel
    have HS := hide hs
    have HB := hide hbw
    clear hs hbw
    cases gk with
    | zero =>
      obtain rfl : j = n := by omega
      have hlt : ¬ (j : Int) < (j : Int) := by omega
      go_wp2
      go_ret
      exact ⟨ret_int (by rw [← HS.out, List.drop_eq_nil_of_le (by rw [HN.out]; exact Nat.le_refl _)]; rfl), HB.out⟩
    | succ k =>
      have hj : (j : Int) < (n : Int) := by omega
      obtain ⟨b, off, ⟨f, t, m⟩, rfl, hx, hok, q0, q1, q2⟩ := (HT.out.below HB.out).at j (by rw [HN.out]; omega)
      simp only at q0 q1 q2
      have hd := drop_at hx
      have HF := hide (isNoRange_any wr f t m hok.1 hok.2.1 (HL.out.below HB.out))
      obtain ⟨A, hA⟩ : ∃ A, noB (f, t, m) = A := ⟨_, rfl⟩
      rw [hA] at HF
      cases A with
      | true =>
        have HR : Hid (noAt xs 0 = (j : Int)) := by rw [← HS.out, hd]; exact if_pos hA
        clear hx hok hd hA
        go_wp2_with (go_at_call 60; refine HF.out.mono ?_; rintro e w1 ⟨rfl, hb⟩; have HB1 := hide (HB.out.trans (hb.mono HB.out.size)); clear HF hb)
        go_ret
        exact ⟨ret_int HR.out.symm, HB1.out⟩
      | false =>
        have HR : Hid (noAt (xs.drop (j + 1)) (j + 1) = noAt xs 0) := by rw [← HS.out, hd]; exact (if_neg (by rw [hA]; simp)).symm
        clear hx hok hd hA
        go_wp2_with (go_at_call 60; refine HF.out.mono ?_; rintro e w1 ⟨rfl, hb⟩; have HB1 := hide (HB.out.trans (hb.mono HB.out.size)); clear HF hb)
        go_roundg k
        case measure => omega
        case rel => exact ⟨j + 1, by omega, by go_num, HR.out, HB1.out⟩

theorem containsNo_any (w : World) (v : Value) (xs : List Fd) (hT : Tbl w v xs) (hL : Let w) :
    Calls Tryd.prog 59 #[v, .func (.func 60) #[] #[]] w fun e w' => e = .returned (.bool (xs.any noB)) ∧ Below w.heap.size w w' := by
  obtain ⟨ao, cap, rfl⟩ := hT.len
  have HI := hide (indexNo_any w _ xs hT hL)
  have HA := hide (noAt_any xs 0)
  generalize noAt xs 0 = z at *
  generalize xs.any noB = A at *
  clear hT hL
  go_enter Tryd.func59, Tryd.ntmps59
  go_wp2_with (go_at_call 79; refine HI.out.mono ?_; rintro e w1 ⟨rfl, hb⟩; have HB := hide hb; clear HI hb)
  go_ret
  exact ⟨ret_bool HA.out, HB.out⟩

/-- a table that may be -/
def tblB (xs : List Fd) : Bool := decide (xs.length ≤ 8) && !xs.any noB && riseL (-1) xs && !twiceB xs
def tblE (xs : List Fd) : Int := if tblB xs = true then 0 else 130
theorem no_ok {xs : List Fd} (h : xs.any noB = false) : AllN xs := by
  intro x hx
  have h1 : noB x = false := by
    rw [List.any_eq_false] at h
    simpa using h x hx
  unfold noB at h1
  simp only [Bool.or_eq_false_iff, decide_eq_false_iff_not, Bool.not_eq_false'] at h1
  obtain ⟨⟨⟨h2, h3⟩, h4⟩, h5⟩ := h1
  have lt : ∀ a b, letsB a b = true → 48 ≤ a ∧ b ≤ 1279 := fun a b h => by
    simp only [letsB, letRows, List.any_cons, List.any_nil, Bool.or_false, Bool.or_eq_true, Bool.and_eq_true, decide_eq_true_iff] at h
    omega
  have := lt _ _ h4
  have := lt _ _ h5
  exact ⟨⟨by omega, by omega⟩, by omega, by omega, by omega, by omega⟩

theorem check_any (w : World) (v : Value) (xs : List Fd) (hT : Tbl w v xs) (hL : Let w) :
    Calls Tryd.prog 36 #[v] w fun e w' => e = .returned (.int .i64 (tblE xs)) ∧ Below w.heap.size w w' := by
  have HC := hide (containsNo_any w v xs hT hL)
  have HR : Hid (xs.any noB = false → ∀ W, Below w.heap.size w W → Calls Tryd.prog 61 #[v] W fun e w' => e = .returned (.bool (riseL (-1) xs)) ∧ Below W.heap.size W w') := fun h W hb => isRising_any W v xs (hT.below hb) (fun x hx => (no_ok h x hx).1)
  have HW : Hid (xs.any noB = false → ∀ W, Below w.heap.size w W → Calls Tryd.prog 62 #[v] W fun e w' => e = .returned (.bool (twiceB xs)) ∧ Below W.heap.size W w') := fun h W hb => foldsTwice_any W v xs (hT.below hb) (fun x hx => (no_ok h x hx).1)
  obtain ⟨ao, cap, rfl⟩ := hT.len
  have hmx := hT.max
  have HE : Hid (tblE xs = if (decide (xs.length ≤ 8) && !xs.any noB && riseL (-1) xs && !twiceB xs) = true then 0 else 130) := rfl
  generalize tblE xs = E at *
  generalize xs.any noB = A at *
  generalize riseL (-1) xs = B at *
  generalize twiceB xs = C at *
  generalize xs.length = n at *
  clear hT hL
  by_cases hn : n ≤ 8
  · have hn2 : ¬ (8 : Int) < (n : Int) := by omega
    cases A with
    | true =>
      have HE2 : Hid (E = 130) := by rw [HE.out]; simp [Hid]
      clear HR HW HE
      go_enter Tryd.func36, Tryd.ntmps36
      go_wp2_with (go_at_call 59; refine HC.out.mono ?_; rintro e w1 ⟨rfl, hb⟩; have HB := hide hb; clear HC hb)
      go_ret
      exact ⟨ret_int HE2.out.symm, HB.out⟩
    | false =>
      have HR2 := hide (HR.out rfl)
      have HW2 := hide (HW.out rfl)
      cases B with
      | false =>
        have HE2 : Hid (E = 130) := by rw [HE.out]; simp [Hid]
        clear HR HW HE HW2
        go_enter Tryd.func36, Tryd.ntmps36
        go_wp2_with (first
          | (go_at_call 59; refine HC.out.mono ?_; rintro e w1 ⟨rfl, hb⟩; have HB := hide hb; clear HC hb)
          | (go_at_call 61; refine (HR2.out w1 HB.out).mono ?_; rintro e w2 ⟨rfl, hb⟩; have HB2 := hide (HB.out.trans (hb.mono HB.out.size)); clear HR2 hb))
        go_ret
        exact ⟨ret_int HE2.out.symm, HB2.out⟩
      | true =>
        have HE2 : Hid (E = if C = true then 130 else 0) := by rw [HE.out]; cases C <;> simp [Hid, hn]
        clear HR HW HE
        cases C with
        | true =>
          go_enter Tryd.func36, Tryd.ntmps36
          go_wp2_with (first
            | (go_at_call 59; refine HC.out.mono ?_; rintro e w1 ⟨rfl, hb⟩; have HB := hide hb; clear HC hb)
            | (go_at_call 61; refine (HR2.out w1 HB.out).mono ?_; rintro e w2 ⟨rfl, hb⟩; have HB2 := hide (HB.out.trans (hb.mono HB.out.size)); clear HR2 hb)
            | (go_at_call 62; refine (HW2.out w2 HB2.out).mono ?_; rintro e w3 ⟨rfl, hb⟩; have HB3 := hide (HB2.out.trans (hb.mono HB2.out.size)); clear HW2 hb))
          go_ret
          exact ⟨ret_int (by rw [HE2.out]; rfl), HB3.out⟩
        | false =>
          go_enter Tryd.func36, Tryd.ntmps36
          go_wp2_with (first
            | (go_at_call 59; refine HC.out.mono ?_; rintro e w1 ⟨rfl, hb⟩; have HB := hide hb; clear HC hb)
            | (go_at_call 61; refine (HR2.out w1 HB.out).mono ?_; rintro e w2 ⟨rfl, hb⟩; have HB2 := hide (HB.out.trans (hb.mono HB.out.size)); clear HR2 hb)
            | (go_at_call 62; refine (HW2.out w2 HB2.out).mono ?_; rintro e w3 ⟨rfl, hb⟩; have HB3 := hide (HB2.out.trans (hb.mono HB2.out.size)); clear HW2 hb))
          go_ret
          exact ⟨ret_int (by rw [HE2.out]; rfl), HB3.out⟩
  · have hn2 : (8 : Int) < (n : Int) := by omega
    have HE2 : Hid (E = 130) := by rw [HE.out]; simp [Hid, hn]
    clear HR HW HE HC
    go_enter Tryd.func36, Tryd.ntmps36
    go_wp2
    go_ret
    exact ⟨ret_int HE2.out.symm, Below.refl _ w⟩

/-- the table, or the empty one in place of one that may not be -/
def useL (xs : List Fd) : List Fd := if tblB xs = true then xs else []
theorem useL_ok (xs : List Fd) : AllN (useL xs) := by
  unfold useL
  split
  · rename_i h
    unfold tblB at h
    simp only [Bool.and_eq_true, Bool.not_eq_true'] at h
    exact no_ok h.1.1.2
  · intro x hx; cases hx
theorem usable_any (w : World) (v : Value) (xs : List Fd) (hT : Tbl w v xs) (hL : Let w) :
    Calls Tryd.prog 85 #[v] w fun e w' => ∃ u, e = .returned u ∧ Tbl w u (useL xs) ∧ Below w.heap.size w w' := by
  have HC := hide (check_any w v xs hT hL)
  have HT := hide hT
  obtain ⟨ao, cap, rfl⟩ := hT.len
  cases hB : tblB xs with
  | true =>
    have HU : Hid (useL xs = xs) := if_pos hB
    rw [show tblE xs = 0 from if_pos hB] at HC
    clear hT hB
    go_enter Tryd.func85, Tryd.ntmps85
    go_wp2_with (go_at_call 36; refine HC.out.mono ?_; rintro e w1 ⟨rfl, hb⟩; have HB := hide hb; clear HC hb)
    go_ret
    exact ⟨_, rfl, by rw [HU.out]; exact HT.out, HB.out⟩
  | false =>
    have HU : Hid (useL xs = []) := if_neg (by rw [hB]; simp)
    rw [show tblE xs = 130 from if_neg (by rw [hB]; simp)] at HC
    clear hT hB
    go_enter Tryd.func85, Tryd.ntmps85
    go_wp2_with (go_at_call 36; refine HC.out.mono ?_; rintro e w1 ⟨rfl, hb⟩; have HB := hide hb; clear HC hb)
    go_ret
    exact ⟨_, rfl, by rw [HU.out]; exact Tbl.nil w, HB.out⟩


end Go.Proofs.YtimmfnjkknbofaaDoor
/- Contracts: slices.Clone and slices.Equal at tables, slices.Equal at runes; package fold's Letters. -/
namespace Go.Proofs.YtimmfnjkknbofaaDoor
set_option maxRecDepth 20000
open Go.RowKit
set_option linter.unusedVariables false
set_option linter.unusedSimpArgs false
set_option maxRecDepth 100000

theorem below_drewT {B : Nat} {a w : World} (h : Below B a w) (n : Nat) : Below B a (w.drewN n) := ⟨h.os, h.tape, h.output, h.size, h.block⟩
def fd3 (x : Fd) : List Value := [.int .i32 x.1, .int .i32 x.2.1, .int .i64 x.2.2]
def fdRow (xs : List Fd) : List Value := (xs.map fd3).flatten
theorem fdRow_len (xs : List Fd) : (fdRow xs).length = xs.length * 3 := by
  induction xs with
  | nil => rfl
  | cons x xs ih =>
    have e : fdRow (x :: xs) = fd3 x ++ fdRow xs := by simp [fdRow]
    rw [e, List.length_append, ih]
    simp [fd3]
    omega
theorem fdRow_at : ∀ (xs : List Fd) (i : Nat), i < xs.length → (fdRow xs)[i * 3]? = some (.int .i32 (xs.getD i (0, 0, 0)).1) ∧ (fdRow xs)[i * 3 + 1]? = some (.int .i32 (xs.getD i (0, 0, 0)).2.1) ∧ (fdRow xs)[i * 3 + 2]? = some (.int .i64 (xs.getD i (0, 0, 0)).2.2)
  | x :: xs, 0, _ => ⟨rfl, rfl, rfl⟩
  | x :: xs, i + 1, h => by
    have := fdRow_at xs i (by simpa using h)
    have e : fdRow (x :: xs) = fd3 x ++ fdRow xs := by simp [fdRow]
    rw [e]
    have l3 : (fd3 x).length = 3 := rfl
    rw [List.getElem?_append_right (by rw [l3]; omega), List.getElem?_append_right (by rw [l3]; omega), List.getElem?_append_right (by rw [l3]; omega), l3, show (i + 1) * 3 - 3 = i * 3 by omega, show (i + 1) * 3 + 1 - 3 = i * 3 + 1 by omega, show (i + 1) * 3 + 2 - 3 = i * 3 + 2 by omega]
    simpa using this
theorem infoFold : (Tryd.prog.info? 54).map (fun i => (i.zero, i.size, i.bytes)) = some (some (.agg #[.int .i32 0, .int .i32 0, .int .i64 0]), 3, 16) := by kernel_rfl
theorem tbl_of_own {w : World} {base : Nat} {v : Value} {xs : List Fd} (h : w.ownsRow base 54 3 v xs.length (fdRow xs)) (hok : ∀ x ∈ xs, FdOk x) : Tbl w v xs := by
  obtain ⟨ao, cap, rfl⟩ := own_form' h
  have hh := own_len h
  refine ⟨hok, ao, cap, rfl, hh.1, hh.2, fun hx => ?_⟩
  have hpos := List.length_pos_iff.2 hx
  cases ao with
  | none =>
    rcases h.2 with ⟨_, e⟩ | ⟨g, cap', sp, e, _⟩
    · omega
    · simp at e
  | some a =>
    rcases h.2 with ⟨e, _⟩ | ⟨g, cap', sp, e, _⟩
    · simp at e
    · simp only [Value.slice.injEq, Option.some.injEq] at e
      obtain ⟨rfl, _⟩ := e
      refine ⟨g, 0, rfl, fun i hi => ?_⟩
      obtain ⟨m0, m1, m2⟩ := fdRow_at xs i hi
      rw [Nat.zero_add]
      exact ⟨(World.ownsRow.cellAt h (i * 3) (by omega)).trans m0, (World.ownsRow.cellAt h (i * 3 + 1) (by omega)).trans m1, (World.ownsRow.cellAt h (i * 3 + 2) (by omega)).trans m2⟩
theorem run_eq_nil (a : Option Addr) (n c : Nat) (w : World) : (binOp .eql 22 (.slice a n c) (.slice none 0 0)).run Tryd.prog w = .ok (.bool a.isNone) w := by
  cases a <;> kernel_rfl

set_option maxHeartbeats 1000000 in
theorem cloneF_own (w : World) (v : Value) (xs : List Fd) (hT : Tbl w v xs) (hl : xs.length ≤ 1000) :
    Calls Tryd.prog 91 #[v] w fun e w' => ∃ u, e = .returned u ∧ Tbl w' u xs ∧ (∀ k, u.ownBlock = some k → w.heap.size ≤ k ∧ k < w'.heap.size) ∧ Below w.heap.size w w' := by
  obtain ⟨ao, cap, rfl⟩ := hT.len
  have HT := hide hT
  cases ao with
  | none =>
    have hx : xs = [] := by
      cases xs with
      | nil => rfl
      | cons x t =>
        obtain ⟨b, off, y, he, _⟩ := hT.at 0 (by simp)
        cases he
    subst hx
    have hq := run_eq_nil none 0 cap w
    clear hT
    simp only [List.length_nil]
    go_enter Tryd.func91, Tryd.ntmps91
    go_wp2
    go_ret
    exact ⟨_, rfl, Tbl.nil w, (fun _ h => (by cases h)), Below.refl _ w⟩
  | some a =>
    obtain ⟨i0, hi, hz, hs, hby⟩ := info_parts infoFold
    obtain ⟨W1, hW1⟩ : ∃ W1, w.alloc (.cells #[] 54) = W1 := ⟨_, rfl⟩
    have hb1 : Below w.heap.size w W1 := by rw [← hW1]; exact (Below.refl _ w).alloc (Nat.le_refl _) _
    have ho1 : W1.ownsRow w.heap.size 54 3 (.slice (some ⟨w.heap.size, 0, none⟩) 0 0) 0 [] := by
      rw [← hW1]
      exact ⟨rfl, .inr ⟨w.heap.size, 0, #[], rfl, Nat.le_refl _, heap_alloc_new w _, Nat.le_refl _, by simp [maxLen], by simp, rfl⟩⟩
    have hT1 := hT.below hb1
    have hsrc : ∀ j u, (fdRow xs)[j]? = some u → W1.cell? (a.add j) = some u := fun j u hj => by
      have hjl : j < xs.length * 3 := by have := (List.getElem?_eq_some_iff.1 hj).1; rwa [fdRow_len] at this
      obtain ⟨b, off, x, he, hx, _, q0, q1, q2⟩ := hT1.at (j / 3) (by omega)
      obtain rfl : a = ⟨b, off, none⟩ := by simpa using he
      obtain ⟨r0, r1, r2⟩ := fdRow_at xs (j / 3) (by omega)
      have hg : xs.getD (j / 3) (0, 0, 0) = x := by simp [List.getD, hx]
      rw [hg] at r0 r1 r2
      rw [Addr.add_mid]
      obtain h3 | h3 | h3 : j % 3 = 0 ∨ j % 3 = 1 ∨ j % 3 = 2 := by omega
      · rw [show j = j / 3 * 3 by omega, r0] at hj
        rw [show off + j = off + j / 3 * 3 by omega]
        exact q0.trans hj
      · rw [show j = j / 3 * 3 + 1 by omega, r1] at hj
        rw [show off + j = off + j / 3 * 3 + 1 by omega]
        exact q1.trans hj
      · rw [show j = j / 3 * 3 + 2 by omega, r2] at hj
        rw [show off + j = off + j / 3 * 3 + 2 by omega]
        exact q2.trans hj
    obtain ⟨v', w2, hr, h1, h2, _, _⟩ := run_append_own_at (P := Tryd.prog) W1 w.heap.size 22 22 54 i0 _ 3 16 Tryd.underlying22 hi hz hs hby rfl (by decide) _ 0 [] ho1 a xs.length cap (fdRow xs) (fdRow_len xs) hsrc (by
        intro u hu
        unfold fdRow at hu
        obtain ⟨r, hr, hu⟩ := List.mem_flatten.1 hu
        obtain ⟨x, _, rfl⟩ := List.mem_map.1 hr
        simp [fd3] at hu
        rcases hu with rfl | rfl | rfl <;> rfl) (by unfold maxLen; omega) (by omega) hb1.size
    have hq := run_eq_nil (some a) xs.length cap w
    have HR := hide hr
    have ho2 : w2.ownsRow w.heap.size 54 3 v' xs.length (fdRow xs) := by simpa using h1
    have HO := hide ho2
    have HB : Hid (Below w.heap.size w w2) := hb1.trans (((Only.refl _ W1).grown (S := fun q => q = w.heap.size) h2 (fun q e _ => by have := Option.some.inj e; simp only at this; exact this.symm)).below hb1.size (fun j hj e => by omega))
    clear hr h1 h2 ho1 ho2 hT hT1 hsrc hb1 hi hz hs hby
    go_enter Tryd.func91, Tryd.ntmps91
    go_wp2_with (at_builtin; (with_reducible refine wpList_append_run _ rfl (.tmp 5) (.tmp 6) 22 rfl _ _ ?_ ?_ _ _ HR.out ?_); exact rfl; exact rfl; clear HR)
    go_ret
    exact ⟨_, rfl, tbl_of_own HO.out HT.out.1, (fun k hk => World.ownsRow.lt HO.out k hk), HB.out⟩

theorem cloneF_any (w : World) (v : Value) (xs : List Fd) (hT : Tbl w v xs) (hl : xs.length ≤ 1000) :
    Calls Tryd.prog 91 #[v] w fun e w' => ∃ u, e = .returned u ∧ Tbl w' u xs ∧ Below w.heap.size w w' :=
  (cloneF_own w v xs hT hl).mono fun e w' ⟨u, h1, h2, _, h3⟩ => ⟨u, h1, h2, h3⟩

set_option maxHeartbeats 1000000 in
theorem equalF_same (w : World) (va vb : Value) (xs : List Fd) (ha : Tbl w va xs) (hb : Tbl w vb xs) : Calls Tryd.prog 42 #[va, vb] w fun e w' => e = .returned (.bool true) ∧ Below w.heap.size w w' := by
  obtain ⟨ao, ac, rfl⟩ := ha.len
  obtain ⟨bo, bc, rfl⟩ := hb.len
  have hma := ha.max
  have HA := hide ha
  have HB := hide hb
  obtain ⟨n, hn⟩ : ∃ n, xs.length = n := ⟨_, rfl⟩
  have HN := hide hn
  rw [hn] at HA HB hma ⊢
  clear ha hb hn
  go_enter Tryd.func42, Tryd.ntmps42
  go_wp2
  go_loopg [13] n (fun k i wr => ∃ j : Nat, k + j = n ∧ i = .int .i64 (j : Int) ∧ Below w.heap.size w wr)
  case atStart => exact ⟨0, rfl, rfl, Below.refl _ w⟩
  case round =>
    obtain ⟨j, hk, rfl, hbw⟩ := hrel
    have HBW := hide hbw
    clear hbw
    cases gk with
    | zero =>
      obtain rfl : j = n := by omega
      have hlt : ¬ (j : Int) < (j : Int) := by omega
      go_wp2
      go_ret
      exact ⟨rfl, HBW.out⟩
    | succ k =>
      have hj : (j : Int) < (n : Int) := by omega
      obtain ⟨b1, o1, ⟨f, t, m⟩, rfl, hx, _, q0, q1, q2⟩ := (HA.out.below HBW.out).at j (by rw [HN.out]; omega)
      obtain ⟨b2, o2, y, rfl, hy, _, u0, u1, u2⟩ := (HB.out.below HBW.out).at j (by rw [HN.out]; omega)
      obtain rfl : y = (f, t, m) := Option.some.inj (hy.symm.trans hx)
      simp only at q0 q1 q2 u0 u1 u2
      clear hx hy
      go_wp2
      go_quiet (fail)
      go_wp2
      go_roundg k
      case measure => omega
      case rel => exact ⟨j + 1, by omega, by go_num, below_drewT HBW.out _⟩

/-- a []rune that is read -/
def RnR (w : World) (v : Value) (xs : List Int) : Prop := ∃ ao cap, v = .slice ao xs.length cap ∧ xs.length ≤ 9223372036854775807 ∧ (xs ≠ [] → ∃ b off, ao = some ⟨b, off, none⟩ ∧ ∀ i, i < xs.length → w.cell? ⟨b, off + i, none⟩ = some (.int .i32 (xs.getD i 0)))
theorem RnR.below {w w' : World} {v : Value} {xs : List Int} (h : RnR w v xs) (hb : Below w.heap.size w w') : RnR w' v xs := by
  obtain ⟨ao, cap, rfl, h1, h3⟩ := h
  refine ⟨ao, cap, rfl, h1, fun hx => ?_⟩
  obtain ⟨b, off, rfl, hc⟩ := h3 hx
  exact ⟨b, off, rfl, fun i hi => (World.cell?_of_block (w := w) (a := ⟨b, _, none⟩) (hb.block b (World.block_lt_of_cell? w _ (hc i hi)))).trans (hc i hi)⟩
theorem RnR.at {w : World} {ao : Option Addr} {n cap : Nat} {xs : List Int} (h : RnR w (.slice ao n cap) xs) (i : Nat) (hi : i < xs.length) : ∃ b off, ao = some ⟨b, off, none⟩ ∧ w.cell? ⟨b, off + i, none⟩ = some (.int .i32 (xs.getD i 0)) := by
  obtain ⟨ao', cap', he, _, h3⟩ := h
  obtain ⟨rfl, _, _⟩ : ao = ao' ∧ n = xs.length ∧ cap = cap' := by simpa using he
  obtain ⟨b, off, rfl, hc⟩ := h3 (by intro h; simp [h] at hi)
  exact ⟨b, off, rfl, hc i hi⟩


end Go.Proofs.YtimmfnjkknbofaaDoor
