/- Contracts: package fold's Check, usable, Rune, Plain (slices.ContainsFunc and IndexFunc at isNoRange). -/
import Derived.Test.YtimmfnjkknbofaaDoorFTw
namespace Go.Proofs.YtimmfnjkknbofaaDoor
set_option maxRecDepth 20000
open Go.RowKit
set_option linter.unusedVariables false
set_option linter.unusedSimpArgs false
set_option maxRecDepth 100000

/-- where the first range stands that may be in no table -/
def noAt : List Fd → Nat → Int
  | [], _ => -1
  | x :: xs, j => if noB x = true then (j : Int) else noAt xs (j + 1)
theorem noAt_any : ∀ (xs : List Fd) (j : Nat), decide (0 ≤ noAt xs j) = xs.any noB
  | [], _ => rfl
  | x :: xs, j => by
    unfold noAt
    cases h : noB x with
    | true => simp [h]
    | false => simp [h, noAt_any xs (j + 1)]

set_option maxHeartbeats 2000000 in
theorem indexNo_any (w : World) (v : Value) (xs : List Fd) (hT : Tbl w v xs) (hL : Let w) :
    Calls Tryd.prog 79 #[v, .func (.func 60) #[] #[]] w fun e w' => e = .returned (.int .i64 (noAt xs 0)) ∧ Below w.heap.size w w' := by
  obtain ⟨ao, cap, rfl⟩ := hT.len
  have hmx := hT.max
  have HT := hide hT
  have HL := hide hL
  obtain ⟨n, hn⟩ : ∃ n, xs.length = n := ⟨_, rfl⟩
  have HN := hide hn
  rw [hn] at HT hmx ⊢
  clear hT hL hn
  go_enter Tryd.func79, Tryd.ntmps79
  go_wp2
  go_loopg [8] n (fun k i wr => ∃ j : Nat, k + j = n ∧ i = .int .i64 (j : Int) ∧ noAt (xs.drop j) j = noAt xs 0 ∧ Below w.heap.size w wr)
  case atStart => exact ⟨0, rfl, rfl, rfl, Below.refl _ w⟩
  case round =>
    obtain ⟨j, hk, rfl, hs, hbw⟩ := hrel
    have HS := hide hs
    have HB := hide hbw
    clear hs hbw
    cases gk with
    | zero =>
      obtain rfl : j = n := by omega
      have hlt : ¬ (j : Int) < (j : Int) := by omega
      go_wp2
      go_ret
      exact ⟨ret_int (by rw [← HS.out, List.drop_eq_nil_of_le (by rw [HN.out]; exact Nat.le_refl _)]; rfl), HB.out⟩
    | succ k =>
      have hj : (j : Int) < (n : Int) := by omega
      obtain ⟨b, off, ⟨f, t, m⟩, rfl, hx, hok, q0, q1, q2⟩ := (HT.out.below HB.out).at j (by rw [HN.out]; omega)
      simp only at q0 q1 q2
      have hd := drop_at hx
      have HF := hide (isNoRange_any wr f t m hok.1 hok.2.1 (HL.out.below HB.out))
      obtain ⟨A, hA⟩ : ∃ A, noB (f, t, m) = A := ⟨_, rfl⟩
      rw [hA] at HF
      cases A with
      | true =>
        have HR : Hid (noAt xs 0 = (j : Int)) := by rw [← HS.out, hd]; exact if_pos hA
        clear hx hok hd hA
        go_wp2_with (go_at_call 60; refine HF.out.mono ?_; rintro e w1 ⟨rfl, hb⟩; have HB1 := hide (HB.out.trans (hb.mono HB.out.size)); clear HF hb)
        go_ret
        exact ⟨ret_int HR.out.symm, HB1.out⟩
      | false =>
        have HR : Hid (noAt (xs.drop (j + 1)) (j + 1) = noAt xs 0) := by rw [← HS.out, hd]; exact (if_neg (by rw [hA]; simp)).symm
        clear hx hok hd hA
        go_wp2_with (go_at_call 60; refine HF.out.mono ?_; rintro e w1 ⟨rfl, hb⟩; have HB1 := hide (HB.out.trans (hb.mono HB.out.size)); clear HF hb)
        go_roundg k
        case measure => omega
        case rel => exact ⟨j + 1, by omega, by go_num, HR.out, HB1.out⟩

theorem containsNo_any (w : World) (v : Value) (xs : List Fd) (hT : Tbl w v xs) (hL : Let w) :
    Calls Tryd.prog 59 #[v, .func (.func 60) #[] #[]] w fun e w' => e = .returned (.bool (xs.any noB)) ∧ Below w.heap.size w w' := by
  obtain ⟨ao, cap, rfl⟩ := hT.len
  have HI := hide (indexNo_any w _ xs hT hL)
  have HA := hide (noAt_any xs 0)
  generalize noAt xs 0 = z at *
  generalize xs.any noB = A at *
  clear hT hL
  go_enter Tryd.func59, Tryd.ntmps59
  go_wp2_with (go_at_call 79; refine HI.out.mono ?_; rintro e w1 ⟨rfl, hb⟩; have HB := hide hb; clear HI hb)
  go_ret
  exact ⟨ret_bool HA.out, HB.out⟩

/-- a table that may be -/
def tblB (xs : List Fd) : Bool := decide (xs.length ≤ 8) && !xs.any noB && riseL (-1) xs && !twiceB xs
def tblE (xs : List Fd) : Int := if tblB xs = true then 0 else 130
theorem no_ok {xs : List Fd} (h : xs.any noB = false) : AllN xs := by
  intro x hx
  have h1 : noB x = false := by
    rw [List.any_eq_false] at h
    simpa using h x hx
  unfold noB at h1
  simp only [Bool.or_eq_false_iff, decide_eq_false_iff_not, Bool.not_eq_false'] at h1
  obtain ⟨⟨⟨h2, h3⟩, h4⟩, h5⟩ := h1
  have lt : ∀ a b, letsB a b = true → 48 ≤ a ∧ b ≤ 1279 := fun a b h => by
    simp only [letsB, letRows, List.any_cons, List.any_nil, Bool.or_false, Bool.or_eq_true, Bool.and_eq_true, decide_eq_true_iff] at h
    omega
  have := lt _ _ h4
  have := lt _ _ h5
  exact ⟨⟨by omega, by omega⟩, by omega, by omega, by omega, by omega⟩

theorem check_any (w : World) (v : Value) (xs : List Fd) (hT : Tbl w v xs) (hL : Let w) :
    Calls Tryd.prog 36 #[v] w fun e w' => e = .returned (.int .i64 (tblE xs)) ∧ Below w.heap.size w w' := by
  have HC := hide (containsNo_any w v xs hT hL)
  have HR : Hid (xs.any noB = false → ∀ W, Below w.heap.size w W → Calls Tryd.prog 61 #[v] W fun e w' => e = .returned (.bool (riseL (-1) xs)) ∧ Below W.heap.size W w') := fun h W hb => isRising_any W v xs (hT.below hb) (fun x hx => (no_ok h x hx).1)
  have HW : Hid (xs.any noB = false → ∀ W, Below w.heap.size w W → Calls Tryd.prog 62 #[v] W fun e w' => e = .returned (.bool (twiceB xs)) ∧ Below W.heap.size W w') := fun h W hb => foldsTwice_any W v xs (hT.below hb) (fun x hx => (no_ok h x hx).1)
  obtain ⟨ao, cap, rfl⟩ := hT.len
  have hmx := hT.max
  have HE : Hid (tblE xs = if (decide (xs.length ≤ 8) && !xs.any noB && riseL (-1) xs && !twiceB xs) = true then 0 else 130) := rfl
  generalize tblE xs = E at *
  generalize xs.any noB = A at *
  generalize riseL (-1) xs = B at *
  generalize twiceB xs = C at *
  generalize xs.length = n at *
  clear hT hL
  by_cases hn : n ≤ 8
  · have hn2 : ¬ (8 : Int) < (n : Int) := by omega
    cases A with
    | true =>
      have HE2 : Hid (E = 130) := by rw [HE.out]; simp [Hid]
      clear HR HW HE
      go_enter Tryd.func36, Tryd.ntmps36
      go_wp2_with (go_at_call 59; refine HC.out.mono ?_; rintro e w1 ⟨rfl, hb⟩; have HB := hide hb; clear HC hb)
      go_ret
      exact ⟨ret_int HE2.out.symm, HB.out⟩
    | false =>
      have HR2 := hide (HR.out rfl)
      have HW2 := hide (HW.out rfl)
      cases B with
      | false =>
        have HE2 : Hid (E = 130) := by rw [HE.out]; simp [Hid]
        clear HR HW HE HW2
        go_enter Tryd.func36, Tryd.ntmps36
        go_wp2_with (first
          | (go_at_call 59; refine HC.out.mono ?_; rintro e w1 ⟨rfl, hb⟩; have HB := hide hb; clear HC hb)
          | (go_at_call 61; refine (HR2.out w1 HB.out).mono ?_; rintro e w2 ⟨rfl, hb⟩; have HB2 := hide (HB.out.trans (hb.mono HB.out.size)); clear HR2 hb))
        go_ret
        exact ⟨ret_int HE2.out.symm, HB2.out⟩
      | true =>
        have HE2 : Hid (E = if C = true then 130 else 0) := by rw [HE.out]; cases C <;> simp [Hid, hn]
        clear HR HW HE
        cases C with
        | true =>
          go_enter Tryd.func36, Tryd.ntmps36
          go_wp2_with (first
            | (go_at_call 59; refine HC.out.mono ?_; rintro e w1 ⟨rfl, hb⟩; have HB := hide hb; clear HC hb)
            | (go_at_call 61; refine (HR2.out w1 HB.out).mono ?_; rintro e w2 ⟨rfl, hb⟩; have HB2 := hide (HB.out.trans (hb.mono HB.out.size)); clear HR2 hb)
            | (go_at_call 62; refine (HW2.out w2 HB2.out).mono ?_; rintro e w3 ⟨rfl, hb⟩; have HB3 := hide (HB2.out.trans (hb.mono HB2.out.size)); clear HW2 hb))
          go_ret
          exact ⟨ret_int (by rw [HE2.out]; rfl), HB3.out⟩
        | false =>
          go_enter Tryd.func36, Tryd.ntmps36
          go_wp2_with (first
            | (go_at_call 59; refine HC.out.mono ?_; rintro e w1 ⟨rfl, hb⟩; have HB := hide hb; clear HC hb)
            | (go_at_call 61; refine (HR2.out w1 HB.out).mono ?_; rintro e w2 ⟨rfl, hb⟩; have HB2 := hide (HB.out.trans (hb.mono HB.out.size)); clear HR2 hb)
            | (go_at_call 62; refine (HW2.out w2 HB2.out).mono ?_; rintro e w3 ⟨rfl, hb⟩; have HB3 := hide (HB2.out.trans (hb.mono HB2.out.size)); clear HW2 hb))
          go_ret
          exact ⟨ret_int (by rw [HE2.out]; rfl), HB3.out⟩
  · have hn2 : (8 : Int) < (n : Int) := by omega
    have HE2 : Hid (E = 130) := by rw [HE.out]; simp [Hid, hn]
    clear HR HW HE HC
    go_enter Tryd.func36, Tryd.ntmps36
    go_wp2
    go_ret
    exact ⟨ret_int HE2.out.symm, Below.refl _ w⟩

/-- the table, or the empty one in place of one that may not be -/
def useL (xs : List Fd) : List Fd := if tblB xs = true then xs else []
theorem useL_ok (xs : List Fd) : AllN (useL xs) := by
  unfold useL
  split
  · rename_i h
    unfold tblB at h
    simp only [Bool.and_eq_true, Bool.not_eq_true'] at h
    exact no_ok h.1.1.2
  · intro x hx; cases hx
theorem usable_any (w : World) (v : Value) (xs : List Fd) (hT : Tbl w v xs) (hL : Let w) :
    Calls Tryd.prog 85 #[v] w fun e w' => ∃ u, e = .returned u ∧ Tbl w u (useL xs) ∧ Below w.heap.size w w' := by
  have HC := hide (check_any w v xs hT hL)
  have HT := hide hT
  obtain ⟨ao, cap, rfl⟩ := hT.len
  cases hB : tblB xs with
  | true =>
    have HU : Hid (useL xs = xs) := if_pos hB
    rw [show tblE xs = 0 from if_pos hB] at HC
    clear hT hB
    go_enter Tryd.func85, Tryd.ntmps85
    go_wp2_with (go_at_call 36; refine HC.out.mono ?_; rintro e w1 ⟨rfl, hb⟩; have HB := hide hb; clear HC hb)
    go_ret
    exact ⟨_, rfl, by rw [HU.out]; exact HT.out, HB.out⟩
  | false =>
    have HU : Hid (useL xs = []) := if_neg (by rw [hB]; simp)
    rw [show tblE xs = 130 from if_neg (by rw [hB]; simp)] at HC
    clear hT hB
    go_enter Tryd.func85, Tryd.ntmps85
    go_wp2_with (go_at_call 36; refine HC.out.mono ?_; rintro e w1 ⟨rfl, hb⟩; have HB := hide hb; clear HC hb)
    go_ret
    exact ⟨_, rfl, by rw [HU.out]; exact Tbl.nil w, HB.out⟩


end Go.Proofs.YtimmfnjkknbofaaDoor
