/- Contract: which range folds a rune, by the document (incipitref13.folds). Pure: what the document asks of a table is what the code asks. -/
import Derived.Test.YtfpphepjkpofiaaDoorFTwo
namespace Go.Proofs.YtfpphepjkpofiaaDoor
set_option maxRecDepth 20000
open Go.RowKit
set_option linter.unusedVariables false
set_option linter.unusedSimpArgs false
set_option maxRecDepth 100000

/-- where the first range stands that folds r -/
def atL : List Fd → Int → Nat → Int
  | [], _, _ => -1
  | x :: xs, r, j => if x.1 ≤ r ∧ r - x.1 < x.2.2 then (j : Int) else atL xs r (j + 1)
theorem atL_yes {x : Fd} {xs : List Fd} {r : Int} {j : Nat} (h : x.1 ≤ r ∧ r - x.1 < x.2.2) : atL (x :: xs) r j = (j : Int) := if_pos h
theorem atL_no {x : Fd} {xs : List Fd} {r : Int} {j : Nat} (h : ¬ (x.1 ≤ r ∧ r - x.1 < x.2.2)) : atL (x :: xs) r j = atL xs r (j + 1) := if_neg h
theorem below_drewG {B : Nat} {a w : World} (h : Below B a w) (n : Nat) : Below B a (w.drewN n) := ⟨h.os, h.tape, h.output, h.size, h.block⟩

set_option maxHeartbeats 1000000 in
theorem refFolds_any (w : World) (v : Value) (xs : List Fd) (r : Int) (hT : Tbl w v xs) (hr : I32 r) :
    Calls Tryd.prog 41 #[v, .int .i32 r] w fun e w' => e = .returned (.int .i64 (atL xs r 0)) ∧ Below w.heap.size w w' := by
  obtain ⟨ao, cap, rfl⟩ := hT.len
  have hmx := hT.max
  have HT := hide hT
  obtain ⟨n, hn⟩ : ∃ n, xs.length = n := ⟨_, rfl⟩
  have HL := hide hn
  rw [hn] at HT hmx ⊢
  have hrw : IntKind.i64.wrap r = r := IntWalk.i64_in _ ⟨by have := hr.1; omega, by have := hr.2; omega⟩
  obtain ⟨hr1, hr2⟩ := hr
  clear hT hn
  go_enter Tryd.func41, Tryd.ntmps41
  go_wp2
  go_loopg [5] n (fun k i wr => ∃ j : Nat, k + j = n ∧ i = .int .i64 (j : Int) ∧ atL (xs.drop j) r j = atL xs r 0 ∧ Below w.heap.size w wr)
  case atStart => exact ⟨0, rfl, rfl, rfl, Below.refl _ w⟩
  case round =>
    obtain ⟨j, hk, rfl, hs, hbw⟩ := hrel
    have HS := hide hs
    have HB := hide hbw
    clear hs hbw
    cases gk with
    | zero =>
      obtain rfl : j = n := by omega
      have hlt : ¬ (j : Int) < (j : Int) := by omega
      go_wp2
      go_ret
      exact ⟨ret_int (by rw [← HS.out, List.drop_eq_nil_of_le (by rw [HL.out]; exact Nat.le_refl _)]; rfl), HB.out⟩
    | succ k =>
      have hj : (j : Int) < (n : Int) := by omega
      obtain ⟨b, off, ⟨f, t, m⟩, rfl, hx, hok, q0, q1, q2⟩ := (HT.out.below HB.out).at j (by rw [HL.out]; omega)
      simp only at q0 q1 q2
      have hd := drop_at hx
      obtain ⟨⟨hf1, hf2⟩, ⟨ht1, ht2⟩, hm1, hm2⟩ := hok
      simp only at hf1 hf2 ht1 ht2 hm1 hm2
      have hfw : IntKind.i64.wrap f = f := IntWalk.i64_in _ ⟨by omega, by omega⟩
      obtain ⟨D, hD⟩ : ∃ D, r - f = D := ⟨_, rfl⟩
      have hDw : IntKind.i64.wrap D = D := IntWalk.i64_in _ ⟨by omega, by omega⟩
      have HD := hide hd
      have HDD := hide hD
      clear hx hd
      by_cases h1 : f ≤ r
      · have hd1 : decide (f ≤ r) = true := decide_eq_true h1
        by_cases h2 : D < m
        · have HR : Hid (atL xs r 0 = (j : Int)) := by rw [← HS.out, HD.out]; exact atL_yes ⟨h1, by simp only; rw [HDD.out]; exact h2⟩
          have hd2 : decide (D < m) = true := decide_eq_true h2
          go_wp2
          go_quiet (fail)
          go_wp2
          go_ret
          exact ⟨ret_int HR.out.symm, below_drewG HB.out _⟩
        · have HR : Hid (atL (xs.drop (j + 1)) r (j + 1) = atL xs r 0) := by rw [← HS.out, HD.out]; exact (atL_no (fun h => h2 (by have := h.2; simp only at this; rwa [HDD.out] at this))).symm
          have hd2 : decide (D < m) = false := decide_eq_false h2
          go_wp2
          go_quiet (fail)
          go_wp2
          go_roundg k
          case measure => omega
          case rel => exact ⟨j + 1, by omega, by go_num, HR.out, below_drewG HB.out _⟩
      · have HR : Hid (atL (xs.drop (j + 1)) r (j + 1) = atL xs r 0) := by rw [← HS.out, HD.out]; exact (atL_no (fun h => h1 h.1)).symm
        have hd1 : decide (f ≤ r) = false := decide_eq_false h1
        go_wp2
        go_quiet (fail)
        go_wp2
        go_roundg k
        case measure => omega
        case rel => exact ⟨j + 1, by omega, by go_num, HR.out, below_drewG HB.out _⟩

/-! ### what may be a table, by the document -/
theorem lets_all {a b : Int} (hab : a ≤ b) (h : ∀ r, a ≤ r → r ≤ b → letB r = true) : letsB a b = true := by
  have key : ∀ r, a ≤ r → r ≤ b → (48 ≤ r ∧ r ≤ 57) ∨ (65 ≤ r ∧ r ≤ 90) ∨ (97 ≤ r ∧ r ≤ 122) ∨ (192 ≤ r ∧ r ≤ 214) ∨ (216 ≤ r ∧ r ≤ 246) ∨ (248 ≤ r ∧ r ≤ 591) ∨ (880 ≤ r ∧ r ≤ 1279) := fun r h1 h2 => by
    have := h r h1 h2
    simpa only [letB, letsB, letRows, List.any_cons, List.any_nil, Bool.or_false, Bool.or_eq_true, Bool.and_eq_true, decide_eq_true_iff] using this
  have ka := key a (Int.le_refl _) hab
  have kb := key b hab (Int.le_refl _)
  have e1 := key 58
  have e2 := key 91
  have e3 := key 123
  have e4 := key 215
  have e5 := key 247
  have e6 := key 592
  simp only [letsB, letRows, List.any_cons, List.any_nil, Bool.or_false, Bool.or_eq_true, Bool.and_eq_true, decide_eq_true_iff]
  omega
theorem noB_iff (x : Fd) : noB x = false ↔ NOk x.2.2 ∧ ∀ k : Nat, (k : Int) < x.2.2 → letB (x.1 + k) = true ∧ letB (x.2.1 + k) = true := by
  constructor
  · intro h
    obtain ⟨hn, l1, l2⟩ := no_lets h
    exact ⟨hn, fun k hk => ⟨lets_at l1 (by omega) (by omega), lets_at l2 (by omega) (by omega)⟩⟩
  · rintro ⟨⟨h1, h2⟩, h⟩
    have l1 : letsB x.1 (x.1 + x.2.2 - 1) = true := lets_all (by omega) (fun r a b => by
      have := (h (r - x.1).toNat (by omega)).1
      rwa [show x.1 + (((r - x.1).toNat : Nat) : Int) = r by omega] at this)
    have l2 : letsB x.2.1 (x.2.1 + x.2.2 - 1) = true := lets_all (by omega) (fun r a b => by
      have := (h (r - x.2.1).toNat (by omega)).2
      rwa [show x.2.1 + (((r - x.2.1).toNat : Nat) : Int) = r by omega] at this)
    unfold noB
    rw [l1, l2, decide_eq_false (show ¬ x.2.2 < 1 by omega), decide_eq_false (show ¬ 256 < x.2.2 by omega)]
    rfl
theorem letB_range {r : Int} (h : letB r = true) : 48 ≤ r ∧ r ≤ 1279 := by
  simp only [letB, letsB, letRows, List.any_cons, List.any_nil, Bool.or_false, Bool.or_eq_true, Bool.and_eq_true, decide_eq_true_iff] at h
  omega
def okR : Int → List Fd → Bool
  | _, [] => true
  | z, x :: xs => !noB x && !decide (x.1 ≤ z) && okR (x.1 + x.2.2 - 1) xs
theorem okR_all : ∀ (z : Int) (xs : List Fd), okR z xs = (!xs.any noB && riseL z xs)
  | _, [] => rfl
  | z, x :: xs => by
    unfold okR riseL
    rw [okR_all]
    simp only [List.any_cons]
    cases noB x <;> cases decide (x.1 ≤ z) <;> cases xs.any noB <;> simp
theorem tblB_eq (xs : List Fd) : tblB xs = (decide (xs.length ≤ 8) && okR (-1) xs && !twiceB xs) := by
  unfold tblB
  rw [okR_all]
  cases decide (xs.length ≤ 8) <;> simp
theorem atL_none : ∀ (xs : List Fd) (r : Int) (j : Nat), 0 ≤ atL xs r j ↔ ∃ y ∈ xs, y.1 ≤ r ∧ r - y.1 < y.2.2
  | [], r, j => by simp [atL]
  | x :: xs, r, j => by
    unfold atL
    by_cases h : x.1 ≤ r ∧ r - x.1 < x.2.2
    · rw [if_pos h]
      exact ⟨fun _ => ⟨x, List.mem_cons_self .., h⟩, fun _ => by omega⟩
    · rw [if_neg h, atL_none xs r (j + 1)]
      constructor
      · rintro ⟨y, hy, h1⟩; exact ⟨y, List.mem_cons_of_mem _ hy, h1⟩
      · rintro ⟨y, hy, h1⟩
        rcases List.mem_cons.1 hy with rfl | hy
        · exact absurd h1 h
        · exact ⟨y, hy, h1⟩
theorem twoB_iff (x : Fd) (xs : List Fd) (hx : 1 ≤ x.2.2) (hxs : ∀ y ∈ xs, 1 ≤ y.2.2) : twoB x xs = true ↔ ∃ k : Nat, (k : Int) < x.2.2 ∧ 0 ≤ atL xs (x.2.1 + k) 0 := by
  unfold twoB
  rw [List.any_eq_true]
  constructor
  · rintro ⟨y, hy, h⟩
    simp only [meetB, Bool.and_eq_true, decide_eq_true_iff] at h
    have hyn := hxs y hy
    by_cases hc : y.1 ≤ x.2.1
    · exact ⟨0, by omega, (atL_none _ _ _).2 ⟨y, hy, by omega, by omega⟩⟩
    · exact ⟨(y.1 - x.2.1).toNat, by omega, (atL_none _ _ _).2 ⟨y, hy, by omega, by omega⟩⟩
  · rintro ⟨k, hk, h⟩
    obtain ⟨y, hy, h1, h2⟩ := (atL_none _ _ _).1 h
    refine ⟨y, hy, ?_⟩
    simp only [meetB, Bool.and_eq_true, decide_eq_true_iff]
    omega

end Go.Proofs.YtfpphepjkpofiaaDoor
