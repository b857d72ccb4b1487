/- Contracts: package fold's Letter and Width, utf8's ValidRune and RuneLen, the document's Letter. -/
import Derived.Test.YtfpphepjkpofiaaDoorFLet
namespace Go.Proofs.YtfpphepjkpofiaaDoor
set_option maxRecDepth 20000
open Go.RowKit
set_option linter.unusedVariables false
set_option linter.unusedSimpArgs false
set_option maxRecDepth 100000

def letB (r : Int) : Bool := letsB r r
def I32 (r : Int) : Prop := -2147483648 ≤ r ∧ r ≤ 2147483647
/-- r has a form -/
def runeB (r : Int) : Bool := decide (0 ≤ r) && decide (r ≤ 1114111) && !(decide (55296 ≤ r) && decide (r ≤ 57343))
/-- how many bytes r's form has -/
def widthN (r : Int) : Int := if runeB r then (if r < 128 then 1 else if r < 2048 then 2 else if r < 65536 then 3 else 4) else 3

theorem letter_any (w : World) (r : Int) (hr : I32 r) (hL : Let w) :
    Calls Tryd.prog 14 #[.int .i32 r] w fun e w' => e = .returned (.bool (letB r)) ∧ Below w.heap.size w w' := by
  have HC := hide (isLetters_any w r r hL)
  obtain ⟨h1, h2⟩ := hr
  have hb : Hid (letB r = letsB r r) := rfl
  rw [hb.out]
  clear hL hb
  go_enter Tryd.func14, Tryd.ntmps14
  go_wp2_with (go_at_call 33; refine HC.out.mono ?_; rintro e w1 ⟨rfl, hb⟩; have HBB := hide hb; clear HC hb)
  go_ret
  exact ⟨rfl, HBB.out⟩

theorem validRune_any (w : World) (r : Int) (hr : I32 r) :
    Calls Tryd.prog 34 #[.int .i32 r] w fun e w' => e = .returned (.bool (runeB r)) ∧ w' = w := by
  obtain ⟨h1, h2⟩ := hr
  have hc : r ≤ -1 ∨ (0 ≤ r ∧ r ≤ 55295) ∨ (55296 ≤ r ∧ r ≤ 57343) ∨ (57344 ≤ r ∧ r ≤ 1114111) ∨ 1114112 ≤ r := by omega
  rcases hc with h | h | h | h | h
  · have f0 : ¬ (0 : Int) ≤ r := by omega
    have f1 : r < (55296 : Int) := by omega
    have f2 : ¬ (57343 : Int) < r := by omega
    have f3 : r ≤ (1114111 : Int) := by omega
    have HH := hide h
    clear h
    go_enter Tryd.func34, Tryd.ntmps34
    go_wp2
    go_ret
    exact ⟨ret_bool (by have := HH.out; unfold runeB; simp; omega), rfl⟩
  · have f0 : (0 : Int) ≤ r := by omega
    have f1 : r < (55296 : Int) := by omega
    have f2 : ¬ (57343 : Int) < r := by omega
    have f3 : r ≤ (1114111 : Int) := by omega
    have HH := hide h
    clear h
    go_enter Tryd.func34, Tryd.ntmps34
    go_wp2
    go_ret
    exact ⟨ret_bool (by have := HH.out; unfold runeB; simp; omega), rfl⟩
  · have f0 : (0 : Int) ≤ r := by omega
    have f1 : ¬ r < (55296 : Int) := by omega
    have f2 : ¬ (57343 : Int) < r := by omega
    have f3 : r ≤ (1114111 : Int) := by omega
    have HH := hide h
    clear h
    go_enter Tryd.func34, Tryd.ntmps34
    go_wp2
    go_ret
    exact ⟨ret_bool (by have := HH.out; unfold runeB; simp; omega), rfl⟩
  · have f0 : (0 : Int) ≤ r := by omega
    have f1 : ¬ r < (55296 : Int) := by omega
    have f2 : (57343 : Int) < r := by omega
    have f3 : r ≤ (1114111 : Int) := by omega
    have HH := hide h
    clear h
    go_enter Tryd.func34, Tryd.ntmps34
    go_wp2
    go_ret
    exact ⟨ret_bool (by have := HH.out; unfold runeB; simp; omega), rfl⟩
  · have f0 : (0 : Int) ≤ r := by omega
    have f1 : ¬ r < (55296 : Int) := by omega
    have f2 : (57343 : Int) < r := by omega
    have f3 : ¬ r ≤ (1114111 : Int) := by omega
    have HH := hide h
    clear h
    go_enter Tryd.func34, Tryd.ntmps34
    go_wp2
    go_ret
    exact ⟨ret_bool (by have := HH.out; unfold runeB; simp; omega), rfl⟩

theorem runeLen_any (w : World) (r : Int) (hr : I32 r) (hv : runeB r = true) :
    Calls Tryd.prog 35 #[.int .i32 r] w fun e w' => e = .returned (.int .i64 (widthN r)) ∧ w' = w := by
  obtain ⟨h1, h2⟩ := hr
  have HV := hide hv
  have h0 : 0 ≤ r ∧ r ≤ 1114111 ∧ ¬ (55296 ≤ r ∧ r ≤ 57343) := by have hq := hv; simp [runeB] at hq; omega
  clear hv
  have hc : (0 ≤ r ∧ r ≤ 127) ∨ (128 ≤ r ∧ r ≤ 2047) ∨ (2048 ≤ r ∧ r ≤ 55295) ∨ (57344 ≤ r ∧ r ≤ 65535) ∨ (65536 ≤ r ∧ r ≤ 1114111) := by omega
  rcases hc with h | h | h | h | h
  · have f0 : ¬ r < (0 : Int) := by omega
    have f1 : r ≤ (127 : Int) := by omega
    have f2 : r ≤ (2047 : Int) := by omega
    have f3 : ¬ (55296 : Int) ≤ r := by omega
    have f4 : r ≤ (57343 : Int) := by omega
    have f5 : r ≤ (65535 : Int) := by omega
    have f6 : r ≤ (1114111 : Int) := by omega
    have HH := hide h
    clear h
    go_enter Tryd.func35, Tryd.ntmps35
    go_wp2
    go_ret
    exact ⟨ret_int (by have := HH.out; unfold widthN; rw [HV.out]; simp only [if_true]; repeat (first | rfl | (rw [if_pos (by omega)]) | (rw [if_neg (by omega)]))), rfl⟩
  · have f0 : ¬ r < (0 : Int) := by omega
    have f1 : ¬ r ≤ (127 : Int) := by omega
    have f2 : r ≤ (2047 : Int) := by omega
    have f3 : ¬ (55296 : Int) ≤ r := by omega
    have f4 : r ≤ (57343 : Int) := by omega
    have f5 : r ≤ (65535 : Int) := by omega
    have f6 : r ≤ (1114111 : Int) := by omega
    have HH := hide h
    clear h
    go_enter Tryd.func35, Tryd.ntmps35
    go_wp2
    go_ret
    exact ⟨ret_int (by have := HH.out; unfold widthN; rw [HV.out]; simp only [if_true]; repeat (first | rfl | (rw [if_pos (by omega)]) | (rw [if_neg (by omega)]))), rfl⟩
  · have f0 : ¬ r < (0 : Int) := by omega
    have f1 : ¬ r ≤ (127 : Int) := by omega
    have f2 : ¬ r ≤ (2047 : Int) := by omega
    have f3 : ¬ (55296 : Int) ≤ r := by omega
    have f4 : r ≤ (57343 : Int) := by omega
    have f5 : r ≤ (65535 : Int) := by omega
    have f6 : r ≤ (1114111 : Int) := by omega
    have HH := hide h
    clear h
    go_enter Tryd.func35, Tryd.ntmps35
    go_wp2
    go_ret
    exact ⟨ret_int (by have := HH.out; unfold widthN; rw [HV.out]; simp only [if_true]; repeat (first | rfl | (rw [if_pos (by omega)]) | (rw [if_neg (by omega)]))), rfl⟩
  · have f0 : ¬ r < (0 : Int) := by omega
    have f1 : ¬ r ≤ (127 : Int) := by omega
    have f2 : ¬ r ≤ (2047 : Int) := by omega
    have f3 : (55296 : Int) ≤ r := by omega
    have f4 : ¬ r ≤ (57343 : Int) := by omega
    have f5 : r ≤ (65535 : Int) := by omega
    have f6 : r ≤ (1114111 : Int) := by omega
    have HH := hide h
    clear h
    go_enter Tryd.func35, Tryd.ntmps35
    go_wp2
    go_ret
    exact ⟨ret_int (by have := HH.out; unfold widthN; rw [HV.out]; simp only [if_true]; repeat (first | rfl | (rw [if_pos (by omega)]) | (rw [if_neg (by omega)]))), rfl⟩
  · have f0 : ¬ r < (0 : Int) := by omega
    have f1 : ¬ r ≤ (127 : Int) := by omega
    have f2 : ¬ r ≤ (2047 : Int) := by omega
    have f3 : (55296 : Int) ≤ r := by omega
    have f4 : ¬ r ≤ (57343 : Int) := by omega
    have f5 : ¬ r ≤ (65535 : Int) := by omega
    have f6 : r ≤ (1114111 : Int) := by omega
    have HH := hide h
    clear h
    go_enter Tryd.func35, Tryd.ntmps35
    go_wp2
    go_ret
    exact ⟨ret_int (by have := HH.out; unfold widthN; rw [HV.out]; simp only [if_true]; repeat (first | rfl | (rw [if_pos (by omega)]) | (rw [if_neg (by omega)]))), rfl⟩

theorem width_any (w : World) (r : Int) (hr : I32 r) :
    Calls Tryd.prog 16 #[.int .i32 r] w fun e w' => e = .returned (.int .i64 (widthN r)) ∧ w' = w := by
  have HC := hide (validRune_any w r hr)
  have HD := hide (runeLen_any w r hr)
  clear hr
  cases hv : runeB r
  · rw [hv] at HC
    have hw3 : Hid (widthN r = 3) := by unfold Hid widthN; rw [hv]; rfl
    go_enter Tryd.func16, Tryd.ntmps16
    go_wp2_with (go_at_call 34; refine HC.out.mono ?_; rintro e w1 ⟨rfl, hw⟩; subst w1; clear HC)
    go_ret
    exact ⟨ret_int hw3.out.symm, rfl⟩
  · have HE := hide (HD.out hv)
    clear HD
    have hx := hide hv
    rw [hv] at HC
    go_enter Tryd.func16, Tryd.ntmps16
    go_wp2_with (first | (go_at_call 34; refine HC.out.mono ?_; rintro e w1 ⟨rfl, hw⟩; subst w1; clear HC) | (go_at_call 35; refine HE.out.mono ?_; rintro e w1 ⟨rfl, hw⟩; subst w1; clear HE))
    go_ret
    exact ⟨rfl, rfl⟩

set_option maxHeartbeats 1000000 in
theorem refLetter_any (w : World) (r : Int) (hr : I32 r) :
    Calls Tryd.prog 15 #[.int .i32 r] w fun e w' => e = .returned (.bool (letB r)) ∧ w' = w := by
  obtain ⟨h1, h2⟩ := hr
  have hc : r ≤ 47 ∨ (48 ≤ r ∧ r ≤ 57) ∨ (58 ≤ r ∧ r ≤ 64) ∨ (65 ≤ r ∧ r ≤ 90) ∨ (91 ≤ r ∧ r ≤ 96) ∨ (97 ≤ r ∧ r ≤ 122) ∨ (123 ≤ r ∧ r ≤ 191) ∨ (192 ≤ r ∧ r ≤ 214) ∨ r = 215 ∨ (216 ≤ r ∧ r ≤ 246) ∨ r = 247 ∨ (248 ≤ r ∧ r ≤ 591) ∨ (592 ≤ r ∧ r ≤ 879) ∨ (880 ≤ r ∧ r ≤ 1279) ∨ 1280 ≤ r := by omega
  rcases hc with h | h | h | h | h | h | h | h | h | h | h | h | h | h | h
  · have f0 : ¬ (48 : Int) ≤ r := by omega
    have f1 : r ≤ (57 : Int) := by omega
    have f2 : ¬ (97 : Int) ≤ r := by omega
    have f3 : r ≤ (122 : Int) := by omega
    have f4 : ¬ (65 : Int) ≤ r := by omega
    have f5 : r ≤ (90 : Int) := by omega
    have f6 : (r == (215 : Int)) = false := beq_false_of_ne (by omega)
    have f7 : (r == (247 : Int)) = false := beq_false_of_ne (by omega)
    have f8 : ¬ (192 : Int) ≤ r := by omega
    have f9 : r ≤ (591 : Int) := by omega
    have f10 : ¬ (880 : Int) ≤ r := by omega
    have f11 : r ≤ (1279 : Int) := by omega
    have HH := hide h
    clear h
    go_enter Tryd.func15, Tryd.ntmps15
    go_wp2
    go_ret
    exact ⟨ret_bool (by have := HH.out; clear HH; simp [letB, letsB, letRows] <;> omega), rfl⟩
  · have f0 : (48 : Int) ≤ r := by omega
    have f1 : r ≤ (57 : Int) := by omega
    have f2 : ¬ (97 : Int) ≤ r := by omega
    have f3 : r ≤ (122 : Int) := by omega
    have f4 : ¬ (65 : Int) ≤ r := by omega
    have f5 : r ≤ (90 : Int) := by omega
    have f6 : (r == (215 : Int)) = false := beq_false_of_ne (by omega)
    have f7 : (r == (247 : Int)) = false := beq_false_of_ne (by omega)
    have f8 : ¬ (192 : Int) ≤ r := by omega
    have f9 : r ≤ (591 : Int) := by omega
    have f10 : ¬ (880 : Int) ≤ r := by omega
    have f11 : r ≤ (1279 : Int) := by omega
    have HH := hide h
    clear h
    go_enter Tryd.func15, Tryd.ntmps15
    go_wp2
    go_ret
    exact ⟨ret_bool (by have := HH.out; clear HH; simp [letB, letsB, letRows] <;> omega), rfl⟩
  · have f0 : (48 : Int) ≤ r := by omega
    have f1 : ¬ r ≤ (57 : Int) := by omega
    have f2 : ¬ (97 : Int) ≤ r := by omega
    have f3 : r ≤ (122 : Int) := by omega
    have f4 : ¬ (65 : Int) ≤ r := by omega
    have f5 : r ≤ (90 : Int) := by omega
    have f6 : (r == (215 : Int)) = false := beq_false_of_ne (by omega)
    have f7 : (r == (247 : Int)) = false := beq_false_of_ne (by omega)
    have f8 : ¬ (192 : Int) ≤ r := by omega
    have f9 : r ≤ (591 : Int) := by omega
    have f10 : ¬ (880 : Int) ≤ r := by omega
    have f11 : r ≤ (1279 : Int) := by omega
    have HH := hide h
    clear h
    go_enter Tryd.func15, Tryd.ntmps15
    go_wp2
    go_ret
    exact ⟨ret_bool (by have := HH.out; clear HH; simp [letB, letsB, letRows] <;> omega), rfl⟩
  · have f0 : (48 : Int) ≤ r := by omega
    have f1 : ¬ r ≤ (57 : Int) := by omega
    have f2 : ¬ (97 : Int) ≤ r := by omega
    have f3 : r ≤ (122 : Int) := by omega
    have f4 : (65 : Int) ≤ r := by omega
    have f5 : r ≤ (90 : Int) := by omega
    have f6 : (r == (215 : Int)) = false := beq_false_of_ne (by omega)
    have f7 : (r == (247 : Int)) = false := beq_false_of_ne (by omega)
    have f8 : ¬ (192 : Int) ≤ r := by omega
    have f9 : r ≤ (591 : Int) := by omega
    have f10 : ¬ (880 : Int) ≤ r := by omega
    have f11 : r ≤ (1279 : Int) := by omega
    have HH := hide h
    clear h
    go_enter Tryd.func15, Tryd.ntmps15
    go_wp2
    go_ret
    exact ⟨ret_bool (by have := HH.out; clear HH; simp [letB, letsB, letRows] <;> omega), rfl⟩
  · have f0 : (48 : Int) ≤ r := by omega
    have f1 : ¬ r ≤ (57 : Int) := by omega
    have f2 : ¬ (97 : Int) ≤ r := by omega
    have f3 : r ≤ (122 : Int) := by omega
    have f4 : (65 : Int) ≤ r := by omega
    have f5 : ¬ r ≤ (90 : Int) := by omega
    have f6 : (r == (215 : Int)) = false := beq_false_of_ne (by omega)
    have f7 : (r == (247 : Int)) = false := beq_false_of_ne (by omega)
    have f8 : ¬ (192 : Int) ≤ r := by omega
    have f9 : r ≤ (591 : Int) := by omega
    have f10 : ¬ (880 : Int) ≤ r := by omega
    have f11 : r ≤ (1279 : Int) := by omega
    have HH := hide h
    clear h
    go_enter Tryd.func15, Tryd.ntmps15
    go_wp2
    go_ret
    exact ⟨ret_bool (by have := HH.out; clear HH; simp [letB, letsB, letRows] <;> omega), rfl⟩
  · have f0 : (48 : Int) ≤ r := by omega
    have f1 : ¬ r ≤ (57 : Int) := by omega
    have f2 : (97 : Int) ≤ r := by omega
    have f3 : r ≤ (122 : Int) := by omega
    have f4 : (65 : Int) ≤ r := by omega
    have f5 : ¬ r ≤ (90 : Int) := by omega
    have f6 : (r == (215 : Int)) = false := beq_false_of_ne (by omega)
    have f7 : (r == (247 : Int)) = false := beq_false_of_ne (by omega)
    have f8 : ¬ (192 : Int) ≤ r := by omega
    have f9 : r ≤ (591 : Int) := by omega
    have f10 : ¬ (880 : Int) ≤ r := by omega
    have f11 : r ≤ (1279 : Int) := by omega
    have HH := hide h
    clear h
    go_enter Tryd.func15, Tryd.ntmps15
    go_wp2
    go_ret
    exact ⟨ret_bool (by have := HH.out; clear HH; simp [letB, letsB, letRows] <;> omega), rfl⟩
  · have f0 : (48 : Int) ≤ r := by omega
    have f1 : ¬ r ≤ (57 : Int) := by omega
    have f2 : (97 : Int) ≤ r := by omega
    have f3 : ¬ r ≤ (122 : Int) := by omega
    have f4 : (65 : Int) ≤ r := by omega
    have f5 : ¬ r ≤ (90 : Int) := by omega
    have f6 : (r == (215 : Int)) = false := beq_false_of_ne (by omega)
    have f7 : (r == (247 : Int)) = false := beq_false_of_ne (by omega)
    have f8 : ¬ (192 : Int) ≤ r := by omega
    have f9 : r ≤ (591 : Int) := by omega
    have f10 : ¬ (880 : Int) ≤ r := by omega
    have f11 : r ≤ (1279 : Int) := by omega
    have HH := hide h
    clear h
    go_enter Tryd.func15, Tryd.ntmps15
    go_wp2
    go_ret
    exact ⟨ret_bool (by have := HH.out; clear HH; simp [letB, letsB, letRows] <;> omega), rfl⟩
  · have f0 : (48 : Int) ≤ r := by omega
    have f1 : ¬ r ≤ (57 : Int) := by omega
    have f2 : (97 : Int) ≤ r := by omega
    have f3 : ¬ r ≤ (122 : Int) := by omega
    have f4 : (65 : Int) ≤ r := by omega
    have f5 : ¬ r ≤ (90 : Int) := by omega
    have f6 : (r == (215 : Int)) = false := beq_false_of_ne (by omega)
    have f7 : (r == (247 : Int)) = false := beq_false_of_ne (by omega)
    have f8 : (192 : Int) ≤ r := by omega
    have f9 : r ≤ (591 : Int) := by omega
    have f10 : ¬ (880 : Int) ≤ r := by omega
    have f11 : r ≤ (1279 : Int) := by omega
    have HH := hide h
    clear h
    go_enter Tryd.func15, Tryd.ntmps15
    go_wp2
    go_ret
    exact ⟨ret_bool (by have := HH.out; clear HH; simp [letB, letsB, letRows] <;> omega), rfl⟩
  · have f0 : (48 : Int) ≤ r := by omega
    have f1 : ¬ r ≤ (57 : Int) := by omega
    have f2 : (97 : Int) ≤ r := by omega
    have f3 : ¬ r ≤ (122 : Int) := by omega
    have f4 : (65 : Int) ≤ r := by omega
    have f5 : ¬ r ≤ (90 : Int) := by omega
    have f6 : (r == (215 : Int)) = true := (by rw [h]; rfl)
    have f7 : (r == (247 : Int)) = false := beq_false_of_ne (by omega)
    have f8 : (192 : Int) ≤ r := by omega
    have f9 : r ≤ (591 : Int) := by omega
    have f10 : ¬ (880 : Int) ≤ r := by omega
    have f11 : r ≤ (1279 : Int) := by omega
    have HH := hide h
    clear h
    go_enter Tryd.func15, Tryd.ntmps15
    go_wp2
    go_ret
    exact ⟨ret_bool (by have := HH.out; clear HH; simp [letB, letsB, letRows] <;> omega), rfl⟩
  · have f0 : (48 : Int) ≤ r := by omega
    have f1 : ¬ r ≤ (57 : Int) := by omega
    have f2 : (97 : Int) ≤ r := by omega
    have f3 : ¬ r ≤ (122 : Int) := by omega
    have f4 : (65 : Int) ≤ r := by omega
    have f5 : ¬ r ≤ (90 : Int) := by omega
    have f6 : (r == (215 : Int)) = false := beq_false_of_ne (by omega)
    have f7 : (r == (247 : Int)) = false := beq_false_of_ne (by omega)
    have f8 : (192 : Int) ≤ r := by omega
    have f9 : r ≤ (591 : Int) := by omega
    have f10 : ¬ (880 : Int) ≤ r := by omega
    have f11 : r ≤ (1279 : Int) := by omega
    have HH := hide h
    clear h
    go_enter Tryd.func15, Tryd.ntmps15
    go_wp2
    go_ret
    exact ⟨ret_bool (by have := HH.out; clear HH; simp [letB, letsB, letRows] <;> omega), rfl⟩
  · have f0 : (48 : Int) ≤ r := by omega
    have f1 : ¬ r ≤ (57 : Int) := by omega
    have f2 : (97 : Int) ≤ r := by omega
    have f3 : ¬ r ≤ (122 : Int) := by omega
    have f4 : (65 : Int) ≤ r := by omega
    have f5 : ¬ r ≤ (90 : Int) := by omega
    have f6 : (r == (215 : Int)) = false := beq_false_of_ne (by omega)
    have f7 : (r == (247 : Int)) = true := (by rw [h]; rfl)
    have f8 : (192 : Int) ≤ r := by omega
    have f9 : r ≤ (591 : Int) := by omega
    have f10 : ¬ (880 : Int) ≤ r := by omega
    have f11 : r ≤ (1279 : Int) := by omega
    have HH := hide h
    clear h
    go_enter Tryd.func15, Tryd.ntmps15
    go_wp2
    go_ret
    exact ⟨ret_bool (by have := HH.out; clear HH; simp [letB, letsB, letRows] <;> omega), rfl⟩
  · have f0 : (48 : Int) ≤ r := by omega
    have f1 : ¬ r ≤ (57 : Int) := by omega
    have f2 : (97 : Int) ≤ r := by omega
    have f3 : ¬ r ≤ (122 : Int) := by omega
    have f4 : (65 : Int) ≤ r := by omega
    have f5 : ¬ r ≤ (90 : Int) := by omega
    have f6 : (r == (215 : Int)) = false := beq_false_of_ne (by omega)
    have f7 : (r == (247 : Int)) = false := beq_false_of_ne (by omega)
    have f8 : (192 : Int) ≤ r := by omega
    have f9 : r ≤ (591 : Int) := by omega
    have f10 : ¬ (880 : Int) ≤ r := by omega
    have f11 : r ≤ (1279 : Int) := by omega
    have HH := hide h
    clear h
    go_enter Tryd.func15, Tryd.ntmps15
    go_wp2
    go_ret
    exact ⟨ret_bool (by have := HH.out; clear HH; simp [letB, letsB, letRows] <;> omega), rfl⟩
  · have f0 : (48 : Int) ≤ r := by omega
    have f1 : ¬ r ≤ (57 : Int) := by omega
    have f2 : (97 : Int) ≤ r := by omega
    have f3 : ¬ r ≤ (122 : Int) := by omega
    have f4 : (65 : Int) ≤ r := by omega
    have f5 : ¬ r ≤ (90 : Int) := by omega
    have f6 : (r == (215 : Int)) = false := beq_false_of_ne (by omega)
    have f7 : (r == (247 : Int)) = false := beq_false_of_ne (by omega)
    have f8 : (192 : Int) ≤ r := by omega
    have f9 : ¬ r ≤ (591 : Int) := by omega
    have f10 : ¬ (880 : Int) ≤ r := by omega
    have f11 : r ≤ (1279 : Int) := by omega
    have HH := hide h
    clear h
    go_enter Tryd.func15, Tryd.ntmps15
    go_wp2
    go_ret
    exact ⟨ret_bool (by have := HH.out; clear HH; simp [letB, letsB, letRows] <;> omega), rfl⟩
  · have f0 : (48 : Int) ≤ r := by omega
    have f1 : ¬ r ≤ (57 : Int) := by omega
    have f2 : (97 : Int) ≤ r := by omega
    have f3 : ¬ r ≤ (122 : Int) := by omega
    have f4 : (65 : Int) ≤ r := by omega
    have f5 : ¬ r ≤ (90 : Int) := by omega
    have f6 : (r == (215 : Int)) = false := beq_false_of_ne (by omega)
    have f7 : (r == (247 : Int)) = false := beq_false_of_ne (by omega)
    have f8 : (192 : Int) ≤ r := by omega
    have f9 : ¬ r ≤ (591 : Int) := by omega
    have f10 : (880 : Int) ≤ r := by omega
    have f11 : r ≤ (1279 : Int) := by omega
    have HH := hide h
    clear h
    go_enter Tryd.func15, Tryd.ntmps15
    go_wp2
    go_ret
    exact ⟨ret_bool (by have := HH.out; clear HH; simp [letB, letsB, letRows] <;> omega), rfl⟩
  · have f0 : (48 : Int) ≤ r := by omega
    have f1 : ¬ r ≤ (57 : Int) := by omega
    have f2 : (97 : Int) ≤ r := by omega
    have f3 : ¬ r ≤ (122 : Int) := by omega
    have f4 : (65 : Int) ≤ r := by omega
    have f5 : ¬ r ≤ (90 : Int) := by omega
    have f6 : (r == (215 : Int)) = false := beq_false_of_ne (by omega)
    have f7 : (r == (247 : Int)) = false := beq_false_of_ne (by omega)
    have f8 : (192 : Int) ≤ r := by omega
    have f9 : ¬ r ≤ (591 : Int) := by omega
    have f10 : (880 : Int) ≤ r := by omega
    have f11 : ¬ r ≤ (1279 : Int) := by omega
    have HH := hide h
    clear h
    go_enter Tryd.func15, Tryd.ntmps15
    go_wp2
    go_ret
    exact ⟨ret_bool (by have := HH.out; clear HH; simp [letB, letsB, letRows] <;> omega), rfl⟩

end Go.Proofs.YtfpphepjkpofiaaDoor
