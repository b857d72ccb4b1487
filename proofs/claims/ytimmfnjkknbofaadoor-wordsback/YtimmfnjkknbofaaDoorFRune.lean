/- Contracts: package fold's Letter and Width, utf8's ValidRune and RuneLen, the document's Letter. -/
import Derived.Test.YtimmfnjkknbofaaDoorFLet
namespace Go.Proofs.YtimmfnjkknbofaaDoor
set_option maxRecDepth 20000
open Go.RowKit
set_option linter.unusedVariables false
set_option linter.unusedSimpArgs false
set_option maxRecDepth 100000

def letB (r : Int) : Bool := letsB r r
def I32 (r : Int) : Prop := -2147483648 ≤ r ∧ r ≤ 2147483647
/-- r has a form -/
def runeB (r : Int) : Bool := decide (0 ≤ r) && decide (r ≤ 1114111) && !(decide (55296 ≤ r) && decide (r ≤ 57343))
/-- how many bytes r's form has -/
def widthN (r : Int) : Int := if runeB r then (if r < 128 then 1 else if r < 2048 then 2 else if r < 65536 then 3 else 4) else 3

theorem letter_any (w : World) (r : Int) (hr : I32 r) (hL : Let w) :
    Calls Tryd.prog 67 #[.int .i32 r] w fun e w' => e = .returned (.bool (letB r)) ∧ Below w.heap.size w w' := by
  have HC := hide (isLetters_any w r r hL)
  obtain ⟨h1, h2⟩ := hr
  have hb : Hid (letB r = letsB r r) := rfl
  rw [hb.out]
  clear hL hb
  go_enter Tryd.func67, Tryd.ntmps67
  go_wp2_with (go_at_call 81; refine HC.out.mono ?_; rintro e w1 ⟨rfl, hb⟩; have HBB := hide hb; clear HC hb)
  go_ret
  exact ⟨rfl, HBB.out⟩




set_option maxHeartbeats 1000000 in
theorem refLetter_any (w : World) (r : Int) (hr : I32 r) :
    Calls Tryd.prog 40 #[.int .i32 r] w fun e w' => e = .returned (.bool (letB r)) ∧ w' = w := by
  obtain ⟨h1, h2⟩ := hr
  have hc : r ≤ 47 ∨ (48 ≤ r ∧ r ≤ 57) ∨ (58 ≤ r ∧ r ≤ 64) ∨ (65 ≤ r ∧ r ≤ 90) ∨ (91 ≤ r ∧ r ≤ 96) ∨ (97 ≤ r ∧ r ≤ 122) ∨ (123 ≤ r ∧ r ≤ 191) ∨ (192 ≤ r ∧ r ≤ 214) ∨ r = 215 ∨ (216 ≤ r ∧ r ≤ 246) ∨ r = 247 ∨ (248 ≤ r ∧ r ≤ 591) ∨ (592 ≤ r ∧ r ≤ 879) ∨ (880 ≤ r ∧ r ≤ 1279) ∨ 1280 ≤ r := by omega
  rcases hc with h | h | h | h | h | h | h | h | h | h | h | h | h | h | h
  · have f0 : ¬ (48 : Int) ≤ r := by omega
    have f1 : r ≤ (57 : Int) := by omega
    have f2 : ¬ (97 : Int) ≤ r := by omega
    have f3 : r ≤ (122 : Int) := by omega
    have f4 : ¬ (65 : Int) ≤ r := by omega
    have f5 : r ≤ (90 : Int) := by omega
    have f6 : (r == (215 : Int)) = false := beq_false_of_ne (by omega)
    have f7 : (r == (247 : Int)) = false := beq_false_of_ne (by omega)
    have f8 : ¬ (192 : Int) ≤ r := by omega
    have f9 : r ≤ (591 : Int) := by omega
    have f10 : ¬ (880 : Int) ≤ r := by omega
    have f11 : r ≤ (1279 : Int) := by omega
    have HH := hide h
    clear h
    go_enter Tryd.func40, Tryd.ntmps40
    go_wp2
    go_ret
    exact ⟨ret_bool (by have := HH.out; clear HH; simp [letB, letsB, letRows] <;> omega), rfl⟩
  · have f0 : (48 : Int) ≤ r := by omega
    have f1 : r ≤ (57 : Int) := by omega
    have f2 : ¬ (97 : Int) ≤ r := by omega
    have f3 : r ≤ (122 : Int) := by omega
    have f4 : ¬ (65 : Int) ≤ r := by omega
    have f5 : r ≤ (90 : Int) := by omega
    have f6 : (r == (215 : Int)) = false := beq_false_of_ne (by omega)
    have f7 : (r == (247 : Int)) = false := beq_false_of_ne (by omega)
    have f8 : ¬ (192 : Int) ≤ r := by omega
    have f9 : r ≤ (591 : Int) := by omega
    have f10 : ¬ (880 : Int) ≤ r := by omega
    have f11 : r ≤ (1279 : Int) := by omega
    have HH := hide h
    clear h
    go_enter Tryd.func40, Tryd.ntmps40
    go_wp2
    go_ret
    exact ⟨ret_bool (by have := HH.out; clear HH; simp [letB, letsB, letRows] <;> omega), rfl⟩
  · have f0 : (48 : Int) ≤ r := by omega
    have f1 : ¬ r ≤ (57 : Int) := by omega
    have f2 : ¬ (97 : Int) ≤ r := by omega
    have f3 : r ≤ (122 : Int) := by omega
    have f4 : ¬ (65 : Int) ≤ r := by omega
    have f5 : r ≤ (90 : Int) := by omega
    have f6 : (r == (215 : Int)) = false := beq_false_of_ne (by omega)
    have f7 : (r == (247 : Int)) = false := beq_false_of_ne (by omega)
    have f8 : ¬ (192 : Int) ≤ r := by omega
    have f9 : r ≤ (591 : Int) := by omega
    have f10 : ¬ (880 : Int) ≤ r := by omega
    have f11 : r ≤ (1279 : Int) := by omega
    have HH := hide h
    clear h
    go_enter Tryd.func40, Tryd.ntmps40
    go_wp2
    go_ret
    exact ⟨ret_bool (by have := HH.out; clear HH; simp [letB, letsB, letRows] <;> omega), rfl⟩
  · have f0 : (48 : Int) ≤ r := by omega
    have f1 : ¬ r ≤ (57 : Int) := by omega
    have f2 : ¬ (97 : Int) ≤ r := by omega
    have f3 : r ≤ (122 : Int) := by omega
    have f4 : (65 : Int) ≤ r := by omega
    have f5 : r ≤ (90 : Int) := by omega
    have f6 : (r == (215 : Int)) = false := beq_false_of_ne (by omega)
    have f7 : (r == (247 : Int)) = false := beq_false_of_ne (by omega)
    have f8 : ¬ (192 : Int) ≤ r := by omega
    have f9 : r ≤ (591 : Int) := by omega
    have f10 : ¬ (880 : Int) ≤ r := by omega
    have f11 : r ≤ (1279 : Int) := by omega
    have HH := hide h
    clear h
    go_enter Tryd.func40, Tryd.ntmps40
    go_wp2
    go_ret
    exact ⟨ret_bool (by have := HH.out; clear HH; simp [letB, letsB, letRows] <;> omega), rfl⟩
  · have f0 : (48 : Int) ≤ r := by omega
    have f1 : ¬ r ≤ (57 : Int) := by omega
    have f2 : ¬ (97 : Int) ≤ r := by omega
    have f3 : r ≤ (122 : Int) := by omega
    have f4 : (65 : Int) ≤ r := by omega
    have f5 : ¬ r ≤ (90 : Int) := by omega
    have f6 : (r == (215 : Int)) = false := beq_false_of_ne (by omega)
    have f7 : (r == (247 : Int)) = false := beq_false_of_ne (by omega)
    have f8 : ¬ (192 : Int) ≤ r := by omega
    have f9 : r ≤ (591 : Int) := by omega
    have f10 : ¬ (880 : Int) ≤ r := by omega
    have f11 : r ≤ (1279 : Int) := by omega
    have HH := hide h
    clear h
    go_enter Tryd.func40, Tryd.ntmps40
    go_wp2
    go_ret
    exact ⟨ret_bool (by have := HH.out; clear HH; simp [letB, letsB, letRows] <;> omega), rfl⟩
  · have f0 : (48 : Int) ≤ r := by omega
    have f1 : ¬ r ≤ (57 : Int) := by omega
    have f2 : (97 : Int) ≤ r := by omega
    have f3 : r ≤ (122 : Int) := by omega
    have f4 : (65 : Int) ≤ r := by omega
    have f5 : ¬ r ≤ (90 : Int) := by omega
    have f6 : (r == (215 : Int)) = false := beq_false_of_ne (by omega)
    have f7 : (r == (247 : Int)) = false := beq_false_of_ne (by omega)
    have f8 : ¬ (192 : Int) ≤ r := by omega
    have f9 : r ≤ (591 : Int) := by omega
    have f10 : ¬ (880 : Int) ≤ r := by omega
    have f11 : r ≤ (1279 : Int) := by omega
    have HH := hide h
    clear h
    go_enter Tryd.func40, Tryd.ntmps40
    go_wp2
    go_ret
    exact ⟨ret_bool (by have := HH.out; clear HH; simp [letB, letsB, letRows] <;> omega), rfl⟩
  · have f0 : (48 : Int) ≤ r := by omega
    have f1 : ¬ r ≤ (57 : Int) := by omega
    have f2 : (97 : Int) ≤ r := by omega
    have f3 : ¬ r ≤ (122 : Int) := by omega
    have f4 : (65 : Int) ≤ r := by omega
    have f5 : ¬ r ≤ (90 : Int) := by omega
    have f6 : (r == (215 : Int)) = false := beq_false_of_ne (by omega)
    have f7 : (r == (247 : Int)) = false := beq_false_of_ne (by omega)
    have f8 : ¬ (192 : Int) ≤ r := by omega
    have f9 : r ≤ (591 : Int) := by omega
    have f10 : ¬ (880 : Int) ≤ r := by omega
    have f11 : r ≤ (1279 : Int) := by omega
    have HH := hide h
    clear h
    go_enter Tryd.func40, Tryd.ntmps40
    go_wp2
    go_ret
    exact ⟨ret_bool (by have := HH.out; clear HH; simp [letB, letsB, letRows] <;> omega), rfl⟩
  · have f0 : (48 : Int) ≤ r := by omega
    have f1 : ¬ r ≤ (57 : Int) := by omega
    have f2 : (97 : Int) ≤ r := by omega
    have f3 : ¬ r ≤ (122 : Int) := by omega
    have f4 : (65 : Int) ≤ r := by omega
    have f5 : ¬ r ≤ (90 : Int) := by omega
    have f6 : (r == (215 : Int)) = false := beq_false_of_ne (by omega)
    have f7 : (r == (247 : Int)) = false := beq_false_of_ne (by omega)
    have f8 : (192 : Int) ≤ r := by omega
    have f9 : r ≤ (591 : Int) := by omega
    have f10 : ¬ (880 : Int) ≤ r := by omega
    have f11 : r ≤ (1279 : Int) := by omega
    have HH := hide h
    clear h
    go_enter Tryd.func40, Tryd.ntmps40
    go_wp2
    go_ret
    exact ⟨ret_bool (by have := HH.out; clear HH; simp [letB, letsB, letRows] <;> omega), rfl⟩
  · have f0 : (48 : Int) ≤ r := by omega
    have f1 : ¬ r ≤ (57 : Int) := by omega
    have f2 : (97 : Int) ≤ r := by omega
    have f3 : ¬ r ≤ (122 : Int) := by omega
    have f4 : (65 : Int) ≤ r := by omega
    have f5 : ¬ r ≤ (90 : Int) := by omega
    have f6 : (r == (215 : Int)) = true := (by rw [h]; rfl)
    have f7 : (r == (247 : Int)) = false := beq_false_of_ne (by omega)
    have f8 : (192 : Int) ≤ r := by omega
    have f9 : r ≤ (591 : Int) := by omega
    have f10 : ¬ (880 : Int) ≤ r := by omega
    have f11 : r ≤ (1279 : Int) := by omega
    have HH := hide h
    clear h
    go_enter Tryd.func40, Tryd.ntmps40
    go_wp2
    go_ret
    exact ⟨ret_bool (by have := HH.out; clear HH; simp [letB, letsB, letRows] <;> omega), rfl⟩
  · have f0 : (48 : Int) ≤ r := by omega
    have f1 : ¬ r ≤ (57 : Int) := by omega
    have f2 : (97 : Int) ≤ r := by omega
    have f3 : ¬ r ≤ (122 : Int) := by omega
    have f4 : (65 : Int) ≤ r := by omega
    have f5 : ¬ r ≤ (90 : Int) := by omega
    have f6 : (r == (215 : Int)) = false := beq_false_of_ne (by omega)
    have f7 : (r == (247 : Int)) = false := beq_false_of_ne (by omega)
    have f8 : (192 : Int) ≤ r := by omega
    have f9 : r ≤ (591 : Int) := by omega
    have f10 : ¬ (880 : Int) ≤ r := by omega
    have f11 : r ≤ (1279 : Int) := by omega
    have HH := hide h
    clear h
    go_enter Tryd.func40, Tryd.ntmps40
    go_wp2
    go_ret
    exact ⟨ret_bool (by have := HH.out; clear HH; simp [letB, letsB, letRows] <;> omega), rfl⟩
  · have f0 : (48 : Int) ≤ r := by omega
    have f1 : ¬ r ≤ (57 : Int) := by omega
    have f2 : (97 : Int) ≤ r := by omega
    have f3 : ¬ r ≤ (122 : Int) := by omega
    have f4 : (65 : Int) ≤ r := by omega
    have f5 : ¬ r ≤ (90 : Int) := by omega
    have f6 : (r == (215 : Int)) = false := beq_false_of_ne (by omega)
    have f7 : (r == (247 : Int)) = true := (by rw [h]; rfl)
    have f8 : (192 : Int) ≤ r := by omega
    have f9 : r ≤ (591 : Int) := by omega
    have f10 : ¬ (880 : Int) ≤ r := by omega
    have f11 : r ≤ (1279 : Int) := by omega
    have HH := hide h
    clear h
    go_enter Tryd.func40, Tryd.ntmps40
    go_wp2
    go_ret
    exact ⟨ret_bool (by have := HH.out; clear HH; simp [letB, letsB, letRows] <;> omega), rfl⟩
  · have f0 : (48 : Int) ≤ r := by omega
    have f1 : ¬ r ≤ (57 : Int) := by omega
    have f2 : (97 : Int) ≤ r := by omega
    have f3 : ¬ r ≤ (122 : Int) := by omega
    have f4 : (65 : Int) ≤ r := by omega
    have f5 : ¬ r ≤ (90 : Int) := by omega
    have f6 : (r == (215 : Int)) = false := beq_false_of_ne (by omega)
    have f7 : (r == (247 : Int)) = false := beq_false_of_ne (by omega)
    have f8 : (192 : Int) ≤ r := by omega
    have f9 : r ≤ (591 : Int) := by omega
    have f10 : ¬ (880 : Int) ≤ r := by omega
    have f11 : r ≤ (1279 : Int) := by omega
    have HH := hide h
    clear h
    go_enter Tryd.func40, Tryd.ntmps40
    go_wp2
    go_ret
    exact ⟨ret_bool (by have := HH.out; clear HH; simp [letB, letsB, letRows] <;> omega), rfl⟩
  · have f0 : (48 : Int) ≤ r := by omega
    have f1 : ¬ r ≤ (57 : Int) := by omega
    have f2 : (97 : Int) ≤ r := by omega
    have f3 : ¬ r ≤ (122 : Int) := by omega
    have f4 : (65 : Int) ≤ r := by omega
    have f5 : ¬ r ≤ (90 : Int) := by omega
    have f6 : (r == (215 : Int)) = false := beq_false_of_ne (by omega)
    have f7 : (r == (247 : Int)) = false := beq_false_of_ne (by omega)
    have f8 : (192 : Int) ≤ r := by omega
    have f9 : ¬ r ≤ (591 : Int) := by omega
    have f10 : ¬ (880 : Int) ≤ r := by omega
    have f11 : r ≤ (1279 : Int) := by omega
    have HH := hide h
    clear h
    go_enter Tryd.func40, Tryd.ntmps40
    go_wp2
    go_ret
    exact ⟨ret_bool (by have := HH.out; clear HH; simp [letB, letsB, letRows] <;> omega), rfl⟩
  · have f0 : (48 : Int) ≤ r := by omega
    have f1 : ¬ r ≤ (57 : Int) := by omega
    have f2 : (97 : Int) ≤ r := by omega
    have f3 : ¬ r ≤ (122 : Int) := by omega
    have f4 : (65 : Int) ≤ r := by omega
    have f5 : ¬ r ≤ (90 : Int) := by omega
    have f6 : (r == (215 : Int)) = false := beq_false_of_ne (by omega)
    have f7 : (r == (247 : Int)) = false := beq_false_of_ne (by omega)
    have f8 : (192 : Int) ≤ r := by omega
    have f9 : ¬ r ≤ (591 : Int) := by omega
    have f10 : (880 : Int) ≤ r := by omega
    have f11 : r ≤ (1279 : Int) := by omega
    have HH := hide h
    clear h
    go_enter Tryd.func40, Tryd.ntmps40
    go_wp2
    go_ret
    exact ⟨ret_bool (by have := HH.out; clear HH; simp [letB, letsB, letRows] <;> omega), rfl⟩
  · have f0 : (48 : Int) ≤ r := by omega
    have f1 : ¬ r ≤ (57 : Int) := by omega
    have f2 : (97 : Int) ≤ r := by omega
    have f3 : ¬ r ≤ (122 : Int) := by omega
    have f4 : (65 : Int) ≤ r := by omega
    have f5 : ¬ r ≤ (90 : Int) := by omega
    have f6 : (r == (215 : Int)) = false := beq_false_of_ne (by omega)
    have f7 : (r == (247 : Int)) = false := beq_false_of_ne (by omega)
    have f8 : (192 : Int) ≤ r := by omega
    have f9 : ¬ r ≤ (591 : Int) := by omega
    have f10 : (880 : Int) ≤ r := by omega
    have f11 : ¬ r ≤ (1279 : Int) := by omega
    have HH := hide h
    clear h
    go_enter Tryd.func40, Tryd.ntmps40
    go_wp2
    go_ret
    exact ⟨ret_bool (by have := HH.out; clear HH; simp [letB, letsB, letRows] <;> omega), rfl⟩

end Go.Proofs.YtimmfnjkknbofaaDoor
