/- Contracts: package fold's Letter and Width, utf8's ValidRune and RuneLen, the document's Letter. -/
import Derived.Test.YtimmfnjkknbofaaDoorJFLet
namespace Go.Proofs.YtimmfnjkknbofaaDoor
set_option maxRecDepth 20000
open Go.RowKit
set_option linter.unusedVariables false
set_option linter.unusedSimpArgs false
set_option maxRecDepth 100000

def letB (r : Int) : Bool := letsB r r
def I32 (r : Int) : Prop := -2147483648 ≤ r ∧ r ≤ 2147483647
/-- r has a form -/
def runeB (r : Int) : Bool := decide (0 ≤ r) && decide (r ≤ 1114111) && !(decide (55296 ≤ r) && decide (r ≤ 57343))
/-- how many bytes r's form has -/
def widthN (r : Int) : Int := if runeB r then (if r < 128 then 1 else if r < 2048 then 2 else if r < 65536 then 3 else 4) else 3

theorem letter_any (w : World) (r : Int) (hr : I32 r) (hL : Let w) :
    Calls Tryd.prog 67 #[.int .i32 r] w fun e w' => e = .returned (.bool (letB r)) ∧ Below w.heap.size w w' := by
  have HC := hide (isLetters_any w r r hL)
  obtain ⟨h1, h2⟩ := hr
  have hb : Hid (letB r = letsB r r) := rfl
  rw [hb.out]
  clear hL hb
  go_enter Tryd.func67, Tryd.ntmps67
  go_wp2_with (go_at_call 81; refine HC.out.mono ?_; rintro e w1 ⟨rfl, hb⟩; have HBB := hide hb; clear HC hb)
  go_ret
  exact ⟨rfl, HBB.out⟩




set_option maxHeartbeats 1000000 in
theorem refLetter_any (w : World) (r : Int) (hr : I32 r) :
    Calls Tryd.prog 40 #[.int .i32 r] w fun e w' => e = .returned (.bool (letB r)) ∧ w' = w := by
  obtain ⟨h1, h2⟩ := hr
  have hc : r ≤ 47 ∨ (48 ≤ r ∧ r ≤ 57) ∨ (58 ≤ r ∧ r ≤ 64) ∨ (65 ≤ r ∧ r ≤ 90) ∨ (91 ≤ r ∧ r ≤ 96) ∨ (97 ≤ r ∧ r ≤ 122) ∨ (123 ≤ r ∧ r ≤ 191) ∨ (192 ≤ r ∧ r ≤ 214) ∨ r = 215 ∨ (216 ≤ r ∧ r ≤ 246) ∨ r = 247 ∨ (248 ≤ r ∧ r ≤ 591) ∨ (592 ≤ r ∧ r ≤ 879) ∨ (880 ≤ r ∧ r ≤ 1279) ∨ 1280 ≤ r := by omega
  rcases hc with h | h | h | h | h | h | h | h | h | h | h | h | h | h | h
  · have f0 : ¬ (48 : Int) ≤ r := by omega
    have f1 : r ≤ (57 : Int) := by omega
    have f2 : ¬ (97 : Int) ≤ r := by omega
    have f3 : r ≤ (122 : Int) := by omega
    have f4 : ¬ (65 : Int) ≤ r := by omega
    have f5 : r ≤ (90 : Int) := by omega
    have f6 : (r == (215 : Int)) = false := beq_false_of_ne (by omega)
    have f7 : (r == (247 : Int)) = false := beq_false_of_ne (by omega)
    have f8 : ¬ (192 : Int) ≤ r := by omega
    have f9 : r ≤ (591 : Int) := by omega
    have f10 : ¬ (880 : Int) ≤ r := by omega
    have f11 : r ≤ (1279 : Int) := by omega
    have HH := hide h
    clear h
    go_enter Tryd.func40, Tryd.ntmps40
    go_wp2
    go_ret
    exact ⟨ret_bool (by have := HH.out; clear HH; simp [letB, letsB, letRows] <;> omega), rfl⟩
  · have f0 : (48 : Int) ≤ r := by omega
    have f1 : r ≤ (57 : Int) := by omega
    have f2 : ¬ (97 : Int) ≤ r := by omega
    have f3 : r ≤ (122 : Int) := by omega
    have f4 : ¬ (65 : Int) ≤ r := by omega
    have f5 : r ≤ (90 : Int) := by omega
    have f6 : (r == (215 : Int)) = false := beq_false_of_ne (by omega)
    have f7 : (r == (247 : Int)) = false := beq_false_of_ne (by omega)
    have f8 : ¬ (192 : Int) ≤ r := by omega
    have f9 : r ≤ (591 : Int) := by omega
    have f10 : ¬ (880 : Int) ≤ r := by omega
    have f11 : r ≤ (1279 : Int) := by omega
    have HH := hide h
    clear h
    go_enter Tryd.func40, Tryd.ntmps40
    go_wp2
    go_ret
    exact ⟨ret_bool (by have := HH.out; clear HH; simp [letB, letsB, letRows] <;> omega), rfl⟩
  · have f0 : (48 : Int) ≤ r := by omega
    have f1 : ¬ r ≤ (57 : Int) := by omega
    have f2 : ¬ (97 : Int) ≤ r := by omega
    have f3 : r ≤ (122 : Int) := by omega
    have f4 : ¬ (65 : Int) ≤ r := by omega
    have f5 : r ≤ (90 : Int) := by omega
    have f6 : (r == (215 : Int)) = false := beq_false_of_ne (by omega)
    have f7 : (r == (247 : Int)) = false := beq_false_of_ne (by omega)
    have f8 : ¬ (192 : Int) ≤ r := by omega
    have f9 : r ≤ (591 : Int) := by omega
    have f10 : ¬ (880 : Int) ≤ r := by omega
    have f11 : r ≤ (1279 : Int) := by omega
    have HH := hide h
    clear h
    go_enter Tryd.func40, Tryd.ntmps40
    go_wp2
    go_ret
    exact ⟨ret_bool (by have := HH.out; clear HH; simp [letB, letsB, letRows] <;> omega), rfl⟩
  · have f0 : (48 : Int) ≤ r := by omega
    have f1 : ¬ r ≤ (57 : Int) := by omega
    have f2 : ¬ (97 : Int) ≤ r := by omega
    have f3 : r ≤ (122 : Int) := by omega
    have f4 : (65 : Int) ≤ r := by omega
    have f5 : r ≤ (90 : Int) := by omega
    have f6 : (r == (215 : Int)) = false := beq_false_of_ne (by omega)
    have f7 : (r == (247 : Int)) = false := beq_false_of_ne (by omega)
    have f8 : ¬ (192 : Int) ≤ r := by omega
    have f9 : r ≤ (591 : Int) := by omega
    have f10 : ¬ (880 : Int) ≤ r := by omega
    have f11 : r ≤ (1279 : Int) := by omega
    have HH := hide h
    clear h
    go_enter Tryd.func40, Tryd.ntmps40
    go_wp2
    go_ret
    exact ⟨ret_bool (by have := HH.out; clear HH; simp [letB, letsB, letRows] <;> omega), rfl⟩
  · have f0 : (48 : Int) ≤ r := by omega
    have f1 : ¬ r ≤ (57 : Int) := by omega
    have f2 : ¬ (97 : Int) ≤ r := by omega
    have f3 : r ≤ (122 : Int) := by omega
    have f4 : (65 : Int) ≤ r := by omega
    have f5 : ¬ r ≤ (90 : Int) := by omega
    have f6 : (r == (215 : Int)) = false := beq_false_of_ne (by omega)
    have f7 : (r == (247 : Int)) = false := beq_false_of_ne (by omega)
    have f8 : ¬ (192 : Int) ≤ r := by omega
    have f9 : r ≤ (591 : Int) := by omega
    have f10 : ¬ (880 : Int) ≤ r := by omega
    have f11 : r ≤ (1279 : Int) := by omega
    have HH := hide h
    clear h
    go_enter Tryd.func40, Tryd.ntmps40
    go_wp2
    go_ret
    exact ⟨ret_bool (by have := HH.out; clear HH; simp [letB, letsB, letRows] <;> omega), rfl⟩
  · have f0 : (48 : Int) ≤ r := by omega
    have f1 : ¬ r ≤ (57 : Int) := by omega
    have f2 : (97 : Int) ≤ r := by omega
    have f3 : r ≤ (122 : Int) := by omega
    have f4 : (65 : Int) ≤ r := by omega
    have f5 : ¬ r ≤ (90 : Int) := by omega
    have f6 : (r == (215 : Int)) = false := beq_false_of_ne (by omega)
    have f7 : (r == (247 : Int)) = false := beq_false_of_ne (by omega)
    have f8 : ¬ (192 : Int) ≤ r := by omega
    have f9 : r ≤ (591 : Int) := by omega
    have f10 : ¬ (880 : Int) ≤ r := by omega
    have f11 : r ≤ (1279 : Int) := by omega
    have HH := hide h
    clear h
    go_enter Tryd.func40, Tryd.ntmps40
    go_wp2
    go_ret
    exact ⟨ret_bool (by have := HH.out; clear HH; simp [letB, letsB, letRows] <;> omega), rfl⟩
  · have f0 : (48 : Int) ≤ r := by omega
    have f1 : ¬ r ≤ (57 : Int) := by omega
    have f2 : (97 : Int) ≤ r := by omega
    have f3 : ¬ r ≤ (122 : Int) := by omega
    have f4 : (65 : Int) ≤ r := by omega
    have f5 : ¬ r ≤ (90 : Int) := by omega
    have f6 : (r == (215 : Int)) = false := beq_false_of_ne (by omega)
    have f7 : (r == (247 : Int)) = false := beq_false_of_ne (by omega)
    have f8 : ¬ (192 : Int) ≤ r := by omega
    have f9 : r ≤ (591 : Int) := by omega
    have f10 : ¬ (880 : Int) ≤ r := by omega
    have f11 : r ≤ (1279 : Int) := by omega
    have HH := hide h
    clear h
    go_enter Tryd.func40, Tryd.ntmps40
    go_wp2
    go_ret
    exact ⟨ret_bool (by have := HH.out; clear HH; simp [letB, letsB, letRows] <;> omega), rfl⟩
  · have f0 : (48 : Int) ≤ r := by omega
    have f1 : ¬ r ≤ (57 : Int) := by omega
    have f2 : (97 : Int) ≤ r := by omega
    have f3 : ¬ r ≤ (122 : Int) := by omega
    have f4 : (65 : Int) ≤ r := by omega
    have f5 : ¬ r ≤ (90 : Int) := by omega
    have f6 : (r == (215 : Int)) = false := beq_false_of_ne (by omega)
    have f7 : (r == (247 : Int)) = false := beq_false_of_ne (by omega)
    have f8 : (192 : Int) ≤ r := by omega
    have f9 : r ≤ (591 : Int) := by omega
    have f10 : ¬ (880 : Int) ≤ r := by omega
    have f11 : r ≤ (1279 : Int) := by omega
    have HH := hide h
    clear h
    go_enter Tryd.func40, Tryd.ntmps40
    go_wp2
    go_ret
    exact ⟨ret_bool (by have := HH.out; clear HH; simp [letB, letsB, letRows] <;> omega), rfl⟩
  · have f0 : (48 : Int) ≤ r := by omega
    have f1 : ¬ r ≤ (57 : Int) := by omega
    have f2 : (97 : Int) ≤ r := by omega
    have f3 : ¬ r ≤ (122 : Int) := by omega
    have f4 : (65 : Int) ≤ r := by omega
    have f5 : ¬ r ≤ (90 : Int) := by omega
    have f6 : (r == (215 : Int)) = true := (by rw [h]; rfl)
    have f7 : (r == (247 : Int)) = false := beq_false_of_ne (by omega)
    have f8 : (192 : Int) ≤ r := by omega
    have f9 : r ≤ (591 : Int) := by omega
    have f10 : ¬ (880 : Int) ≤ r := by omega
    have f11 : r ≤ (1279 : Int) := by omega
    have HH := hide h
    clear h
    go_enter Tryd.func40, Tryd.ntmps40
    go_wp2
    go_ret
    exact ⟨ret_bool (by have := HH.out; clear HH; simp [letB, letsB, letRows] <;> omega), rfl⟩
  · have f0 : (48 : Int) ≤ r := by omega
    have f1 : ¬ r ≤ (57 : Int) := by omega
    have f2 : (97 : Int) ≤ r := by omega
    have f3 : ¬ r ≤ (122 : Int) := by omega
    have f4 : (65 : Int) ≤ r := by omega
    have f5 : ¬ r ≤ (90 : Int) := by omega
    have f6 : (r == (215 : Int)) = false := beq_false_of_ne (by omega)
    have f7 : (r == (247 : Int)) = false := beq_false_of_ne (by omega)
    have f8 : (192 : Int) ≤ r := by omega
    have f9 : r ≤ (591 : Int) := by omega
    have f10 : ¬ (880 : Int) ≤ r := by omega
    have f11 : r ≤ (1279 : Int) := by omega
    have HH := hide h
    clear h
    go_enter Tryd.func40, Tryd.ntmps40
    go_wp2
    go_ret
    exact ⟨ret_bool (by have := HH.out; clear HH; simp [letB, letsB, letRows] <;> omega), rfl⟩
  · have f0 : (48 : Int) ≤ r := by omega
    have f1 : ¬ r ≤ (57 : Int) := by omega
    have f2 : (97 : Int) ≤ r := by omega
    have f3 : ¬ r ≤ (122 : Int) := by omega
    have f4 : (65 : Int) ≤ r := by omega
    have f5 : ¬ r ≤ (90 : Int) := by omega
    have f6 : (r == (215 : Int)) = false := beq_false_of_ne (by omega)
    have f7 : (r == (247 : Int)) = true := (by rw [h]; rfl)
    have f8 : (192 : Int) ≤ r := by omega
    have f9 : r ≤ (591 : Int) := by omega
    have f10 : ¬ (880 : Int) ≤ r := by omega
    have f11 : r ≤ (1279 : Int) := by omega
    have HH := hide h
    clear h
    go_enter Tryd.func40, Tryd.ntmps40
    go_wp2
    go_ret
    exact ⟨ret_bool (by have := HH.out; clear HH; simp [letB, letsB, letRows] <;> omega), rfl⟩
  · have f0 : (48 : Int) ≤ r := by omega
    have f1 : ¬ r ≤ (57 : Int) := by omega
    have f2 : (97 : Int) ≤ r := by omega
    have f3 : ¬ r ≤ (122 : Int) := by omega
    have f4 : (65 : Int) ≤ r := by omega
    have f5 : ¬ r ≤ (90 : Int) := by omega
    have f6 : (r == (215 : Int)) = false := beq_false_of_ne (by omega)
    have f7 : (r == (247 : Int)) = false := beq_false_of_ne (by omega)
    have f8 : (192 : Int) ≤ r := by omega
    have f9 : r ≤ (591 : Int) := by omega
    have f10 : ¬ (880 : Int) ≤ r := by omega
    have f11 : r ≤ (1279 : Int) := by omega
    have HH := hide h
    clear h
    go_enter Tryd.func40, Tryd.ntmps40
    go_wp2
    go_ret
    exact ⟨ret_bool (by have := HH.out; clear HH; simp [letB, letsB, letRows] <;> omega), rfl⟩
  · have f0 : (48 : Int) ≤ r := by omega
    have f1 : ¬ r ≤ (57 : Int) := by omega
    have f2 : (97 : Int) ≤ r := by omega
    have f3 : ¬ r ≤ (122 : Int) := by omega
    have f4 : (65 : Int) ≤ r := by omega
    have f5 : ¬ r ≤ (90 : Int) := by omega
    have f6 : (r == (215 : Int)) = false := beq_false_of_ne (by omega)
    have f7 : (r == (247 : Int)) = false := beq_false_of_ne (by omega)
    have f8 : (192 : Int) ≤ r := by omega
    have f9 : ¬ r ≤ (591 : Int) := by omega
    have f10 : ¬ (880 : Int) ≤ r := by omega
    have f11 : r ≤ (1279 : Int) := by omega
    have HH := hide h
    clear h
    go_enter Tryd.func40, Tryd.ntmps40
    go_wp2
    go_ret
    exact ⟨ret_bool (by have := HH.out; clear HH; simp [letB, letsB, letRows] <;> omega), rfl⟩
  · have f0 : (48 : Int) ≤ r := by omega
    have f1 : ¬ r ≤ (57 : Int) := by omega
    have f2 : (97 : Int) ≤ r := by omega
    have f3 : ¬ r ≤ (122 : Int) := by omega
    have f4 : (65 : Int) ≤ r := by omega
    have f5 : ¬ r ≤ (90 : Int) := by omega
    have f6 : (r == (215 : Int)) = false := beq_false_of_ne (by omega)
    have f7 : (r == (247 : Int)) = false := beq_false_of_ne (by omega)
    have f8 : (192 : Int) ≤ r := by omega
    have f9 : ¬ r ≤ (591 : Int) := by omega
    have f10 : (880 : Int) ≤ r := by omega
    have f11 : r ≤ (1279 : Int) := by omega
    have HH := hide h
    clear h
    go_enter Tryd.func40, Tryd.ntmps40
    go_wp2
    go_ret
    exact ⟨ret_bool (by have := HH.out; clear HH; simp [letB, letsB, letRows] <;> omega), rfl⟩
  · have f0 : (48 : Int) ≤ r := by omega
    have f1 : ¬ r ≤ (57 : Int) := by omega
    have f2 : (97 : Int) ≤ r := by omega
    have f3 : ¬ r ≤ (122 : Int) := by omega
    have f4 : (65 : Int) ≤ r := by omega
    have f5 : ¬ r ≤ (90 : Int) := by omega
    have f6 : (r == (215 : Int)) = false := beq_false_of_ne (by omega)
    have f7 : (r == (247 : Int)) = false := beq_false_of_ne (by omega)
    have f8 : (192 : Int) ≤ r := by omega
    have f9 : ¬ r ≤ (591 : Int) := by omega
    have f10 : (880 : Int) ≤ r := by omega
    have f11 : ¬ r ≤ (1279 : Int) := by omega
    have HH := hide h
    clear h
    go_enter Tryd.func40, Tryd.ntmps40
    go_wp2
    go_ret
    exact ⟨ret_bool (by have := HH.out; clear HH; simp [letB, letsB, letRows] <;> omega), rfl⟩

end Go.Proofs.YtimmfnjkknbofaaDoor
/- Contracts: the document's Form and Width. -/
namespace Go.Proofs.YtimmfnjkknbofaaDoor
set_option maxRecDepth 20000
open Go.RowKit
set_option linter.unusedVariables false
set_option linter.unusedSimpArgs false
set_option maxRecDepth 100000

/-- r's form -/
def formL (r : Int) : List Int := if runeB r then (if r < 128 then [r] else if r < 2048 then [192 + r / 64, 128 + r % 64] else if r < 65536 then [224 + r / 4096, 128 + r / 64 % 64, 128 + r % 64] else [240 + r / 262144, 128 + r / 4096 % 64, 128 + r / 64 % 64, 128 + r % 64]) else []

theorem formL_none {r : Int} (h : runeB r = false) : formL r = [] := by unfold formL; rw [h]; rfl
theorem formL_1 {r : Int} (h : runeB r = true) (h1 : r < 128) : formL r = [r] := by unfold formL; rw [h, if_pos rfl, if_pos h1]
theorem formL_2 {r : Int} (h : runeB r = true) (h1 : ¬ r < 128) (h2 : r < 2048) : formL r = [192 + r / 64, 128 + r % 64] := by unfold formL; rw [h, if_pos rfl, if_neg h1, if_pos h2]
theorem formL_3 {r : Int} (h : runeB r = true) (h2 : ¬ r < 2048) (h3 : r < 65536) : formL r = [224 + r / 4096, 128 + r / 64 % 64, 128 + r % 64] := by unfold formL; rw [h, if_pos rfl, if_neg (by omega), if_neg h2, if_pos h3]
theorem formL_4 {r : Int} (h : runeB r = true) (h3 : ¬ r < 65536) : formL r = [240 + r / 262144, 128 + r / 4096 % 64, 128 + r / 64 % 64, 128 + r % 64] := by unfold formL; rw [h, if_pos rfl, if_neg (by omega), if_neg (by omega), if_neg h3]
theorem runeB_yes {r : Int} (h0 : 0 ≤ r) (h1 : r ≤ 1114111) (h2 : r < 55296 ∨ 57343 < r) : runeB r = true := by unfold runeB; simp; omega
theorem runeB_no {r : Int} (h : r < 0 ∨ 1114111 < r ∨ (55296 ≤ r ∧ r ≤ 57343)) : runeB r = false := by unfold runeB; simp; omega

/-- bytes that were just made -/
theorem sl_litc {w : World} {zs : List Int} {cs : Array Value} {t : TypeId} {n : Nat} (hb : ByteOk zs) (hc : cs = (zs.map (Value.int .u8)).toArray) (hn : n = zs.length) (hm : zs.length ≤ 1000) : Sl (w.alloc (.cells cs t)) (.slice (some ⟨w.heap.size, 0, none⟩) n n) zs := by
  subst hc hn
  refine ⟨hb, _, _, rfl, Nat.le_refl _, Nat.le_trans hm (by decide), (fun h => by cases h), fun _ => ⟨_, _, rfl, fun i hi => ?_⟩⟩
  rw [World.cell?_alloc_at _ _ _ _ rfl]
  simp [List.getD, hi]

set_option maxHeartbeats 1000000 in
theorem form_any (w : World) (r : Int) (hr : I32 r) :
    Calls Tryd.prog 107 #[.int .i32 r] w fun e w' => ∃ v, e = .returned v ∧ Sl w' v (formL r) ∧ Below w.heap.size w w' := by
  obtain ⟨h1, h2⟩ := hr
  have hc : r ≤ -1 ∨ (0 ≤ r ∧ r ≤ 127) ∨ (128 ≤ r ∧ r ≤ 2047) ∨ (2048 ≤ r ∧ r ≤ 55295) ∨ (55296 ≤ r ∧ r ≤ 57343) ∨ (57344 ≤ r ∧ r ≤ 65535) ∨ (65536 ≤ r ∧ r ≤ 1114111) ∨ 1114112 ≤ r := by omega
  rcases hc with h | h | h | h | h | h | h | h
  · have f0 : r < (0 : Int) := by omega
    have f1 : ¬ (1114111 : Int) < r := by omega
    have f2 : ¬ (55296 : Int) ≤ r := by omega
    have f3 : r ≤ (57343 : Int) := by omega
    have f4 : r < (128 : Int) := by omega
    have f5 : r < (2048 : Int) := by omega
    have f6 : r < (65536 : Int) := by omega
    have HH := hide h
    clear h
    go_enter Tryd.func107, Tryd.ntmps107
    go_wp2
    go_ret
    exact ⟨_, rfl, by rw [formL_none (runeB_no (by have := HH.out; omega))]; exact Sl.nil _, Below.refl _ _⟩
  · have f0 : ¬ r < (0 : Int) := by omega
    have f1 : ¬ (1114111 : Int) < r := by omega
    have f2 : ¬ (55296 : Int) ≤ r := by omega
    have f3 : r ≤ (57343 : Int) := by omega
    have f4 : r < (128 : Int) := by omega
    have f5 : r < (2048 : Int) := by omega
    have f6 : r < (65536 : Int) := by omega
    have HH := hide h
    clear h
    go_enter Tryd.func107, Tryd.ntmps107
    go_wp2
    go_ret
    exact ⟨_, rfl, by have hq := HH.out; rw [formL_1 (runeB_yes (by omega) (by omega) (by omega)) (by have := HH.out; omega)]; exact sl_litc (by intro z hz; simp only [List.mem_cons, List.not_mem_nil, or_false] at hz; omega) (by go_num) rfl (by simp), (Below.refl _ w).alloc (Nat.le_refl _) _⟩
  · have f0 : ¬ r < (0 : Int) := by omega
    have f1 : ¬ (1114111 : Int) < r := by omega
    have f2 : ¬ (55296 : Int) ≤ r := by omega
    have f3 : r ≤ (57343 : Int) := by omega
    have f4 : ¬ r < (128 : Int) := by omega
    have f5 : r < (2048 : Int) := by omega
    have f6 : r < (65536 : Int) := by omega
    have HH := hide h
    clear h
    go_enter Tryd.func107, Tryd.ntmps107
    go_wp2
    go_ret
    exact ⟨_, rfl, by have hq := HH.out; rw [formL_2 (runeB_yes (by omega) (by omega) (by omega)) (by have := HH.out; omega) (by have := HH.out; omega)]; exact sl_litc (by intro z hz; simp only [List.mem_cons, List.not_mem_nil, or_false] at hz; omega) (by go_num) rfl (by simp), (Below.refl _ w).alloc (Nat.le_refl _) _⟩
  · have f0 : ¬ r < (0 : Int) := by omega
    have f1 : ¬ (1114111 : Int) < r := by omega
    have f2 : ¬ (55296 : Int) ≤ r := by omega
    have f3 : r ≤ (57343 : Int) := by omega
    have f4 : ¬ r < (128 : Int) := by omega
    have f5 : ¬ r < (2048 : Int) := by omega
    have f6 : r < (65536 : Int) := by omega
    have HH := hide h
    clear h
    go_enter Tryd.func107, Tryd.ntmps107
    go_wp2
    go_ret
    exact ⟨_, rfl, by have hq := HH.out; rw [formL_3 (runeB_yes (by omega) (by omega) (by omega)) (by have := HH.out; omega) (by have := HH.out; omega)]; exact sl_litc (by intro z hz; simp only [List.mem_cons, List.not_mem_nil, or_false] at hz; omega) (by go_num) rfl (by simp), (Below.refl _ w).alloc (Nat.le_refl _) _⟩
  · have f0 : ¬ r < (0 : Int) := by omega
    have f1 : ¬ (1114111 : Int) < r := by omega
    have f2 : (55296 : Int) ≤ r := by omega
    have f3 : r ≤ (57343 : Int) := by omega
    have f4 : ¬ r < (128 : Int) := by omega
    have f5 : ¬ r < (2048 : Int) := by omega
    have f6 : r < (65536 : Int) := by omega
    have HH := hide h
    clear h
    go_enter Tryd.func107, Tryd.ntmps107
    go_wp2
    go_ret
    exact ⟨_, rfl, by rw [formL_none (runeB_no (by have := HH.out; omega))]; exact Sl.nil _, Below.refl _ _⟩
  · have f0 : ¬ r < (0 : Int) := by omega
    have f1 : ¬ (1114111 : Int) < r := by omega
    have f2 : (55296 : Int) ≤ r := by omega
    have f3 : ¬ r ≤ (57343 : Int) := by omega
    have f4 : ¬ r < (128 : Int) := by omega
    have f5 : ¬ r < (2048 : Int) := by omega
    have f6 : r < (65536 : Int) := by omega
    have HH := hide h
    clear h
    go_enter Tryd.func107, Tryd.ntmps107
    go_wp2
    go_ret
    exact ⟨_, rfl, by have hq := HH.out; rw [formL_3 (runeB_yes (by omega) (by omega) (by omega)) (by have := HH.out; omega) (by have := HH.out; omega)]; exact sl_litc (by intro z hz; simp only [List.mem_cons, List.not_mem_nil, or_false] at hz; omega) (by go_num) rfl (by simp), (Below.refl _ w).alloc (Nat.le_refl _) _⟩
  · have f0 : ¬ r < (0 : Int) := by omega
    have f1 : ¬ (1114111 : Int) < r := by omega
    have f2 : (55296 : Int) ≤ r := by omega
    have f3 : ¬ r ≤ (57343 : Int) := by omega
    have f4 : ¬ r < (128 : Int) := by omega
    have f5 : ¬ r < (2048 : Int) := by omega
    have f6 : ¬ r < (65536 : Int) := by omega
    have HH := hide h
    clear h
    go_enter Tryd.func107, Tryd.ntmps107
    go_wp2
    go_ret
    exact ⟨_, rfl, by have hq := HH.out; rw [formL_4 (runeB_yes (by omega) (by omega) (by omega)) (by have := HH.out; omega)]; exact sl_litc (by intro z hz; simp only [List.mem_cons, List.not_mem_nil, or_false] at hz; omega) (by go_num) rfl (by simp), (Below.refl _ w).alloc (Nat.le_refl _) _⟩
  · have f0 : ¬ r < (0 : Int) := by omega
    have f1 : (1114111 : Int) < r := by omega
    have f2 : (55296 : Int) ≤ r := by omega
    have f3 : ¬ r ≤ (57343 : Int) := by omega
    have f4 : ¬ r < (128 : Int) := by omega
    have f5 : ¬ r < (2048 : Int) := by omega
    have f6 : ¬ r < (65536 : Int) := by omega
    have HH := hide h
    clear h
    go_enter Tryd.func107, Tryd.ntmps107
    go_wp2
    go_ret
    exact ⟨_, rfl, by rw [formL_none (runeB_no (by have := HH.out; omega))]; exact Sl.nil _, Below.refl _ _⟩

theorem formL_len (r : Int) : ((if (formL r).length = 0 then 3 else (formL r).length : Nat) : Int) = widthN r := by
  unfold widthN
  cases h : runeB r
  · rw [formL_none h]; rfl
  · rw [if_pos rfl]
    by_cases h1 : r < 128
    · rw [formL_1 h h1, if_pos h1]; rfl
    · rw [if_neg h1]
      by_cases h2 : r < 2048
      · rw [formL_2 h h1 h2, if_pos h2]; rfl
      · rw [if_neg h2]
        by_cases h3 : r < 65536
        · rw [formL_3 h h2 h3, if_pos h3]; rfl
        · rw [formL_4 h h3, if_neg h3]; rfl


end Go.Proofs.YtimmfnjkknbofaaDoor
