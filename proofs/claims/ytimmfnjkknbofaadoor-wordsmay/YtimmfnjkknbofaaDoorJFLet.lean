/- Contracts: package fold's Letter and isLetters, over its own rows of letters. -/
import Derived.Test.YtimmfnjkknbofaaDoorOwn
import Derived.Test.YtimmfnjkknbofaaDoorTie
import Derived.Test.YtimmfnjkknbofaaDoorCards
import Derived.ProofKit
import Derived.LaidMore
import Derived.OpenShut
import Derived.Stop.Joined
import Derived.Lib.LaidTab
import Derived.ChangeSame
namespace Go.Proofs.YtimmfnjkknbofaaDoor
set_option maxRecDepth 20000
open Go.RowKit
set_option linter.unusedVariables false
set_option linter.unusedSimpArgs false
set_option maxRecDepth 100000

def letRows : List (Int × Int) := [(48, 57), (65, 90), (97, 122), (192, 214), (216, 246), (248, 591), (880, 1279)]
/-- the rows of letters lie where package fold has them -/
def Let (w : World) : Prop := ∀ i, i < 7 → w.cell? ⟨0, 2 * i, none⟩ = some (.int .i64 (letRows.getD i (0, 0)).1) ∧ w.cell? ⟨0, 2 * i + 1, none⟩ = some (.int .i64 (letRows.getD i (0, 0)).2)

theorem Let.below {w w' : World} (h : Let w) (hb : Below w.heap.size w w') : Let w' := fun i hi => by
  obtain ⟨h1, h2⟩ := h i hi
  have := World.block_lt_of_cell? w _ h1
  have hbb := hb.block 0 this
  exact ⟨(World.cell?_of_block (w := w) (a := ⟨0, _, none⟩) hbb).trans h1, (World.cell?_of_block (w := w) (a := ⟨0, _, none⟩) hbb).trans h2⟩

/-- all runes from a to b are letters, by one row -/
def letsB (a b : Int) : Bool := letRows.any fun r => decide (r.1 ≤ a) && decide (b ≤ r.2)

abbrev letCells : Array Value := #[.int .i64 48, .int .i64 57, .int .i64 65, .int .i64 90, .int .i64 97, .int .i64 122, .int .i64 192, .int .i64 214, .int .i64 216, .int .i64 246, .int .i64 248, .int .i64 591, .int .i64 880, .int .i64 1279]
theorem ixRow0 (W : World) : (Instr.index 149 (.agg #[.int .i64 48, .int .i64 57, .int .i64 65, .int .i64 90, .int .i64 97, .int .i64 122, .int .i64 192, .int .i64 214, .int .i64 216, .int .i64 246, .int .i64 248, .int .i64 591, .int .i64 880, .int .i64 1279]) (.int .i64 0)).run Tryd.prog W = .ok (.agg #[.int .i64 48, .int .i64 57]) W := by kernel_rfl
theorem ixRow1 (W : World) : (Instr.index 149 (.agg #[.int .i64 48, .int .i64 57, .int .i64 65, .int .i64 90, .int .i64 97, .int .i64 122, .int .i64 192, .int .i64 214, .int .i64 216, .int .i64 246, .int .i64 248, .int .i64 591, .int .i64 880, .int .i64 1279]) (.int .i64 1)).run Tryd.prog W = .ok (.agg #[.int .i64 65, .int .i64 90]) W := by kernel_rfl
theorem ixRow2 (W : World) : (Instr.index 149 (.agg #[.int .i64 48, .int .i64 57, .int .i64 65, .int .i64 90, .int .i64 97, .int .i64 122, .int .i64 192, .int .i64 214, .int .i64 216, .int .i64 246, .int .i64 248, .int .i64 591, .int .i64 880, .int .i64 1279]) (.int .i64 2)).run Tryd.prog W = .ok (.agg #[.int .i64 97, .int .i64 122]) W := by kernel_rfl
theorem ixRow3 (W : World) : (Instr.index 149 (.agg #[.int .i64 48, .int .i64 57, .int .i64 65, .int .i64 90, .int .i64 97, .int .i64 122, .int .i64 192, .int .i64 214, .int .i64 216, .int .i64 246, .int .i64 248, .int .i64 591, .int .i64 880, .int .i64 1279]) (.int .i64 3)).run Tryd.prog W = .ok (.agg #[.int .i64 192, .int .i64 214]) W := by kernel_rfl
theorem ixRow4 (W : World) : (Instr.index 149 (.agg #[.int .i64 48, .int .i64 57, .int .i64 65, .int .i64 90, .int .i64 97, .int .i64 122, .int .i64 192, .int .i64 214, .int .i64 216, .int .i64 246, .int .i64 248, .int .i64 591, .int .i64 880, .int .i64 1279]) (.int .i64 4)).run Tryd.prog W = .ok (.agg #[.int .i64 216, .int .i64 246]) W := by kernel_rfl
theorem ixRow5 (W : World) : (Instr.index 149 (.agg #[.int .i64 48, .int .i64 57, .int .i64 65, .int .i64 90, .int .i64 97, .int .i64 122, .int .i64 192, .int .i64 214, .int .i64 216, .int .i64 246, .int .i64 248, .int .i64 591, .int .i64 880, .int .i64 1279]) (.int .i64 5)).run Tryd.prog W = .ok (.agg #[.int .i64 248, .int .i64 591]) W := by kernel_rfl
theorem ixRow6 (W : World) : (Instr.index 149 (.agg #[.int .i64 48, .int .i64 57, .int .i64 65, .int .i64 90, .int .i64 97, .int .i64 122, .int .i64 192, .int .i64 214, .int .i64 216, .int .i64 246, .int .i64 248, .int .i64 591, .int .i64 880, .int .i64 1279]) (.int .i64 6)).run Tryd.prog W = .ok (.agg #[.int .i64 880, .int .i64 1279]) W := by kernel_rfl

def letF (a b : Int) (r : Int × Int) : Bool := decide (r.1 ≤ a) && decide (b ≤ r.2)
theorem letsB_def (a b : Int) : letsB a b = (letRows.drop 0).any (letF a b) := rfl
theorem letF_no0 {a b : Int} {r : Int × Int} (h : ¬ r.1 ≤ a) : letF a b r = false := by simp [letF, h]
theorem letF_no1 {a b : Int} {r : Int × Int} (h : ¬ b ≤ r.2) : letF a b r = false := by simp [letF, h]
theorem letF_yes {a b : Int} {r : Int × Int} (h : r.1 ≤ a) (h' : b ≤ r.2) : letF a b r = true := by simp [letF, h, h']

theorem isLetters_any (w : World) (a b : Int) (hL : Let w) :
    Calls Tryd.prog 81 #[.agg #[.int .i64 a, .int .i64 b]] w fun e w' => e = .returned (.bool (letsB a b)) ∧ Below w.heap.size w w' := by
  have HL := hide hL
  have hb0 : Below w.heap.size w w := Below.refl _ w
  obtain ⟨w1, hw1⟩ : ∃ w1, w.alloc (.cells #[.int .i64 a, .int .i64 b] 117) = w1 := ⟨_, rfl⟩
  have hL1 : Let w1 := hL.below (by rw [← hw1]; exact hb0.alloc (Nat.le_refl _) _)
  have k0 := hL1 0 (by omega)
  have k1 := hL1 1 (by omega)
  have k2 := hL1 2 (by omega)
  have k3 := hL1 3 (by omega)
  have k4 := hL1 4 (by omega)
  have k5 := hL1 5 (by omega)
  have k6 := hL1 6 (by omega)
  simp only [letRows, Nat.reduceMul, Nat.reduceAdd, List.getD_cons_zero, List.getD_cons_succ] at k0 k1 k2 k3 k4 k5 k6
  obtain ⟨k00, k01⟩ := k0
  obtain ⟨k10, k11⟩ := k1
  obtain ⟨k20, k21⟩ := k2
  obtain ⟨k30, k31⟩ := k3
  obtain ⟨k40, k41⟩ := k4
  obtain ⟨k50, k51⟩ := k5
  obtain ⟨k60, k61⟩ := k6
  clear hL hL1
  go_enter Tryd.func81, Tryd.ntmps81
  go_wp2
  go_loopg [6] 7 (fun k i wr => ∃ j : Nat, k + j = 7 ∧ i = .int .i64 (j : Int) ∧ (letRows.drop j).any (letF a b) = letsB a b ∧ Below w.heap.size w wr ∧ wr.cell? ⟨w.heap.size, 0, none⟩ = some (.int .i64 a) ∧ wr.cell? ⟨w.heap.size, 1, none⟩ = some (.int .i64 b))
  case atStart =>
    refine ⟨0, rfl, rfl, rfl, by rw [← hw1]; exact hb0.alloc (Nat.le_refl _) _, ?_, ?_⟩
    · rw [← hw1, World.cell?_alloc_at _ _ _ _ rfl]; rfl
    · rw [← hw1, World.cell?_alloc_at _ _ _ _ rfl]; rfl
  case round =>
    clear k00 k01 k10 k11 k20 k21 k30 k31 k40 k41 k50 k51 k60 k61
    obtain ⟨j, hk, rfl, hs, hbw, c0, c1⟩ := hrel
    have HS := hide hs
    have HB := hide hbw
    have hlt := World.block_lt_of_cell? wr _ c0
    clear hs hbw
    have stay : ∀ (o : Obj) (x : Nat) (v : Value), wr.cell? ⟨w.heap.size, x, none⟩ = some v → (wr.alloc o).cell? ⟨w.heap.size, x, none⟩ = some v := fun o x v h => (World.cell?_of_block (w := wr) (a := ⟨w.heap.size, x, none⟩) (Below.heap_alloc wr o w.heap.size hlt)).trans h
    have ST := hide stay
    clear stay
    obtain hj | hj | hj | hj | hj | hj | hj | hj : j = 0 ∨ j = 1 ∨ j = 2 ∨ j = 3 ∨ j = 4 ∨ j = 5 ∨ j = 6 ∨ j = 7 := by omega
    · subst hj
      obtain rfl : gk = 7 := by omega
      have hix := ixRow0 wr
      have e0 := ST.out (.cells #[.int .i64 48, .int .i64 57] 117) 0 _ c0
      have e1 := ST.out (.cells #[.int .i64 48, .int .i64 57] 117) 1 _ c1
      clear c0 c1
      by_cases h0 : (48 : Int) ≤ a
      · by_cases h1 : b ≤ 57
        · have HR : Hid (letsB a b = true) := by rw [← HS.out]; exact (congrArg (· || (letRows.drop 1).any (letF a b)) (letF_yes (r := (48, 57)) h0 h1)).trans (Bool.true_or _)
          go_wp2
          go_ret
          exact ⟨ret_bool HR.out.symm, HB.out.alloc (by have := HB.out.size; omega) _⟩
        · have HR : Hid ((letRows.drop 1).any (letF a b) = letsB a b) := by rw [← HS.out]; exact ((congrArg (· || (letRows.drop 1).any (letF a b)) (letF_no1 (r := (48, 57)) h1)).trans (Bool.false_or _)).symm
          go_wp2
          go_roundg 6
          case measure => omega
          case rel => exact ⟨1, rfl, by go_num, HR.out, HB.out.alloc (by have := HB.out.size; omega) _, e0, e1⟩
      · have HR : Hid ((letRows.drop 1).any (letF a b) = letsB a b) := by rw [← HS.out]; exact ((congrArg (· || (letRows.drop 1).any (letF a b)) (letF_no0 (r := (48, 57)) h0)).trans (Bool.false_or _)).symm
        go_wp2
        go_roundg 6
        case measure => omega
        case rel => exact ⟨1, rfl, by go_num, HR.out, HB.out.alloc (by have := HB.out.size; omega) _, e0, e1⟩
    · subst hj
      obtain rfl : gk = 6 := by omega
      have hix := ixRow1 wr
      have e0 := ST.out (.cells #[.int .i64 65, .int .i64 90] 117) 0 _ c0
      have e1 := ST.out (.cells #[.int .i64 65, .int .i64 90] 117) 1 _ c1
      clear c0 c1
      by_cases h0 : (65 : Int) ≤ a
      · by_cases h1 : b ≤ 90
        · have HR : Hid (letsB a b = true) := by rw [← HS.out]; exact (congrArg (· || (letRows.drop 2).any (letF a b)) (letF_yes (r := (65, 90)) h0 h1)).trans (Bool.true_or _)
          go_wp2
          go_ret
          exact ⟨ret_bool HR.out.symm, HB.out.alloc (by have := HB.out.size; omega) _⟩
        · have HR : Hid ((letRows.drop 2).any (letF a b) = letsB a b) := by rw [← HS.out]; exact ((congrArg (· || (letRows.drop 2).any (letF a b)) (letF_no1 (r := (65, 90)) h1)).trans (Bool.false_or _)).symm
          go_wp2
          go_roundg 5
          case measure => omega
          case rel => exact ⟨2, rfl, by go_num, HR.out, HB.out.alloc (by have := HB.out.size; omega) _, e0, e1⟩
      · have HR : Hid ((letRows.drop 2).any (letF a b) = letsB a b) := by rw [← HS.out]; exact ((congrArg (· || (letRows.drop 2).any (letF a b)) (letF_no0 (r := (65, 90)) h0)).trans (Bool.false_or _)).symm
        go_wp2
        go_roundg 5
        case measure => omega
        case rel => exact ⟨2, rfl, by go_num, HR.out, HB.out.alloc (by have := HB.out.size; omega) _, e0, e1⟩
    · subst hj
      obtain rfl : gk = 5 := by omega
      have hix := ixRow2 wr
      have e0 := ST.out (.cells #[.int .i64 97, .int .i64 122] 117) 0 _ c0
      have e1 := ST.out (.cells #[.int .i64 97, .int .i64 122] 117) 1 _ c1
      clear c0 c1
      by_cases h0 : (97 : Int) ≤ a
      · by_cases h1 : b ≤ 122
        · have HR : Hid (letsB a b = true) := by rw [← HS.out]; exact (congrArg (· || (letRows.drop 3).any (letF a b)) (letF_yes (r := (97, 122)) h0 h1)).trans (Bool.true_or _)
          go_wp2
          go_ret
          exact ⟨ret_bool HR.out.symm, HB.out.alloc (by have := HB.out.size; omega) _⟩
        · have HR : Hid ((letRows.drop 3).any (letF a b) = letsB a b) := by rw [← HS.out]; exact ((congrArg (· || (letRows.drop 3).any (letF a b)) (letF_no1 (r := (97, 122)) h1)).trans (Bool.false_or _)).symm
          go_wp2
          go_roundg 4
          case measure => omega
          case rel => exact ⟨3, rfl, by go_num, HR.out, HB.out.alloc (by have := HB.out.size; omega) _, e0, e1⟩
      · have HR : Hid ((letRows.drop 3).any (letF a b) = letsB a b) := by rw [← HS.out]; exact ((congrArg (· || (letRows.drop 3).any (letF a b)) (letF_no0 (r := (97, 122)) h0)).trans (Bool.false_or _)).symm
        go_wp2
        go_roundg 4
        case measure => omega
        case rel => exact ⟨3, rfl, by go_num, HR.out, HB.out.alloc (by have := HB.out.size; omega) _, e0, e1⟩
    · subst hj
      obtain rfl : gk = 4 := by omega
      have hix := ixRow3 wr
      have e0 := ST.out (.cells #[.int .i64 192, .int .i64 214] 117) 0 _ c0
      have e1 := ST.out (.cells #[.int .i64 192, .int .i64 214] 117) 1 _ c1
      clear c0 c1
      by_cases h0 : (192 : Int) ≤ a
      · by_cases h1 : b ≤ 214
        · have HR : Hid (letsB a b = true) := by rw [← HS.out]; exact (congrArg (· || (letRows.drop 4).any (letF a b)) (letF_yes (r := (192, 214)) h0 h1)).trans (Bool.true_or _)
          go_wp2
          go_ret
          exact ⟨ret_bool HR.out.symm, HB.out.alloc (by have := HB.out.size; omega) _⟩
        · have HR : Hid ((letRows.drop 4).any (letF a b) = letsB a b) := by rw [← HS.out]; exact ((congrArg (· || (letRows.drop 4).any (letF a b)) (letF_no1 (r := (192, 214)) h1)).trans (Bool.false_or _)).symm
          go_wp2
          go_roundg 3
          case measure => omega
          case rel => exact ⟨4, rfl, by go_num, HR.out, HB.out.alloc (by have := HB.out.size; omega) _, e0, e1⟩
      · have HR : Hid ((letRows.drop 4).any (letF a b) = letsB a b) := by rw [← HS.out]; exact ((congrArg (· || (letRows.drop 4).any (letF a b)) (letF_no0 (r := (192, 214)) h0)).trans (Bool.false_or _)).symm
        go_wp2
        go_roundg 3
        case measure => omega
        case rel => exact ⟨4, rfl, by go_num, HR.out, HB.out.alloc (by have := HB.out.size; omega) _, e0, e1⟩
    · subst hj
      obtain rfl : gk = 3 := by omega
      have hix := ixRow4 wr
      have e0 := ST.out (.cells #[.int .i64 216, .int .i64 246] 117) 0 _ c0
      have e1 := ST.out (.cells #[.int .i64 216, .int .i64 246] 117) 1 _ c1
      clear c0 c1
      by_cases h0 : (216 : Int) ≤ a
      · by_cases h1 : b ≤ 246
        · have HR : Hid (letsB a b = true) := by rw [← HS.out]; exact (congrArg (· || (letRows.drop 5).any (letF a b)) (letF_yes (r := (216, 246)) h0 h1)).trans (Bool.true_or _)
          go_wp2
          go_ret
          exact ⟨ret_bool HR.out.symm, HB.out.alloc (by have := HB.out.size; omega) _⟩
        · have HR : Hid ((letRows.drop 5).any (letF a b) = letsB a b) := by rw [← HS.out]; exact ((congrArg (· || (letRows.drop 5).any (letF a b)) (letF_no1 (r := (216, 246)) h1)).trans (Bool.false_or _)).symm
          go_wp2
          go_roundg 2
          case measure => omega
          case rel => exact ⟨5, rfl, by go_num, HR.out, HB.out.alloc (by have := HB.out.size; omega) _, e0, e1⟩
      · have HR : Hid ((letRows.drop 5).any (letF a b) = letsB a b) := by rw [← HS.out]; exact ((congrArg (· || (letRows.drop 5).any (letF a b)) (letF_no0 (r := (216, 246)) h0)).trans (Bool.false_or _)).symm
        go_wp2
        go_roundg 2
        case measure => omega
        case rel => exact ⟨5, rfl, by go_num, HR.out, HB.out.alloc (by have := HB.out.size; omega) _, e0, e1⟩
    · subst hj
      obtain rfl : gk = 2 := by omega
      have hix := ixRow5 wr
      have e0 := ST.out (.cells #[.int .i64 248, .int .i64 591] 117) 0 _ c0
      have e1 := ST.out (.cells #[.int .i64 248, .int .i64 591] 117) 1 _ c1
      clear c0 c1
      by_cases h0 : (248 : Int) ≤ a
      · by_cases h1 : b ≤ 591
        · have HR : Hid (letsB a b = true) := by rw [← HS.out]; exact (congrArg (· || (letRows.drop 6).any (letF a b)) (letF_yes (r := (248, 591)) h0 h1)).trans (Bool.true_or _)
          go_wp2
          go_ret
          exact ⟨ret_bool HR.out.symm, HB.out.alloc (by have := HB.out.size; omega) _⟩
        · have HR : Hid ((letRows.drop 6).any (letF a b) = letsB a b) := by rw [← HS.out]; exact ((congrArg (· || (letRows.drop 6).any (letF a b)) (letF_no1 (r := (248, 591)) h1)).trans (Bool.false_or _)).symm
          go_wp2
          go_roundg 1
          case measure => omega
          case rel => exact ⟨6, rfl, by go_num, HR.out, HB.out.alloc (by have := HB.out.size; omega) _, e0, e1⟩
      · have HR : Hid ((letRows.drop 6).any (letF a b) = letsB a b) := by rw [← HS.out]; exact ((congrArg (· || (letRows.drop 6).any (letF a b)) (letF_no0 (r := (248, 591)) h0)).trans (Bool.false_or _)).symm
        go_wp2
        go_roundg 1
        case measure => omega
        case rel => exact ⟨6, rfl, by go_num, HR.out, HB.out.alloc (by have := HB.out.size; omega) _, e0, e1⟩
    · subst hj
      obtain rfl : gk = 1 := by omega
      have hix := ixRow6 wr
      have e0 := ST.out (.cells #[.int .i64 880, .int .i64 1279] 117) 0 _ c0
      have e1 := ST.out (.cells #[.int .i64 880, .int .i64 1279] 117) 1 _ c1
      clear c0 c1
      by_cases h0 : (880 : Int) ≤ a
      · by_cases h1 : b ≤ 1279
        · have HR : Hid (letsB a b = true) := by rw [← HS.out]; exact (congrArg (· || (letRows.drop 7).any (letF a b)) (letF_yes (r := (880, 1279)) h0 h1)).trans (Bool.true_or _)
          go_wp2
          go_ret
          exact ⟨ret_bool HR.out.symm, HB.out.alloc (by have := HB.out.size; omega) _⟩
        · have HR : Hid ((letRows.drop 7).any (letF a b) = letsB a b) := by rw [← HS.out]; exact ((congrArg (· || (letRows.drop 7).any (letF a b)) (letF_no1 (r := (880, 1279)) h1)).trans (Bool.false_or _)).symm
          go_wp2
          go_roundg 0
          case measure => omega
          case rel => exact ⟨7, rfl, by go_num, HR.out, HB.out.alloc (by have := HB.out.size; omega) _, e0, e1⟩
      · have HR : Hid ((letRows.drop 7).any (letF a b) = letsB a b) := by rw [← HS.out]; exact ((congrArg (· || (letRows.drop 7).any (letF a b)) (letF_no0 (r := (880, 1279)) h0)).trans (Bool.false_or _)).symm
        go_wp2
        go_roundg 0
        case measure => omega
        case rel => exact ⟨7, rfl, by go_num, HR.out, HB.out.alloc (by have := HB.out.size; omega) _, e0, e1⟩
    · subst hj
      obtain rfl : gk = 0 := by omega
      go_wp2
      go_ret
      exact ⟨ret_bool (by rw [← HS.out]; rfl), HB.out⟩

end Go.Proofs.YtimmfnjkknbofaaDoor
/- What the row's condition on package fold's rows of letters gives the walks; the door's own heap meets it. -/
namespace Go.Proofs.YtimmfnjkknbofaaDoor
set_option maxRecDepth 20000
set_option linter.unusedSimpArgs false
open Go.ChangeShapes Go.WideShapes Go.ChangeAt Go.RowKit

def laidRows : List (String × DataW Unit) := [("incipit/fold.letterRows", Rows.laid_incipit_fold_letterRows)]

theorem gRows : Tryd.prog.globalNamed "incipit/fold.letterRows" = some 0 := by kernel_rfl
theorem tRows : (Tryd.prog.globals[0]?).map (·.type) = some 149 := by kernel_rfl
theorem cellsRow : Tryd.prog.cellsOf 117 = 2 := by kernel_rfl
theorem cellsI64 : Tryd.prog.cellsOf 2 = 1 := by kernel_rfl
theorem cellsRows : Tryd.prog.cellsOf 149 = 14 := by kernel_rfl

theorem door_met (os : Os) (args : Array Value) : laidMetH Tryd.prog laidRows ((World.doorLaid Tryd.prog 400 os).forCall (fun _ _ => 0) ⟨#[], args, []⟩).memory :=
  laidMetH_of_parts3 (fuel := 8) (laidMet_of_run' 8 (by kernel_rfl) (by kernel_rfl)) (by kernel_rfl) (by kernel_rfl)

section
variable {H : Type} {enc : TypeId × Value → H} {w : World} {base : Nat} {sp : Nat → Bool} {held : Bool} {fuel : Nat} {cs : List Value}
theorem rowL_of {b : DataW H × List MemPlace} {a0 a1 : Int} (h : DataW.trod enc Tryd.prog w base sp held fuel 117 cs = some b) (hb : b.1 = .agg [.lit (.int .i64 a0), .lit (.int .i64 a1)]) : cs[0]? = some (.int .i64 a0) ∧ cs[1]? = some (.int .i64 a1) := by
  obtain ⟨y0, y1, n, rfl, hl, h0, h1⟩ := trod_struct2 Tryd.underlying117 h
  simp only [cellsI64] at h0 h1
  obtain ⟨z0, e0, q0, _⟩ := DataW.trod_int Tryd.underlying2 h0
  obtain ⟨z1, e1, q1, _⟩ := DataW.trod_int Tryd.underlying2 h1
  subst q0
  subst q1
  simp only [DataW.agg.injEq, List.cons.injEq, DataW.lit.injEq, Lit.int.injEq, true_and, and_true] at hb
  obtain ⟨rfl, rfl⟩ := hb
  have f0 := congrArg (·[0]?) e0
  have f1 := congrArg (·[0]?) e1
  simp [List.getElem?_take, List.getElem?_drop] at f0 f1
  exact ⟨f0, f1⟩
theorem rowsL_of {p : List MemPlace} (h : DataW.trod enc Tryd.prog w base sp held fuel 149 cs = some (Rows.laid_incipit_fold_letterRows, p)) (i : Nat) (hi : i < 7) : cs[2 * i]? = some (.int .i64 (letRows.getD i (0, 0)).1) ∧ cs[2 * i + 1]? = some (.int .i64 (letRows.getD i (0, 0)).2) := by
  cases fuel with
  | zero => simp [DataW.trod] at h
  | succ fuel =>
    simp only [DataW.trod, Tryd.underlying149, cellsRow, cellsRows] at h
    split at h
    · obtain ⟨xs, hm, hx⟩ := Option.map_eq_some_iff.1 h
      have hxs := congrArg Prod.fst hx
      simp only [Rows.laid_incipit_fold_letterRows, DataW.agg.injEq] at hxs
      obtain ⟨b, hb, hf⟩ := Lib.mapM_at hm i i (by simp [hi])
      have hbi : (xs.map (·.1))[i]? = some b.1 := by simp [hb]
      rw [hxs] at hbi
      have key := fun (a0 a1 : Int) (e : b.1 = .agg [.lit (.int .i64 a0), .lit (.int .i64 a1)]) => rowL_of hf e
      have h7 : i = 0 ∨ i = 1 ∨ i = 2 ∨ i = 3 ∨ i = 4 ∨ i = 5 ∨ i = 6 := by omega
      have fin : ∀ a0 a1 : Int, b.1 = .agg [.lit (.int .i64 a0), .lit (.int .i64 a1)] → cs[2 * i]? = some (.int .i64 a0) ∧ cs[2 * i + 1]? = some (.int .i64 a1) := fun a0 a1 e => by
        obtain ⟨k0, k1⟩ := key a0 a1 e
        simp [List.getElem?_take, List.getElem?_drop] at k0 k1
        rw [Nat.mul_comm]
        exact ⟨k0, k1⟩
      rcases h7 with rfl | rfl | rfl | rfl | rfl | rfl | rfl <;> exact fin _ _ (Option.some.inj hbi).symm
    · cases h
end

theorem let_of_laid {W : World} (h : laidMetH Tryd.prog laidRows W) : Let W := by
  rw [MakeChecks.laidMetH_plain _ _ _ (by kernel_rfl)] at h
  obtain ⟨ps, ⟨g', t', cs, fuel, p, q, hg', ht', hvar, hd, _, _⟩, _⟩ := h
  obtain rfl := Option.some.inj (gRows.symm.trans hg')
  obtain rfl := Option.some.inj (tRows.symm.trans ht')
  intro i hi
  obtain ⟨h0, h1⟩ := rowsL_of hd i hi
  have e0 := World.var?_cell gRows hvar (2 * i)
  have e1 := World.var?_cell gRows hvar (2 * i + 1)
  exact ⟨e0.trans (by simpa using h0), e1.trans (by simpa using h1)⟩

end Go.Proofs.YtimmfnjkknbofaaDoor
