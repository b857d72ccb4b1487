/- Contracts: the register goes on, by package crc and by the document's answer. -/
import Derived.Test.YtmeiahmolmneeaaDoorOwn
import Derived.Test.YtmeiahmolmneeaaDoorCrcMath
import Derived.Laws.BitsAllLaws
namespace Go.Proofs.YtmeiahmolmneeaaDoor
set_option maxRecDepth 20000
open Go.RowKit

/-- the table of four bits' steps lies where package crc has it -/
def Tab (w : World) : Prop := ∀ i, i < 16 → w.cell? ⟨2, i, none⟩ = some (.int .u32 (tab.getD i 0))

theorem Tab.below {w w' : World} (h : Tab w) (hb : Below w.heap.size w w') : Tab w' := fun i hi => by
  have := World.block_lt_of_cell? w _ (h i hi)
  rw [World.cell?_of_block (w := w) (hb.block 2 this)]
  exact h i hi
theorem Tab.alloc {w : World} (h : Tab w) (o : Obj) : Tab (w.alloc o) := h.below ((Below.refl _ w).alloc (Nat.le_refl _) o)

/-- slices that stand in a slice -/
def Parts (w : World) (v : Value) (vs : List Value) (pss : List (List Int)) : Prop :=
  vs.length = pss.length ∧ ∃ ao cap, v = .slice ao vs.length cap ∧ vs.length ≤ cap ∧ cap ≤ maxLen ∧
    (∀ i, i < vs.length → Sl w (vs.getD i (.slice none 0 0)) (pss.getD i [])) ∧
    (vs ≠ [] → ∃ b off, ao = some ⟨b, off, none⟩ ∧ ∀ i, i < vs.length → w.cell? ⟨b, off + i, none⟩ = some (vs.getD i (.slice none 0 0)))

theorem and1 (x : Nat) (h : x < 4294967296) : bits .and .u32 (x : Int) 1 = ((x % 2 : Nat) : Int) := by
  have := u32_and_nat x 1 h (by omega)
  rw [Nat.and_one_is_mod] at this
  exact this
theorem and15 (x : Nat) (h : x < 4294967296) : bits .and .u32 (x : Int) 15 = ((x % 16 : Nat) : Int) := by
  have := u32_and_nat x 15 h (by omega)
  rw [show (15 : Nat) = 2 ^ 4 - 1 from rfl, Nat.and_two_pow_sub_one_eq_mod] at this
  exact this
theorem xorN (x y : Nat) (hx : x < 4294967296) (hy : y < 4294967296) : bits .xor .u32 (x : Int) (y : Int) = ((x ^^^ y : Nat) : Int) := u32_xor_nat x y hx hy

theorem stp_odd {x : Nat} (h : x % 2 = 1) : stp x = x / 2 ^^^ 2197175160 := by unfold stp poly; rw [if_pos h]
theorem stp_even {x : Nat} (h : x % 2 = 0) : stp x = x / 2 := by unfold stp; rw [if_neg (by omega), Nat.xor_zero]

theorem goes_any (w : World) (r : Nat) (c : Int) (hr : r < 4294967296) (h0 : 0 ≤ c) (h1 : c ≤ 255) :
    Calls Tryd.prog 87 #[.int .u32 r, .int .u8 c] w fun e w' => e = .returned (.int .u32 (stpN 8 (r ^^^ c.toNat) : Nat)) ∧ w' = w := by
  have hx := xorN r c.toNat hr (by omega)
  rw [show ((c.toNat : Nat) : Int) = c by omega] at hx
  have hy : r ^^^ c.toNat < 4294967296 := xor_lt32 hr (by omega)
  obtain ⟨y, hyy⟩ : ∃ y, y = r ^^^ c.toNat := ⟨_, rfl⟩
  rw [← hyy] at hx hy ⊢
  clear hyy
  go_enter Tryd.func87, Tryd.ntmps87
  go_wp2
  go_loopg [0, 5] 8 (fun k rr i wr => ∃ j x : Nat, k + j = 8 ∧ x < 4294967296 ∧ stpN k x = stpN 8 y ∧ rr = .int .u32 (x : Int) ∧ i = .int .i64 j ∧ wr = w)
  case atStart => exact ⟨0, y, rfl, hy, rfl, by go_num, rfl, rfl⟩
  case round =>
    obtain ⟨j, x, hk, hx1, hs, rfl, rfl, rfl⟩ := hrel
    have HS := hide hs
    clear hs hx
    have ha := and1 x hx1
    cases gk with
    | zero =>
      obtain rfl : j = 8 := by omega
      go_wp2
      go_ret
      exact ⟨ret_int (by rw [← HS.out]; rfl), rfl⟩
    | succ k =>
      have hj : (j : Int) < 8 := by omega
      rcases Nat.mod_two_eq_zero_or_one x with hp | hp
      · rw [hp] at ha
        go_wp2
        go_roundg k
        case measure => omega
        case rel => exact ⟨j + 1, x / 2, by omega, by omega, by rw [← HS.out, stpN, stp_even hp], by go_num, by go_num, rfl⟩
      · rw [hp] at ha
        have hxx := xorN (x / 2) 2197175160 (by omega) (by omega)
        rw [show ((x / 2 : Nat) : Int) = (x : Int) / 2 by omega, show ((2197175160 : Nat) : Int) = 2197175160 from rfl, ← stp_odd hp] at hxx
        have hlt := stp_lt hx1
        go_wp2
        go_roundg k
        case measure => omega
        case rel => exact ⟨j + 1, stp x, by omega, hlt, by rw [← HS.out]; rfl, by go_num, by go_num, rfl⟩


end Go.Proofs.YtmeiahmolmneeaaDoor
