/- Contracts: the small functions of package extent, math/bits.OnesCount64, TrailingZeros64. -/
import Derived.Test.YtbnhacibkmcmkaaDoorEMath
import Derived.Test.YtbnhacibkmcmkaaDoorDBase
import Derived.Maps.OwnSet
namespace Go.Proofs.YtbnhacibkmcmkaaDoor
set_option maxRecDepth 20000
open Go.RowKit
set_option linter.unusedVariables false

/-- the table of math/bits lies where its initialiser lays it -/
def TabB (w : World) : Prop := ∀ j, j < 64 → w.cell? ⟨0, j, none⟩ = some (.int .u8 (Lib.deBruijn64tab.getD j 0))
theorem TabB.below {w w' : World} (h : TabB w) (hb : Below w.heap.size w w') : TabB w' := fun i hi => by
  have := World.block_lt_of_cell? w _ (h i hi)
  rw [World.cell?_of_block (w := w) (hb.block 0 this)]
  exact h i hi

abbrev dp (b : Nat) : Value := .pointer (some ⟨b, 0, none⟩)
theorem made_nil (w : World) : Calls Tryd.prog 62 #[.pointer none] w fun e w' => e = .returned (.bool false) ∧ w' = w := by
  go_enter Tryd.func62, Tryd.ntmps62
  go_wp2
  go_ret
  exact ⟨rfl, rfl⟩
theorem made_cell (w : World) (b n : Nat) (c0 : w.cell? ⟨b, 0, none⟩ = some (.int .i64 n)) : Calls Tryd.prog 62 #[dp b] w fun e w' => e = .returned (.bool (decide (0 < n))) ∧ w' = w := by
  go_enter Tryd.func62, Tryd.ntmps62
  go_wp2
  go_ret
  exact ⟨ret_bool (by simp), rfl⟩
theorem exists_any (w : World) (b n : Nat) (p : Int) (c0 : w.cell? ⟨b, 0, none⟩ = some (.int .i64 n)) : Calls Tryd.prog 63 #[dp b, .int .i64 p] w fun e w' => e = .returned (.bool (decide (0 ≤ p ∧ p < n))) ∧ w' = w := by
  by_cases h0 : 0 ≤ p
  all_goals
    go_enter Tryd.func63, Tryd.ntmps63
    go_wp2
    go_ret
    exact ⟨ret_bool (by simp [h0] <;> omega), rfl⟩
theorem wrap_u64_in (n : Nat) (h : n < 18446744073709551616) : IntKind.u64.wrap (n : Int) = (n : Int) := by rw [IntKind.wrap_u64]; omega
theorem bitOf_any (w : World) (p : Nat) : Calls Tryd.prog 68 #[.int .i64 p] w fun e w' => e = .returned (.int .u64 (2 ^ (p % 64) : Nat)) ∧ w' = w := by
  have hw := wrap_u64_in (2 ^ (p % 64)) (two_pow_lt64 (Nat.mod_lt _ (by decide)))
  go_enter Tryd.func68, Tryd.ntmps68
  go_wp2
  go_ret
  exact ⟨ret_int (by rw [← hw]; simp), rfl⟩
theorem below_any (w : World) (n : Int) : Calls Tryd.prog 70 #[.int .i64 n] w fun e w' => e = .returned (.int .u64 (2 ^ (min n.toNat 64) - 1 : Nat)) ∧ w' = w := by
  by_cases h0 : n < 0
  · go_enter Tryd.func70, Tryd.ntmps70
    go_wp2
    go_ret
    exact ⟨ret_int (by rw [show n.toNat = 0 by omega]; rfl), rfl⟩
  · by_cases h1 : 64 < n
    · have e1 : (if n < 0 then (0 : Int) else n) = n := if_neg h0
      have h2 : ¬ n ≤ 64 := by omega
      go_enter Tryd.func70, Tryd.ntmps70
      go_wp2
      go_ret
      exact ⟨ret_int (by rw [show min n.toNat 64 = 64 by omega]; rfl), rfl⟩
    · have e1 : (if n < 0 then (0 : Int) else n) = n := if_neg h0
      have h2 : n ≤ 64 := by omega
      go_enter Tryd.func70, Tryd.ntmps70
      go_wp2
      go_ret
      refine ⟨ret_int ?_, rfl⟩
      try rw [show min n.toNat 64 = n.toNat by omega]
      by_cases h64 : n.toNat = 64
      · rw [h64]; rfl
      · have hlt := two_pow_lt64 (j := n.toNat) (by omega)
        have hpos : 0 < 2 ^ n.toNat := Nat.two_pow_pos _
        rw [show (2 : Int) ^ n.toNat = ((2 ^ n.toNat : Nat) : Int) by simp, wrap_u64_in _ hlt]
        generalize 2 ^ n.toNat = X at *
        rw [show (X : Int) - 1 = ((X - 1 : Nat) : Int) by omega, wrap_u64_in _ (by omega)]
theorem i64_and127 (z : Nat) (h : z < 9223372036854775808) : bits .and .i64 (z : Int) 127 = ((z % 128 : Nat) : Int) := by
  have := bits_mask .i64 63 (by decide) (fun n h0 h1 => by rw [IntKind.wrap_i64]; omega) 7 (by decide) z (by omega) (by omega)
  rw [show (2 : Int) ^ 7 - 1 = 127 from rfl] at this
  rw [this]
  omega
theorem wrap_i64_in (n : Nat) (h : n < 9223372036854775808) : IntKind.i64.wrap (n : Int) = (n : Int) := by rw [IntKind.wrap_i64]; omega
theorem ones_any (w : World) (x : Nat) (hx : x < 18446744073709551616) : Calls Tryd.prog 69 #[.int .u64 x] w fun e w' => e = .returned (.int .i64 (cntF x.testBit 64 : Nat)) ∧ w' = w := by
  obtain ⟨a1, ha1⟩ : ∃ a, x / 2 &&& 6148914691236517205 = a := ⟨_, rfl⟩
  obtain ⟨b1, hb1⟩ : ∃ a, x &&& 6148914691236517205 = a := ⟨_, rfl⟩
  obtain ⟨x1, hx1⟩ : ∃ x1, oc1 x = x1 := ⟨_, rfl⟩
  have k1 : a1 + b1 = x1 := by rw [← hx1, oc1, ha1, hb1]
  have l1 : x1 < 18446744073709551616 := by
    have := @Nat.and_le_right (x / 2) 6148914691236517205
    have := @Nat.and_le_right x 6148914691236517205
    omega
  have A1 := u64_and_nat (x / 2) 6148914691236517205 (by omega) (by omega)
  have B1 := u64_and_nat x 6148914691236517205 hx (by omega)
  rw [ha1, show ((x / 2 : Nat) : Int) = (x : Int) / 2 by omega] at A1
  rw [show ((6148914691236517205 : Nat) : Int) = 6148914691236517205 from rfl] at A1 B1
  rw [hb1] at B1
  have W1 : IntKind.u64.wrap ((a1 : Int) + (b1 : Int)) = (x1 : Int) := by rw [← Int.natCast_add, k1]; exact wrap_u64_in _ l1
  obtain ⟨a2, ha2⟩ : ∃ a, x1 / 4 &&& 3689348814741910323 = a := ⟨_, rfl⟩
  obtain ⟨b2, hb2⟩ : ∃ a, x1 &&& 3689348814741910323 = a := ⟨_, rfl⟩
  obtain ⟨x2, hx2⟩ : ∃ x2, oc2 x1 = x2 := ⟨_, rfl⟩
  have k2 : a2 + b2 = x2 := by rw [← hx2, oc2, ha2, hb2]
  have l2 : x2 ≤ 7378697629483820646 := by
    have := @Nat.and_le_right (x1 / 4) 3689348814741910323
    have := @Nat.and_le_right x1 3689348814741910323
    omega
  have A2 := u64_and_nat (x1 / 4) 3689348814741910323 (by omega) (by omega)
  have B2 := u64_and_nat x1 3689348814741910323 l1 (by omega)
  rw [ha2, show ((x1 / 4 : Nat) : Int) = (x1 : Int) / 4 by omega] at A2
  rw [show ((3689348814741910323 : Nat) : Int) = 3689348814741910323 from rfl] at A2 B2
  rw [hb2] at B2
  have W2 : IntKind.u64.wrap ((a2 : Int) + (b2 : Int)) = (x2 : Int) := by rw [← Int.natCast_add, k2]; exact wrap_u64_in _ (by omega)
  obtain ⟨s, hs⟩ : ∃ s, x2 / 16 + x2 = s := ⟨_, rfl⟩
  have W3 : IntKind.u64.wrap ((x2 : Int) / 16 + (x2 : Int)) = (s : Int) := by rw [show (x2 : Int) / 16 + (x2 : Int) = ((s : Nat) : Int) by omega]; exact wrap_u64_in _ (by omega)
  obtain ⟨y, hy⟩ : ∃ y, oc3 x2 = y := ⟨_, rfl⟩
  have A3 := u64_and_nat s 1085102592571150095 (by omega) (by omega)
  rw [show s &&& 1085102592571150095 = y by rw [← hy, oc3, hs], show ((1085102592571150095 : Nat) : Int) = 1085102592571150095 from rfl] at A3
  obtain ⟨z1, hz1⟩ : ∃ z, y + y / 256 = z := ⟨_, rfl⟩
  obtain ⟨z2, hz2⟩ : ∃ z, z1 + z1 / 65536 = z := ⟨_, rfl⟩
  obtain ⟨z3, hz3⟩ : ∃ z, z2 + z2 / 4294967296 = z := ⟨_, rfl⟩
  obtain ⟨q1, q2, q3, q4, q5⟩ := oc_end x y z1 z2 z3 (by rw [hx1, hx2, hy]) hz1 hz2 hz3
  have W4 : IntKind.u64.wrap ((y : Int) + (y : Int) / 256) = (z1 : Int) := by rw [show (y : Int) + (y : Int) / 256 = ((z1 : Nat) : Int) by omega]; exact wrap_u64_in _ (by omega)
  have W5 : IntKind.u64.wrap ((z1 : Int) + (z1 : Int) / 65536) = (z2 : Int) := by rw [show (z1 : Int) + (z1 : Int) / 65536 = ((z2 : Nat) : Int) by omega]; exact wrap_u64_in _ (by omega)
  have W6 : IntKind.u64.wrap ((z2 : Int) + (z2 : Int) / 4294967296) = (z3 : Int) := by rw [show (z2 : Int) + (z2 : Int) / 4294967296 = ((z3 : Nat) : Int) by omega]; exact wrap_u64_in _ (by omega)
  have W7 := wrap_i64_in z3 q3
  have A4 := i64_and127 z3 q3
  rw [q5] at A4
  generalize cntF x.testBit 64 = C at *
  clear ha1 hb1 hx1 k1 ha2 hb2 hx2 k2 hs hy hz1 hz2 hz3 q5 l1 l2 q1 q2 q3 q4
  go_enter Tryd.func69, Tryd.ntmps69
  go_wp2
  go_ret
  exact ⟨rfl, rfl⟩

theorem tz_any (w : World) (x : Nat) (hx : x < 18446744073709551616) (hx0 : x ≠ 0) (hT : TabB w) : Calls Tryd.prog 71 #[.int .u64 x] w fun e w' => e = .returned (.int .i64 (Lib.ctz 64 x : Nat)) ∧ w' = w := by
  obtain ⟨hlow, hk⟩ := Lib.lowest_bit 64 x hx0 hx
  obtain ⟨hi, htab⟩ := Lib.deBruijn64_at _ hk
  generalize Lib.ctz 64 x = k at *
  have e1 : IntKind.u64.wrap (-(x : Int)) = ((18446744073709551616 - x : Nat) : Int) := by rw [IntKind.wrap_u64]; omega
  have A1 := u64_and_nat x (18446744073709551616 - x) hx (by omega)
  rw [show x &&& (18446744073709551616 - x) = 2 ^ k from hlow] at A1
  obtain ⟨P, hP⟩ : ∃ P, 2 ^ k = P := ⟨_, rfl⟩
  rw [hP] at A1 hi htab
  obtain ⟨Q, hQ⟩ : ∃ Q, P * 285870213051353865 % 18446744073709551616 = Q := ⟨_, rfl⟩
  rw [hQ] at hi htab
  obtain ⟨I, hI⟩ : ∃ I, Q / 288230376151711744 = I := ⟨_, rfl⟩
  rw [hI] at hi htab
  have W1 : IntKind.u64.wrap ((P : Int) * 285870213051353865) = (Q : Int) := by rw [IntKind.wrap_u64]; omega
  have D1 : (Q : Int) / 288230376151711744 = (I : Int) := by omega
  have hc := hT I hi
  rw [htab] at hc
  have hne : ((x : Int) == 0) = false := by simp; omega
  clear hlow hP hQ hI htab hT
  obtain ⟨N, hN⟩ : ∃ N, 18446744073709551616 - x = N := ⟨_, rfl⟩
  rw [hN] at e1 A1
  clear hN
  go_enter Tryd.func71, Tryd.ntmps71
  go_wp2
  go_ret
  exact ⟨rfl, rfl⟩

end Go.Proofs.YtbnhacibkmcmkaaDoor
