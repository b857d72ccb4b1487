/- Contract: how many bytes two texts begin with, by package pack. -/
import Derived.Test.YtbopcppagfhjnaaCmp
namespace Go.Proofs.Ytbopcppagfhjnaa
open Go.RowKit

set_option maxHeartbeats 400000 in
theorem packPrefix_any (w : World) (va vb : Value) (xs ys : List Int) (ha : Sl w va xs) (hb : Sl w vb ys) :
    Calls Try.prog 32 #[va, vb] w fun e w' => e = .returned (.int .i64 (pre xs ys)) ∧ Below w.heap.size w w' := by
  obtain ⟨ba, aoa, capa, rfl, hla, hma, _, hca⟩ := ha
  obtain ⟨bb, aob, capb, rfl, hlb, hmb, _, hcb⟩ := hb
  unfold maxLen at hma hmb
  have hpl := pre_le_left xs ys
  have hpr := pre_le_right xs ys
  go_enter Try.func32, Try.ntmps32
  go_wp2
  go_loopw [5] (fun i wr => ∃ k : Nat, k ≤ pre xs ys ∧ i = .int .i64 k ∧ ∃ n, wr = w.drewN n) (fun i _ => pre xs ys + 1 - (intOf i).toNat)
  case atStart => exact ⟨0, Nat.zero_le _, rfl, 0, rfl⟩
  case round =>
    obtain ⟨k, hk, rfl, nd, rfl⟩ := hrel
    by_cases h1 : k < xs.length
    · by_cases h2 : k < ys.length
      · obtain ⟨b1, o1, rfl, hc1⟩ := hca (by intro h; simp [h] at h1)
        obtain ⟨b2, o2, rfl, hc2⟩ := hcb (by intro h; simp [h] at h2)
        obtain ⟨x, hx⟩ : ∃ x, x = xs.getD k 0 := ⟨_, rfl⟩
        obtain ⟨y, hy⟩ : ∃ y, y = ys.getD k 0 := ⟨_, rfl⟩
        have c1 := hc1 k h1
        have c2 := hc2 k h2
        rw [← hx] at c1
        rw [← hy] at c2
        have HX : Hid (x = xs.getD k 0) := hx
        have HY : Hid (y = ys.getD k 0) := hy
        clear hx hy hca hcb hc1 hc2
        have i1 : (k : Int) < (xs.length : Int) := by omega
        have i2 : (k : Int) < (ys.length : Int) := by omega
        by_cases hxy : x = y
        · subst hxy
          have hs := pre_step xs ys k hk h1 h2 (HX.out.symm.trans HY.out)
          go_wp2_with fail
          go_quiet (fail)
          go_wp2
          go_roundw
          case rel => exact ⟨k + 1, hs, by go_num, _, rfl⟩
          case measure => simp [intOf]; omega
        · have hb : (x == y) = false := by simpa using hxy
          have hs := pre_stop xs ys k hk (.inr (.inr (by rw [← HX.out, ← HY.out]; exact hxy)))
          go_wp2_with fail
          go_quiet (fail)
          go_wp2
          go_ret
          exact ⟨ret_int (by rw [hs]), below_drewN (below_drewN (Below.refl _ _) _) _⟩
      · have hs := pre_stop xs ys k hk (.inr (.inl (by omega)))
        have i1 : (k : Int) < (xs.length : Int) := by omega
        have i2 : decide ((k : Int) < (ys.length : Int)) = false := by simp; omega
        go_wp2_with fail
        go_quiet (fail)
        go_wp2
        go_ret
        exact ⟨ret_int (by rw [hs]), below_drewN (below_drewN (Below.refl _ _) _) _⟩
    · have hs := pre_stop xs ys k hk (.inl (by omega))
      have i1 : decide ((k : Int) < (xs.length : Int)) = false := by simp; omega
      go_wp2_with fail
      go_quiet (fail)
      go_wp2
      go_ret
      exact ⟨ret_int (by rw [hs]), below_drewN (below_drewN (Below.refl _ _) _) _⟩

end Go.Proofs.Ytbopcppagfhjnaa
