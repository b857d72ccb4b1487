/- Contracts: how the document's answer (incipitref01) compares two texts. -/
import Derived.Test.YtmjkpgmmfooajaaRows
import Derived.Test.YtmjkpgmmfooajaaOwn
namespace Go.Proofs.Ytmjkpgmmfooajaa
set_option maxRecDepth 20000
open Go.RowKit

theorem sl_case {w : World} {v : Value} {zs : List Int} (h : Sl w v zs) :
    (zs = [] ∧ ∃ ao cap, v = .slice ao 0 cap) ∨ (∃ b off cap, v = .slice (some ⟨b, off, none⟩) zs.length cap ∧ zs.length ≤ cap ∧ cap ≤ maxLen ∧ ∀ i, i < zs.length → w.cell? ⟨b, off + i, none⟩ = some (.int .u8 (zs.getD i 0))) := by
  obtain ⟨_, ao, cap, rfl, h1, h2, h3, h4⟩ := h
  by_cases hz : zs = []
  · subst hz; exact .inl ⟨rfl, ao, cap, rfl⟩
  · obtain ⟨b, off, rfl, hc⟩ := h4 hz
    exact .inr ⟨b, off, cap, rfl, h1, h2, hc⟩

set_option maxHeartbeats 400000 in
theorem refPrefix_any (w : World) (va vb : Value) (xs ys : List Int) (ha : Sl w va xs) (hb : Sl w vb ys) :
    Calls Try.prog 47 #[va, vb] w fun e w' => e = .returned (.int .i64 (pre xs ys)) ∧ Below w.heap.size w w' := by
  obtain ⟨ba, aoa, capa, rfl, hla, hma, _, hca⟩ := ha
  obtain ⟨bb, aob, capb, rfl, hlb, hmb, _, hcb⟩ := hb
  unfold maxLen at hma hmb
  have hpl := pre_le_left xs ys
  have hpr := pre_le_right xs ys
  go_enter Try.func47, Try.ntmps47
  go_wp2
  go_loopw [5] (fun i wr => ∃ k : Nat, k ≤ pre xs ys ∧ i = .int .i64 k ∧ ∃ n, wr = w.drewN n) (fun i _ => pre xs ys + 1 - (intOf i).toNat)
  case atStart => exact ⟨0, Nat.zero_le _, rfl, 0, rfl⟩
  case round =>
    obtain ⟨k, hk, rfl, nd, rfl⟩ := hrel
    by_cases h1 : k < xs.length
    · by_cases h2 : k < ys.length
      · obtain ⟨b1, o1, rfl, hc1⟩ := hca (by intro h; simp [h] at h1)
        obtain ⟨b2, o2, rfl, hc2⟩ := hcb (by intro h; simp [h] at h2)
        obtain ⟨x, hx⟩ : ∃ x, x = xs.getD k 0 := ⟨_, rfl⟩
        obtain ⟨y, hy⟩ : ∃ y, y = ys.getD k 0 := ⟨_, rfl⟩
        have c1 := hc1 k h1
        have c2 := hc2 k h2
        rw [← hx] at c1
        rw [← hy] at c2
        have HX : Hid (x = xs.getD k 0) := hx
        have HY : Hid (y = ys.getD k 0) := hy
        clear hx hy hca hcb hc1 hc2
        have i1 : (k : Int) < (xs.length : Int) := by omega
        have i2 : (k : Int) < (ys.length : Int) := by omega
        by_cases hxy : x = y
        · subst hxy
          have hs := pre_step xs ys k hk h1 h2 (HX.out.symm.trans HY.out)
          go_wp2_with fail
          go_quiet (fail)
          go_wp2
          go_roundw
          case rel => exact ⟨k + 1, hs, by go_num, _, rfl⟩
          case measure => simp [intOf]; omega
        · have hb : (x == y) = false := by simpa using hxy
          have hs := pre_stop xs ys k hk (.inr (.inr (by rw [← HX.out, ← HY.out]; exact hxy)))
          go_wp2_with fail
          go_quiet (fail)
          go_wp2
          go_ret
          exact ⟨ret_int (by rw [hs]), below_drewN (below_drewN (Below.refl _ _) _) _⟩
      · have hs := pre_stop xs ys k hk (.inr (.inl (by omega)))
        have i1 : (k : Int) < (xs.length : Int) := by omega
        have i2 : decide ((k : Int) < (ys.length : Int)) = false := by simp; omega
        go_wp2_with fail
        go_quiet (fail)
        go_wp2
        go_ret
        exact ⟨ret_int (by rw [hs]), below_drewN (below_drewN (Below.refl _ _) _) _⟩
    · have hs := pre_stop xs ys k hk (.inl (by omega))
      have i1 : decide ((k : Int) < (xs.length : Int)) = false := by simp; omega
      go_wp2_with fail
      go_quiet (fail)
      go_wp2
      go_ret
      exact ⟨ret_int (by rw [hs]), below_drewN (below_drewN (Below.refl _ _) _) _⟩


set_option maxHeartbeats 400000 in
theorem refCompare_any (w : World) (va vb : Value) (xs ys : List Int) (ha : Sl w va xs) (hb : Sl w vb ys) :
    Calls Try.prog 33 #[va, vb] w fun e w' => e = .returned (.int .i64 (cmp xs ys)) ∧ Below w.heap.size w w' := by
  have hpl := pre_le_left xs ys
  have hpr := pre_le_right xs ys
  have HC : Hid (cmp xs ys = _) := cmp_pre xs ys
  have HP : Hid (∀ w, Sl w va xs → Sl w vb ys → Calls Try.prog 47 #[va, vb] w fun e w' => e = .returned (.int .i64 (pre xs ys)) ∧ Below w.heap.size w w') := fun w h1 h2 => refPrefix_any w va vb xs ys h1 h2
  have Ha := ha
  have Hb := hb
  obtain ⟨ba, aoa, capa, rfl, hla, hma, _, hca⟩ := ha
  obtain ⟨bb, aob, capb, rfl, hlb, hmb, _, hcb⟩ := hb
  unfold maxLen at hma hmb
  obtain ⟨p, hp⟩ : ∃ p, p = pre xs ys := ⟨_, rfl⟩
  rw [← hp] at hpl hpr HC HP
  clear hp
  by_cases e1 : p = xs.length
  · by_cases e2 : p = ys.length
    · have hc : cmp xs ys = 0 := by have := HC.out; rw [if_pos e1, if_pos e2] at this; exact this
      have i1 : (p : Int) = (xs.length : Int) := by omega
      have i2 : (p : Int) = (ys.length : Int) := by omega
      clear e1 e2 hca hcb
      go_enter Try.func33, Try.ntmps33
      go_wp2_with (go_at_call 47; refine (HP.out _ Ha Hb).mono ?_; rintro e w1 ⟨rfl, hb1⟩)
      go_ret
      exact ⟨ret_int (by rw [hc]), hb1⟩
    · have hc : cmp xs ys = -1 := by have := HC.out; rw [if_pos e1, if_neg e2] at this; exact this
      have i1 : (p : Int) = (xs.length : Int) := by omega
      have i2 : ((p : Int) == (ys.length : Int)) = false := by simp; omega
      clear e1 e2 hca hcb
      go_enter Try.func33, Try.ntmps33
      go_wp2_with (go_at_call 47; refine (HP.out _ Ha Hb).mono ?_; rintro e w1 ⟨rfl, hb1⟩)
      go_ret
      exact ⟨ret_int (by rw [hc]), hb1⟩
  · have i1 : ((p : Int) == (xs.length : Int)) = false := by simp; omega
    by_cases e2 : p = ys.length
    · have hc : cmp xs ys = 1 := by have := HC.out; rw [if_neg e1, if_pos e2] at this; exact this
      subst e2
      clear e1 hca hcb
      go_enter Try.func33, Try.ntmps33
      go_wp2_with (go_at_call 47; refine (HP.out _ Ha Hb).mono ?_; rintro e w1 ⟨rfl, hb1⟩)
      go_quiet (fail)
      go_wp2
      go_ret
      exact ⟨ret_int (by rw [hc]), below_drewN hb1 _⟩
    · have hc : cmp xs ys = if ys.getD p 0 < xs.getD p 0 then 1 else -1 := by have := HC.out; rw [if_neg e1, if_neg e2] at this; exact this
      have i2 : ((p : Int) == (ys.length : Int)) = false := by simp; omega
      have j1 : (p : Int) < (xs.length : Int) := by omega
      have j2 : (p : Int) < (ys.length : Int) := by omega
      obtain ⟨b1, o1, rfl, hc1⟩ := hca (by intro h; simp [h] at j1; omega)
      obtain ⟨b2, o2, rfl, hc2⟩ := hcb (by intro h; simp [h] at j2; omega)
      have c1 := hc1 p (by omega)
      have c2 := hc2 p (by omega)
      have l1 := World.block_lt_of_cell? w _ c1
      have l2 := World.block_lt_of_cell? w _ c2
      obtain ⟨x, hx⟩ : ∃ x, x = xs.getD p 0 := ⟨_, rfl⟩
      obtain ⟨y, hy⟩ : ∃ y, y = ys.getD p 0 := ⟨_, rfl⟩
      rw [← hx] at c1 hc
      rw [← hy] at c2 hc
      have C1 := Hid.out c1
      have C2 := Hid.out c2
      clear hx hy e1 e2 hca hcb hc1 hc2 HC c1 c2
      by_cases hxy : y < x
      · rw [if_pos hxy] at hc
        go_enter Try.func33, Try.ntmps33
        go_wp2_with (go_at_call 47; refine (HP.out _ Ha Hb).mono ?_; rintro e w1 ⟨rfl, hb1⟩; have d1 := (hb1.cell l1).trans C1; have d2 := (hb1.cell l2).trans C2)
        go_quiet (fail)
        go_wp2
        go_ret
        exact ⟨ret_int (by rw [hc]), below_drewN hb1 _⟩
      · rw [if_neg hxy] at hc
        have hd : decide (y < x) = false := by simpa using hxy
        go_enter Try.func33, Try.ntmps33
        go_wp2_with (go_at_call 47; refine (HP.out _ Ha Hb).mono ?_; rintro e w1 ⟨rfl, hb1⟩; have d1 := (hb1.cell l1).trans C1; have d2 := (hb1.cell l2).trans C2)
        go_quiet (fail)
        go_wp2
        go_ret
        exact ⟨ret_int (by rw [hc]), below_drewN hb1 _⟩

theorem refSame_any (w : World) (va vb : Value) (xs ys : List Int) (ha : Sl w va xs) (hb : Sl w vb ys) :
    Calls Try.prog 12 #[va, vb] w fun e w' => e = .returned (.bool (decide (xs = ys))) ∧ Below w.heap.size w w' := by
  have HC := refCompare_any w va vb xs ys ha hb
  have hz := cmp_zero_iff xs ys
  obtain ⟨c, hc⟩ : ∃ c, c = cmp xs ys := ⟨_, rfl⟩
  rw [← hc] at HC hz
  clear hc
  go_enter Try.func12, Try.ntmps12
  go_wp2_with (go_at_call 33; refine HC.mono ?_; rintro e w1 ⟨rfl, hb1⟩)
  go_ret
  exact ⟨ret_bool (by rw [Bool.eq_iff_iff]; simp [hz]), hb1⟩

end Go.Proofs.Ytmjkpgmmfooajaa
