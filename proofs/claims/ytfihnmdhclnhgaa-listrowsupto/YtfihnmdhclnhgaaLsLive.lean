/- Contracts: slices.Equal at uint32; the law's live (incipitlaw16.live). -/
import Derived.Test.YtfihnmdhclnhgaaLsPhr
import Derived.Test.YtfihnmdhclnhgaaPoSAll
namespace Go.Proofs.Ytfihnmdhclnhgaa
set_option maxRecDepth 20000
open Go.RowKit
set_option linter.unusedVariables false
set_option linter.unusedSimpArgs false
set_option maxRecDepth 100000

theorem take_stepU {xs ys : List Int} {k : Nat} (h1 : k < xs.length) (h2 : k < ys.length) (h : xs.take k = ys.take k) (e : xs.getD k 0 = ys.getD k 0) : xs.take (k + 1) = ys.take (k + 1) := by
  rw [List.take_succ_eq_append_getElem h1, List.take_succ_eq_append_getElem h2, h]
  rw [getD_lt xs h1, getD_lt ys h2] at e
  rw [e]
set_option maxHeartbeats 1000000 in
theorem equalU_any (w : World) (va vb : Value) (xs ys : List Int) (ha : Ul w va xs) (hb : Ul w vb ys) : Calls Try.prog 20 #[va, vb] w fun e w' => e = .returned (.bool (decide (xs = ys))) ∧ Below w.heap.size w w' := by
  obtain ⟨ao, ac, rfl, h1, h2⟩ := ha.shape
  obtain ⟨bo, bc, rfl, h3, h4⟩ := hb.shape
  have HA := hide ha
  have HB := hide hb
  have HR : Hid (∀ b, (xs = ys ↔ b = true) → decide (xs = ys) = b) := fun b hb => by
    rw [Bool.eq_iff_iff, decide_eq_true_iff]
    exact hb
  generalize decide (xs = ys) = R at HR ⊢
  obtain ⟨m, hm⟩ : ∃ m, xs.length = m := ⟨_, rfl⟩
  obtain ⟨n, hn⟩ : ∃ n, ys.length = n := ⟨_, rfl⟩
  have HM := hide hm
  have HN := hide hn
  rw [hm] at HA h1 ⊢
  rw [hn] at HB h3 ⊢
  clear ha hb hm hn
  by_cases hmn : m = n
  · subst hmn
    go_enter Try.func20, Try.ntmps20
    go_wp2
    go_loopg [13] m (fun g i wr => ∃ k : Nat, g + k = m ∧ i = .int .i64 (k : Int) ∧ xs.take k = ys.take k ∧ ∃ q, wr = w.drewN q)
    case atStart => exact ⟨0, by omega, rfl, rfl, 0, rfl⟩
    case round =>
      obtain ⟨k, hg, rfl, ht, q, rfl⟩ := hrel
      have HT := hide ht
      clear ht
      by_cases hk : k < m
      · obtain ⟨b1, o1, rfl, c1⟩ := HA.out.at k (by have := HM.out; omega)
        obtain ⟨b2, o2, rfl, c2⟩ := HB.out.at k (by have := HN.out; omega)
        obtain ⟨x, hx⟩ : ∃ x, xs.getD k 0 = x := ⟨_, rfl⟩
        obtain ⟨y, hy⟩ : ∃ y, ys.getD k 0 = y := ⟨_, rfl⟩
        rw [hx] at c1
        rw [hy] at c2
        have HX := hide hx
        have HY := hide hy
        have hkk : (k : Int) < (m : Int) := by omega
        clear hx hy
        by_cases hxy : x = y
        · subst hxy
          go_wp2
          go_quiet (fail)
          go_wp2
          go_roundg (gk - 1)
          case measure => omega
          case rel => exact ⟨k + 1, by omega, by go_num, take_stepU (by have := HM.out; omega) (by have := HN.out; omega) HT.out (by rw [HX.out, HY.out]), _, rfl⟩
        · have hb : (x == y) = false := by simpa using hxy
          go_wp2
          go_quiet (fail)
          go_wp2
          go_ret
          exact ⟨ret_bool (HR.out false ⟨fun e => absurd (by rw [← HX.out, ← HY.out, e]) hxy, fun e => by cases e⟩).symm, by repeat (first | exact Below.refl _ _ | refine below_drewN ?_ _)⟩
      · obtain rfl : k = m := by omega
        go_wp2
        go_ret
        refine ⟨ret_bool (HR.out true ⟨fun _ => rfl, fun _ => ?_⟩).symm, by repeat (first | exact Below.refl _ _ | refine below_drewN ?_ _)⟩
        have := HT.out
        rwa [List.take_of_length_le (Nat.le_of_eq HM.out), List.take_of_length_le (Nat.le_of_eq HN.out)] at this
  · have hmi : ((m : Int) == (n : Int)) = false := by simp; omega
    go_enter Try.func20, Try.ntmps20
    go_wp2
    go_ret
    exact ⟨ret_bool (HR.out false ⟨fun e => absurd (by rw [← HM.out, ← HN.out, e]) hmn, fun e => by cases e⟩).symm, Below.refl _ _⟩

theorem ul_lit (w : World) (zs : List Int) (hm : zs.length ≤ maxLen) : Ul (w.alloc (.cells (uv zs).toArray 27)) (.slice (some ⟨w.heap.size, 0, none⟩) zs.length zs.length) zs := (un_lit w zs hm).ul
theorem isL (w : World) (zs : List Int) (hm : zs.length ≤ maxLen) : Is (w.alloc (.cells (iv zs).toArray 3)) (.slice (some ⟨w.heap.size, 0, none⟩) zs.length zs.length) zs := (ints_lit w zs hm).is
theorem pq_one (w : World) (d : Nat) (u : Value) (zs : List Int) : Pq (w.alloc (.cells #[.int .u32 (d : Int), u] 63)) (.slice (some ⟨w.heap.size, 0, none⟩) 1 1) [(u, ⟨d, zs⟩)] := by
  have hB := Blk.new w 63 [.int .u32 (d : Int), u]
  refine ⟨_, 1, rfl, Nat.le_refl _, by simp [maxLen], fun _ => ⟨_, 0, rfl, fun i hi => ?_⟩⟩
  obtain rfl : i = 0 := by simpa using hi
  exact ⟨hB.cell 0, hB.cell 1⟩
theorem uls_two (w : World) (u v : Value) (xs ys : List Int) (hu : Ul w u xs) (hv : Ul w v ys) : Uls (w.alloc (.cells #[u, v] 23)) (.slice (some ⟨w.heap.size, 0, none⟩) 2 2) [u, v] [xs, ys] := by
  have hB := Blk.new w 23 [u, v]
  have hb : Below w.heap.size w (w.alloc (.cells #[u, v] 23)) := (Below.refl _ w).alloc (Nat.le_refl _) _
  refine ⟨rfl, _, 2, rfl, Nat.le_refl _, by simp [maxLen], fun i hi => ?_, fun _ => ⟨_, 0, rfl, fun i hi => ?_⟩⟩
  · match i, hi with
    | 0, _ => exact hu.below hb
    | 1, _ => exact hv.below hb
  · match i, hi with
    | 0, _ => exact hB.cell 0
    | 1, _ => exact hB.cell 1
theorem pss_two (w : World) (u v : Value) (xs ys : List PE) (hu : Pq w u xs ∧ PqIn w xs) (hv : Pq w v ys ∧ PqIn w ys) : Pss (w.alloc (.cells #[u, v] 47)) (.slice (some ⟨w.heap.size, 0, none⟩) 2 2) [u, v] [xs, ys] := by
  have hB := Blk.new w 47 [u, v]
  have hb : Below w.heap.size w (w.alloc (.cells #[u, v] 47)) := (Below.refl _ w).alloc (Nat.le_refl _) _
  refine ⟨rfl, _, 2, rfl, Nat.le_refl _, by simp [maxLen], fun i hi => ?_, fun _ => ⟨_, 0, rfl, fun i hi => ?_⟩⟩
  · match i, hi with
    | 0, _ => exact ⟨hu.1.below hb, hu.2.below hb⟩
    | 1, _ => exact ⟨hv.1.below hb, hv.2.below hb⟩
  · match i, hi with
    | 0, _ => exact hB.cell 0
    | 1, _ => exact hB.cell 1

theorem ex_and : andL [[1, 3, 5], [3, 4, 5]] = [3, 5] := by decide +kernel
theorem ex_andE : risesE [[1, 3, 5], [3, 4, 5]] = 0 := by decide +kernel
theorem ex_phE (u v : Value) : phE [0, 2] [[((u, ⟨7, [1, 4]⟩) : PE)], [(v, ⟨7, [3, 5]⟩)]] = 0 := by kernel_rfl
theorem ex_phP : phraseP [0, 2] [[⟨7, [1, 4]⟩], [⟨7, [3, 5]⟩]] = [⟨7, [1]⟩] := by kernel_rfl

theorem live_and (w : World) : Calls Try.prog 12 #[.slice (some ⟨w.heap.size + 1 + 1, 0, none⟩) 2 2] (((w.alloc (.cells #[.int .u32 1, .int .u32 3, .int .u32 5] 27)).alloc (.cells #[.int .u32 3, .int .u32 4, .int .u32 5] 27)).alloc (.cells #[.slice (some ⟨w.heap.size, 0, none⟩) 3 3, .slice (some ⟨w.heap.size + 1, 0, none⟩) 3 3] 23)) fun e w' => ∃ a c, e = .returned (.tuple #[.slice a 2 c, .int .i64 0]) ∧ Ul w' (.slice a 2 c) [3, 5] ∧ Below w.heap.size w w' := by
  obtain ⟨W2, hW2⟩ : ∃ W2, (w.alloc (.cells #[.int .u32 1, .int .u32 3, .int .u32 5] 27)).alloc (.cells #[.int .u32 3, .int .u32 4, .int .u32 5] 27) = W2 := ⟨_, rfl⟩
  have hs2 : W2.heap.size = w.heap.size + 1 + 1 := by rw [← hW2]; simp
  have hb2 : Below w.heap.size w W2 := by rw [← hW2]; exact ((Below.refl _ w).alloc (Nat.le_refl _) _).alloc (by simp) _
  have h1 : Ul W2 (.slice (some ⟨w.heap.size, 0, none⟩) 3 3) [1, 3, 5] := by
    rw [← hW2]
    exact (ul_lit w [1, 3, 5] (by simp [maxLen])).below ((Below.refl _ _).alloc (Nat.le_refl _) _)
  have h2 : Ul W2 (.slice (some ⟨w.heap.size + 1, 0, none⟩) 3 3) [3, 4, 5] := by
    rw [← hW2]
    have := ul_lit (w.alloc (.cells #[.int .u32 1, .int .u32 3, .int .u32 5] 27)) [3, 4, 5] (by simp [maxLen])
    rw [World.size_alloc] at this
    exact this
  have h3 := uls_two W2 _ _ _ _ h1 h2
  rw [hs2] at h3
  rw [hW2]
  refine (and_any _ _ _ _ h3 (by intro x hx; simp at hx; rcases hx with rfl | rfl <;> simp)).mono ?_
  rintro e w' ⟨u, rfl, hu, hb⟩
  rw [ex_and] at hu
  rw [ex_andE]
  obtain ⟨a, c, rfl⟩ := hu.shape
  exact ⟨a, c, rfl, hu.ul, (hb2.alloc (by omega) _).trans (hb.mono (by simp [hs2]; omega))⟩

theorem live_phrase (w : World) : Calls Try.prog 31 #[.slice (some ⟨w.heap.size, 0, none⟩) 2 2, .slice (some ⟨w.heap.size + 1 + 1 + 1 + 1 + 1, 0, none⟩) 2 2]
    ((((((w.alloc (.cells #[.int .i64 0, .int .i64 2] 3)).alloc (.cells #[.int .i64 1, .int .i64 4] 3)).alloc (.cells #[.int .u32 7, .slice (some ⟨w.heap.size + 1, 0, none⟩) 2 2] 63)).alloc (.cells #[.int .i64 3, .int .i64 5] 3)).alloc (.cells #[.int .u32 7, .slice (some ⟨w.heap.size + 1 + 1 + 1, 0, none⟩) 2 2] 63)).alloc (.cells #[.slice (some ⟨w.heap.size + 1 + 1, 0, none⟩) 1 1, .slice (some ⟨w.heap.size + 1 + 1 + 1 + 1, 0, none⟩) 1 1] 47))
    fun e w' => ∃ a c us, e = .returned (.tuple #[.slice a 1 c, .int .i64 0]) ∧ Pps w' (.slice a 1 c) us [⟨7, [1]⟩] ∧ Below w.heap.size w w' := by
  obtain ⟨W1, hW1⟩ : ∃ W1, w.alloc (.cells #[.int .i64 0, .int .i64 2] 3) = W1 := ⟨_, rfl⟩
  obtain ⟨W2, hW2⟩ : ∃ W2, W1.alloc (.cells #[.int .i64 1, .int .i64 4] 3) = W2 := ⟨_, rfl⟩
  obtain ⟨W3, hW3⟩ : ∃ W3, W2.alloc (.cells #[.int .u32 7, .slice (some ⟨w.heap.size + 1, 0, none⟩) 2 2] 63) = W3 := ⟨_, rfl⟩
  obtain ⟨W4, hW4⟩ : ∃ W4, W3.alloc (.cells #[.int .i64 3, .int .i64 5] 3) = W4 := ⟨_, rfl⟩
  obtain ⟨W5, hW5⟩ : ∃ W5, W4.alloc (.cells #[.int .u32 7, .slice (some ⟨w.heap.size + 1 + 1 + 1, 0, none⟩) 2 2] 63) = W5 := ⟨_, rfl⟩
  rw [hW1, hW2, hW3, hW4, hW5]
  have s1 : W1.heap.size = w.heap.size + 1 := by rw [← hW1]; simp
  have s2 : W2.heap.size = w.heap.size + 1 + 1 := by rw [← hW2]; simp [s1]
  have s3 : W3.heap.size = w.heap.size + 1 + 1 + 1 := by rw [← hW3]; simp [s2]
  have s4 : W4.heap.size = w.heap.size + 1 + 1 + 1 + 1 := by rw [← hW4]; simp [s3]
  have s5 : W5.heap.size = w.heap.size + 1 + 1 + 1 + 1 + 1 := by rw [← hW5]; simp [s4]
  have b1 : Below w.heap.size w W1 := by rw [← hW1]; exact (Below.refl _ w).alloc (Nat.le_refl _) _
  have b12 : Below W1.heap.size W1 W2 := by rw [← hW2]; exact (Below.refl _ W1).alloc (Nat.le_refl _) _
  have b23 : Below W2.heap.size W2 W3 := by rw [← hW3]; exact (Below.refl _ W2).alloc (Nat.le_refl _) _
  have b34 : Below W3.heap.size W3 W4 := by rw [← hW4]; exact (Below.refl _ W3).alloc (Nat.le_refl _) _
  have b45 : Below W4.heap.size W4 W5 := by rw [← hW5]; exact (Below.refl _ W4).alloc (Nat.le_refl _) _
  have b35 := b34.trans (b45.mono (by omega))
  have b25 := b23.trans (b35.mono (by omega))
  have b15 := b12.trans (b25.mono (by omega))
  have b05 : Below w.heap.size w W5 := b1.trans (b15.mono (by omega))
  have h1 : Is W5 (.slice (some ⟨w.heap.size, 0, none⟩) 2 2) [0, 2] := (hW1 ▸ isL w [0, 2] (by simp [maxLen])).below b15
  have p1 : Is W5 (.slice (some ⟨w.heap.size + 1, 0, none⟩) 2 2) [1, 4] := by
    have := isL W1 [1, 4] (by simp [maxLen])
    rw [s1] at this
    exact (hW2 ▸ this).below b25
  have p2 : Is W5 (.slice (some ⟨w.heap.size + 1 + 1 + 1, 0, none⟩) 2 2) [3, 5] := by
    have := isL W3 [3, 5] (by simp [maxLen])
    rw [s3] at this
    exact (hW4 ▸ this).below b45
  have q1 : Pq W5 (.slice (some ⟨w.heap.size + 1 + 1, 0, none⟩) 1 1) [(.slice (some ⟨w.heap.size + 1, 0, none⟩) 2 2, ⟨7, [1, 4]⟩)] := by
    have := pq_one W2 7 (.slice (some ⟨w.heap.size + 1, 0, none⟩) 2 2) [1, 4]
    rw [s2] at this
    exact (hW3 ▸ this).below b35
  have q2 : Pq W5 (.slice (some ⟨w.heap.size + 1 + 1 + 1 + 1, 0, none⟩) 1 1) [(.slice (some ⟨w.heap.size + 1 + 1 + 1, 0, none⟩) 2 2, ⟨7, [3, 5]⟩)] := by
    have := pq_one W4 7 (.slice (some ⟨w.heap.size + 1 + 1 + 1, 0, none⟩) 2 2) [3, 5]
    rw [s4] at this
    exact hW5 ▸ this
  have h6 := pss_two W5 _ _ _ _ ⟨q1, fun x hx => by rw [List.mem_singleton] at hx; subst hx; exact ⟨show (7 : Nat) < 4294967296 by decide, p1⟩⟩ ⟨q2, fun x hx => by rw [List.mem_singleton] at hx; subst hx; exact ⟨show (7 : Nat) < 4294967296 by decide, p2⟩⟩
  rw [s5] at h6
  have b6 : Below w.heap.size w (W5.alloc (.cells #[.slice (some ⟨w.heap.size + 1 + 1, 0, none⟩) 1 1, .slice (some ⟨w.heap.size + 1 + 1 + 1 + 1, 0, none⟩) 1 1] 47)) := b05.alloc (by omega) _
  refine (phrase_any _ _ [0, 2] (h1.alloc _) _ _ _ h6 (by intro x hx; simp at hx; rcases hx with rfl | rfl <;> simp)).mono ?_
  rintro e w' ⟨u, zs, rfl, hp, hz, hb⟩
  rw [ex_phE]
  have hz2 : posOf zs = [⟨7, [1]⟩] := by
    rw [hz]
    unfold phL
    rw [if_pos (ex_phE _ _)]
    exact ex_phP
  obtain ⟨a, c, rfl⟩ := hp.shape
  have hl : zs.length = 1 := by have := congrArg List.length hz2; simpa [posOf] using this
  have hr := hp.read
  rw [show zs.map (·.2) = [⟨7, [1]⟩] from hz2, hl] at hr
  rw [hl]
  exact ⟨a, c, _, rfl, hr, b6.trans (hb.mono b6.size)⟩

theorem live_equal (w : World) (a : Option Addr) (c : Nat) (h : Ul w (.slice a 2 c) [3, 5]) : Calls Try.prog 20 #[.slice a 2 c, .slice (some ⟨w.heap.size, 0, none⟩) 2 2] (w.alloc (.cells #[.int .u32 3, .int .u32 5] 27)) fun e w' => e = .returned (.bool true) ∧ Below w.heap.size w w' := by
  have hb : Below w.heap.size w (w.alloc (.cells #[.int .u32 3, .int .u32 5] 27)) := (Below.refl _ w).alloc (Nat.le_refl _) _
  refine (equalU_any _ _ _ [3, 5] [3, 5] (h.below hb) (ul_lit w [3, 5] (by simp [maxLen]))).mono ?_
  rintro e w' ⟨rfl, hb2⟩
  exact ⟨rfl, hb.trans (hb2.mono hb.size)⟩
theorem live_same (w : World) (a : Option Addr) (c : Nat) (us : List Value) (h : Pps w (.slice a 1 c) us [⟨7, [1]⟩]) : Calls Try.prog 33 #[.slice a 1 c, .slice (some ⟨w.heap.size + 1, 0, none⟩) 1 1] ((w.alloc (.cells #[.int .i64 1] 3)).alloc (.cells #[.int .u32 7, .slice (some ⟨w.heap.size, 0, none⟩) 1 1] 63)) fun e w' => e = .returned (.bool true) ∧ Below w.heap.size w w' := by
  obtain ⟨W1, hW1⟩ : ∃ W1, w.alloc (.cells #[.int .i64 1] 3) = W1 := ⟨_, rfl⟩
  obtain ⟨W2, hW2⟩ : ∃ W2, W1.alloc (.cells #[.int .u32 7, .slice (some ⟨w.heap.size, 0, none⟩) 1 1] 63) = W2 := ⟨_, rfl⟩
  rw [hW1, hW2]
  have s1 : W1.heap.size = w.heap.size + 1 := by rw [← hW1]; simp
  have b1 : Below w.heap.size w W1 := by rw [← hW1]; exact (Below.refl _ w).alloc (Nat.le_refl _) _
  have b12 : Below W1.heap.size W1 W2 := by rw [← hW2]; exact (Below.refl _ W1).alloc (Nat.le_refl _) _
  have b2 := b1.trans (b12.mono (by omega))
  have p1 : Is W2 (.slice (some ⟨w.heap.size, 0, none⟩) 1 1) [1] := (hW1 ▸ isL w [1] (by simp [maxLen])).below b12
  have q1 : Pps W2 (.slice (some ⟨w.heap.size + 1, 0, none⟩) 1 1) [.slice (some ⟨w.heap.size, 0, none⟩) 1 1] [⟨7, [1]⟩] := by
    have hB := Blk.new W1 63 [.int .u32 7, .slice (some ⟨w.heap.size, 0, none⟩) 1 1]
    rw [hW2, s1] at hB
    refine ⟨rfl, _, 1, rfl, Nat.le_refl _, by simp [maxLen], fun i hi => ?_, fun _ => ⟨_, 0, rfl, fun i hi => ?_⟩⟩
    · obtain rfl : i = 0 := by simpa using hi
      exact ⟨by decide, p1⟩
    · obtain rfl : i = 0 := by simpa using hi
      intro j v hj
      match j, hj with
      | 0, hj => cases hj; exact hB.cell 0
      | 1, hj => cases hj; exact hB.cell 1
  refine (refSameAll_any _ _ _ _ _ _ _ (h.below b2) q1).mono ?_
  rintro e w' ⟨rfl, hb2⟩
  exact ⟨by rw [sameAllP_refl], b2.trans (hb2.mono b2.size)⟩

set_option maxHeartbeats 1000000 in
theorem live_any (w : World) : Calls Try.prog 9 #[] w fun e w' => e = .returned (.bool true) ∧ Below w.heap.size w w' := by
  have HA := hide (live_and w)
  have HPH := hide live_phrase
  have HEQ := hide live_equal
  have HSA := hide live_same
  go_enter Try.func9, Try.ntmps9
  go_wp2_with (first
    | (go_at_call 12; refine HA.out.mono ?_; rintro e w1 ⟨a, c, rfl, hu, hb⟩; have HU1 := hide hu; have HB1 := hide hb; clear HA hu hb)
    | (go_at_call 31; refine (HPH.out w1).mono ?_; rintro e w2 ⟨pa, pc, us, rfl, hp, hb⟩; have HU2 := hide (HU1.out.below hb); have HP2 := hide hp; have HB2 := hide (HB1.out.trans (hb.mono HB1.out.size)); clear HPH hp hb HU1)
    | (go_at_call 20; refine (HEQ.out w2 a c HU2.out).mono ?_; rintro e w3 ⟨rfl, hb⟩; have HP3 := hide (HP2.out.below hb); have HB3 := hide (HB2.out.trans (hb.mono HB2.out.size)); clear HEQ hb HU2 HP2)
    | (go_at_call 33; refine (HSA.out w3 pa pc us HP3.out).mono ?_; rintro e w4 ⟨rfl, hb⟩; have HB4 := hide (HB3.out.trans (hb.mono HB3.out.size)); clear HSA hb HP3))
  go_ret
  exact ⟨rfl, HB4.out⟩

end Go.Proofs.Ytfihnmdhclnhgaa
