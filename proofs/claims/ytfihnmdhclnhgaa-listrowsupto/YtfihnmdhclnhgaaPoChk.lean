/- Contracts: package posting's positionsMayBe and Check. -/
import Derived.Test.YtfihnmdhclnhgaaPoMem
namespace Go.Proofs.Ytfihnmdhclnhgaa
set_option maxRecDepth 20000
open Go.RowKit
set_option linter.unusedVariables false
set_option linter.unusedSimpArgs false

theorem rises_cons (L : Int) (zs : List Int) (k : Nat) (h : k < zs.length) : risesB L (zs.drop k) = (decide (L < zs.getD k 0) && decide (zs.getD k 0 ≤ 1048576) && risesB (zs.getD k 0) (zs.drop (k + 1))) := by
  rw [drop_cons zs k h, risesB]

theorem posMay_any (w : World) (v : Value) (zs : List Int) (h : Is w v zs) :
    Calls Try.prog 96 #[v] w fun e w' => e = .returned (.bool (posB zs)) ∧ w' = w := by
  have HP : Hid (posB zs = (decide (1 ≤ zs.length) && decide (zs.length ≤ 2000) && risesB (-1) zs)) := rfl
  generalize posB zs = B at HP ⊢
  obtain ⟨ao, cap, rfl, h1, h2, h3⟩ := h
  unfold maxLen at h2
  have H3 := hide h3
  have HR := hide (fun L k => rises_cons L zs k)
  clear h3
  obtain ⟨n, hn⟩ : ∃ n, zs.length = n := ⟨_, rfl⟩
  rw [hn] at h1 HP H3 ⊢
  have HN := hide hn
  clear hn
  by_cases n0 : n < 1
  · obtain rfl : n = 0 := by omega
    go_enter Try.func96, Try.ntmps96
    go_wp2
    go_ret
    exact ⟨ret_bool (by rw [HP.out]; rfl), rfl⟩
  · have i0 : decide ((n : Int) < 1) = false := decide_eq_false (by omega)
    by_cases n1 : 2000 < n
    · have i1 : (2000 : Int) < (n : Int) := by omega
      go_enter Try.func96, Try.ntmps96
      go_wp2
      go_ret
      exact ⟨ret_bool (by rw [HP.out, decide_eq_false (show ¬ n ≤ 2000 by omega)]; simp), rfl⟩
    · have i1 : decide ((2000 : Int) < (n : Int)) = false := decide_eq_false (by omega)
      obtain ⟨b, off, rfl, hc⟩ := H3.out (by intro e; have := HN.out; rw [e] at this; simp at this; omega)
      have HC := hide hc
      have HE : Hid (B = risesB (-1) zs) := by
        show _ = _
        rw [HP.out, decide_eq_true (show 1 ≤ n by omega), decide_eq_true (show n ≤ 2000 by omega)]
        rfl
      clear hc HP H3
      go_enter Try.func96, Try.ntmps96
      go_wp2
      go_loopg [3, 16] n (fun g lv i wr => ∃ (k : Nat) (L : Int), g + k = n ∧ lv = .int .i64 L ∧ i = .int .i64 (k : Int) ∧ wr = w ∧ B = risesB L (zs.drop k))
      case atStart => exact ⟨0, -1, by omega, rfl, rfl, rfl, HE.out⟩
      case round =>
        obtain ⟨k, L, hg, rfl, rfl, hw, hr⟩ := hrel
        subst wr
        have HB := hide hr
        clear hr HE
        by_cases hk : k < n
        · have q := HC.out k hk
          have hd := HR.out L k (by have := HN.out; omega)
          obtain ⟨x, hx⟩ : ∃ x, zs.getD k 0 = x := ⟨_, rfl⟩
          rw [hx] at q hd
          have HD := hide hd
          clear hd hx
          by_cases a1 : x ≤ L
          · go_wp2
            go_ret
            exact ⟨ret_bool (by rw [HB.out, HD.out, decide_eq_false (show ¬ L < x by omega)]; rfl), rfl⟩
          · have j1 : decide (x ≤ L) = false := decide_eq_false a1
            by_cases a2 : 1048576 < x
            · go_wp2
              go_ret
              exact ⟨ret_bool (by rw [HB.out, HD.out, decide_eq_false (show ¬ x ≤ 1048576 by omega)]; simp), rfl⟩
            · have j2 : decide (1048576 < x) = false := decide_eq_false a2
              go_wp2
              go_roundg (gk - 1)
              case measure => omega
              case rel =>
                refine ⟨k + 1, x, by omega, rfl, by go_num, rfl, ?_⟩
                rw [HB.out, HD.out, decide_eq_true (show L < x by omega), decide_eq_true (show x ≤ 1048576 by omega)]
                rfl
        · go_wp2
          go_ret
          have hz : zs.drop k = [] := List.drop_eq_nil_of_le (by have := HN.out; omega)
          exact ⟨ret_bool (by rw [HB.out, hz]; rfl), rfl⟩

/-- a posting in a block of its own -/
theorem box_po {w : World} {b : Nat} {e : TypeId} {x y : Value} (h : Blk w b e [x, y]) : w.cell? ⟨b, 0, none⟩ = some x ∧ w.cell? ⟨b, 1, none⟩ = some y := ⟨h.cell 0, h.cell 1⟩

theorem check_any (w : World) (prev : Nat) (v : Value) (p : Po) (h : PoV w v p) :
    Calls Try.prog 74 #[.int .u32 (prev : Int), v] w fun e w' => e = .returned (.int .i64 (checkP prev p)) ∧ Below w.heap.size w w' := by
  obtain ⟨h0, u, rfl, hu⟩ := h
  have HM : Hid (checkP prev p = if (decide (prev < p.doc) && decide (p.doc ≤ 2147483647) && posB p.pos) = true then 0 else 150) := rfl
  generalize checkP prev p = E at HM ⊢
  obtain ⟨d, zs⟩ := p
  simp only at h0 hu HM ⊢
  obtain ⟨w1, hw1⟩ : ∃ w1, w.alloc (.cells #[.int .u32 (d : Int), u] 63) = w1 := ⟨_, rfl⟩
  have hb1 : Below w.heap.size w w1 := by rw [← hw1]; exact (Below.refl _ w).alloc (Nat.le_refl _) _
  have HC := hide (posMay_any w1 u zs (hu.below hb1))
  obtain ⟨ao, cap, rfl, _, _⟩ := hu.shape
  obtain ⟨c0, c1⟩ := box_po (w := w1) (b := w.heap.size) (e := 63) (x := .int .u32 (d : Int)) (y := .slice ao zs.length cap) (by rw [← hw1]; exact Blk.new w _ _)
  have HB1 := hide hb1
  generalize posB zs = B at *
  generalize zs.length = n at *
  clear hb1 hu
  by_cases a1 : d ≤ prev
  · have j1 : (d : Int) ≤ (prev : Int) := by omega
    go_enter Try.func74, Try.ntmps74
    go_wp2
    go_ret
    exact ⟨ret_int (by rw [HM.out, decide_eq_false (show ¬ prev < d by omega)]; rfl), HB1.out⟩
  · have j1 : decide ((d : Int) ≤ (prev : Int)) = false := decide_eq_false (by omega)
    by_cases a2 : 2147483647 < d
    · have j2 : (2147483647 : Int) < (d : Int) := by omega
      go_enter Try.func74, Try.ntmps74
      go_wp2
      go_ret
      exact ⟨ret_int (by rw [HM.out, decide_eq_false (show ¬ d ≤ 2147483647 by omega)]; simp), HB1.out⟩
    · have j2 : decide ((2147483647 : Int) < (d : Int)) = false := decide_eq_false (by omega)
      have e0 : (decide (prev < d) && decide (d ≤ 2147483647)) = true := by simp; omega
      have HE : Hid (E = if B = true then 0 else 150) := by
        show _ = _
        rw [HM.out, e0, Bool.true_and]
      clear HM e0
      cases B with
      | true =>
        go_enter Try.func74, Try.ntmps74
        go_wp2_with (go_at_call 96; refine HC.out.mono ?_; rintro e w2 ⟨rfl, hw⟩; subst w2; clear HC)
        go_ret
        exact ⟨ret_int (by rw [HE.out]; rfl), HB1.out⟩
      | false =>
        go_enter Try.func74, Try.ntmps74
        go_wp2_with (go_at_call 96; refine HC.out.mono ?_; rintro e w2 ⟨rfl, hw⟩; subst w2; clear HC)
        go_ret
        exact ⟨ret_int (by rw [HE.out]; rfl), HB1.out⟩

theorem check_ok {prev : Nat} {p : Po} (h : mayB prev p = true) : checkP prev p = 0 := if_pos h
theorem check_bad {prev : Nat} {p : Po} (h : mayB prev p = false) : checkP prev p = 150 := by unfold checkP; rw [h]; rfl

end Go.Proofs.Ytfihnmdhclnhgaa
