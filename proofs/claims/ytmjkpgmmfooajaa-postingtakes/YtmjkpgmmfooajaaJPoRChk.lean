/- Contracts: the document's Check of a posting (incipitref15.Check); package posting's Same. -/
import Derived.Test.YtmjkpgmmfooajaaPoChk
import Derived.Test.YtmjkpgmmfooajaaPoPut
import Derived.Test.YtmjkpgmmfooajaaJPoSame
namespace Go.Proofs.Ytmjkpgmmfooajaa
set_option maxRecDepth 20000
open Go.RowKit
set_option linter.unusedVariables false
set_option linter.unusedSimpArgs false
set_option maxRecDepth 100000

set_option maxHeartbeats 1000000 in
theorem refCheckP_any (w : World) (prev : Nat) (v : Value) (p : Po) (h : PoV w v p) :
    Calls Try.prog 17 #[.int .u32 (prev : Int), v] w fun e w' => e = .returned (.int .i64 (checkP prev p)) ∧ Below w.heap.size w w' := by
  obtain ⟨ao, cap, rfl, hu, h0⟩ := h.open
  have HM : Hid (checkP prev p = if (decide (prev < p.doc) && decide (p.doc ≤ 2147483647) && (decide (1 ≤ p.pos.length) && decide (p.pos.length ≤ 2000) && risesB (-1) p.pos)) = true then 0 else 150) := rfl
  generalize checkP prev p = E at HM ⊢
  obtain ⟨d, zs⟩ := p
  simp only at h0 hu HM ⊢
  obtain ⟨w1, hw1⟩ : ∃ w1, w.alloc (.cells #[.int .u32 (d : Int), .slice ao zs.length cap] 34) = w1 := ⟨_, rfl⟩
  have hb1 : Below w.heap.size w w1 := by rw [← hw1]; exact (Below.refl _ w).alloc (Nat.le_refl _) _
  obtain ⟨c0, c1⟩ := box_po (w := w1) (b := w.heap.size) (e := 34) (x := .int .u32 (d : Int)) (y := .slice ao zs.length cap) (by rw [← hw1]; exact Blk.new w _ _)
  have HB1 := hide hb1
  obtain ⟨_, _, he, h1, h2, h3⟩ := hu.below hb1
  simp only [Value.slice.injEq, true_and] at he
  obtain ⟨rfl, rfl⟩ := he
  unfold maxLen at h2
  have H3 := hide h3
  have HR := hide (fun L k => rises_cons L zs k)
  obtain ⟨n, hn⟩ : ∃ n, zs.length = n := ⟨_, rfl⟩
  rw [hn] at h1 HM H3 hw1 c1 ⊢
  have HN := hide hn
  clear h hu hb1 h3 hn
  by_cases a1 : d ≤ prev
  · have j1 : (d : Int) ≤ (prev : Int) := by omega
    go_enter Try.func17, Try.ntmps17
    go_wp2
    go_ret
    exact ⟨ret_int (by rw [HM.out, decide_eq_false (show ¬ prev < d by omega)]; rfl), HB1.out⟩
  · have j1 : ¬ (d : Int) ≤ (prev : Int) := by omega
    by_cases a2 : 2147483647 < d
    · have j2 : (2147483647 : Int) < (d : Int) := by omega
      go_enter Try.func17, Try.ntmps17
      go_wp2
      go_ret
      exact ⟨ret_int (by rw [HM.out, decide_eq_false (show ¬ d ≤ 2147483647 by omega)]; simp), HB1.out⟩
    · have j2 : ¬ (2147483647 : Int) < (d : Int) := by omega
      by_cases a3 : n < 1
      · have j3 : (n : Int) < 1 := by omega
        go_enter Try.func17, Try.ntmps17
        go_wp2
        go_ret
        exact ⟨ret_int (by rw [HM.out, decide_eq_false (show ¬ 1 ≤ n by omega)]; simp), HB1.out⟩
      · have j3 : ¬ (n : Int) < 1 := by omega
        by_cases a4 : 2000 < n
        · have j4 : (2000 : Int) < (n : Int) := by omega
          go_enter Try.func17, Try.ntmps17
          go_wp2
          go_ret
          exact ⟨ret_int (by rw [HM.out, decide_eq_false (show ¬ n ≤ 2000 by omega)]; simp), HB1.out⟩
        · have j4 : ¬ (2000 : Int) < (n : Int) := by omega
          have HE : Hid (E = if risesB (-1) zs = true then 0 else 150) := by
            show _ = _
            rw [HM.out, decide_eq_true (show prev < d by omega), decide_eq_true (show d ≤ 2147483647 by omega), decide_eq_true (show 1 ≤ n by omega), decide_eq_true (show n ≤ 2000 by omega)]
            rfl
          obtain ⟨b, off, rfl, hc⟩ := H3.out (by intro e; have := HN.out; rw [e] at this; simp at this; omega)
          have HC := hide hc
          clear hc HM H3
          go_enter Try.func17, Try.ntmps17
          go_wp2
          try rw [hw1]
          clear hw1
          go_loopg [5, 6] n (fun g lv i wr => ∃ (k : Nat) (L : Int), g + k = n ∧ lv = .int .i64 L ∧ i = .int .i64 (k : Int) ∧ wr = w1 ∧ E = if risesB L (zs.drop k) = true then 0 else 150)
          case atStart => exact ⟨0, -1, by omega, rfl, rfl, rfl, HE.out⟩
          case round =>
            obtain ⟨k, L, hg, rfl, rfl, hw, hr⟩ := hrel
            subst wr
            have HB := hide hr
            clear hr HE
            by_cases hk : k < n
            · have q := HC.out k hk
              have hd := HR.out L k (by have := HN.out; omega)
              obtain ⟨x, hx⟩ : ∃ x, zs.getD k 0 = x := ⟨_, rfl⟩
              rw [hx] at q hd
              have HD := hide hd
              clear hd hx
              by_cases b1 : x ≤ L
              · go_wp2
                go_ret
                exact ⟨ret_int (by rw [HB.out, HD.out, decide_eq_false (show ¬ L < x by omega)]; rfl), HB1.out⟩
              · have m1 : ¬ x ≤ L := b1
                by_cases b2 : 1048576 < x
                · go_wp2
                  go_ret
                  exact ⟨ret_int (by rw [HB.out, HD.out, decide_eq_false (show ¬ x ≤ 1048576 by omega)]; simp), HB1.out⟩
                · have m2 : ¬ 1048576 < x := b2
                  go_wp2
                  go_roundg (gk - 1)
                  case measure => omega
                  case rel =>
                    refine ⟨k + 1, x, by omega, rfl, by go_num, rfl, ?_⟩
                    rw [HB.out, HD.out, decide_eq_true (show L < x by omega), decide_eq_true (show x ≤ 1048576 by omega)]
                    rfl
            · go_wp2
              go_ret
              have hz : zs.drop k = [] := List.drop_eq_nil_of_le (by have := HN.out; omega)
              exact ⟨ret_int (by rw [HB.out, hz]; rfl), HB1.out⟩

set_option maxHeartbeats 1000000 in
theorem sameP_any (w : World) (va vb : Value) (p q : Po) (hp : PoV w va p) (hq : PoV w vb q) :
    Calls Try.prog 18 #[va, vb] w fun e w' => e = .returned (.bool (sameP p q)) ∧ Below w.heap.size w w' := by
  have HR : Hid (sameP p q = decide (p.doc = q.doc ∧ p.pos = q.pos)) := rfl
  generalize sameP p q = R at HR ⊢
  obtain ⟨ao, ca, rfl, hpi, hpd⟩ := hp.open
  obtain ⟨bo, cb, rfl, hqi, hqd⟩ := hq.open
  obtain ⟨d1, xs⟩ := p
  obtain ⟨d2, ys⟩ := q
  simp only at hpi hpd hqi hqd HR ⊢
  obtain ⟨m, hm⟩ : ∃ m, xs.length = m := ⟨_, rfl⟩
  obtain ⟨n, hn⟩ : ∃ n, ys.length = n := ⟨_, rfl⟩
  rw [hm] at hpi ⊢
  rw [hn] at hqi ⊢
  obtain ⟨w2, hw2⟩ : ∃ w2, (w.alloc (.cells #[.int .u32 (d1 : Int), .slice ao m ca] 34)).alloc (.cells #[.int .u32 (d2 : Int), .slice bo n cb] 34) = w2 := ⟨_, rfl⟩
  have hb2 : Below w.heap.size w w2 := by rw [← hw2]; exact ((Below.refl _ w).alloc (Nat.le_refl _) _).alloc (by simp) _
  have hA : Blk w2 w.heap.size 34 [.int .u32 (d1 : Int), .slice ao m ca] := by rw [← hw2]; exact (Blk.new w _ _).alloc _
  have hB : Blk w2 (w.heap.size + 1) 34 [.int .u32 (d2 : Int), .slice bo n cb] := by
    rw [← hw2]
    have := Blk.new (w.alloc (.cells #[.int .u32 (d1 : Int), .slice ao m ca] 34)) 34 [.int .u32 (d2 : Int), .slice bo n cb]
    rwa [World.size_alloc] at this
  obtain ⟨a0, a1⟩ := box_po hA
  obtain ⟨b0, b1⟩ := box_po hB
  have HB2 := hide hb2
  have HQ := hide (sEqual_any w2 _ _ xs ys (hpi.below hb2) (hqi.below hb2))
  clear hp hq hpi hqi hA hB hb2 hm hn
  by_cases hd : d1 = d2
  · subst hd
    have HR2 : Hid (R = decide (xs = ys)) := by
      show _ = _
      rw [HR.out]
      by_cases e : xs = ys
      · rw [decide_eq_true e]; exact decide_eq_true ⟨rfl, e⟩
      · rw [decide_eq_false e]; exact decide_eq_false (fun h => e h.2)
    clear HR
    go_enter Try.func18, Try.ntmps18
    go_wp2_with (go_at_call 30; (try rw [hw2]); refine HQ.out.mono ?_; rintro e w3 ⟨rfl, q, rfl⟩)
    go_ret
    exact ⟨ret_bool HR2.out.symm, below_drewN HB2.out q⟩
  · have hd' : ¬ (d1 : Int) = (d2 : Int) := by omega
    go_enter Try.func18, Try.ntmps18
    go_wp2
    go_ret
    refine ⟨ret_bool ?_, by first | exact HB2.out | (rw [hw2]; exact HB2.out)⟩
    rw [HR.out]
    symm
    apply decide_eq_false
    rintro ⟨e, _⟩
    exact hd e

end Go.Proofs.Ytmjkpgmmfooajaa
