/- Contracts: the document's Same and SameAll (incipitref15). -/
import Derived.Test.YtfihnmdhclnhgaaLsOpn
import Derived.Test.YtfihnmdhclnhgaaLsOpn
import Derived.BigQuiet
namespace Go.Proofs.Ytfihnmdhclnhgaa
set_option maxRecDepth 20000
open Go.RowKit
set_option linter.unusedVariables false
set_option linter.unusedSimpArgs false
set_option maxRecDepth 100000

def sameP (p q : Po) : Bool := decide (p.doc = q.doc ∧ p.pos = q.pos)
theorem sameP_eq {p q : Po} (h : sameP p q = true) : p = q := by
  cases p; cases q
  simp [sameP] at h
  simp [h]
theorem sameP_refl (p : Po) : sameP p p = true := by simp [sameP]
theorem sameP_ne {p q : Po} (h : p ≠ q) : sameP p q = false := by
  cases hs : sameP p q with
  | false => rfl
  | true => exact absurd (sameP_eq hs) h
theorem take_step {xs ys : List Int} {k : Nat} (h1 : k < xs.length) (h2 : k < ys.length) (h : xs.take k = ys.take k) (e : xs.getD k 0 = ys.getD k 0) : xs.take (k + 1) = ys.take (k + 1) := by
  rw [List.take_succ_eq_append_getElem h1, List.take_succ_eq_append_getElem h2, h]
  simp only [List.getD, List.getElem?_eq_getElem h1, List.getElem?_eq_getElem h2, Option.getD_some] at e
  rw [e]

set_option maxHeartbeats 1000000 in
theorem refSameP_any (w : World) (va vb : Value) (p q : Po) (hp : PoV w va p) (hq : PoV w vb q) :
    Calls Try.prog 62 #[va, vb] w fun e w' => e = .returned (.bool (sameP p q)) ∧ Below w.heap.size w w' := by
  have HR : Hid (sameP p q = decide (p.doc = q.doc ∧ p.pos = q.pos)) := rfl
  generalize sameP p q = R at HR ⊢
  obtain ⟨ao, ca, rfl, hpi, hpd⟩ := hp.open
  obtain ⟨bo, cb, rfl, hqi, hqd⟩ := hq.open
  obtain ⟨d1, xs⟩ := p
  obtain ⟨d2, ys⟩ := q
  simp only at hpi hpd hqi hqd HR ⊢
  obtain ⟨w2, hw2⟩ : ∃ w2, (w.alloc (.cells #[.int .u32 (d1 : Int), .slice ao xs.length ca] 63)).alloc (.cells #[.int .u32 (d2 : Int), .slice bo ys.length cb] 63) = w2 := ⟨_, rfl⟩
  have hb2 : Below w.heap.size w w2 := by rw [← hw2]; exact ((Below.refl _ w).alloc (Nat.le_refl _) _).alloc (by simp) _
  have hA : Blk w2 w.heap.size 63 [.int .u32 (d1 : Int), .slice ao xs.length ca] := by rw [← hw2]; exact (Blk.new w _ _).alloc _
  have hB : Blk w2 (w.heap.size + 1) 63 [.int .u32 (d2 : Int), .slice bo ys.length cb] := by
    rw [← hw2]
    have := Blk.new (w.alloc (.cells #[.int .u32 (d1 : Int), .slice ao xs.length ca] 63)) 63 [.int .u32 (d2 : Int), .slice bo ys.length cb]
    rwa [World.size_alloc] at this
  obtain ⟨a0, a1⟩ := box_po hA
  obtain ⟨b0, b1⟩ := box_po hB
  have hpi2 := hpi.below hb2
  have hqi2 := hqi.below hb2
  have HB2 := hide hb2
  obtain ⟨_, _, he1, h11, h12, h13⟩ := hpi2
  simp only [Value.slice.injEq, true_and] at he1
  obtain ⟨rfl, rfl⟩ := he1
  obtain ⟨_, _, he2, h21, h22, h23⟩ := hqi2
  simp only [Value.slice.injEq, true_and] at he2
  obtain ⟨rfl, rfl⟩ := he2
  unfold maxLen at h12 h22
  have H1 := hide h13
  have H2 := hide h23
  obtain ⟨m, hm⟩ : ∃ m, xs.length = m := ⟨_, rfl⟩
  obtain ⟨n, hn⟩ : ∃ n, ys.length = n := ⟨_, rfl⟩
  have HM := hide hm
  have HN := hide hn
  rw [hm] at a1 h11 H1 hw2 ⊢
  rw [hn] at b1 h21 H2 hw2 ⊢
  clear hp hq hpi hqi hA hB hb2 h13 h23 hm hn
  by_cases hd : d1 = d2
  · subst hd
    by_cases hmn : m = n
    · subst hmn
      go_enter Try.func62, Try.ntmps62
      go_wp2
      clear hw2
      go_loopw [5] (fun i wr => ∃ k : Nat, k ≤ m ∧ i = .int .i64 k ∧ xs.take k = ys.take k ∧ ∃ q, wr = w2.drewN q) (fun i _ => m + 1 - (intOf i).toNat)
      case atStart => exact ⟨0, Nat.zero_le _, rfl, rfl, 0, rfl⟩
      case round =>
        obtain ⟨k, hk, rfl, ht, nd, rfl⟩ := hrel
        have HT := hide ht
        clear ht
        by_cases hkm : k < m
        · obtain ⟨g1, o1, rfl, hc1⟩ := H1.out (by intro e; have := HM.out; rw [e] at this; simp at this; omega)
          obtain ⟨g2, o2, rfl, hc2⟩ := H2.out (by intro e; have := HN.out; rw [e] at this; simp at this; omega)
          have c1 := hc1 k hkm
          have c2 := hc2 k hkm
          obtain ⟨x, hx⟩ : ∃ x, x = xs.getD k 0 := ⟨_, rfl⟩
          obtain ⟨y, hy⟩ : ∃ y, y = ys.getD k 0 := ⟨_, rfl⟩
          rw [← hx] at c1
          rw [← hy] at c2
          have HX := hide hx
          have HY := hide hy
          clear hx hy hc1 hc2
          by_cases hxy : x = y
          · subst hxy
            go_wp2_with fail
            go_quiet (fail)
            go_wp2
            go_roundw
            case rel => exact ⟨k + 1, by omega, by go_num, take_step (by have := HM.out; omega) (by have := HN.out; omega) HT.out (by rw [← HX.out, ← HY.out]), _, rfl⟩
            case measure => simp [intOf]; omega
          · have hb : (x == y) = false := by simpa using hxy
            go_wp2_with fail
            go_quiet (fail)
            go_wp2
            go_ret
            refine ⟨ret_bool ?_, below_drewN (below_drewN HB2.out _) _⟩
            rw [HR.out]
            symm
            apply decide_eq_false
            rintro ⟨_, e⟩
            exact hxy (by rw [HX.out, HY.out, e])
        · obtain rfl : k = m := by omega
          go_wp2
          go_ret
          refine ⟨ret_bool ?_, below_drewN HB2.out _⟩
          rw [HR.out]
          symm
          apply decide_eq_true
          have := HT.out
          rw [List.take_of_length_le (Nat.le_of_eq HM.out), List.take_of_length_le (Nat.le_of_eq HN.out)] at this
          exact ⟨by first | trivial | rfl, this⟩
    · have hmn' : ((m : Int) == (n : Int)) = false := by simp; omega
      go_enter Try.func62, Try.ntmps62
      go_wp2
      go_ret
      refine ⟨ret_bool ?_, by first | exact HB2.out | (rw [hw2]; exact HB2.out)⟩
      rw [HR.out]
      symm
      apply decide_eq_false
      rintro ⟨_, e⟩
      have h1 := HM.out
      have h2 := HN.out
      rw [e] at h1
      omega
  · have hd' : ((d1 : Int) == (d2 : Int)) = false := by simp; omega
    go_enter Try.func62, Try.ntmps62
    go_wp2
    go_ret
    refine ⟨ret_bool ?_, by first | exact HB2.out | (rw [hw2]; exact HB2.out)⟩
    rw [HR.out]
    symm
    apply decide_eq_false
    rintro ⟨e, _⟩
    exact hd e

end Go.Proofs.Ytfihnmdhclnhgaa
