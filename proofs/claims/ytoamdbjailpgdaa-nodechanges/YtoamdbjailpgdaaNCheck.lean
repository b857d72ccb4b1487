/- Contracts: package node's Size, Check. -/
import Derived.Test.YtoamdbjailpgdaaNSize
import Derived.Test.YtoamdbjailpgdaaNMid
namespace Go.Proofs.Ytoamdbjailpgdaa
set_option maxRecDepth 20000
open Go.RowKit
set_option linter.unusedVariables false
set_option linter.unusedSimpArgs false
set_option maxRecDepth 100000

theorem parts_le {n : Nd} (h : mayN n = true) : ∀ x ∈ partsN n, x ≤ 51 := by
  obtain ⟨_, _, _, h4, h5⟩ := may_bounds h
  intro x hx
  unfold partsN at hx
  rcases List.mem_append.1 hx with hx | hx
  · obtain ⟨p, hp, rfl⟩ := List.mem_map.1 hx
    have := h4 p hp
    unfold partP; omega
  · obtain ⟨k, hk, rfl⟩ := List.mem_map.1 hx
    have := h5 k hk
    unfold partK; omega
theorem parts_len {n : Nd} (h : mayN n = true) : (partsN n).length ≤ 510 := by
  obtain ⟨h1, h2, _⟩ := may_bounds h
  unfold partsN
  simp only [List.length_append, List.length_map]
  omega
theorem sum_take_le (l : List Nat) (m : Nat) (hm : ∀ x ∈ l, x ≤ m) : ∀ k, (l.take k).sum ≤ m * k
  | 0 => by simp
  | k + 1 => by
    have ih := sum_take_le l m hm k
    by_cases h : k < l.length
    · rw [sum_take_succ l k h, Nat.mul_succ]
      have := part_le l m hm k
      omega
    · rw [List.take_of_length_le (by omega)] at ih ⊢
      rw [Nat.mul_succ]; omega
theorem ci_getD (l : List Nat) (k : Nat) : (ci l).getD k 0 = ((l.getD k 0 : Nat) : Int) := by
  simp only [ci, List.getD, List.getElem?_map]
  cases l[k]? <;> rfl

/-- what stands behind a call that laid blocks alone: the box stays -/
theorem box_below {w w' : World} {b : Nat} {e : TypeId} {lf : Bool} {p k c : Value} (h : Blk w b e (ndc lf p k c)) (hb : Below w.heap.size w w') : Blk w' b e (ndc lf p k c) := h.below hb h.lt

set_option maxHeartbeats 1000000 in
theorem size_any (w : World) (v : Value) (n : Nd) (h : NdV w v n) :
    Calls Try.prog 14 #[v] w fun e w' => e = .returned (.int .i64 (sizeN n)) ∧ Below w.heap.size w w' := by
  have HM : Hid (∀ w1, Below w.heap.size w w1 → Calls Try.prog 49 #[v] w1 fun e w' => e = .returned (.bool (mayN n)) ∧ Below w1.heap.size w1 w') := fun w1 hb => mayBe_any w1 v n (h.below hb)
  have HP : Hid (mayN n = true → ∀ w1, Below w.heap.size w w1 → Calls Try.prog 50 #[v] w1 fun e w' => ∃ u, e = .returned u ∧ Ints w' w1.heap.size u (ci (partsN n)) ∧ Below w1.heap.size w1 w') := fun hm w1 hb => parts_any w1 v n (h.below hb) hm
  have HS : Hid (sizeN n = if mayN n then (if n.lf then 1 else 3) + (partsN n).sum else 0) := rfl
  obtain ⟨pa, pc, ka, kc, ca, cc, xs, ys, rfl, hp1, hk1, hc1, hp2, hk2, hc2, hP, hK, hC⟩ := h.open
  have HL := hide (@parts_le n)
  have HN := hide (@parts_len n)
  generalize sizeN n = S at HS ⊢
  generalize mayN n = M at *
  generalize partsN n = L at *
  unfold ndv at HM HP ⊢
  generalize n.lf = lf at *
  generalize n.ps.length = np at *
  generalize n.ks.length = nk at *
  generalize n.cs.length = nc at *
  obtain ⟨w1, hw1⟩ : ∃ w1, w.alloc (.cells #[.bool lf, .slice pa np pc, .slice ka nk kc, .slice ca nc cc] 26) = w1 := ⟨_, rfl⟩
  have hb1 : Below w.heap.size w w1 := by rw [← hw1]; exact (Below.refl _ w).alloc (Nat.le_refl _) _
  have hB : Blk w1 w.heap.size 26 (ndc lf (.slice pa np pc) (.slice ka nk kc) (.slice ca nc cc)) := by rw [← hw1]; exact Blk.new w _ _
  obtain ⟨z0, z1, z2, z3⟩ := box_ndc hB
  have HB1 := hide hb1
  have HBB := hide hB
  clear hP hK hC h hb1 hB hp1 hk1 hc1 hp2 hk2 hc2
  cases M with
  | false =>
    go_enter Try.func14, Try.ntmps14
    go_wp2_with (go_at_call 49; refine (HM.out w1 HB1.out).mono ?_; rintro e w2 ⟨rfl, hb2⟩; have HB2 := hide hb2; clear HM hb2)
    go_ret
    exact ⟨ret_int (by rw [HS.out]; rfl), HB1.out.trans (HB2.out.mono HB1.out.size)⟩
  | true =>
    have HLL := hide (HL.out rfl)
    have HNN := hide (HN.out rfl)
    have HPP := hide (HP.out rfl)
    obtain ⟨B0, hB0⟩ : ∃ B0 : Nat, B0 = if lf then 1 else 3 := ⟨_, rfl⟩
    have HS1 : Hid (S = B0 + L.sum) := by show S = _; rw [HS.out, hB0]; rfl
    have hB3 : B0 ≤ 3 := by rw [hB0]; cases lf <;> decide
    have HT := hide (sum_take_le L 51 HLL.out)
    clear HS HL HN HP
    cases lf with
    | true =>
      have hbb : B0 = 1 := hB0
      go_enter Try.func14, Try.ntmps14
      go_wp2_with (first
        | (go_at_call 49; refine (HM.out w1 HB1.out).mono ?_; rintro e w2 ⟨rfl, hb2⟩; have HB2 := hide (HB1.out.trans (hb2.mono HB1.out.size)); obtain ⟨y0, y1, y2, y3⟩ := box_ndc (HBB.out.below hb2 HBB.out.lt); clear HM hb2)
        | (go_at_call 50; refine (HPP.out w2 HB2.out).mono ?_; rintro e w3 ⟨u, rfl, hu, hb3⟩; have HB3 := hide (HB2.out.trans (hb3.mono HB2.out.size)); have hui := hu.is; obtain ⟨ua, uc, rfl, hu1, hu2⟩ := hui.shape; have HU := hide hui; rw [ci_length] at HU; clear HPP hb3 hu hui hu1 hu2))
      obtain ⟨N, hN⟩ : ∃ N, L.length = N := ⟨_, rfl⟩
      rw [hN] at HU HNN
      rw [ci_length, hN]
      have HNL := hide hN
      have hN5 : N ≤ 510 := HNN.out
      clear hN hB0
      subst hbb
      go_loopg [3, 17] N (fun g s i wr => ∃ (k : Nat), g + k = N ∧ i = .int .i64 k ∧ s = .int .i64 ((1 + (L.take k).sum : Nat) : Int) ∧ w3 = wr)
      case atStart => exact ⟨0, by omega, rfl, by simp, rfl⟩
      case round =>
        obtain ⟨k, hgk, rfl, rfl, hwr⟩ := hrel
        subst wr
        by_cases hk : k < N
        · have hkl : k < L.length := by rw [HNL.out]; exact hk
          obtain ⟨b, off, rfl, q⟩ := HU.out.at k (by rw [ci_length]; exact hkl)
          have hki : (k : Int) < (N : Int) := by omega
          have hle := part_le L 51 HLL.out k
          have hsum := HT.out k
          have HS := hide (sum_take_succ L k hkl)
          rw [ci_getD] at q
          generalize L.getD k 0 = x at *
          generalize (L.take k).sum = A at *
          go_wp2
          go_roundg (gk - 1)
          case measure => omega
          case rel => exact ⟨k + 1, by omega, by go_num, by rw [HS.out]; go_num, rfl⟩
        · obtain rfl : k = N := by omega
          have hA : (L.take k).sum = L.sum := by rw [List.take_of_length_le (by rw [HNL.out]; exact Nat.le_refl _)]
          have HAA := hide hA
          clear hA
          generalize (L.take k).sum = A at *
          go_wp2
          go_ret
          exact ⟨ret_int (by rw [HS1.out, ← HAA.out]), HB3.out⟩
    | false =>
      have hbb : B0 = 3 := hB0
      go_enter Try.func14, Try.ntmps14
      go_wp2_with (first
        | (go_at_call 49; refine (HM.out w1 HB1.out).mono ?_; rintro e w2 ⟨rfl, hb2⟩; have HB2 := hide (HB1.out.trans (hb2.mono HB1.out.size)); obtain ⟨y0, y1, y2, y3⟩ := box_ndc (HBB.out.below hb2 HBB.out.lt); clear HM hb2)
        | (go_at_call 50; refine (HPP.out w2 HB2.out).mono ?_; rintro e w3 ⟨u, rfl, hu, hb3⟩; have HB3 := hide (HB2.out.trans (hb3.mono HB2.out.size)); have hui := hu.is; obtain ⟨ua, uc, rfl, hu1, hu2⟩ := hui.shape; have HU := hide hui; rw [ci_length] at HU; clear HPP hb3 hu hui hu1 hu2))
      obtain ⟨N, hN⟩ : ∃ N, L.length = N := ⟨_, rfl⟩
      rw [hN] at HU HNN
      rw [ci_length, hN]
      have HNL := hide hN
      have hN5 : N ≤ 510 := HNN.out
      clear hN hB0
      subst hbb
      go_loopg [3, 17] N (fun g s i wr => ∃ (k : Nat), g + k = N ∧ i = .int .i64 k ∧ s = .int .i64 ((3 + (L.take k).sum : Nat) : Int) ∧ w3 = wr)
      case atStart => exact ⟨0, by omega, rfl, by simp, rfl⟩
      case round =>
        obtain ⟨k, hgk, rfl, rfl, hwr⟩ := hrel
        subst wr
        by_cases hk : k < N
        · have hkl : k < L.length := by rw [HNL.out]; exact hk
          obtain ⟨b, off, rfl, q⟩ := HU.out.at k (by rw [ci_length]; exact hkl)
          have hki : (k : Int) < (N : Int) := by omega
          have hle := part_le L 51 HLL.out k
          have hsum := HT.out k
          have HS := hide (sum_take_succ L k hkl)
          rw [ci_getD] at q
          generalize L.getD k 0 = x at *
          generalize (L.take k).sum = A at *
          go_wp2
          go_roundg (gk - 1)
          case measure => omega
          case rel => exact ⟨k + 1, by omega, by go_num, by rw [HS.out]; go_num, rfl⟩
        · obtain rfl : k = N := by omega
          have hA : (L.take k).sum = L.sum := by rw [List.take_of_length_le (by rw [HNL.out]; exact Nat.le_refl _)]
          have HAA := hide hA
          clear hA
          generalize (L.take k).sum = A at *
          go_wp2
          go_ret
          exact ⟨ret_int (by rw [HS1.out, ← HAA.out]), HB3.out⟩

/-- what a function that takes a node by value begins with: the node's value opened, its box -/
theorem nd_open {w : World} {v : Value} {n : Nd} (h : NdV w v n) : ∃ lf pa np pc ka nk kc ca nc cc, v = .agg #[.bool lf, .slice pa np pc, .slice ka nk kc, .slice ca nc cc] ∧ n.lf = lf ∧ n.ps.length = np ∧ n.ks.length = nk ∧ n.cs.length = nc := by
  obtain ⟨pa, pc, ka, kc, ca, cc, xs, ys, rfl, _⟩ := h.open
  exact ⟨_, pa, _, pc, ka, _, kc, ca, _, cc, rfl, rfl, rfl, rfl, rfl⟩
theorem nd_box (w : World) (lf : Bool) (p k c : Value) : ∃ w1, w.alloc (.cells #[.bool lf, p, k, c] 26) = w1 ∧ Hid (Below w.heap.size w w1) ∧ Hid (Blk w1 w.heap.size 26 (ndc lf p k c)) ∧ w1.cell? ⟨w.heap.size, 0, none⟩ = some (.bool lf) ∧ w1.cell? ⟨w.heap.size, 1, none⟩ = some p ∧ w1.cell? ⟨w.heap.size, 2, none⟩ = some k ∧ w1.cell? ⟨w.heap.size, 3, none⟩ = some c := by
  have hB := Blk.new w 26 (ndc lf p k c)
  exact ⟨_, rfl, (Below.refl _ w).alloc (Nat.le_refl _) _, hB, box_ndc hB⟩

set_option maxHeartbeats 1000000 in
theorem check_any (w : World) (v : Value) (n : Nd) (h : NdV w v n) :
    Calls Try.prog 12 #[v] w fun e w' => e = .returned (.int .i64 (checkN n)) ∧ Below w.heap.size w w' := by
  have HM : Hid (∀ w1, Below w.heap.size w w1 → Calls Try.prog 49 #[v] w1 fun e w' => e = .returned (.bool (mayN n)) ∧ Below w1.heap.size w1 w') := fun w1 hb => mayBe_any w1 v n (h.below hb)
  have HS : Hid (∀ w1, Below w.heap.size w w1 → Calls Try.prog 14 #[v] w1 fun e w' => e = .returned (.int .i64 (sizeN n)) ∧ Below w1.heap.size w1 w') := fun w1 hb => size_any w1 v n (h.below hb)
  have HC : Hid (checkN n = if mayN n then (if sizeN n ≤ 240 then 0 else 3) else 100) := rfl
  obtain ⟨lf, pa, np, pc, ka, nk, kc, ca, nc, cc, rfl, -⟩ := nd_open h
  generalize checkN n = C at *
  generalize mayN n = M at *
  generalize sizeN n = S at *
  obtain ⟨w1, hw1, HB1, HBB, z0, z1, z2, z3⟩ := nd_box w lf (.slice pa np pc) (.slice ka nk kc) (.slice ca nc cc)
  clear h
  cases M with
  | false =>
    go_enter Try.func12, Try.ntmps12
    go_wp2_with (go_at_call 49; refine (HM.out w1 HB1.out).mono ?_; rintro e w2 ⟨rfl, hb2⟩; have HB2 := hide hb2; clear HM hb2)
    go_ret
    exact ⟨ret_int (by rw [HC.out]; rfl), HB1.out.trans (HB2.out.mono HB1.out.size)⟩
  | true =>
    by_cases hs : S ≤ 240
    · have hsi : ¬ (240 : Int) < (S : Int) := by omega
      go_enter Try.func12, Try.ntmps12
      go_wp2_with (first
        | (go_at_call 49; refine (HM.out w1 HB1.out).mono ?_; rintro e w2 ⟨rfl, hb2⟩; have HB2 := hide (HB1.out.trans (hb2.mono HB1.out.size)); obtain ⟨y0, y1, y2, y3⟩ := box_ndc (HBB.out.below hb2 HBB.out.lt); clear HM hb2)
        | (go_at_call 14; refine (HS.out w2 HB2.out).mono ?_; rintro e w3 ⟨rfl, hb3⟩; have HB3 := hide (HB2.out.trans (hb3.mono HB2.out.size)); clear HS hb3))
      go_ret
      exact ⟨ret_int (by rw [HC.out]; simp [hs]), HB3.out⟩
    · have hsi : (240 : Int) < (S : Int) := by omega
      go_enter Try.func12, Try.ntmps12
      go_wp2_with (first
        | (go_at_call 49; refine (HM.out w1 HB1.out).mono ?_; rintro e w2 ⟨rfl, hb2⟩; have HB2 := hide (HB1.out.trans (hb2.mono HB1.out.size)); obtain ⟨y0, y1, y2, y3⟩ := box_ndc (HBB.out.below hb2 HBB.out.lt); clear HM hb2)
        | (go_at_call 14; refine (HS.out w2 HB2.out).mono ?_; rintro e w3 ⟨rfl, hb3⟩; have HB3 := hide (HB2.out.trans (hb3.mono HB2.out.size)); clear HS hb3))
      go_ret
      exact ⟨ret_int (by rw [HC.out]; simp [hs]), HB3.out⟩

end Go.Proofs.Ytoamdbjailpgdaa
