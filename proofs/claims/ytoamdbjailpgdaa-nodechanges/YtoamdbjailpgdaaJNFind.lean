/- Contracts: slices.BinarySearchFunc at a leaf's pairs, package node's Find. -/
import Derived.Test.YtoamdbjailpgdaaJNPutL
import Derived.Test.YtoamdbjailpgdaaNEach
namespace Go.Proofs.Ytoamdbjailpgdaa
set_option maxRecDepth 20000
open Go.RowKit
set_option linter.unusedVariables false
set_option linter.unusedSimpArgs false
set_option maxRecDepth 100000

theorem fst_getD (ps : List (List Int × List Int)) (m : Nat) (hm : m < ps.length) : (ps.map (·.1)).getD m [] = (ps.getD m ([], [])).1 := by simp [List.getD, hm]

theorem find1_any (w : World) (u1 u2 kv : Value) (q1 q2 key : List Int) (h1 : Sl w u1 q1) (h2 : Sl w u2 q2) (hk : Sl w kv key) :
    Calls Try.prog 64 #[.agg #[u1, u2], kv] w fun e w' => e = .returned (.int .i64 (cmp q1 key)) ∧ Below w.heap.size w w' := by
  obtain ⟨w1, hw1⟩ : ∃ w1, w.alloc (.cells #[u1, u2] 36) = w1 := ⟨_, rfl⟩
  have hb : Below w.heap.size w w1 := by rw [← hw1]; exact (Below.refl _ w).alloc (Nat.le_refl _) _
  have hB : Blk w1 w.heap.size 36 [u1, u2] := by rw [← hw1]; exact Blk.new w _ _
  have c0 : w1.cell? ⟨w.heap.size, 0, none⟩ = some u1 := hB.cell 0
  have c1 : w1.cell? ⟨w.heap.size, 1, none⟩ = some u2 := hB.cell 1
  have HC := hide (packCompare_any w1 u1 kv q1 key (h1.below hb) (hk.below hb))
  have HB := hide hb
  obtain ⟨a1, n1, l1, rfl⟩ := sl_form h1
  obtain ⟨a2, n2, l2, rfl⟩ := sl_form h2
  obtain ⟨a3, n3, l3, rfl⟩ := sl_form hk
  generalize cmp q1 key = r at *
  clear hB hb h1 h2 hk
  go_enter Try.func64, Try.ntmps64
  go_wp2_with (go_at_call 65; refine HC.out.mono ?_; rintro e w2 ⟨rfl, hw⟩; subst w2; clear HC)
  go_ret
  exact ⟨rfl, HB.out⟩

set_option maxHeartbeats 2000000 in
theorem searchP_any (w : World) (v : Value) (vs : List (Value × Value)) (ps : List (List Int × List Int)) (kv : Value) (key : List Int) (hK : Prs w v vs ps) (hS : Sl w kv key) (hr : riseK [] (ps.map (·.1)) = true) (hn5 : ps.length ≤ 255) :
    Calls Try.prog 63 #[v, kv, .func (.func 64) #[] #[]] w fun e w' => e = .returned (.tuple #[.int .i64 (cntK (ps.map (·.1)) key), .bool (isK (ps.map (·.1)) key)]) ∧ Below w.heap.size w w' := by
  obtain ⟨ao, cap, rfl, hc1, hc2⟩ := hK.shape
  have HCM : Hid (∀ m, m < ps.length → (cmp (ps.getD m ([], [])).1 key < 0 ↔ m < cntK (ps.map (·.1)) key)) := fun m hm => by rw [← fst_getD ps m hm]; exact cnt_cmp hr (by simpa using hm)
  have hcl : cntK (ps.map (·.1)) key ≤ ps.length := by have := cntK_le (ps.map (·.1)) key; rwa [List.length_map] at this
  have HI : Hid (isK (ps.map (·.1)) key = (decide (cntK (ps.map (·.1)) key < ps.length) && decide ((ps.getD (cntK (ps.map (·.1)) key) ([], [])).1 = key))) := by
    show _ = _
    unfold isK
    rw [List.length_map]
    by_cases hlt : cntK (ps.map (·.1)) key < ps.length
    · rw [fst_getD ps _ hlt]
    · rw [decide_eq_false hlt]; rfl
  have HC : Hid (∀ W va vb l l2, Below w.heap.size w W → Sl W va l → Sl W vb l2 → Calls Try.prog 64 #[.agg #[va, vb], kv] W fun e w' => e = .returned (.int .i64 (cmp l key)) ∧ Below W.heap.size W w') := fun W va vb l l2 hb h h2 => find1_any W va vb kv l l2 key h h2 (hS.below hb)
  have HK := hide hK
  obtain ⟨ka, kn, kc, rfl⟩ := sl_form hS
  obtain ⟨n, hn⟩ : ∃ n, ps.length = n := ⟨_, rfl⟩
  have HN := hide hn
  rw [hn] at hc1 HK HCM hcl HI hn5 ⊢
  generalize isK (ps.map (·.1)) key = IS at *
  generalize hcc : cntK (ps.map (·.1)) key = c at *
  clear hK hS hr hn hcc
  go_enter Try.func63, Try.ntmps63
  go_wp2
  go_loopg [9, 10] n (fun g s9 s10 wr => ∃ lo hi : Nat, s9 = .int .i64 lo ∧ s10 = .int .i64 hi ∧ lo ≤ hi ∧ hi ≤ n ∧ hi - lo ≤ g ∧ lo ≤ c ∧ c ≤ hi ∧ Below w.heap.size w wr)
  case atStart => exact ⟨0, n, rfl, rfl, Nat.zero_le _, Nat.le_refl _, by omega, Nat.zero_le _, hcl, Below.refl _ _⟩
  case round =>
    obtain ⟨lo, hi, rfl, rfl, hlh, hin, hg, h1, h2, hwr⟩ := hrel
    obtain ⟨W1, rfl⟩ : ∃ x, x = wr := ⟨_, rfl⟩
    have HWR := hide hwr
    clear hwr
    by_cases hlt : lo < hi
    · have hli : (lo : Int) < (hi : Int) := by omega
      obtain ⟨b, off, rfl, q, hs, hs2⟩ := (HK.out.below HWR.out).at ((lo + hi) / 2) (by have := HN.out; omega)
      have hcm := HCM.out ((lo + hi) / 2) (by omega)
      generalize vs.getD ((lo + hi) / 2) nil2 = u at *
      generalize ps.getD ((lo + hi) / 2) ([], []) = l at *
      obtain ⟨u1, u2⟩ := u
      obtain ⟨l1, l2⟩ := l
      simp only at q hs hs2 hcm
      have q1 : W1.cell? ⟨b, off + ((lo + hi) / 2) * 2, none⟩ = some u1 := q 0 _ rfl
      have q2 : W1.cell? ⟨b, off + ((lo + hi) / 2) * 2 + 1, none⟩ = some u2 := q 1 _ rfl
      have HCC := hide (HC.out W1 u1 u2 l1 l2 HWR.out hs hs2)
      have HCB := hide hcm
      obtain ⟨a1, n1, c1, rfl⟩ := sl_form hs
      obtain ⟨a2, n2, c2, rfl⟩ := sl_form hs2
      generalize cmp l1 key = r at *
      clear hs hs2 hcm q
      by_cases hb : r < 0
      · go_wp2_with (go_at_call 64; refine HCC.out.mono ?_; rintro e w1 ⟨rfl, hb1⟩; have HB1 := hide (HWR.out.trans (hb1.mono HWR.out.size)); clear HCC hb1)
        go_roundg (hi - ((lo + hi) / 2 + 1))
        case measure => omega
        case rel => exact ⟨(lo + hi) / 2 + 1, hi, by rw [show ((lo : Int) + (hi : Int)) / 2 + 1 = (((lo + hi) / 2 + 1 : Nat) : Int) by omega], rfl, by omega, hin, Nat.le_refl _, by have h3 := HCB.out; omega, h2, HB1.out⟩
      · go_wp2_with (go_at_call 64; refine HCC.out.mono ?_; rintro e w1 ⟨rfl, hb1⟩; have HB1 := hide (HWR.out.trans (hb1.mono HWR.out.size)); clear HCC hb1)
        go_roundg ((lo + hi) / 2 - lo)
        case measure => omega
        case rel => exact ⟨lo, (lo + hi) / 2, rfl, by rw [show ((lo : Int) + (hi : Int)) / 2 = (((lo + hi) / 2 : Nat) : Int) by omega], by omega, by omega, Nat.le_refl _, h1, by have h3 := HCB.out; omega, HB1.out⟩
    · obtain rfl : hi = lo := by omega
      obtain rfl : c = hi := by omega
      by_cases hcn : c < n
      · obtain ⟨b, off, rfl, q, hs, hs2⟩ := (HK.out.below HWR.out).at c (by have := HN.out; omega)
        generalize vs.getD c nil2 = u at *
        generalize ps.getD c ([], []) = l at *
        obtain ⟨u1, u2⟩ := u
        obtain ⟨l1, l2⟩ := l
        simp only at q hs hs2 HI
        have q1 : W1.cell? ⟨b, off + c * 2, none⟩ = some u1 := q 0 _ rfl
        have q2 : W1.cell? ⟨b, off + c * 2 + 1, none⟩ = some u2 := q 1 _ rfl
        have HCC := hide (HC.out W1 u1 u2 l1 l2 HWR.out hs hs2)
        obtain ⟨a1, n1, c1, rfl⟩ := sl_form hs
        obtain ⟨a2, n2, c2, rfl⟩ := sl_form hs2
        have HZ := hide (cmp_zero_iff l1 key)
        generalize cmp l1 key = r at *
        clear hs hs2 q
        by_cases hb : r = 0
        · go_wp2_with (go_at_call 64; refine HCC.out.mono ?_; rintro e w1 ⟨rfl, hb1⟩; have HB1 := hide (HWR.out.trans (hb1.mono HWR.out.size)); clear HCC hb1)
          go_ret2
          exact ⟨by rw [HI.out, decide_eq_true hcn, decide_eq_true (HZ.out.1 hb)]; rfl, HB1.out⟩
        · have hb2 : (r == 0) = false := by simpa using hb
          go_wp2_with (go_at_call 64; refine HCC.out.mono ?_; rintro e w1 ⟨rfl, hb1⟩; have HB1 := hide (HWR.out.trans (hb1.mono HWR.out.size)); clear HCC hb1)
          go_ret2
          exact ⟨by rw [HI.out, decide_eq_false (fun h => hb (HZ.out.2 h)), Bool.and_false]; rfl, HB1.out⟩
      · go_wp2
        go_ret2
        exact ⟨by rw [HI.out, decide_eq_false hcn, Bool.false_and]; rfl, HWR.out⟩

set_option maxHeartbeats 1000000 in
theorem find_any (w : World) (v : Value) (n : Nd) (h : NdV w v n) (kv : Value) (key : List Int) (hS : Sl w kv key) :
    Calls Try.prog 23 #[v, kv] w fun e w' => e = .returned (.tuple #[.int .i64 (findN n key), .bool (findB n key)]) ∧ Below w.heap.size w w' := by
  have HM : Hid (∀ w1, Below w.heap.size w w1 → Calls Try.prog 62 #[v] w1 fun e w' => e = .returned (.bool (leafB n)) ∧ Below w1.heap.size w1 w') := fun w1 hb => isLeaf_any w1 v n (h.below hb)
  obtain ⟨pa, pc, ka, kc, ca, cc, xs, ys, rfl, hp1, hk1, hc1, hp2, hk2, hc2, hP, hK, hC⟩ := h.open
  have HSK : Hid (leafB n = true → ∀ w1, Below w.heap.size w w1 → Calls Try.prog 63 #[.slice pa n.ps.length pc, kv, .func (.func 64) #[] #[]] w1 fun e w' => e = .returned (.tuple #[.int .i64 (cntK (n.ps.map (·.1)) key), .bool (isK (n.ps.map (·.1)) key)]) ∧ Below w1.heap.size w1 w') := fun hi w1 hb => by
    have := leafB_ps hi
    exact searchP_any w1 _ xs n.ps kv key (hP.below hb) (hS.below hb) ((riseP_iff _ _).1 this.2.2.2).1 this.1
  have HKN : Hid (findN n key = if leafB n then cntK (n.ps.map (·.1)) key else 0) := rfl
  have HKB : Hid (findB n key = if leafB n then isK (n.ps.map (·.1)) key else false) := rfl
  obtain ⟨a1, n1, c1, rfl⟩ := sl_form hS
  generalize findN n key = KN at *
  generalize findB n key = KB at *
  generalize cntK (n.ps.map (·.1)) key = cn at *
  generalize isK (n.ps.map (·.1)) key = IS at *
  generalize leafB n = IB at *
  unfold ndv at HM ⊢
  generalize n.lf = lf at *
  generalize n.ps.length = np at *
  generalize n.ks.length = nk at *
  generalize n.cs.length = nc at *
  obtain ⟨w1, hw1, HB1, HBB, z0, z1, z2, z3⟩ := nd_box w lf (.slice pa np pc) (.slice ka nk kc) (.slice ca nc cc)
  clear h hS hP hK hC hp1 hk1 hc1 hp2 hk2 hc2
  cases IB with
  | false =>
    go_enter Try.func23, Try.ntmps23
    go_wp2_with (go_at_call 62; refine (HM.out w1 HB1.out).mono ?_; rintro e w2 ⟨rfl, hb2⟩; have HB2 := hide (HB1.out.trans (hb2.mono HB1.out.size)); clear HM hb2)
    go_ret2
    exact ⟨by rw [HKN.out, HKB.out]; rfl, HB2.out⟩
  | true =>
    have HSK2 := hide (HSK.out rfl)
    clear HSK
    go_enter Try.func23, Try.ntmps23
    go_wp2_with (first
      | (go_at_call 62; refine (HM.out w1 HB1.out).mono ?_; rintro e w2 ⟨rfl, hb2⟩; have HB2 := hide (HB1.out.trans (hb2.mono HB1.out.size)); obtain ⟨y0, y1, y2, y3⟩ := box_ndc (HBB.out.below hb2 HBB.out.lt); clear HM hb2)
      | (go_at_call 63; refine (HSK2.out w2 HB2.out).mono ?_; rintro e w3 ⟨rfl, hb3⟩; have HB3 := hide (HB2.out.trans (hb3.mono HB2.out.size)); clear HSK2 hb3))
    go_ret2
    exact ⟨by rw [HKN.out, HKB.out]; rfl, HB3.out⟩

end Go.Proofs.Ytoamdbjailpgdaa
