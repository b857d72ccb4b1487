/- Contracts: slices.BinarySearchFunc at a node's keys, package node's Kid. -/
import Derived.Test.YtoamdbjailpgdaaNCheck
import Derived.Test.YtoamdbjailpgdaaNOrd
namespace Go.Proofs.Ytoamdbjailpgdaa
set_option maxRecDepth 20000
open Go.RowKit
set_option linter.unusedVariables false
set_option linter.unusedSimpArgs false
set_option maxRecDepth 100000

theorem cnt_cmp {ks : List (List Int)} {key : List Int} (hr : riseK [] ks = true) {m : Nat} (hm : m < ks.length) : (cmp (ks.getD m []) key < 0 ↔ m < cntK ks key) := by
  obtain ⟨h1, h2⟩ := cntK_spec [] ks key hr
  constructor
  · intro h
    rcases Nat.lt_or_ge m (cntK ks key) with h3 | h3
    · exact h3
    · have := h2 m h3 hm; omega
  · exact h1 m

set_option maxHeartbeats 2000000 in
theorem searchK_any (w : World) (v : Value) (vs : List Value) (ks : List (List Int)) (kv : Value) (key : List Int) (hK : Bss w v vs ks) (hS : Sl w kv key) (hr : riseK [] ks = true) (hn5 : ks.length ≤ 255) :
    Calls Try.prog 69 #[v, kv, .func (.func 65) #[] #[]] w fun e w' => e = .returned (.tuple #[.int .i64 (cntK ks key), .bool (isK ks key)]) ∧ w' = w := by
  obtain ⟨ao, cap, rfl, hc1, hc2⟩ := hK.shape
  have HCM : Hid (∀ m, m < ks.length → (cmp (ks.getD m []) key < 0 ↔ m < cntK ks key)) := fun m hm => cnt_cmp hr hm
  have hcl := cntK_le ks key
  have HI : Hid (isK ks key = (decide (cntK ks key < ks.length) && decide (ks.getD (cntK ks key) [] = key))) := rfl
  have HC : Hid (∀ va l, Sl w va l → Calls Try.prog 65 #[va, kv] w fun e w' => e = .returned (.int .i64 (cmp l key)) ∧ w' = w) := fun va l h => packCompare_any w va kv l key h hS
  have HK := hide hK
  obtain ⟨ka, kn, kc, rfl⟩ := sl_form hS
  obtain ⟨n, hn⟩ : ∃ n, ks.length = n := ⟨_, rfl⟩
  have HN := hide hn
  rw [hn] at hc1 HK HCM hcl HI hn5 ⊢
  generalize isK ks key = IS at *
  generalize hcc : cntK ks key = c at *
  clear hK hS hr hn hcc
  go_enter Try.func69, Try.ntmps69
  go_wp2
  go_loopg [9, 10] n (fun g s9 s10 wr => ∃ lo hi : Nat, s9 = .int .i64 lo ∧ s10 = .int .i64 hi ∧ lo ≤ hi ∧ hi ≤ n ∧ hi - lo ≤ g ∧ lo ≤ c ∧ c ≤ hi ∧ w = wr)
  case atStart => exact ⟨0, n, rfl, rfl, Nat.zero_le _, Nat.le_refl _, by omega, Nat.zero_le _, hcl, rfl⟩
  case round =>
    obtain ⟨lo, hi, rfl, rfl, hlh, hin, hg, h1, h2, hwr⟩ := hrel
    subst wr
    by_cases hlt : lo < hi
    · have hli : (lo : Int) < (hi : Int) := by omega
      obtain ⟨b, off, rfl, q, hs⟩ := HK.out.at ((lo + hi) / 2) (by have := HN.out; omega)
      have hcm := HCM.out ((lo + hi) / 2) (by omega)
      generalize vs.getD ((lo + hi) / 2) nilS = u at *
      generalize ks.getD ((lo + hi) / 2) [] = l at *
      have HCC := hide (HC.out u l hs)
      have HCB := hide hcm
      obtain ⟨a1, n1, c1, rfl⟩ := sl_form hs
      generalize cmp l key = r at *
      clear hs hcm
      by_cases hb : r < 0
      · go_wp2_with (go_at_call 65; refine HCC.out.mono ?_; rintro e w1 ⟨rfl, hw⟩; subst w1; clear HCC)
        go_roundg (hi - ((lo + hi) / 2 + 1))
        case measure => omega
        case rel => exact ⟨(lo + hi) / 2 + 1, hi, by rw [show ((lo : Int) + (hi : Int)) / 2 + 1 = (((lo + hi) / 2 + 1 : Nat) : Int) by omega], rfl, by omega, hin, Nat.le_refl _, by have h3 := HCB.out; omega, h2, rfl⟩
      · go_wp2_with (go_at_call 65; refine HCC.out.mono ?_; rintro e w1 ⟨rfl, hw⟩; subst w1; clear HCC)
        go_roundg ((lo + hi) / 2 - lo)
        case measure => omega
        case rel => exact ⟨lo, (lo + hi) / 2, rfl, by rw [show ((lo : Int) + (hi : Int)) / 2 = (((lo + hi) / 2 : Nat) : Int) by omega], by omega, by omega, Nat.le_refl _, h1, by have h3 := HCB.out; omega, rfl⟩
    · obtain rfl : hi = lo := by omega
      obtain rfl : c = hi := by omega
      by_cases hcn : c < n
      · obtain ⟨b, off, rfl, q, hs⟩ := HK.out.at c (by have := HN.out; omega)
        generalize vs.getD c nilS = u at *
        generalize ks.getD c [] = l at *
        have HCC := hide (HC.out u l hs)
        obtain ⟨a1, n1, c1, rfl⟩ := sl_form hs
        have HZ := hide (cmp_zero_iff l key)
        generalize cmp l key = r at *
        clear hs
        by_cases hb : r = 0
        · go_wp2_with (go_at_call 65; refine HCC.out.mono ?_; rintro e w1 ⟨rfl, hw⟩; subst w1; clear HCC)
          go_ret2
          exact ⟨by rw [HI.out, decide_eq_true hcn, decide_eq_true (HZ.out.1 hb)]; rfl, rfl⟩
        · have hb2 : (r == 0) = false := by simpa using hb
          go_wp2_with (go_at_call 65; refine HCC.out.mono ?_; rintro e w1 ⟨rfl, hw⟩; subst w1; clear HCC)
          go_ret2
          exact ⟨by rw [HI.out, decide_eq_false (fun h => hb (HZ.out.2 h)), Bool.and_false]; rfl, rfl⟩
      · go_wp2
        go_ret2
        exact ⟨by rw [HI.out, decide_eq_false hcn, Bool.false_and]; rfl, rfl⟩

set_option maxHeartbeats 1000000 in
theorem kid_any (w : World) (v : Value) (n : Nd) (h : NdV w v n) (kv : Value) (key : List Int) (hS : Sl w kv key) :
    Calls Try.prog 26 #[v, kv] w fun e w' => e = .returned (.int .i64 (kidN n key)) ∧ Below w.heap.size w w' := by
  have HM : Hid (∀ w1, Below w.heap.size w w1 → Calls Try.prog 68 #[v] w1 fun e w' => e = .returned (.bool (innerB n)) ∧ Below w1.heap.size w1 w') := fun w1 hb => isInner_any w1 v n (h.below hb)
  obtain ⟨pa, pc, ka, kc, ca, cc, xs, ys, rfl, hp1, hk1, hc1, hp2, hk2, hc2, hP, hK, hC⟩ := h.open
  have HSK : Hid (innerB n = true → ∀ w1, Below w.heap.size w w1 → Calls Try.prog 69 #[.slice ka n.ks.length kc, kv, .func (.func 65) #[] #[]] w1 fun e w' => e = .returned (.tuple #[.int .i64 (cntK n.ks key), .bool (isK n.ks key)]) ∧ w' = w1) := fun hi w1 hb => by
    have := innerB_ps hi
    exact searchK_any w1 _ ys n.ks kv key (hK.below hb) (hS.below hb) this.2.2.2.2.1 this.2.2.1
  have HKN : Hid (kidN n key = if innerB n then cntK n.ks key + (if isK n.ks key then 1 else 0) else 0) := rfl
  have HCL : Hid (innerB n = true → cntK n.ks key ≤ 255) := fun hi => Nat.le_trans (cntK_le _ _) (innerB_ps hi).2.2.1
  obtain ⟨a1, n1, c1, rfl⟩ := sl_form hS
  generalize kidN n key = KN at *
  generalize cntK n.ks key = cn at *
  generalize isK n.ks key = IS at *
  generalize innerB n = IB at *
  unfold ndv at HM ⊢
  generalize n.lf = lf at *
  generalize n.ps.length = np at *
  generalize n.ks.length = nk at *
  generalize n.cs.length = nc at *
  obtain ⟨w1, hw1, HB1, HBB, z0, z1, z2, z3⟩ := nd_box w lf (.slice pa np pc) (.slice ka nk kc) (.slice ca nc cc)
  clear h hS hP hK hC hp1 hk1 hc1 hp2 hk2 hc2
  cases IB with
  | false =>
    go_enter Try.func26, Try.ntmps26
    go_wp2_with (go_at_call 68; refine (HM.out w1 HB1.out).mono ?_; rintro e w2 ⟨rfl, hb2⟩; have HB2 := hide (HB1.out.trans (hb2.mono HB1.out.size)); clear HM hb2)
    go_ret
    exact ⟨ret_int (by rw [HKN.out]; rfl), HB2.out⟩
  | true =>
    have HSK2 := hide (HSK.out rfl)
    have hcl := HCL.out rfl
    clear HSK HCL
    cases IS with
    | false =>
      go_enter Try.func26, Try.ntmps26
      go_wp2_with (first
        | (go_at_call 68; refine (HM.out w1 HB1.out).mono ?_; rintro e w2 ⟨rfl, hb2⟩; have HB2 := hide (HB1.out.trans (hb2.mono HB1.out.size)); obtain ⟨y0, y1, y2, y3⟩ := box_ndc (HBB.out.below hb2 HBB.out.lt); clear HM hb2)
        | (go_at_call 69; refine (HSK2.out w2 HB2.out).mono ?_; rintro e w3 ⟨rfl, hw⟩; subst w3; clear HSK2))
      go_ret
      exact ⟨ret_int (by rw [HKN.out]; simp), HB2.out⟩
    | true =>
      go_enter Try.func26, Try.ntmps26
      go_wp2_with (first
        | (go_at_call 68; refine (HM.out w1 HB1.out).mono ?_; rintro e w2 ⟨rfl, hb2⟩; have HB2 := hide (HB1.out.trans (hb2.mono HB1.out.size)); obtain ⟨y0, y1, y2, y3⟩ := box_ndc (HBB.out.below hb2 HBB.out.lt); clear HM hb2)
        | (go_at_call 69; refine (HSK2.out w2 HB2.out).mono ?_; rintro e w3 ⟨rfl, hw⟩; subst w3; clear HSK2))
      go_ret
      exact ⟨ret_int (by rw [HKN.out]; simp), HB2.out⟩

end Go.Proofs.Ytoamdbjailpgdaa
