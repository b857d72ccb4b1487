/- Contracts: slices.BinarySearchFunc at a leaf's pairs, package node's Find. -/
import Derived.Test.YtoamdbjailpgdaaNKid
import Derived.Test.YtoamdbjailpgdaaNEach
import Derived.Test.YtoamdbjailpgdaaJNRange
import Derived.Test.YtoamdbjailpgdaaJNRefC
import Derived.Test.YtoamdbjailpgdaaNRefS
import Derived.Test.YtoamdbjailpgdaaNLive
import Derived.Test.YtoamdbjailpgdaaNFew
namespace Go.Proofs.Ytoamdbjailpgdaa
set_option maxRecDepth 20000
open Go.RowKit
set_option linter.unusedVariables false
set_option linter.unusedSimpArgs false
set_option maxRecDepth 100000

theorem fst_getD (ps : List (List Int × List Int)) (m : Nat) (hm : m < ps.length) : (ps.map (·.1)).getD m [] = (ps.getD m ([], [])).1 := by simp [List.getD, hm]

theorem find1_any (w : World) (u1 u2 kv : Value) (q1 q2 key : List Int) (h1 : Sl w u1 q1) (h2 : Sl w u2 q2) (hk : Sl w kv key) :
    Calls Try.prog 64 #[.agg #[u1, u2], kv] w fun e w' => e = .returned (.int .i64 (cmp q1 key)) ∧ Below w.heap.size w w' := by
  obtain ⟨w1, hw1⟩ : ∃ w1, w.alloc (.cells #[u1, u2] 36) = w1 := ⟨_, rfl⟩
  have hb : Below w.heap.size w w1 := by rw [← hw1]; exact (Below.refl _ w).alloc (Nat.le_refl _) _
  have hB : Blk w1 w.heap.size 36 [u1, u2] := by rw [← hw1]; exact Blk.new w _ _
  have c0 : w1.cell? ⟨w.heap.size, 0, none⟩ = some u1 := hB.cell 0
  have c1 : w1.cell? ⟨w.heap.size, 1, none⟩ = some u2 := hB.cell 1
  have HC := hide (packCompare_any w1 u1 kv q1 key (h1.below hb) (hk.below hb))
  have HB := hide hb
  obtain ⟨a1, n1, l1, rfl⟩ := sl_form h1
  obtain ⟨a2, n2, l2, rfl⟩ := sl_form h2
  obtain ⟨a3, n3, l3, rfl⟩ := sl_form hk
  generalize cmp q1 key = r at *
  clear hB hb h1 h2 hk
  go_enter Try.func64, Try.ntmps64
  go_wp2_with (go_at_call 65; refine HC.out.mono ?_; rintro e w2 ⟨rfl, hw⟩; subst w2; clear HC)
  go_ret
  exact ⟨rfl, HB.out⟩

set_option maxHeartbeats 2000000 in
theorem searchP_any (w : World) (v : Value) (vs : List (Value × Value)) (ps : List (List Int × List Int)) (kv : Value) (key : List Int) (hK : Prs w v vs ps) (hS : Sl w kv key) (hr : riseK [] (ps.map (·.1)) = true) (hn5 : ps.length ≤ 255) :
    Calls Try.prog 63 #[v, kv, .func (.func 64) #[] #[]] w fun e w' => e = .returned (.tuple #[.int .i64 (cntK (ps.map (·.1)) key), .bool (isK (ps.map (·.1)) key)]) ∧ Below w.heap.size w w' := by
  obtain ⟨ao, cap, rfl, hc1, hc2⟩ := hK.shape
  have HCM : Hid (∀ m, m < ps.length → (cmp (ps.getD m ([], [])).1 key < 0 ↔ m < cntK (ps.map (·.1)) key)) := fun m hm => by rw [← fst_getD ps m hm]; exact cnt_cmp hr (by simpa using hm)
  have hcl : cntK (ps.map (·.1)) key ≤ ps.length := by have := cntK_le (ps.map (·.1)) key; rwa [List.length_map] at this
  have HI : Hid (isK (ps.map (·.1)) key = (decide (cntK (ps.map (·.1)) key < ps.length) && decide ((ps.getD (cntK (ps.map (·.1)) key) ([], [])).1 = key))) := by
    show _ = _
    unfold isK
    rw [List.length_map]
    by_cases hlt : cntK (ps.map (·.1)) key < ps.length
    · rw [fst_getD ps _ hlt]
    · rw [decide_eq_false hlt]; rfl
  have HC : Hid (∀ W va vb l l2, Below w.heap.size w W → Sl W va l → Sl W vb l2 → Calls Try.prog 64 #[.agg #[va, vb], kv] W fun e w' => e = .returned (.int .i64 (cmp l key)) ∧ Below W.heap.size W w') := fun W va vb l l2 hb h h2 => find1_any W va vb kv l l2 key h h2 (hS.below hb)
  have HK := hide hK
  obtain ⟨ka, kn, kc, rfl⟩ := sl_form hS
  obtain ⟨n, hn⟩ : ∃ n, ps.length = n := ⟨_, rfl⟩
  have HN := hide hn
  rw [hn] at hc1 HK HCM hcl HI hn5 ⊢
  generalize isK (ps.map (·.1)) key = IS at *
  generalize hcc : cntK (ps.map (·.1)) key = c at *
  clear hK hS hr hn hcc
  go_enter Try.func63, Try.ntmps63
  go_wp2
  go_loopg [9, 10] n (fun g s9 s10 wr => ∃ lo hi : Nat, s9 = .int .i64 lo ∧ s10 = .int .i64 hi ∧ lo ≤ hi ∧ hi ≤ n ∧ hi - lo ≤ g ∧ lo ≤ c ∧ c ≤ hi ∧ Below w.heap.size w wr)
  case atStart => exact ⟨0, n, rfl, rfl, Nat.zero_le _, Nat.le_refl _, by omega, Nat.zero_le _, hcl, Below.refl _ _⟩
  case round =>
    obtain ⟨lo, hi, rfl, rfl, hlh, hin, hg, h1, h2, hwr⟩ := hrel
    obtain ⟨W1, rfl⟩ : ∃ x, x = wr := ⟨_, rfl⟩
    have HWR := hide hwr
    clear hwr
    by_cases hlt : lo < hi
    · have hli : (lo : Int) < (hi : Int) := by omega
      obtain ⟨b, off, rfl, q, hs, hs2⟩ := (HK.out.below HWR.out).at ((lo + hi) / 2) (by have := HN.out; omega)
      have hcm := HCM.out ((lo + hi) / 2) (by omega)
      generalize vs.getD ((lo + hi) / 2) nil2 = u at *
      generalize ps.getD ((lo + hi) / 2) ([], []) = l at *
      obtain ⟨u1, u2⟩ := u
      obtain ⟨l1, l2⟩ := l
      simp only at q hs hs2 hcm
      have q1 : W1.cell? ⟨b, off + ((lo + hi) / 2) * 2, none⟩ = some u1 := q 0 _ rfl
      have q2 : W1.cell? ⟨b, off + ((lo + hi) / 2) * 2 + 1, none⟩ = some u2 := q 1 _ rfl
      have HCC := hide (HC.out W1 u1 u2 l1 l2 HWR.out hs hs2)
      have HCB := hide hcm
      obtain ⟨a1, n1, c1, rfl⟩ := sl_form hs
      obtain ⟨a2, n2, c2, rfl⟩ := sl_form hs2
      generalize cmp l1 key = r at *
      clear hs hs2 hcm q
      by_cases hb : r < 0
      · go_wp2_with (go_at_call 64; refine HCC.out.mono ?_; rintro e w1 ⟨rfl, hb1⟩; have HB1 := hide (HWR.out.trans (hb1.mono HWR.out.size)); clear HCC hb1)
        go_roundg (hi - ((lo + hi) / 2 + 1))
        case measure => omega
        case rel => exact ⟨(lo + hi) / 2 + 1, hi, by rw [show ((lo : Int) + (hi : Int)) / 2 + 1 = (((lo + hi) / 2 + 1 : Nat) : Int) by omega], rfl, by omega, hin, Nat.le_refl _, by have h3 := HCB.out; omega, h2, HB1.out⟩
      · go_wp2_with (go_at_call 64; refine HCC.out.mono ?_; rintro e w1 ⟨rfl, hb1⟩; have HB1 := hide (HWR.out.trans (hb1.mono HWR.out.size)); clear HCC hb1)
        go_roundg ((lo + hi) / 2 - lo)
        case measure => omega
        case rel => exact ⟨lo, (lo + hi) / 2, rfl, by rw [show ((lo : Int) + (hi : Int)) / 2 = (((lo + hi) / 2 : Nat) : Int) by omega], by omega, by omega, Nat.le_refl _, h1, by have h3 := HCB.out; omega, HB1.out⟩
    · obtain rfl : hi = lo := by omega
      obtain rfl : c = hi := by omega
      by_cases hcn : c < n
      · obtain ⟨b, off, rfl, q, hs, hs2⟩ := (HK.out.below HWR.out).at c (by have := HN.out; omega)
        generalize vs.getD c nil2 = u at *
        generalize ps.getD c ([], []) = l at *
        obtain ⟨u1, u2⟩ := u
        obtain ⟨l1, l2⟩ := l
        simp only at q hs hs2 HI
        have q1 : W1.cell? ⟨b, off + c * 2, none⟩ = some u1 := q 0 _ rfl
        have q2 : W1.cell? ⟨b, off + c * 2 + 1, none⟩ = some u2 := q 1 _ rfl
        have HCC := hide (HC.out W1 u1 u2 l1 l2 HWR.out hs hs2)
        obtain ⟨a1, n1, c1, rfl⟩ := sl_form hs
        obtain ⟨a2, n2, c2, rfl⟩ := sl_form hs2
        have HZ := hide (cmp_zero_iff l1 key)
        generalize cmp l1 key = r at *
        clear hs hs2 q
        by_cases hb : r = 0
        · go_wp2_with (go_at_call 64; refine HCC.out.mono ?_; rintro e w1 ⟨rfl, hb1⟩; have HB1 := hide (HWR.out.trans (hb1.mono HWR.out.size)); clear HCC hb1)
          go_ret2
          exact ⟨by rw [HI.out, decide_eq_true hcn, decide_eq_true (HZ.out.1 hb)]; rfl, HB1.out⟩
        · have hb2 : (r == 0) = false := by simpa using hb
          go_wp2_with (go_at_call 64; refine HCC.out.mono ?_; rintro e w1 ⟨rfl, hb1⟩; have HB1 := hide (HWR.out.trans (hb1.mono HWR.out.size)); clear HCC hb1)
          go_ret2
          exact ⟨by rw [HI.out, decide_eq_false (fun h => hb (HZ.out.2 h)), Bool.and_false]; rfl, HB1.out⟩
      · go_wp2
        go_ret2
        exact ⟨by rw [HI.out, decide_eq_false hcn, Bool.false_and]; rfl, HWR.out⟩

set_option maxHeartbeats 1000000 in
theorem find_any (w : World) (v : Value) (n : Nd) (h : NdV w v n) (kv : Value) (key : List Int) (hS : Sl w kv key) :
    Calls Try.prog 23 #[v, kv] w fun e w' => e = .returned (.tuple #[.int .i64 (findN n key), .bool (findB n key)]) ∧ Below w.heap.size w w' := by
  have HM : Hid (∀ w1, Below w.heap.size w w1 → Calls Try.prog 62 #[v] w1 fun e w' => e = .returned (.bool (leafB n)) ∧ Below w1.heap.size w1 w') := fun w1 hb => isLeaf_any w1 v n (h.below hb)
  obtain ⟨pa, pc, ka, kc, ca, cc, xs, ys, rfl, hp1, hk1, hc1, hp2, hk2, hc2, hP, hK, hC⟩ := h.open
  have HSK : Hid (leafB n = true → ∀ w1, Below w.heap.size w w1 → Calls Try.prog 63 #[.slice pa n.ps.length pc, kv, .func (.func 64) #[] #[]] w1 fun e w' => e = .returned (.tuple #[.int .i64 (cntK (n.ps.map (·.1)) key), .bool (isK (n.ps.map (·.1)) key)]) ∧ Below w1.heap.size w1 w') := fun hi w1 hb => by
    have := leafB_ps hi
    exact searchP_any w1 _ xs n.ps kv key (hP.below hb) (hS.below hb) ((riseP_iff _ _).1 this.2.2.2).1 this.1
  have HKN : Hid (findN n key = if leafB n then cntK (n.ps.map (·.1)) key else 0) := rfl
  have HKB : Hid (findB n key = if leafB n then isK (n.ps.map (·.1)) key else false) := rfl
  obtain ⟨a1, n1, c1, rfl⟩ := sl_form hS
  generalize findN n key = KN at *
  generalize findB n key = KB at *
  generalize cntK (n.ps.map (·.1)) key = cn at *
  generalize isK (n.ps.map (·.1)) key = IS at *
  generalize leafB n = IB at *
  unfold ndv at HM ⊢
  generalize n.lf = lf at *
  generalize n.ps.length = np at *
  generalize n.ks.length = nk at *
  generalize n.cs.length = nc at *
  obtain ⟨w1, hw1, HB1, HBB, z0, z1, z2, z3⟩ := nd_box w lf (.slice pa np pc) (.slice ka nk kc) (.slice ca nc cc)
  clear h hS hP hK hC hp1 hk1 hc1 hp2 hk2 hc2
  cases IB with
  | false =>
    go_enter Try.func23, Try.ntmps23
    go_wp2_with (go_at_call 62; refine (HM.out w1 HB1.out).mono ?_; rintro e w2 ⟨rfl, hb2⟩; have HB2 := hide (HB1.out.trans (hb2.mono HB1.out.size)); clear HM hb2)
    go_ret2
    exact ⟨by rw [HKN.out, HKB.out]; rfl, HB2.out⟩
  | true =>
    have HSK2 := hide (HSK.out rfl)
    clear HSK
    go_enter Try.func23, Try.ntmps23
    go_wp2_with (first
      | (go_at_call 62; refine (HM.out w1 HB1.out).mono ?_; rintro e w2 ⟨rfl, hb2⟩; have HB2 := hide (HB1.out.trans (hb2.mono HB1.out.size)); obtain ⟨y0, y1, y2, y3⟩ := box_ndc (HBB.out.below hb2 HBB.out.lt); clear HM hb2)
      | (go_at_call 63; refine (HSK2.out w2 HB2.out).mono ?_; rintro e w3 ⟨rfl, hb3⟩; have HB3 := hide (HB2.out.trans (hb3.mono HB2.out.size)); clear HSK2 hb3))
    go_ret2
    exact ⟨by rw [HKN.out, HKB.out]; rfl, HB3.out⟩

end Go.Proofs.Ytoamdbjailpgdaa
/- NodeFinds, walked. -/
namespace Go.Proofs.Ytoamdbjailpgdaa
set_option maxRecDepth 20000
open Go.RowKit Go.Shelf
set_option linter.unusedVariables false
set_option linter.unusedSimpArgs false
set_option maxRecDepth 100000
attribute [local go_sem] Oper.semAt_some

theorem nds_f1 {w : World} {v : Value} {n : Nd} (h : NdV w v n) {lf : Bool} {p k c : Value} (hv : v = .agg #[.bool lf, p, k, c]) : Nds (w.alloc (.cells #[.bool lf, p, k, c] 26)) w.heap.size [v] [n] := by
  refine ⟨rfl, fun i hi => ?_⟩
  obtain rfl : i = 0 := by simp at hi; omega
  refine ⟨h.alloc _, ?_⟩
  have hB := Blk.new w 26 [.bool lf, p, k, c]
  subst hv
  exact hB.range 0 _ (fun j hj => by rw [Nat.zero_add]; rfl)
theorem sameN_one (a : Nd) : sameN a a = true := by simp [sameN]
def isNodeF (n : Nd) : Value → World → Prop := fun v w => NdV w v n
def isAllF (n : Nd) : Value → World → Prop := fun v w => ∃ b, v = .func (.func 70) #[] #[.pointer (some ⟨b, 0, none⟩)] ∧ BoxN w b n
def isPrF (ps : List (List Int × List Int)) : Value → World → Prop := fun v w => ∃ xs, Prs w v xs ps
theorem stable_isNodeF (n : Nd) : ∀ v w w', Below w.heap.size w w' → isNodeF n v w → isNodeF n v w' := fun v w w' hb h => NdV.below h hb
theorem stable_isAllF (n : Nd) : ∀ v w w', Below w.heap.size w w' → isAllF n v w → isAllF n v w' := fun v w w' hb ⟨b, h1, h2⟩ => ⟨b, h1, h2.below hb⟩
theorem stable_isPrF (ps : List (List Int × List Int)) : ∀ v w w', Below w.heap.size w w' → isPrF ps v w → isPrF ps v w' := fun v w w' hb ⟨xs, h⟩ => ⟨xs, h.below hb⟩
theorem run_min2 {P : Program} (ats : Array TypeId) (ty : TypeId) (a b : Nat) (w : World) : (Builtin.min_ ats ty #[.int .i64 (a : Int), .int .i64 (b : Int)]).run P w = .ok (.int .i64 ((min a b : Nat) : Int)) w := by
  have e : (if (b : Int) < (a : Int) then (b : Int) else (a : Int)) = ((min a b : Nat) : Int) := by
    by_cases h : b < a
    · rw [if_pos (by omega), Nat.min_eq_right (by omega)]
    · rw [if_neg (by omega), Nat.min_eq_left (by omega)]
  show Result.ok (Value.int .i64 (if (b : Int) < (a : Int) then (b : Int) else (a : Int))) w = _
  rw [e]
theorem take_all {α : Type} (l : List α) (m : Nat) (h : l.length ≤ m) : l.take m = l := List.take_of_length_le h

set_option maxHeartbeats 8000000 in
theorem nodeFinds_walk (w : World) (v : Value) (n : Nd) (kv : Value) (key : List Int) (mo : Nat) (hv : NdV w v n) (hk : Sl w kv key) (hmo : mo < 256) :
    Calls Try.prog 5 #[v, kv, .int .u8 (mo : Int)] w fun e w' => e = .returned (.bool true) ∧ Below w.heap.size w w' := by
  have HLV := hide live_any
  have HFW : Hid (∀ w1, Below w.heap.size w w1 → ∀ lf p k c, v = .agg #[.bool lf, p, k, c] → Calls Try.prog 9 #[.slice (some ⟨w1.heap.size, 0, none⟩) 1 1] (w1.alloc (.cells #[.bool lf, p, k, c] 26)) fun e w' => e = .returned (.bool (fewN [n])) ∧ Below w1.heap.size w1 w') := fun w1 hb lf p k c he =>
    (few_any _ _ 1 [v] [n] (nds_f1 (hv.below hb) he) (by simp)).mono fun e w' ⟨h1, h2⟩ => ⟨h1, after_alloc h2⟩
  have HQ : Hid (fewN [n] = true → n.ks.length + n.cs.length ≤ 9223372036854775807) := fun hf => by
    simp only [fewN, List.all_cons, List.all_nil, Bool.and_true, few1, Bool.and_eq_true, decide_eq_true_iff] at hf
    omega
  have HFD : Hid (∀ w1, Below w.heap.size w w1 → Calls Try.prog 23 #[v, kv] w1 fun e w' => e = .returned (.tuple #[.int .i64 (findN n key), .bool (findB n key)]) ∧ Below w1.heap.size w1 w') := fun w1 hb => find_any w1 v n (hv.below hb) kv key (hk.below hb)
  have HRF0 : Hid (fewN [n] = true → ∀ w1, Below w.heap.size w w1 → Calls Try.prog 24 #[v, kv] w1 fun e w' => e = .returned (.tuple #[.int .i64 (findN n key), .bool (findB n key)]) ∧ Below w1.heap.size w1 w') := fun hf w1 hb => refFind_any w1 v n (hv.below hb) kv key (hk.below hb) (HQ.out hf)
  have HMY0 : Hid (fewN [n] = true → ∀ w1, Below w.heap.size w w1 → Calls Try.prog 25 #[v] w1 fun e w' => e = .returned (.bool (mayN n)) ∧ Below w1.heap.size w1 w') := fun hf w1 hb => refMay_any w1 v n (hv.below hb) (HQ.out hf)
  have HKD0 : Hid (∀ w1, Below w.heap.size w w1 → Calls Try.prog 26 #[v, kv] w1 fun e w' => e = .returned (.int .i64 (kidN n key)) ∧ Below w1.heap.size w1 w') := fun w1 hb => kid_any w1 v n (hv.below hb) kv key (hk.below hb)
  have HRK0 : Hid (fewN [n] = true → ∀ w1, Below w.heap.size w w1 → Calls Try.prog 27 #[v, kv] w1 fun e w' => e = .returned (.int .i64 (kidN n key)) ∧ Below w1.heap.size w1 w') := fun hf w1 hb => refKid_any w1 v n (hv.below hb) kv key (hk.below hb) (HQ.out hf)
  have HAL0 : Hid (∀ w1, Below w.heap.size w w1 → Calls Try.prog 30 #[v] w1 fun e w' => ∃ b, e = .returned (.func (.func 70) #[] #[.pointer (some ⟨b, 0, none⟩)]) ∧ BoxN w' b (allN n) ∧ Below w1.heap.size w1 w') := fun w1 hb => nall_any w1 v n (hv.below hb)
  have hlen : (allN n).ps.length ≤ 300 := by
    have := allN_few n
    simp only [few1, Bool.and_eq_true, decide_eq_true_iff] at this
    exact this.1.1.1.1
  have HTL : Hid (∀ wx b, BoxN wx b (allN n) → Calls Try.prog 29 #[.func (.func 70) #[] #[.pointer (some ⟨b, 0, none⟩)], .int .i64 1048576] wx fun e w' => ∃ u xs, e = .returned u ∧ Prs w' u xs (allN n).ps ∧ Below wx.heap.size wx w') := fun wx b hx => by
    have := ntold_any wx b (allN n) (allN_few n) hx 1048576 (by omega)
    rw [take_all _ _ (by omega)] at this
    exact this
  have HTM : Hid (∀ wx b, BoxN wx b (allN n) → Calls Try.prog 29 #[.func (.func 70) #[] #[.pointer (some ⟨b, 0, none⟩)], .int .i64 (mo : Int)] wx fun e w' => ∃ u xs, e = .returned u ∧ Prs w' u xs ((allN n).ps.take mo) ∧ Below wx.heap.size wx w') := fun wx b hx => ntold_any wx b (allN n) (allN_few n) hx mo (by omega)
  have HLF : Hid (∀ wx u xs ps, Prs wx u xs ps → Calls Try.prog 28 #[u] wx fun e w' => ∃ t, e = .returned t ∧ NdV w' t ⟨true, ps, [], []⟩ ∧ Below wx.heap.size wx w') := fun wx u xs ps h => lawLeaf_any wx u xs ps h
  have HSM : Hid (∀ wx u1 u2 m, NdV wx u1 m → NdV wx u2 m → Calls Try.prog 17 #[u1, u2] wx fun e w' => e = .returned (.bool true) ∧ Below wx.heap.size wx w') := fun wx u1 u2 m h1 h2 => by rw [← sameN_one m]; exact refSame_any wx _ _ _ _ h1 h2
  have HCV : Hid (∀ wx, (convert 5 3 (.int .u8 (mo : Int))).run Try.prog wx = .ok (.int .i64 (mo : Int)) wx) := fun wx => by
    have := hmo
    have e : IntKind.i64.wrap (mo : Int) = (mo : Int) := by unfold IntKind.wrap; simp [IntKind.bits, IntKind.signed]; omega
    simp [convert, Try.underlying5, Try.underlying3, e, go_sem]
  obtain ⟨pa, pc, ka, kc, ca, cc, xs, ys, rfl, hp1, hk1, hc1, hp2, hk2, hc2, hP, hK, hC⟩ := hv.open
  have HP := hide hP
  have HAY : Hid (leafB n = true → (allN n).ps = n.ps) := fun h => by show _ = _; unfold allN; rw [if_pos h]
  have HAO : Hid (leafB n = false → (allN n).ps = []) := fun h => by show _ = _; unfold allN; rw [if_neg (by rw [h]; exact Bool.false_ne_true)]; rfl
  have HML := hide (@mayN_lf n)
  have HLL := hide (@leafB_lf n)
  obtain ⟨ak, ck, rfl⟩ := sl_form' hk
  obtain ⟨LK, hLK⟩ : ∃ L, key.length = L := ⟨_, rfl⟩
  rw [hLK] at HFD HRF0 HKD0 HRK0 ⊢
  have HNP := hide (rfl : n.ps.length = n.ps.length)
  generalize fewN [n] = FW at *
  unfold ndv at HFW HFD HRF0 HMY0 HKD0 HRK0 HAL0 ⊢
  generalize n.lf = lf at *
  generalize hnp : n.ps.length = np at *
  generalize n.ks.length = nk at *
  generalize n.cs.length = nc at *
  generalize findN n key = FI at *
  generalize findB n key = FB at *
  generalize kidN n key = KN at *
  generalize mayN n = MN at *
  generalize leafB n = LB at *
  generalize allN n = AN at *
  have HPN := hide hnp
  obtain ⟨w1, hw1, HB1, HBB, z0, z1, z2, z3⟩ := nd_box w lf (.slice pa np pc) (.slice ka nk kc) (.slice ca nc cc)
  have HFW1 : Hid (∀ w1, Below w.heap.size w w1 → Calls Try.prog 9 #[.slice (some ⟨w1.heap.size, 0, none⟩) 1 1] (w1.alloc (.cells #[.bool lf, .slice pa np pc, .slice ka nk kc, .slice ca nc cc] 26)) fun e w' => e = .returned (.bool FW) ∧ Below w1.heap.size w1 w') := fun w1 hb => HFW.out w1 hb _ _ _ _ rfl
  clear hv hk hP hK hC HFW hk1 hc1 hk2 hc2 hnp hLK HQ HNP
  cases FW with
  | false =>
    go_enter Try.func5, Try.ntmps5
    go_wp2_with (first
      | (go_at_call 9; refine (HFW1.out w2 HB2.out).mono ?_; rintro e w3 ⟨rfl, hb3⟩; have HB3 := hide (HB2.out.trans (hb3.mono HB2.out.size)); have HBX3 := hide (HBX2.out.below hb3 HBX2.out.lt); obtain ⟨x0, x1, x2, x3⟩ := box_ndc HBX3.out; have HLV3 := hide (HLV.out w3); clear HFW1 hb3)
      | (go_at_call 8; refine HLV3.out.mono ?_; rintro e w4 ⟨rfl, hb4⟩; have HB4 := hide (HB3.out.trans (hb4.mono HB3.out.size)); clear HLV3 hb4)
      | (go_at_call 8; refine (HLV.out w1).mono ?_; rintro e w2 ⟨rfl, hb2⟩; have HB2 := hide (HB1.out.trans (hb2.mono HB1.out.size)); have HBX2 := hide (HBB.out.below hb2 HBB.out.lt); obtain ⟨y0, y1, y2, y3⟩ := box_ndc HBX2.out; clear hb2))
    go_ret
    exact ⟨rfl, HB4.out⟩
  | true =>
    have HRF := hide (HRF0.out rfl)
    have HMY := hide (HMY0.out rfl)
    have HRK1 := hide (HRK0.out rfl)
    clear HRF0 HMY0 HRK0
    by_cases hL : LK ≤ 300
    · have iL : ¬ (300 : Int) < (LK : Int) := by omega
      have HEND : Hid (∀ w6, Below w.heap.size w w6 → (∀ wx, Below w6.heap.size w6 wx → Calls Try.prog 26 #[.agg #[.bool lf, .slice pa np pc, .slice ka nk kc, .slice ca nc cc], .slice ak LK ck] wx fun e w' => e = .returned (.int .i64 (KN : Int)) ∧ Below wx.heap.size wx w') ∧ (∀ wx, Below w6.heap.size w6 wx → Calls Try.prog 27 #[.agg #[.bool lf, .slice pa np pc, .slice ka nk kc, .slice ca nc cc], .slice ak LK ck] wx fun e w' => e = .returned (.int .i64 (KN : Int)) ∧ Below wx.heap.size wx w') ∧ (∀ wx, Below w6.heap.size w6 wx → Calls Try.prog 30 #[.agg #[.bool lf, .slice pa np pc, .slice ka nk kc, .slice ca nc cc]] wx fun e w' => ∃ b, e = .returned (.func (.func 70) #[] #[.pointer (some ⟨b, 0, none⟩)]) ∧ BoxN w' b AN ∧ Below wx.heap.size wx w')) := fun w6 h6 => ⟨fun wx hb => HKD0.out wx (h6.trans (hb.mono h6.size)), fun wx hb => HRK1.out wx (h6.trans (hb.mono h6.size)), fun wx hb => HAL0.out wx (h6.trans (hb.mono h6.size))⟩
      clear HKD0 HRK1 HAL0
      cases lf with
      | true =>
        have hMN : MN = LB := HML.out rfl
        subst hMN
        cases MN with
        | true =>
          have hAN := HAY.out rfl
          have hmin := fun wx => run_min2 (P := Try.prog) #[3, 3] 3 np mo wx
          have HPS : Hid (Prs w (.slice pa np pc) xs AN.ps) := by show Prs _ _ _ _; rw [hAN]; exact HP.out
          have hNPA : AN.ps.length = np := by rw [hAN]; exact HPN.out
          obtain ⟨mm, hmm⟩ : ∃ m, min np mo = m := ⟨_, rfl⟩
          rw [hmm] at hmin
          have HTK : Hid (AN.ps.take mo = AN.ps.take mm) := by
            show _ = _
            rw [← hmm, ← hNPA, List.take_eq_take_iff]
            omega
          have hmle : mm ≤ np := by rw [← hmm]; exact Nat.min_le_left _ _
          have HCT := hide (fun wx => cut_head (P := Try.prog) 22 36 2 Try.underlying22 sizePair pa np pc mm (by omega) (by unfold maxLen; omega) wx)
          clear HAY HAO HML HLL hAN hmm HP HPN
          go_enter Try.func5, Try.ntmps5
          go_wp2_with (first
            | (go_at_call 8; refine (HLV.out w1).mono ?_; rintro e w2 ⟨rfl, hb2⟩; have HB2 := hide (HB1.out.trans (hb2.mono HB1.out.size)); have HBX2 := hide (HBB.out.below hb2 HBB.out.lt); obtain ⟨y0, y1, y2, y3⟩ := box_ndc HBX2.out; clear hb2)
            | (go_at_call 9; refine (HFW1.out w2 HB2.out).mono ?_; rintro e w3 ⟨rfl, hb3⟩; have HB3 := hide (HB2.out.trans (hb3.mono HB2.out.size)); have HBX3 := hide (HBX2.out.below hb3 HBX2.out.lt); obtain ⟨x0, x1, x2, x3⟩ := box_ndc HBX3.out; have HLV3 := hide (HLV.out w3); clear HFW1 hb3)
            | (go_at_call 23; refine (HFD.out w3 HB3.out).mono ?_; rintro e w4 ⟨rfl, hb4⟩; have HB4 := hide (HB3.out.trans (hb4.mono HB3.out.size)); have HBX4 := hide (HBX3.out.below hb4 HBX3.out.lt); clear x0 x1 x2 x3; obtain ⟨x0, x1, x2, x3⟩ := box_ndc HBX4.out; clear HFD hb4)
            | (go_at_call 24; refine (HRF.out w4 HB4.out).mono ?_; rintro e w5 ⟨rfl, hb5⟩; have HB5 := hide (HB4.out.trans (hb5.mono HB4.out.size)); have HBX5 := hide (HBX4.out.below hb5 HBX4.out.lt); clear x0 x1 x2 x3; obtain ⟨x0, x1, x2, x3⟩ := box_ndc HBX5.out; clear HRF hb5)
            | (go_at_call 25; refine (HMY.out w5 HB5.out).mono ?_; rintro e w6 ⟨rfl, hb6⟩; have HB6 := hide (HB5.out.trans (hb6.mono HB5.out.size)); have HX6 := hide (HBX5.out.below hb6 HBX5.out.lt); clear x0 x1 x2 x3; obtain ⟨x0, x1, x2, x3⟩ := box_ndc HX6.out; clear HMY hb6))
          obtain ⟨hkd, hrk, hal⟩ := HEND.out w6 HB6.out
          have HKD := hide hkd
          have HRK := hide hrk
          have HAL := hide hal
          clear hkd hrk hal HEND
          have HLW : Hid (∀ wx, Below w6.heap.size w6 wx → Calls Try.prog 28 #[.slice pa np pc] wx fun e w' => ∃ t, e = .returned t ∧ NdV w' t ⟨true, AN.ps, [], []⟩ ∧ Below wx.heap.size wx w') := fun wx hb => HLF.out wx _ _ _ (HPS.out.below (HB6.out.trans (hb.mono HB6.out.size)))
          have HLX : Hid (∀ wx, Below w6.heap.size w6 wx → Calls Try.prog 28 #[.slice pa mm pc] wx fun e w' => ∃ t, e = .returned t ∧ NdV w' t ⟨true, AN.ps.take mo, [], []⟩ ∧ Below wx.heap.size wx w') := fun wx hb => by
            have hp := HPS.out.below (HB6.out.trans (hb.mono HB6.out.size))
            rw [← hNPA] at hp
            have := hp.take mm pc (by omega) (by omega) (by unfold maxLen; omega)
            rw [HTK.out]
            exact HLF.out wx _ _ _ this
          refine wp_region_facts (FL [isV (.int .i64 (FI : Int)), isV (.int .i64 (FI : Int)), isV (.bool true), isV (.bool true), isV (.bool FB), isV (.bool FB), isV (.bool true), isV (.bool true), isV (.bool true), isV (.agg #[.bool true, .slice pa np pc, .slice ka nk kc, .slice ca nc cc]), isV (.slice ak LK ck), isV (.int .i64 (KN : Int)), isV (.agg #[.bool true, .slice pa np pc, .slice ka nk kc, .slice ca nc cc]), isV (.slice ak LK ck), isV (.int .i64 (KN : Int)), isV (.bool true), isV (.bool true), isV (.bool true), isV (.agg #[.bool true, .slice pa np pc, .slice ka nk kc, .slice ca nc cc]), isAllF AN, isPrF (AN.ps), isNodeF (⟨true, AN.ps, [], []⟩), isV (.slice pa np pc), isNodeF (⟨true, AN.ps, [], []⟩), isV (.bool true), isV (.bool true), isV (.bool true), isV (.agg #[.bool true, .slice pa np pc, .slice ka nk kc, .slice ca nc cc]), isAllF AN, isV (.int .u8 (mo : Int)), isV (.int .i64 (mo : Int)), isPrF (AN.ps.take mo), isNodeF (⟨true, AN.ps.take mo, [], []⟩), isV (.slice pa np pc), isV (.int .i64 (mm : Int)), isV (.slice pa mm pc), isNodeF (⟨true, AN.ps.take mo, [], []⟩), isV (.bool true), isV (.bool true), isV (.bool true)]) 91 (by kernel_rfl) (by kernel_rfl) (by kernel_rfl) rfl (FL_stable _ (by repeat (first | exact trivial | refine ⟨stable_isV _, ?_⟩ | refine ⟨stable_isNodeF _, ?_⟩ | refine ⟨stable_isAllF _, ?_⟩ | refine ⟨stable_isPrF _, ?_⟩))) ?_ ?_
          · refine ⟨?_, ?_, ?_, ?_, ?_, ?_, ?_, ?_, ?_, ?_, ?_, ?_, ?_, ?_, ?_, ?_, ?_, ?_, ?_, ?_, ?_, ?_, ?_, ?_, ?_, ?_, ?_, ?_, ?_, ?_, ?_, ?_, ?_, ?_, ?_, ?_, ?_, ?_, ?_, ?_, trivial⟩
            · intro act wx h
              have e7 : act.eval (.tmp 7) = .int .i64 (FI : Int) := h.old 7 (by kernel_rfl)
              have hbel := h.below
              clear h
              refine gives_by rfl act.eval rfl ?_
              generalize act.eval = ρ at *
              intro hf hc
              go_simp
              exact ⟨Below.refl _ _, rfl⟩
            · intro act wx h
              have e9 : act.eval (.tmp 9) = .int .i64 (FI : Int) := h.old 9 (by kernel_rfl)
              have hbel := h.below
              clear h
              refine gives_by rfl act.eval rfl ?_
              generalize act.eval = ρ at *
              intro hf hc
              go_simp
              exact ⟨Below.refl _ _, rfl⟩
            · intro act wx h
              obtain ⟨v52, e52, f52⟩ := h.val 0 52 (by kernel_rfl)
              obtain rfl : v52 = .int .i64 (FI : Int) := f52
              obtain ⟨v53, e53, f53⟩ := h.val 1 53 (by kernel_rfl)
              obtain rfl : v53 = .int .i64 (FI : Int) := f53
              have hbel := h.below
              clear h
              refine gives_by rfl act.eval rfl ?_
              generalize act.eval = ρ at *
              intro hf hc
              go_simp
              exact ⟨Below.refl _ _, by simp [FL, isV]⟩
            · intro act wx h
              obtain ⟨v54, e54, f54⟩ := h.val 2 54 (by kernel_rfl)
              obtain rfl : v54 = .bool true := f54
              have hbel := h.below
              clear h
              refine gives_by rfl act.eval rfl ?_
              generalize act.eval = ρ at *
              intro hf hc
              go_simp
              exact ⟨Below.refl _ _, rfl⟩
            · intro act wx h
              have e8 : act.eval (.tmp 8) = .bool FB := h.old 8 (by kernel_rfl)
              have hg := h.guard 3 55 (by kernel_rfl) true (fun v hv => hv)
              have hbel := h.below
              clear h
              refine gives_by (by simp only [Region.wanted, hg]; rfl) act.eval rfl ?_
              generalize act.eval = ρ at *
              intro hf hc
              go_simp
              exact ⟨Below.refl _ _, rfl⟩
            · intro act wx h
              have e10 : act.eval (.tmp 10) = .bool FB := h.old 10 (by kernel_rfl)
              have hg := h.guard 3 55 (by kernel_rfl) true (fun v hv => hv)
              have hbel := h.below
              clear h
              refine gives_by (by simp only [Region.wanted, hg]; rfl) act.eval rfl ?_
              generalize act.eval = ρ at *
              intro hf hc
              go_simp
              exact ⟨Below.refl _ _, rfl⟩
            · intro act wx h
              obtain ⟨v56, e56, f56⟩ := h.val 4 56 (by kernel_rfl)
              obtain rfl : v56 = .bool FB := f56
              obtain ⟨v57, e57, f57⟩ := h.val 5 57 (by kernel_rfl)
              obtain rfl : v57 = .bool FB := f57
              have hg := h.guard 3 55 (by kernel_rfl) true (fun v hv => hv)
              have hbel := h.below
              clear h
              refine gives_by (by simp only [Region.wanted, hg]; rfl) act.eval rfl ?_
              generalize act.eval = ρ at *
              intro hf hc
              go_simp
              exact ⟨Below.refl _ _, by simp [FL, isV]⟩
            · intro act wx h
              obtain ⟨v55, e55, f55⟩ := h.val 3 55 (by kernel_rfl)
              obtain rfl : v55 = .bool true := f55
              obtain ⟨v58, e58, f58⟩ := h.val 6 58 (by kernel_rfl)
              obtain rfl : v58 = .bool true := f58
              have hbel := h.below
              clear h
              refine gives_by rfl act.eval rfl ?_
              generalize act.eval = ρ at *
              intro hf hc
              go_simp
              exact ⟨Below.refl _ _, rfl⟩
            · intro act wx h
              obtain ⟨v59, e59, f59⟩ := h.val 7 59 (by kernel_rfl)
              obtain rfl : v59 = .bool true := f59
              have hbel := h.below
              clear h
              refine gives_by rfl act.eval rfl ?_
              generalize act.eval = ρ at *
              intro hf hc
              go_simp
              exact ⟨Below.refl _ _, rfl⟩
            · intro act wx h
              have e3 : act.eval (.tmp 3) = .pointer (some ⟨w.heap.size, 0, none⟩) := h.old 3 (by kernel_rfl)
              have hg := h.guard 8 60 (by kernel_rfl) true (fun v hv => hv)
              have hbel := h.below
              clear h
              obtain ⟨x0, x1, x2, x3⟩ := box_ndc (HX6.out.below hbel HX6.out.lt)
              refine gives_by (by simp only [Region.wanted, hg]; rfl) act.eval rfl ?_
              generalize act.eval = ρ at *
              intro hf hc
              go_simp
              exact ⟨Below.refl _ _, rfl⟩
            · intro act wx h
              have e1 : act.eval (.tmp 1) = .slice ak LK ck := h.old 1 (by kernel_rfl)
              have hg := h.guard 8 60 (by kernel_rfl) true (fun v hv => hv)
              have hbel := h.below
              clear h
              refine gives_by (by simp only [Region.wanted, hg]; rfl) act.eval rfl ?_
              generalize act.eval = ρ at *
              intro hf hc
              go_simp
              exact ⟨Below.refl _ _, rfl⟩
            · intro act wx h
              obtain ⟨v61, e61, f61⟩ := h.val 9 61 (by kernel_rfl)
              obtain rfl : v61 = .agg #[.bool true, .slice pa np pc, .slice ka nk kc, .slice ca nc cc] := f61
              obtain ⟨v62, e62, f62⟩ := h.val 10 62 (by kernel_rfl)
              obtain rfl : v62 = .slice ak LK ck := f62
              have hg := h.guard 8 60 (by kernel_rfl) true (fun v hv => hv)
              have hbel := h.below
              clear h
              refine gives_by (by simp only [Region.wanted, hg]; rfl) act.eval rfl ?_
              generalize act.eval = ρ at *
              intro hf hc
              go_simp
              exact call_gives (HKD.out wx hbel) (fun _ => rfl)
            · intro act wx h
              have e3 : act.eval (.tmp 3) = .pointer (some ⟨w.heap.size, 0, none⟩) := h.old 3 (by kernel_rfl)
              have hg := h.guard 8 60 (by kernel_rfl) true (fun v hv => hv)
              have hbel := h.below
              clear h
              obtain ⟨x0, x1, x2, x3⟩ := box_ndc (HX6.out.below hbel HX6.out.lt)
              refine gives_by (by simp only [Region.wanted, hg]; rfl) act.eval rfl ?_
              generalize act.eval = ρ at *
              intro hf hc
              go_simp
              exact ⟨Below.refl _ _, rfl⟩
            · intro act wx h
              have e1 : act.eval (.tmp 1) = .slice ak LK ck := h.old 1 (by kernel_rfl)
              have hg := h.guard 8 60 (by kernel_rfl) true (fun v hv => hv)
              have hbel := h.below
              clear h
              refine gives_by (by simp only [Region.wanted, hg]; rfl) act.eval rfl ?_
              generalize act.eval = ρ at *
              intro hf hc
              go_simp
              exact ⟨Below.refl _ _, rfl⟩
            · intro act wx h
              obtain ⟨v64, e64, f64⟩ := h.val 12 64 (by kernel_rfl)
              obtain rfl : v64 = .agg #[.bool true, .slice pa np pc, .slice ka nk kc, .slice ca nc cc] := f64
              obtain ⟨v65, e65, f65⟩ := h.val 13 65 (by kernel_rfl)
              obtain rfl : v65 = .slice ak LK ck := f65
              have hg := h.guard 8 60 (by kernel_rfl) true (fun v hv => hv)
              have hbel := h.below
              clear h
              refine gives_by (by simp only [Region.wanted, hg]; rfl) act.eval rfl ?_
              generalize act.eval = ρ at *
              intro hf hc
              go_simp
              exact call_gives (HRK.out wx hbel) (fun _ => rfl)
            · intro act wx h
              obtain ⟨v63, e63, f63⟩ := h.val 11 63 (by kernel_rfl)
              obtain rfl : v63 = .int .i64 (KN : Int) := f63
              obtain ⟨v66, e66, f66⟩ := h.val 14 66 (by kernel_rfl)
              obtain rfl : v66 = .int .i64 (KN : Int) := f66
              have hg := h.guard 8 60 (by kernel_rfl) true (fun v hv => hv)
              have hbel := h.below
              clear h
              refine gives_by (by simp only [Region.wanted, hg]; rfl) act.eval rfl ?_
              generalize act.eval = ρ at *
              intro hf hc
              go_simp
              exact ⟨Below.refl _ _, by simp [FL, isV]⟩
            · intro act wx h
              obtain ⟨v60, e60, f60⟩ := h.val 8 60 (by kernel_rfl)
              obtain rfl : v60 = .bool true := f60
              obtain ⟨v67, e67, f67⟩ := h.val 15 67 (by kernel_rfl)
              obtain rfl : v67 = .bool true := f67
              have hbel := h.below
              clear h
              refine gives_by rfl act.eval rfl ?_
              generalize act.eval = ρ at *
              intro hf hc
              go_simp
              exact ⟨Below.refl _ _, rfl⟩
            · intro act wx h
              obtain ⟨v68, e68, f68⟩ := h.val 16 68 (by kernel_rfl)
              obtain rfl : v68 = .bool true := f68
              have hbel := h.below
              clear h
              refine gives_by rfl act.eval rfl ?_
              generalize act.eval = ρ at *
              intro hf hc
              go_simp
              exact ⟨Below.refl _ _, rfl⟩
            · intro act wx h
              have e3 : act.eval (.tmp 3) = .pointer (some ⟨w.heap.size, 0, none⟩) := h.old 3 (by kernel_rfl)
              have hg := h.guard 17 69 (by kernel_rfl) true (fun v hv => hv)
              have hbel := h.below
              clear h
              obtain ⟨x0, x1, x2, x3⟩ := box_ndc (HX6.out.below hbel HX6.out.lt)
              refine gives_by (by simp only [Region.wanted, hg]; rfl) act.eval rfl ?_
              generalize act.eval = ρ at *
              intro hf hc
              go_simp
              exact ⟨Below.refl _ _, rfl⟩
            · intro act wx h
              obtain ⟨v70, e70, f70⟩ := h.val 18 70 (by kernel_rfl)
              obtain rfl : v70 = .agg #[.bool true, .slice pa np pc, .slice ka nk kc, .slice ca nc cc] := f70
              have hg := h.guard 17 69 (by kernel_rfl) true (fun v hv => hv)
              have hbel := h.below
              clear h
              refine gives_by (by simp only [Region.wanted, hg]; rfl) act.eval rfl ?_
              generalize act.eval = ρ at *
              intro hf hc
              go_simp
              refine (HAL.out wx hbel).mono ?_
              rintro e w' ⟨b, he, h1, h2⟩
              exact ⟨_, he, h2, b, rfl, h1⟩
            · intro act wx h
              obtain ⟨v71, e71, f71⟩ := h.val 19 71 (by kernel_rfl)
              obtain ⟨bv71, rfl, xv71⟩ := f71
              have hg := h.guard 17 69 (by kernel_rfl) true (fun v hv => hv)
              have hbel := h.below
              clear h
              refine gives_by (by simp only [Region.wanted, hg]; rfl) act.eval rfl ?_
              generalize act.eval = ρ at *
              intro hf hc
              go_simp
              refine (HTL.out wx bv71 xv71).mono ?_
              rintro e w' ⟨u, xs, he, h1, h2⟩
              exact ⟨u, he, h2, xs, h1⟩
            · intro act wx h
              obtain ⟨v72, e72, f72⟩ := h.val 20 72 (by kernel_rfl)
              obtain ⟨xv72, pv72⟩ := f72
              have hg := h.guard 17 69 (by kernel_rfl) true (fun v hv => hv)
              have hbel := h.below
              clear h
              refine gives_by (by simp only [Region.wanted, hg]; rfl) act.eval rfl ?_
              generalize act.eval = ρ at *
              intro hf hc
              go_simp
              refine (HLF.out wx _ _ _ pv72).mono ?_
              rintro e w' ⟨u, he, h1, h2⟩
              exact ⟨u, he, h2, h1⟩
            · intro act wx h
              have e11 : act.eval (.tmp 11) = .slice pa np pc := h.old 11 (by kernel_rfl)
              have hg := h.guard 17 69 (by kernel_rfl) true (fun v hv => hv)
              have hbel := h.below
              clear h
              refine gives_by (by simp only [Region.wanted, hg]; rfl) act.eval rfl ?_
              generalize act.eval = ρ at *
              intro hf hc
              go_simp
              exact ⟨Below.refl _ _, rfl⟩
            · intro act wx h
              obtain ⟨v74, e74, f74⟩ := h.val 22 74 (by kernel_rfl)
              obtain rfl : v74 = .slice pa np pc := f74
              have hg := h.guard 17 69 (by kernel_rfl) true (fun v hv => hv)
              have hbel := h.below
              clear h
              refine gives_by (by simp only [Region.wanted, hg]; rfl) act.eval rfl ?_
              generalize act.eval = ρ at *
              intro hf hc
              go_simp
              refine (HLW.out wx hbel).mono ?_
              rintro e w' ⟨u, he, h1, h2⟩
              exact ⟨u, he, h2, h1⟩
            · intro act wx h
              obtain ⟨v73, e73, f73⟩ := h.val 21 73 (by kernel_rfl)
              have nn73 := trivial
              obtain ⟨v75, e75, f75⟩ := h.val 23 75 (by kernel_rfl)
              have nn75 := trivial
              have hg := h.guard 17 69 (by kernel_rfl) true (fun v hv => hv)
              have hbel := h.below
              clear h
              refine gives_by (by simp only [Region.wanted, hg]; rfl) act.eval rfl ?_
              generalize act.eval = ρ at *
              intro hf hc
              go_simp
              exact call_gives (HSM.out wx _ _ _ f73 f75) (fun _ => rfl)
            · intro act wx h
              obtain ⟨v69, e69, f69⟩ := h.val 17 69 (by kernel_rfl)
              obtain rfl : v69 = .bool true := f69
              obtain ⟨v76, e76, f76⟩ := h.val 24 76 (by kernel_rfl)
              obtain rfl : v76 = .bool true := f76
              have hbel := h.below
              clear h
              refine gives_by rfl act.eval rfl ?_
              generalize act.eval = ρ at *
              intro hf hc
              go_simp
              exact ⟨Below.refl _ _, rfl⟩
            · intro act wx h
              obtain ⟨v77, e77, f77⟩ := h.val 25 77 (by kernel_rfl)
              obtain rfl : v77 = .bool true := f77
              have hbel := h.below
              clear h
              refine gives_by rfl act.eval rfl ?_
              generalize act.eval = ρ at *
              intro hf hc
              go_simp
              exact ⟨Below.refl _ _, rfl⟩
            · intro act wx h
              have e3 : act.eval (.tmp 3) = .pointer (some ⟨w.heap.size, 0, none⟩) := h.old 3 (by kernel_rfl)
              have hg := h.guard 26 78 (by kernel_rfl) true (fun v hv => hv)
              have hbel := h.below
              clear h
              obtain ⟨x0, x1, x2, x3⟩ := box_ndc (HX6.out.below hbel HX6.out.lt)
              refine gives_by (by simp only [Region.wanted, hg]; rfl) act.eval rfl ?_
              generalize act.eval = ρ at *
              intro hf hc
              go_simp
              exact ⟨Below.refl _ _, rfl⟩
            · intro act wx h
              obtain ⟨v79, e79, f79⟩ := h.val 27 79 (by kernel_rfl)
              obtain rfl : v79 = .agg #[.bool true, .slice pa np pc, .slice ka nk kc, .slice ca nc cc] := f79
              have hg := h.guard 26 78 (by kernel_rfl) true (fun v hv => hv)
              have hbel := h.below
              clear h
              refine gives_by (by simp only [Region.wanted, hg]; rfl) act.eval rfl ?_
              generalize act.eval = ρ at *
              intro hf hc
              go_simp
              refine (HAL.out wx hbel).mono ?_
              rintro e w' ⟨b, he, h1, h2⟩
              exact ⟨_, he, h2, b, rfl, h1⟩
            · intro act wx h
              have e2 : act.eval (.tmp 2) = .int .u8 (mo : Int) := h.old 2 (by kernel_rfl)
              have hg := h.guard 26 78 (by kernel_rfl) true (fun v hv => hv)
              have hbel := h.below
              clear h
              refine gives_by (by simp only [Region.wanted, hg]; rfl) act.eval rfl ?_
              generalize act.eval = ρ at *
              intro hf hc
              go_simp
              exact ⟨Below.refl _ _, rfl⟩
            · intro act wx h
              obtain ⟨v81, e81, f81⟩ := h.val 29 81 (by kernel_rfl)
              obtain rfl : v81 = .int .u8 (mo : Int) := f81
              have hg := h.guard 26 78 (by kernel_rfl) true (fun v hv => hv)
              have hbel := h.below
              clear h
              have hcv := HCV.out wx
              refine gives_by (by simp only [Region.wanted, hg]; rfl) act.eval rfl ?_
              generalize act.eval = ρ at *
              intro hf hc
              go_simp
              exact ⟨Below.refl _ _, rfl⟩
            · intro act wx h
              obtain ⟨v80, e80, f80⟩ := h.val 28 80 (by kernel_rfl)
              obtain ⟨bv80, rfl, xv80⟩ := f80
              obtain ⟨v82, e82, f82⟩ := h.val 30 82 (by kernel_rfl)
              obtain rfl : v82 = .int .i64 (mo : Int) := f82
              have hg := h.guard 26 78 (by kernel_rfl) true (fun v hv => hv)
              have hbel := h.below
              clear h
              refine gives_by (by simp only [Region.wanted, hg]; rfl) act.eval rfl ?_
              generalize act.eval = ρ at *
              intro hf hc
              go_simp
              refine (HTM.out wx bv80 xv80).mono ?_
              rintro e w' ⟨u, xs, he, h1, h2⟩
              exact ⟨u, he, h2, xs, h1⟩
            · intro act wx h
              obtain ⟨v83, e83, f83⟩ := h.val 31 83 (by kernel_rfl)
              obtain ⟨xv83, pv83⟩ := f83
              have hg := h.guard 26 78 (by kernel_rfl) true (fun v hv => hv)
              have hbel := h.below
              clear h
              refine gives_by (by simp only [Region.wanted, hg]; rfl) act.eval rfl ?_
              generalize act.eval = ρ at *
              intro hf hc
              go_simp
              refine (HLF.out wx _ _ _ pv83).mono ?_
              rintro e w' ⟨u, he, h1, h2⟩
              exact ⟨u, he, h2, h1⟩
            · intro act wx h
              have e11 : act.eval (.tmp 11) = .slice pa np pc := h.old 11 (by kernel_rfl)
              have hg := h.guard 26 78 (by kernel_rfl) true (fun v hv => hv)
              have hbel := h.below
              clear h
              refine gives_by (by simp only [Region.wanted, hg]; rfl) act.eval rfl ?_
              generalize act.eval = ρ at *
              intro hf hc
              go_simp
              exact ⟨Below.refl _ _, rfl⟩
            · intro act wx h
              have e12 : act.eval (.tmp 12) = .int .i64 (mm : Int) := h.old 12 (by kernel_rfl)
              have hg := h.guard 26 78 (by kernel_rfl) true (fun v hv => hv)
              have hbel := h.below
              clear h
              refine gives_by (by simp only [Region.wanted, hg]; rfl) act.eval rfl ?_
              generalize act.eval = ρ at *
              intro hf hc
              go_simp
              exact ⟨Below.refl _ _, rfl⟩
            · intro act wx h
              obtain ⟨v85, e85, f85⟩ := h.val 33 85 (by kernel_rfl)
              obtain rfl : v85 = .slice pa np pc := f85
              obtain ⟨v86, e86, f86⟩ := h.val 34 86 (by kernel_rfl)
              obtain rfl : v86 = .int .i64 (mm : Int) := f86
              have hg := h.guard 26 78 (by kernel_rfl) true (fun v hv => hv)
              have hbel := h.below
              clear h
              have hct := HCT.out wx
              refine gives_by (by simp only [Region.wanted, hg]; rfl) act.eval rfl ?_
              generalize act.eval = ρ at *
              intro hf hc
              go_simp
              exact ⟨Below.refl _ _, rfl⟩
            · intro act wx h
              obtain ⟨v87, e87, f87⟩ := h.val 35 87 (by kernel_rfl)
              obtain rfl : v87 = .slice pa mm pc := f87
              have hg := h.guard 26 78 (by kernel_rfl) true (fun v hv => hv)
              have hbel := h.below
              clear h
              refine gives_by (by simp only [Region.wanted, hg]; rfl) act.eval rfl ?_
              generalize act.eval = ρ at *
              intro hf hc
              go_simp
              refine (HLX.out wx hbel).mono ?_
              rintro e w' ⟨u, he, h1, h2⟩
              exact ⟨u, he, h2, h1⟩
            · intro act wx h
              obtain ⟨v84, e84, f84⟩ := h.val 32 84 (by kernel_rfl)
              have nn84 := trivial
              obtain ⟨v88, e88, f88⟩ := h.val 36 88 (by kernel_rfl)
              have nn88 := trivial
              have hg := h.guard 26 78 (by kernel_rfl) true (fun v hv => hv)
              have hbel := h.below
              clear h
              refine gives_by (by simp only [Region.wanted, hg]; rfl) act.eval rfl ?_
              generalize act.eval = ρ at *
              intro hf hc
              go_simp
              exact call_gives (HSM.out wx _ _ _ f84 f88) (fun _ => rfl)
            · intro act wx h
              obtain ⟨v78, e78, f78⟩ := h.val 26 78 (by kernel_rfl)
              obtain rfl : v78 = .bool true := f78
              obtain ⟨v89, e89, f89⟩ := h.val 37 89 (by kernel_rfl)
              obtain rfl : v89 = .bool true := f89
              have hbel := h.below
              clear h
              refine gives_by rfl act.eval rfl ?_
              generalize act.eval = ρ at *
              intro hf hc
              go_simp
              exact ⟨Below.refl _ _, rfl⟩
            · intro act wx h
              obtain ⟨v90, e90, f90⟩ := h.val 38 90 (by kernel_rfl)
              obtain rfl : v90 = .bool true := f90
              have hbel := h.below
              clear h
              refine gives_by rfl act.eval rfl ?_
              generalize act.eval = ρ at *
              intro hf hc
              go_simp
              exact ⟨Below.refl _ _, rfl⟩
          · intro vals w8 hb8 hv
            have hv6 : vals 39 = .bool true := hv 39 6 (by kernel_rfl)
            clear hv
            generalize hact : putAll _ vals 0 _ = act
            have HB8 := hide hb8
            clear hb8
            subst hact
            simp only [putAll, Act.put, List.setIfInBounds_toArray, List.set_cons_zero, List.set_cons_succ, hv6, Nat.zero_add, Nat.reduceAdd]
            clear hv6
            go_wp2
            go_ret
            exact ⟨rfl, HB6.out.trans (HB8.out.mono HB6.out.size)⟩
        | false =>
          have hAN := HAO.out rfl
          have hmin := fun wx => run_min2 (P := Try.prog) #[3, 3] 3 0 mo wx
          rw [Nat.zero_min] at hmin
          obtain ⟨mm, hmm⟩ : ∃ m : Nat, m = 0 := ⟨_, rfl⟩
          rw [← hmm] at hmin
          have HPS : Hid (Prs w (.slice none 0 0) [] AN.ps) := by show Prs _ _ _ _; rw [hAN]; exact Prs.nil w
          have hNPA : AN.ps.length = 0 := by rw [hAN]; rfl
          have HTK : Hid (AN.ps.take mo = AN.ps.take mm) := by show _ = _; rw [hAN]; simp
          have hmle : mm ≤ 0 := by omega
          have HCT := hide (fun wx => cut_head (P := Try.prog) 22 36 2 Try.underlying22 sizePair none 0 0 mm (by omega) (by simp [maxLen]) wx)
          clear HAY HAO HML HLL hAN hmm HP HPN
          go_enter Try.func5, Try.ntmps5
          go_wp2_with (first
            | (go_at_call 8; refine (HLV.out w1).mono ?_; rintro e w2 ⟨rfl, hb2⟩; have HB2 := hide (HB1.out.trans (hb2.mono HB1.out.size)); have HBX2 := hide (HBB.out.below hb2 HBB.out.lt); obtain ⟨y0, y1, y2, y3⟩ := box_ndc HBX2.out; clear hb2)
            | (go_at_call 9; refine (HFW1.out w2 HB2.out).mono ?_; rintro e w3 ⟨rfl, hb3⟩; have HB3 := hide (HB2.out.trans (hb3.mono HB2.out.size)); have HBX3 := hide (HBX2.out.below hb3 HBX2.out.lt); obtain ⟨x0, x1, x2, x3⟩ := box_ndc HBX3.out; have HLV3 := hide (HLV.out w3); clear HFW1 hb3)
            | (go_at_call 23; refine (HFD.out w3 HB3.out).mono ?_; rintro e w4 ⟨rfl, hb4⟩; have HB4 := hide (HB3.out.trans (hb4.mono HB3.out.size)); have HBX4 := hide (HBX3.out.below hb4 HBX3.out.lt); clear x0 x1 x2 x3; obtain ⟨x0, x1, x2, x3⟩ := box_ndc HBX4.out; clear HFD hb4)
            | (go_at_call 24; refine (HRF.out w4 HB4.out).mono ?_; rintro e w5 ⟨rfl, hb5⟩; have HB5 := hide (HB4.out.trans (hb5.mono HB4.out.size)); have HBX5 := hide (HBX4.out.below hb5 HBX4.out.lt); clear x0 x1 x2 x3; obtain ⟨x0, x1, x2, x3⟩ := box_ndc HBX5.out; clear HRF hb5)
            | (go_at_call 25; refine (HMY.out w5 HB5.out).mono ?_; rintro e w6 ⟨rfl, hb6⟩; have HB6 := hide (HB5.out.trans (hb6.mono HB5.out.size)); have HX6 := hide (HBX5.out.below hb6 HBX5.out.lt); clear x0 x1 x2 x3; obtain ⟨x0, x1, x2, x3⟩ := box_ndc HX6.out; clear HMY hb6))
          rw [show (min 0 (mo : Int)) = (mm : Int) by omega]
          obtain ⟨hkd, hrk, hal⟩ := HEND.out w6 HB6.out
          have HKD := hide hkd
          have HRK := hide hrk
          have HAL := hide hal
          clear hkd hrk hal HEND
          have HLW : Hid (∀ wx, Below w6.heap.size w6 wx → Calls Try.prog 28 #[.slice none 0 0] wx fun e w' => ∃ t, e = .returned t ∧ NdV w' t ⟨true, AN.ps, [], []⟩ ∧ Below wx.heap.size wx w') := fun wx hb => HLF.out wx _ _ _ (HPS.out.below (HB6.out.trans (hb.mono HB6.out.size)))
          have HLX : Hid (∀ wx, Below w6.heap.size w6 wx → Calls Try.prog 28 #[.slice none mm 0] wx fun e w' => ∃ t, e = .returned t ∧ NdV w' t ⟨true, AN.ps.take mo, [], []⟩ ∧ Below wx.heap.size wx w') := fun wx hb => by
            have hp := HPS.out.below (HB6.out.trans (hb.mono HB6.out.size))
            rw [← hNPA] at hp
            have := hp.take mm 0 (by omega) (by omega) (by simp [maxLen])
            rw [HTK.out]
            exact HLF.out wx _ _ _ this
          refine wp_region_facts (FL [isV (.int .i64 (FI : Int)), isV (.int .i64 (FI : Int)), isV (.bool true), isV (.bool true), isV (.bool FB), isV (.bool FB), isV (.bool true), isV (.bool true), isV (.bool true), isV (.agg #[.bool true, .slice pa np pc, .slice ka nk kc, .slice ca nc cc]), isV (.slice ak LK ck), isV (.int .i64 (KN : Int)), isV (.agg #[.bool true, .slice pa np pc, .slice ka nk kc, .slice ca nc cc]), isV (.slice ak LK ck), isV (.int .i64 (KN : Int)), isV (.bool true), isV (.bool true), isV (.bool true), isV (.agg #[.bool true, .slice pa np pc, .slice ka nk kc, .slice ca nc cc]), isAllF AN, isPrF (AN.ps), isNodeF (⟨true, AN.ps, [], []⟩), isV (.slice none 0 0), isNodeF (⟨true, AN.ps, [], []⟩), isV (.bool true), isV (.bool true), isV (.bool true), isV (.agg #[.bool true, .slice pa np pc, .slice ka nk kc, .slice ca nc cc]), isAllF AN, isV (.int .u8 (mo : Int)), isV (.int .i64 (mo : Int)), isPrF (AN.ps.take mo), isNodeF (⟨true, AN.ps.take mo, [], []⟩), isV (.slice none 0 0), isV (.int .i64 (mm : Int)), isV (.slice none mm 0), isNodeF (⟨true, AN.ps.take mo, [], []⟩), isV (.bool true), isV (.bool true), isV (.bool true)]) 91 (by kernel_rfl) (by kernel_rfl) (by kernel_rfl) rfl (FL_stable _ (by repeat (first | exact trivial | refine ⟨stable_isV _, ?_⟩ | refine ⟨stable_isNodeF _, ?_⟩ | refine ⟨stable_isAllF _, ?_⟩ | refine ⟨stable_isPrF _, ?_⟩))) ?_ ?_
          · refine ⟨?_, ?_, ?_, ?_, ?_, ?_, ?_, ?_, ?_, ?_, ?_, ?_, ?_, ?_, ?_, ?_, ?_, ?_, ?_, ?_, ?_, ?_, ?_, ?_, ?_, ?_, ?_, ?_, ?_, ?_, ?_, ?_, ?_, ?_, ?_, ?_, ?_, ?_, ?_, ?_, trivial⟩
            · intro act wx h
              have e7 : act.eval (.tmp 7) = .int .i64 (FI : Int) := h.old 7 (by kernel_rfl)
              have hbel := h.below
              clear h
              refine gives_by rfl act.eval rfl ?_
              generalize act.eval = ρ at *
              intro hf hc
              go_simp
              exact ⟨Below.refl _ _, rfl⟩
            · intro act wx h
              have e9 : act.eval (.tmp 9) = .int .i64 (FI : Int) := h.old 9 (by kernel_rfl)
              have hbel := h.below
              clear h
              refine gives_by rfl act.eval rfl ?_
              generalize act.eval = ρ at *
              intro hf hc
              go_simp
              exact ⟨Below.refl _ _, rfl⟩
            · intro act wx h
              obtain ⟨v52, e52, f52⟩ := h.val 0 52 (by kernel_rfl)
              obtain rfl : v52 = .int .i64 (FI : Int) := f52
              obtain ⟨v53, e53, f53⟩ := h.val 1 53 (by kernel_rfl)
              obtain rfl : v53 = .int .i64 (FI : Int) := f53
              have hbel := h.below
              clear h
              refine gives_by rfl act.eval rfl ?_
              generalize act.eval = ρ at *
              intro hf hc
              go_simp
              exact ⟨Below.refl _ _, by simp [FL, isV]⟩
            · intro act wx h
              obtain ⟨v54, e54, f54⟩ := h.val 2 54 (by kernel_rfl)
              obtain rfl : v54 = .bool true := f54
              have hbel := h.below
              clear h
              refine gives_by rfl act.eval rfl ?_
              generalize act.eval = ρ at *
              intro hf hc
              go_simp
              exact ⟨Below.refl _ _, rfl⟩
            · intro act wx h
              have e8 : act.eval (.tmp 8) = .bool FB := h.old 8 (by kernel_rfl)
              have hg := h.guard 3 55 (by kernel_rfl) true (fun v hv => hv)
              have hbel := h.below
              clear h
              refine gives_by (by simp only [Region.wanted, hg]; rfl) act.eval rfl ?_
              generalize act.eval = ρ at *
              intro hf hc
              go_simp
              exact ⟨Below.refl _ _, rfl⟩
            · intro act wx h
              have e10 : act.eval (.tmp 10) = .bool FB := h.old 10 (by kernel_rfl)
              have hg := h.guard 3 55 (by kernel_rfl) true (fun v hv => hv)
              have hbel := h.below
              clear h
              refine gives_by (by simp only [Region.wanted, hg]; rfl) act.eval rfl ?_
              generalize act.eval = ρ at *
              intro hf hc
              go_simp
              exact ⟨Below.refl _ _, rfl⟩
            · intro act wx h
              obtain ⟨v56, e56, f56⟩ := h.val 4 56 (by kernel_rfl)
              obtain rfl : v56 = .bool FB := f56
              obtain ⟨v57, e57, f57⟩ := h.val 5 57 (by kernel_rfl)
              obtain rfl : v57 = .bool FB := f57
              have hg := h.guard 3 55 (by kernel_rfl) true (fun v hv => hv)
              have hbel := h.below
              clear h
              refine gives_by (by simp only [Region.wanted, hg]; rfl) act.eval rfl ?_
              generalize act.eval = ρ at *
              intro hf hc
              go_simp
              exact ⟨Below.refl _ _, by simp [FL, isV]⟩
            · intro act wx h
              obtain ⟨v55, e55, f55⟩ := h.val 3 55 (by kernel_rfl)
              obtain rfl : v55 = .bool true := f55
              obtain ⟨v58, e58, f58⟩ := h.val 6 58 (by kernel_rfl)
              obtain rfl : v58 = .bool true := f58
              have hbel := h.below
              clear h
              refine gives_by rfl act.eval rfl ?_
              generalize act.eval = ρ at *
              intro hf hc
              go_simp
              exact ⟨Below.refl _ _, rfl⟩
            · intro act wx h
              obtain ⟨v59, e59, f59⟩ := h.val 7 59 (by kernel_rfl)
              obtain rfl : v59 = .bool true := f59
              have hbel := h.below
              clear h
              refine gives_by rfl act.eval rfl ?_
              generalize act.eval = ρ at *
              intro hf hc
              go_simp
              exact ⟨Below.refl _ _, rfl⟩
            · intro act wx h
              have e3 : act.eval (.tmp 3) = .pointer (some ⟨w.heap.size, 0, none⟩) := h.old 3 (by kernel_rfl)
              have hg := h.guard 8 60 (by kernel_rfl) true (fun v hv => hv)
              have hbel := h.below
              clear h
              obtain ⟨x0, x1, x2, x3⟩ := box_ndc (HX6.out.below hbel HX6.out.lt)
              refine gives_by (by simp only [Region.wanted, hg]; rfl) act.eval rfl ?_
              generalize act.eval = ρ at *
              intro hf hc
              go_simp
              exact ⟨Below.refl _ _, rfl⟩
            · intro act wx h
              have e1 : act.eval (.tmp 1) = .slice ak LK ck := h.old 1 (by kernel_rfl)
              have hg := h.guard 8 60 (by kernel_rfl) true (fun v hv => hv)
              have hbel := h.below
              clear h
              refine gives_by (by simp only [Region.wanted, hg]; rfl) act.eval rfl ?_
              generalize act.eval = ρ at *
              intro hf hc
              go_simp
              exact ⟨Below.refl _ _, rfl⟩
            · intro act wx h
              obtain ⟨v61, e61, f61⟩ := h.val 9 61 (by kernel_rfl)
              obtain rfl : v61 = .agg #[.bool true, .slice pa np pc, .slice ka nk kc, .slice ca nc cc] := f61
              obtain ⟨v62, e62, f62⟩ := h.val 10 62 (by kernel_rfl)
              obtain rfl : v62 = .slice ak LK ck := f62
              have hg := h.guard 8 60 (by kernel_rfl) true (fun v hv => hv)
              have hbel := h.below
              clear h
              refine gives_by (by simp only [Region.wanted, hg]; rfl) act.eval rfl ?_
              generalize act.eval = ρ at *
              intro hf hc
              go_simp
              exact call_gives (HKD.out wx hbel) (fun _ => rfl)
            · intro act wx h
              have e3 : act.eval (.tmp 3) = .pointer (some ⟨w.heap.size, 0, none⟩) := h.old 3 (by kernel_rfl)
              have hg := h.guard 8 60 (by kernel_rfl) true (fun v hv => hv)
              have hbel := h.below
              clear h
              obtain ⟨x0, x1, x2, x3⟩ := box_ndc (HX6.out.below hbel HX6.out.lt)
              refine gives_by (by simp only [Region.wanted, hg]; rfl) act.eval rfl ?_
              generalize act.eval = ρ at *
              intro hf hc
              go_simp
              exact ⟨Below.refl _ _, rfl⟩
            · intro act wx h
              have e1 : act.eval (.tmp 1) = .slice ak LK ck := h.old 1 (by kernel_rfl)
              have hg := h.guard 8 60 (by kernel_rfl) true (fun v hv => hv)
              have hbel := h.below
              clear h
              refine gives_by (by simp only [Region.wanted, hg]; rfl) act.eval rfl ?_
              generalize act.eval = ρ at *
              intro hf hc
              go_simp
              exact ⟨Below.refl _ _, rfl⟩
            · intro act wx h
              obtain ⟨v64, e64, f64⟩ := h.val 12 64 (by kernel_rfl)
              obtain rfl : v64 = .agg #[.bool true, .slice pa np pc, .slice ka nk kc, .slice ca nc cc] := f64
              obtain ⟨v65, e65, f65⟩ := h.val 13 65 (by kernel_rfl)
              obtain rfl : v65 = .slice ak LK ck := f65
              have hg := h.guard 8 60 (by kernel_rfl) true (fun v hv => hv)
              have hbel := h.below
              clear h
              refine gives_by (by simp only [Region.wanted, hg]; rfl) act.eval rfl ?_
              generalize act.eval = ρ at *
              intro hf hc
              go_simp
              exact call_gives (HRK.out wx hbel) (fun _ => rfl)
            · intro act wx h
              obtain ⟨v63, e63, f63⟩ := h.val 11 63 (by kernel_rfl)
              obtain rfl : v63 = .int .i64 (KN : Int) := f63
              obtain ⟨v66, e66, f66⟩ := h.val 14 66 (by kernel_rfl)
              obtain rfl : v66 = .int .i64 (KN : Int) := f66
              have hg := h.guard 8 60 (by kernel_rfl) true (fun v hv => hv)
              have hbel := h.below
              clear h
              refine gives_by (by simp only [Region.wanted, hg]; rfl) act.eval rfl ?_
              generalize act.eval = ρ at *
              intro hf hc
              go_simp
              exact ⟨Below.refl _ _, by simp [FL, isV]⟩
            · intro act wx h
              obtain ⟨v60, e60, f60⟩ := h.val 8 60 (by kernel_rfl)
              obtain rfl : v60 = .bool true := f60
              obtain ⟨v67, e67, f67⟩ := h.val 15 67 (by kernel_rfl)
              obtain rfl : v67 = .bool true := f67
              have hbel := h.below
              clear h
              refine gives_by rfl act.eval rfl ?_
              generalize act.eval = ρ at *
              intro hf hc
              go_simp
              exact ⟨Below.refl _ _, rfl⟩
            · intro act wx h
              obtain ⟨v68, e68, f68⟩ := h.val 16 68 (by kernel_rfl)
              obtain rfl : v68 = .bool true := f68
              have hbel := h.below
              clear h
              refine gives_by rfl act.eval rfl ?_
              generalize act.eval = ρ at *
              intro hf hc
              go_simp
              exact ⟨Below.refl _ _, rfl⟩
            · intro act wx h
              have e3 : act.eval (.tmp 3) = .pointer (some ⟨w.heap.size, 0, none⟩) := h.old 3 (by kernel_rfl)
              have hg := h.guard 17 69 (by kernel_rfl) true (fun v hv => hv)
              have hbel := h.below
              clear h
              obtain ⟨x0, x1, x2, x3⟩ := box_ndc (HX6.out.below hbel HX6.out.lt)
              refine gives_by (by simp only [Region.wanted, hg]; rfl) act.eval rfl ?_
              generalize act.eval = ρ at *
              intro hf hc
              go_simp
              exact ⟨Below.refl _ _, rfl⟩
            · intro act wx h
              obtain ⟨v70, e70, f70⟩ := h.val 18 70 (by kernel_rfl)
              obtain rfl : v70 = .agg #[.bool true, .slice pa np pc, .slice ka nk kc, .slice ca nc cc] := f70
              have hg := h.guard 17 69 (by kernel_rfl) true (fun v hv => hv)
              have hbel := h.below
              clear h
              refine gives_by (by simp only [Region.wanted, hg]; rfl) act.eval rfl ?_
              generalize act.eval = ρ at *
              intro hf hc
              go_simp
              refine (HAL.out wx hbel).mono ?_
              rintro e w' ⟨b, he, h1, h2⟩
              exact ⟨_, he, h2, b, rfl, h1⟩
            · intro act wx h
              obtain ⟨v71, e71, f71⟩ := h.val 19 71 (by kernel_rfl)
              obtain ⟨bv71, rfl, xv71⟩ := f71
              have hg := h.guard 17 69 (by kernel_rfl) true (fun v hv => hv)
              have hbel := h.below
              clear h
              refine gives_by (by simp only [Region.wanted, hg]; rfl) act.eval rfl ?_
              generalize act.eval = ρ at *
              intro hf hc
              go_simp
              refine (HTL.out wx bv71 xv71).mono ?_
              rintro e w' ⟨u, xs, he, h1, h2⟩
              exact ⟨u, he, h2, xs, h1⟩
            · intro act wx h
              obtain ⟨v72, e72, f72⟩ := h.val 20 72 (by kernel_rfl)
              obtain ⟨xv72, pv72⟩ := f72
              have hg := h.guard 17 69 (by kernel_rfl) true (fun v hv => hv)
              have hbel := h.below
              clear h
              refine gives_by (by simp only [Region.wanted, hg]; rfl) act.eval rfl ?_
              generalize act.eval = ρ at *
              intro hf hc
              go_simp
              refine (HLF.out wx _ _ _ pv72).mono ?_
              rintro e w' ⟨u, he, h1, h2⟩
              exact ⟨u, he, h2, h1⟩
            · intro act wx h
              have e11 : act.eval (.tmp 11) = .slice none 0 0 := h.old 11 (by kernel_rfl)
              have hg := h.guard 17 69 (by kernel_rfl) true (fun v hv => hv)
              have hbel := h.below
              clear h
              refine gives_by (by simp only [Region.wanted, hg]; rfl) act.eval rfl ?_
              generalize act.eval = ρ at *
              intro hf hc
              go_simp
              exact ⟨Below.refl _ _, rfl⟩
            · intro act wx h
              obtain ⟨v74, e74, f74⟩ := h.val 22 74 (by kernel_rfl)
              obtain rfl : v74 = .slice none 0 0 := f74
              have hg := h.guard 17 69 (by kernel_rfl) true (fun v hv => hv)
              have hbel := h.below
              clear h
              refine gives_by (by simp only [Region.wanted, hg]; rfl) act.eval rfl ?_
              generalize act.eval = ρ at *
              intro hf hc
              go_simp
              refine (HLW.out wx hbel).mono ?_
              rintro e w' ⟨u, he, h1, h2⟩
              exact ⟨u, he, h2, h1⟩
            · intro act wx h
              obtain ⟨v73, e73, f73⟩ := h.val 21 73 (by kernel_rfl)
              have nn73 := trivial
              obtain ⟨v75, e75, f75⟩ := h.val 23 75 (by kernel_rfl)
              have nn75 := trivial
              have hg := h.guard 17 69 (by kernel_rfl) true (fun v hv => hv)
              have hbel := h.below
              clear h
              refine gives_by (by simp only [Region.wanted, hg]; rfl) act.eval rfl ?_
              generalize act.eval = ρ at *
              intro hf hc
              go_simp
              exact call_gives (HSM.out wx _ _ _ f73 f75) (fun _ => rfl)
            · intro act wx h
              obtain ⟨v69, e69, f69⟩ := h.val 17 69 (by kernel_rfl)
              obtain rfl : v69 = .bool true := f69
              obtain ⟨v76, e76, f76⟩ := h.val 24 76 (by kernel_rfl)
              obtain rfl : v76 = .bool true := f76
              have hbel := h.below
              clear h
              refine gives_by rfl act.eval rfl ?_
              generalize act.eval = ρ at *
              intro hf hc
              go_simp
              exact ⟨Below.refl _ _, rfl⟩
            · intro act wx h
              obtain ⟨v77, e77, f77⟩ := h.val 25 77 (by kernel_rfl)
              obtain rfl : v77 = .bool true := f77
              have hbel := h.below
              clear h
              refine gives_by rfl act.eval rfl ?_
              generalize act.eval = ρ at *
              intro hf hc
              go_simp
              exact ⟨Below.refl _ _, rfl⟩
            · intro act wx h
              have e3 : act.eval (.tmp 3) = .pointer (some ⟨w.heap.size, 0, none⟩) := h.old 3 (by kernel_rfl)
              have hg := h.guard 26 78 (by kernel_rfl) true (fun v hv => hv)
              have hbel := h.below
              clear h
              obtain ⟨x0, x1, x2, x3⟩ := box_ndc (HX6.out.below hbel HX6.out.lt)
              refine gives_by (by simp only [Region.wanted, hg]; rfl) act.eval rfl ?_
              generalize act.eval = ρ at *
              intro hf hc
              go_simp
              exact ⟨Below.refl _ _, rfl⟩
            · intro act wx h
              obtain ⟨v79, e79, f79⟩ := h.val 27 79 (by kernel_rfl)
              obtain rfl : v79 = .agg #[.bool true, .slice pa np pc, .slice ka nk kc, .slice ca nc cc] := f79
              have hg := h.guard 26 78 (by kernel_rfl) true (fun v hv => hv)
              have hbel := h.below
              clear h
              refine gives_by (by simp only [Region.wanted, hg]; rfl) act.eval rfl ?_
              generalize act.eval = ρ at *
              intro hf hc
              go_simp
              refine (HAL.out wx hbel).mono ?_
              rintro e w' ⟨b, he, h1, h2⟩
              exact ⟨_, he, h2, b, rfl, h1⟩
            · intro act wx h
              have e2 : act.eval (.tmp 2) = .int .u8 (mo : Int) := h.old 2 (by kernel_rfl)
              have hg := h.guard 26 78 (by kernel_rfl) true (fun v hv => hv)
              have hbel := h.below
              clear h
              refine gives_by (by simp only [Region.wanted, hg]; rfl) act.eval rfl ?_
              generalize act.eval = ρ at *
              intro hf hc
              go_simp
              exact ⟨Below.refl _ _, rfl⟩
            · intro act wx h
              obtain ⟨v81, e81, f81⟩ := h.val 29 81 (by kernel_rfl)
              obtain rfl : v81 = .int .u8 (mo : Int) := f81
              have hg := h.guard 26 78 (by kernel_rfl) true (fun v hv => hv)
              have hbel := h.below
              clear h
              have hcv := HCV.out wx
              refine gives_by (by simp only [Region.wanted, hg]; rfl) act.eval rfl ?_
              generalize act.eval = ρ at *
              intro hf hc
              go_simp
              exact ⟨Below.refl _ _, rfl⟩
            · intro act wx h
              obtain ⟨v80, e80, f80⟩ := h.val 28 80 (by kernel_rfl)
              obtain ⟨bv80, rfl, xv80⟩ := f80
              obtain ⟨v82, e82, f82⟩ := h.val 30 82 (by kernel_rfl)
              obtain rfl : v82 = .int .i64 (mo : Int) := f82
              have hg := h.guard 26 78 (by kernel_rfl) true (fun v hv => hv)
              have hbel := h.below
              clear h
              refine gives_by (by simp only [Region.wanted, hg]; rfl) act.eval rfl ?_
              generalize act.eval = ρ at *
              intro hf hc
              go_simp
              refine (HTM.out wx bv80 xv80).mono ?_
              rintro e w' ⟨u, xs, he, h1, h2⟩
              exact ⟨u, he, h2, xs, h1⟩
            · intro act wx h
              obtain ⟨v83, e83, f83⟩ := h.val 31 83 (by kernel_rfl)
              obtain ⟨xv83, pv83⟩ := f83
              have hg := h.guard 26 78 (by kernel_rfl) true (fun v hv => hv)
              have hbel := h.below
              clear h
              refine gives_by (by simp only [Region.wanted, hg]; rfl) act.eval rfl ?_
              generalize act.eval = ρ at *
              intro hf hc
              go_simp
              refine (HLF.out wx _ _ _ pv83).mono ?_
              rintro e w' ⟨u, he, h1, h2⟩
              exact ⟨u, he, h2, h1⟩
            · intro act wx h
              have e11 : act.eval (.tmp 11) = .slice none 0 0 := h.old 11 (by kernel_rfl)
              have hg := h.guard 26 78 (by kernel_rfl) true (fun v hv => hv)
              have hbel := h.below
              clear h
              refine gives_by (by simp only [Region.wanted, hg]; rfl) act.eval rfl ?_
              generalize act.eval = ρ at *
              intro hf hc
              go_simp
              exact ⟨Below.refl _ _, rfl⟩
            · intro act wx h
              have e12 : act.eval (.tmp 12) = .int .i64 (mm : Int) := h.old 12 (by kernel_rfl)
              have hg := h.guard 26 78 (by kernel_rfl) true (fun v hv => hv)
              have hbel := h.below
              clear h
              refine gives_by (by simp only [Region.wanted, hg]; rfl) act.eval rfl ?_
              generalize act.eval = ρ at *
              intro hf hc
              go_simp
              exact ⟨Below.refl _ _, rfl⟩
            · intro act wx h
              obtain ⟨v85, e85, f85⟩ := h.val 33 85 (by kernel_rfl)
              obtain rfl : v85 = .slice none 0 0 := f85
              obtain ⟨v86, e86, f86⟩ := h.val 34 86 (by kernel_rfl)
              obtain rfl : v86 = .int .i64 (mm : Int) := f86
              have hg := h.guard 26 78 (by kernel_rfl) true (fun v hv => hv)
              have hbel := h.below
              clear h
              have hct := HCT.out wx
              refine gives_by (by simp only [Region.wanted, hg]; rfl) act.eval rfl ?_
              generalize act.eval = ρ at *
              intro hf hc
              go_simp
              exact ⟨Below.refl _ _, rfl⟩
            · intro act wx h
              obtain ⟨v87, e87, f87⟩ := h.val 35 87 (by kernel_rfl)
              obtain rfl : v87 = .slice none mm 0 := f87
              have hg := h.guard 26 78 (by kernel_rfl) true (fun v hv => hv)
              have hbel := h.below
              clear h
              refine gives_by (by simp only [Region.wanted, hg]; rfl) act.eval rfl ?_
              generalize act.eval = ρ at *
              intro hf hc
              go_simp
              refine (HLX.out wx hbel).mono ?_
              rintro e w' ⟨u, he, h1, h2⟩
              exact ⟨u, he, h2, h1⟩
            · intro act wx h
              obtain ⟨v84, e84, f84⟩ := h.val 32 84 (by kernel_rfl)
              have nn84 := trivial
              obtain ⟨v88, e88, f88⟩ := h.val 36 88 (by kernel_rfl)
              have nn88 := trivial
              have hg := h.guard 26 78 (by kernel_rfl) true (fun v hv => hv)
              have hbel := h.below
              clear h
              refine gives_by (by simp only [Region.wanted, hg]; rfl) act.eval rfl ?_
              generalize act.eval = ρ at *
              intro hf hc
              go_simp
              exact call_gives (HSM.out wx _ _ _ f84 f88) (fun _ => rfl)
            · intro act wx h
              obtain ⟨v78, e78, f78⟩ := h.val 26 78 (by kernel_rfl)
              obtain rfl : v78 = .bool true := f78
              obtain ⟨v89, e89, f89⟩ := h.val 37 89 (by kernel_rfl)
              obtain rfl : v89 = .bool true := f89
              have hbel := h.below
              clear h
              refine gives_by rfl act.eval rfl ?_
              generalize act.eval = ρ at *
              intro hf hc
              go_simp
              exact ⟨Below.refl _ _, rfl⟩
            · intro act wx h
              obtain ⟨v90, e90, f90⟩ := h.val 38 90 (by kernel_rfl)
              obtain rfl : v90 = .bool true := f90
              have hbel := h.below
              clear h
              refine gives_by rfl act.eval rfl ?_
              generalize act.eval = ρ at *
              intro hf hc
              go_simp
              exact ⟨Below.refl _ _, rfl⟩
          · intro vals w8 hb8 hv
            have hv6 : vals 39 = .bool true := hv 39 6 (by kernel_rfl)
            clear hv
            generalize hact : putAll _ vals 0 _ = act
            have HB8 := hide hb8
            clear hb8
            subst hact
            simp only [putAll, Act.put, List.setIfInBounds_toArray, List.set_cons_zero, List.set_cons_succ, hv6, Nat.zero_add, Nat.reduceAdd]
            clear hv6
            go_wp2
            go_ret
            exact ⟨rfl, HB6.out.trans (HB8.out.mono HB6.out.size)⟩
      | false =>
        have hLB : LB = false := by
          cases LB with
          | false => rfl
          | true => exact absurd (HLL.out rfl) (by simp)
        have hAN := HAO.out hLB
        have hmin := fun wx => run_min2 (P := Try.prog) #[3, 3] 3 0 mo wx
        rw [Nat.zero_min] at hmin
        obtain ⟨mm, hmm⟩ : ∃ m : Nat, m = 0 := ⟨_, rfl⟩
        rw [← hmm] at hmin
        have HPS : Hid (Prs w (.slice none 0 0) [] AN.ps) := by show Prs _ _ _ _; rw [hAN]; exact Prs.nil w
        have hNPA : AN.ps.length = 0 := by rw [hAN]; rfl
        have HTK : Hid (AN.ps.take mo = AN.ps.take mm) := by show _ = _; rw [hAN]; simp
        have hmle : mm ≤ 0 := by omega
        have HCT := hide (fun wx => cut_head (P := Try.prog) 22 36 2 Try.underlying22 sizePair none 0 0 mm (by omega) (by simp [maxLen]) wx)
        clear HAY HAO HML HLL hAN hmm HP HPN
        go_enter Try.func5, Try.ntmps5
        go_wp2_with (first
          | (go_at_call 8; refine (HLV.out w1).mono ?_; rintro e w2 ⟨rfl, hb2⟩; have HB2 := hide (HB1.out.trans (hb2.mono HB1.out.size)); have HBX2 := hide (HBB.out.below hb2 HBB.out.lt); obtain ⟨y0, y1, y2, y3⟩ := box_ndc HBX2.out; clear hb2)
          | (go_at_call 9; refine (HFW1.out w2 HB2.out).mono ?_; rintro e w3 ⟨rfl, hb3⟩; have HB3 := hide (HB2.out.trans (hb3.mono HB2.out.size)); have HBX3 := hide (HBX2.out.below hb3 HBX2.out.lt); obtain ⟨x0, x1, x2, x3⟩ := box_ndc HBX3.out; have HLV3 := hide (HLV.out w3); clear HFW1 hb3)
          | (go_at_call 23; refine (HFD.out w3 HB3.out).mono ?_; rintro e w4 ⟨rfl, hb4⟩; have HB4 := hide (HB3.out.trans (hb4.mono HB3.out.size)); have HBX4 := hide (HBX3.out.below hb4 HBX3.out.lt); clear x0 x1 x2 x3; obtain ⟨x0, x1, x2, x3⟩ := box_ndc HBX4.out; clear HFD hb4)
          | (go_at_call 24; refine (HRF.out w4 HB4.out).mono ?_; rintro e w5 ⟨rfl, hb5⟩; have HB5 := hide (HB4.out.trans (hb5.mono HB4.out.size)); have HBX5 := hide (HBX4.out.below hb5 HBX4.out.lt); clear x0 x1 x2 x3; obtain ⟨x0, x1, x2, x3⟩ := box_ndc HBX5.out; clear HRF hb5))
        rw [show (min 0 (mo : Int)) = (mm : Int) by omega]
        obtain ⟨w6, hw6⟩ : ∃ w6, w6 = w5 := ⟨_, rfl⟩
        rw [← hw6] at HB5 HBX5 ⊢
        have HB6 := HB5
        have HX6 := HBX5
        obtain ⟨hkd, hrk, hal⟩ := HEND.out w6 HB6.out
        have HKD := hide hkd
        have HRK := hide hrk
        have HAL := hide hal
        clear hkd hrk hal HEND
        have HLW : Hid (∀ wx, Below w6.heap.size w6 wx → Calls Try.prog 28 #[.slice none 0 0] wx fun e w' => ∃ t, e = .returned t ∧ NdV w' t ⟨true, AN.ps, [], []⟩ ∧ Below wx.heap.size wx w') := fun wx hb => HLF.out wx _ _ _ (HPS.out.below (HB6.out.trans (hb.mono HB6.out.size)))
        have HLX : Hid (∀ wx, Below w6.heap.size w6 wx → Calls Try.prog 28 #[.slice none mm 0] wx fun e w' => ∃ t, e = .returned t ∧ NdV w' t ⟨true, AN.ps.take mo, [], []⟩ ∧ Below wx.heap.size wx w') := fun wx hb => by
          have hp := HPS.out.below (HB6.out.trans (hb.mono HB6.out.size))
          rw [← hNPA] at hp
          have := hp.take mm 0 (by omega) (by omega) (by simp [maxLen])
          rw [HTK.out]
          exact HLF.out wx _ _ _ this
        refine wp_region_facts (FL [isV (.int .i64 (FI : Int)), isV (.int .i64 (FI : Int)), isV (.bool true), isV (.bool true), isV (.bool FB), isV (.bool FB), isV (.bool true), isV (.bool true), isV (.bool true), isV (.agg #[.bool false, .slice pa np pc, .slice ka nk kc, .slice ca nc cc]), isV (.slice ak LK ck), isV (.int .i64 (KN : Int)), isV (.agg #[.bool false, .slice pa np pc, .slice ka nk kc, .slice ca nc cc]), isV (.slice ak LK ck), isV (.int .i64 (KN : Int)), isV (.bool true), isV (.bool true), isV (.bool true), isV (.agg #[.bool false, .slice pa np pc, .slice ka nk kc, .slice ca nc cc]), isAllF AN, isPrF (AN.ps), isNodeF (⟨true, AN.ps, [], []⟩), isV (.slice none 0 0), isNodeF (⟨true, AN.ps, [], []⟩), isV (.bool true), isV (.bool true), isV (.bool true), isV (.agg #[.bool false, .slice pa np pc, .slice ka nk kc, .slice ca nc cc]), isAllF AN, isV (.int .u8 (mo : Int)), isV (.int .i64 (mo : Int)), isPrF (AN.ps.take mo), isNodeF (⟨true, AN.ps.take mo, [], []⟩), isV (.slice none 0 0), isV (.int .i64 (mm : Int)), isV (.slice none mm 0), isNodeF (⟨true, AN.ps.take mo, [], []⟩), isV (.bool true), isV (.bool true), isV (.bool true)]) 91 (by kernel_rfl) (by kernel_rfl) (by kernel_rfl) rfl (FL_stable _ (by repeat (first | exact trivial | refine ⟨stable_isV _, ?_⟩ | refine ⟨stable_isNodeF _, ?_⟩ | refine ⟨stable_isAllF _, ?_⟩ | refine ⟨stable_isPrF _, ?_⟩))) ?_ ?_
        · refine ⟨?_, ?_, ?_, ?_, ?_, ?_, ?_, ?_, ?_, ?_, ?_, ?_, ?_, ?_, ?_, ?_, ?_, ?_, ?_, ?_, ?_, ?_, ?_, ?_, ?_, ?_, ?_, ?_, ?_, ?_, ?_, ?_, ?_, ?_, ?_, ?_, ?_, ?_, ?_, ?_, trivial⟩
          · intro act wx h
            have e7 : act.eval (.tmp 7) = .int .i64 (FI : Int) := h.old 7 (by kernel_rfl)
            have hbel := h.below
            clear h
            refine gives_by rfl act.eval rfl ?_
            generalize act.eval = ρ at *
            intro hf hc
            go_simp
            exact ⟨Below.refl _ _, rfl⟩
          · intro act wx h
            have e9 : act.eval (.tmp 9) = .int .i64 (FI : Int) := h.old 9 (by kernel_rfl)
            have hbel := h.below
            clear h
            refine gives_by rfl act.eval rfl ?_
            generalize act.eval = ρ at *
            intro hf hc
            go_simp
            exact ⟨Below.refl _ _, rfl⟩
          · intro act wx h
            obtain ⟨v52, e52, f52⟩ := h.val 0 52 (by kernel_rfl)
            obtain rfl : v52 = .int .i64 (FI : Int) := f52
            obtain ⟨v53, e53, f53⟩ := h.val 1 53 (by kernel_rfl)
            obtain rfl : v53 = .int .i64 (FI : Int) := f53
            have hbel := h.below
            clear h
            refine gives_by rfl act.eval rfl ?_
            generalize act.eval = ρ at *
            intro hf hc
            go_simp
            exact ⟨Below.refl _ _, by simp [FL, isV]⟩
          · intro act wx h
            obtain ⟨v54, e54, f54⟩ := h.val 2 54 (by kernel_rfl)
            obtain rfl : v54 = .bool true := f54
            have hbel := h.below
            clear h
            refine gives_by rfl act.eval rfl ?_
            generalize act.eval = ρ at *
            intro hf hc
            go_simp
            exact ⟨Below.refl _ _, rfl⟩
          · intro act wx h
            have e8 : act.eval (.tmp 8) = .bool FB := h.old 8 (by kernel_rfl)
            have hg := h.guard 3 55 (by kernel_rfl) true (fun v hv => hv)
            have hbel := h.below
            clear h
            refine gives_by (by simp only [Region.wanted, hg]; rfl) act.eval rfl ?_
            generalize act.eval = ρ at *
            intro hf hc
            go_simp
            exact ⟨Below.refl _ _, rfl⟩
          · intro act wx h
            have e10 : act.eval (.tmp 10) = .bool FB := h.old 10 (by kernel_rfl)
            have hg := h.guard 3 55 (by kernel_rfl) true (fun v hv => hv)
            have hbel := h.below
            clear h
            refine gives_by (by simp only [Region.wanted, hg]; rfl) act.eval rfl ?_
            generalize act.eval = ρ at *
            intro hf hc
            go_simp
            exact ⟨Below.refl _ _, rfl⟩
          · intro act wx h
            obtain ⟨v56, e56, f56⟩ := h.val 4 56 (by kernel_rfl)
            obtain rfl : v56 = .bool FB := f56
            obtain ⟨v57, e57, f57⟩ := h.val 5 57 (by kernel_rfl)
            obtain rfl : v57 = .bool FB := f57
            have hg := h.guard 3 55 (by kernel_rfl) true (fun v hv => hv)
            have hbel := h.below
            clear h
            refine gives_by (by simp only [Region.wanted, hg]; rfl) act.eval rfl ?_
            generalize act.eval = ρ at *
            intro hf hc
            go_simp
            exact ⟨Below.refl _ _, by simp [FL, isV]⟩
          · intro act wx h
            obtain ⟨v55, e55, f55⟩ := h.val 3 55 (by kernel_rfl)
            obtain rfl : v55 = .bool true := f55
            obtain ⟨v58, e58, f58⟩ := h.val 6 58 (by kernel_rfl)
            obtain rfl : v58 = .bool true := f58
            have hbel := h.below
            clear h
            refine gives_by rfl act.eval rfl ?_
            generalize act.eval = ρ at *
            intro hf hc
            go_simp
            exact ⟨Below.refl _ _, rfl⟩
          · intro act wx h
            obtain ⟨v59, e59, f59⟩ := h.val 7 59 (by kernel_rfl)
            obtain rfl : v59 = .bool true := f59
            have hbel := h.below
            clear h
            refine gives_by rfl act.eval rfl ?_
            generalize act.eval = ρ at *
            intro hf hc
            go_simp
            exact ⟨Below.refl _ _, rfl⟩
          · intro act wx h
            have e3 : act.eval (.tmp 3) = .pointer (some ⟨w.heap.size, 0, none⟩) := h.old 3 (by kernel_rfl)
            have hg := h.guard 8 60 (by kernel_rfl) true (fun v hv => hv)
            have hbel := h.below
            clear h
            obtain ⟨x0, x1, x2, x3⟩ := box_ndc (HX6.out.below hbel HX6.out.lt)
            refine gives_by (by simp only [Region.wanted, hg]; rfl) act.eval rfl ?_
            generalize act.eval = ρ at *
            intro hf hc
            go_simp
            exact ⟨Below.refl _ _, rfl⟩
          · intro act wx h
            have e1 : act.eval (.tmp 1) = .slice ak LK ck := h.old 1 (by kernel_rfl)
            have hg := h.guard 8 60 (by kernel_rfl) true (fun v hv => hv)
            have hbel := h.below
            clear h
            refine gives_by (by simp only [Region.wanted, hg]; rfl) act.eval rfl ?_
            generalize act.eval = ρ at *
            intro hf hc
            go_simp
            exact ⟨Below.refl _ _, rfl⟩
          · intro act wx h
            obtain ⟨v61, e61, f61⟩ := h.val 9 61 (by kernel_rfl)
            obtain rfl : v61 = .agg #[.bool false, .slice pa np pc, .slice ka nk kc, .slice ca nc cc] := f61
            obtain ⟨v62, e62, f62⟩ := h.val 10 62 (by kernel_rfl)
            obtain rfl : v62 = .slice ak LK ck := f62
            have hg := h.guard 8 60 (by kernel_rfl) true (fun v hv => hv)
            have hbel := h.below
            clear h
            refine gives_by (by simp only [Region.wanted, hg]; rfl) act.eval rfl ?_
            generalize act.eval = ρ at *
            intro hf hc
            go_simp
            exact call_gives (HKD.out wx hbel) (fun _ => rfl)
          · intro act wx h
            have e3 : act.eval (.tmp 3) = .pointer (some ⟨w.heap.size, 0, none⟩) := h.old 3 (by kernel_rfl)
            have hg := h.guard 8 60 (by kernel_rfl) true (fun v hv => hv)
            have hbel := h.below
            clear h
            obtain ⟨x0, x1, x2, x3⟩ := box_ndc (HX6.out.below hbel HX6.out.lt)
            refine gives_by (by simp only [Region.wanted, hg]; rfl) act.eval rfl ?_
            generalize act.eval = ρ at *
            intro hf hc
            go_simp
            exact ⟨Below.refl _ _, rfl⟩
          · intro act wx h
            have e1 : act.eval (.tmp 1) = .slice ak LK ck := h.old 1 (by kernel_rfl)
            have hg := h.guard 8 60 (by kernel_rfl) true (fun v hv => hv)
            have hbel := h.below
            clear h
            refine gives_by (by simp only [Region.wanted, hg]; rfl) act.eval rfl ?_
            generalize act.eval = ρ at *
            intro hf hc
            go_simp
            exact ⟨Below.refl _ _, rfl⟩
          · intro act wx h
            obtain ⟨v64, e64, f64⟩ := h.val 12 64 (by kernel_rfl)
            obtain rfl : v64 = .agg #[.bool false, .slice pa np pc, .slice ka nk kc, .slice ca nc cc] := f64
            obtain ⟨v65, e65, f65⟩ := h.val 13 65 (by kernel_rfl)
            obtain rfl : v65 = .slice ak LK ck := f65
            have hg := h.guard 8 60 (by kernel_rfl) true (fun v hv => hv)
            have hbel := h.below
            clear h
            refine gives_by (by simp only [Region.wanted, hg]; rfl) act.eval rfl ?_
            generalize act.eval = ρ at *
            intro hf hc
            go_simp
            exact call_gives (HRK.out wx hbel) (fun _ => rfl)
          · intro act wx h
            obtain ⟨v63, e63, f63⟩ := h.val 11 63 (by kernel_rfl)
            obtain rfl : v63 = .int .i64 (KN : Int) := f63
            obtain ⟨v66, e66, f66⟩ := h.val 14 66 (by kernel_rfl)
            obtain rfl : v66 = .int .i64 (KN : Int) := f66
            have hg := h.guard 8 60 (by kernel_rfl) true (fun v hv => hv)
            have hbel := h.below
            clear h
            refine gives_by (by simp only [Region.wanted, hg]; rfl) act.eval rfl ?_
            generalize act.eval = ρ at *
            intro hf hc
            go_simp
            exact ⟨Below.refl _ _, by simp [FL, isV]⟩
          · intro act wx h
            obtain ⟨v60, e60, f60⟩ := h.val 8 60 (by kernel_rfl)
            obtain rfl : v60 = .bool true := f60
            obtain ⟨v67, e67, f67⟩ := h.val 15 67 (by kernel_rfl)
            obtain rfl : v67 = .bool true := f67
            have hbel := h.below
            clear h
            refine gives_by rfl act.eval rfl ?_
            generalize act.eval = ρ at *
            intro hf hc
            go_simp
            exact ⟨Below.refl _ _, rfl⟩
          · intro act wx h
            obtain ⟨v68, e68, f68⟩ := h.val 16 68 (by kernel_rfl)
            obtain rfl : v68 = .bool true := f68
            have hbel := h.below
            clear h
            refine gives_by rfl act.eval rfl ?_
            generalize act.eval = ρ at *
            intro hf hc
            go_simp
            exact ⟨Below.refl _ _, rfl⟩
          · intro act wx h
            have e3 : act.eval (.tmp 3) = .pointer (some ⟨w.heap.size, 0, none⟩) := h.old 3 (by kernel_rfl)
            have hg := h.guard 17 69 (by kernel_rfl) true (fun v hv => hv)
            have hbel := h.below
            clear h
            obtain ⟨x0, x1, x2, x3⟩ := box_ndc (HX6.out.below hbel HX6.out.lt)
            refine gives_by (by simp only [Region.wanted, hg]; rfl) act.eval rfl ?_
            generalize act.eval = ρ at *
            intro hf hc
            go_simp
            exact ⟨Below.refl _ _, rfl⟩
          · intro act wx h
            obtain ⟨v70, e70, f70⟩ := h.val 18 70 (by kernel_rfl)
            obtain rfl : v70 = .agg #[.bool false, .slice pa np pc, .slice ka nk kc, .slice ca nc cc] := f70
            have hg := h.guard 17 69 (by kernel_rfl) true (fun v hv => hv)
            have hbel := h.below
            clear h
            refine gives_by (by simp only [Region.wanted, hg]; rfl) act.eval rfl ?_
            generalize act.eval = ρ at *
            intro hf hc
            go_simp
            refine (HAL.out wx hbel).mono ?_
            rintro e w' ⟨b, he, h1, h2⟩
            exact ⟨_, he, h2, b, rfl, h1⟩
          · intro act wx h
            obtain ⟨v71, e71, f71⟩ := h.val 19 71 (by kernel_rfl)
            obtain ⟨bv71, rfl, xv71⟩ := f71
            have hg := h.guard 17 69 (by kernel_rfl) true (fun v hv => hv)
            have hbel := h.below
            clear h
            refine gives_by (by simp only [Region.wanted, hg]; rfl) act.eval rfl ?_
            generalize act.eval = ρ at *
            intro hf hc
            go_simp
            refine (HTL.out wx bv71 xv71).mono ?_
            rintro e w' ⟨u, xs, he, h1, h2⟩
            exact ⟨u, he, h2, xs, h1⟩
          · intro act wx h
            obtain ⟨v72, e72, f72⟩ := h.val 20 72 (by kernel_rfl)
            obtain ⟨xv72, pv72⟩ := f72
            have hg := h.guard 17 69 (by kernel_rfl) true (fun v hv => hv)
            have hbel := h.below
            clear h
            refine gives_by (by simp only [Region.wanted, hg]; rfl) act.eval rfl ?_
            generalize act.eval = ρ at *
            intro hf hc
            go_simp
            refine (HLF.out wx _ _ _ pv72).mono ?_
            rintro e w' ⟨u, he, h1, h2⟩
            exact ⟨u, he, h2, h1⟩
          · intro act wx h
            have e11 : act.eval (.tmp 11) = .slice none 0 0 := h.old 11 (by kernel_rfl)
            have hg := h.guard 17 69 (by kernel_rfl) true (fun v hv => hv)
            have hbel := h.below
            clear h
            refine gives_by (by simp only [Region.wanted, hg]; rfl) act.eval rfl ?_
            generalize act.eval = ρ at *
            intro hf hc
            go_simp
            exact ⟨Below.refl _ _, rfl⟩
          · intro act wx h
            obtain ⟨v74, e74, f74⟩ := h.val 22 74 (by kernel_rfl)
            obtain rfl : v74 = .slice none 0 0 := f74
            have hg := h.guard 17 69 (by kernel_rfl) true (fun v hv => hv)
            have hbel := h.below
            clear h
            refine gives_by (by simp only [Region.wanted, hg]; rfl) act.eval rfl ?_
            generalize act.eval = ρ at *
            intro hf hc
            go_simp
            refine (HLW.out wx hbel).mono ?_
            rintro e w' ⟨u, he, h1, h2⟩
            exact ⟨u, he, h2, h1⟩
          · intro act wx h
            obtain ⟨v73, e73, f73⟩ := h.val 21 73 (by kernel_rfl)
            have nn73 := trivial
            obtain ⟨v75, e75, f75⟩ := h.val 23 75 (by kernel_rfl)
            have nn75 := trivial
            have hg := h.guard 17 69 (by kernel_rfl) true (fun v hv => hv)
            have hbel := h.below
            clear h
            refine gives_by (by simp only [Region.wanted, hg]; rfl) act.eval rfl ?_
            generalize act.eval = ρ at *
            intro hf hc
            go_simp
            exact call_gives (HSM.out wx _ _ _ f73 f75) (fun _ => rfl)
          · intro act wx h
            obtain ⟨v69, e69, f69⟩ := h.val 17 69 (by kernel_rfl)
            obtain rfl : v69 = .bool true := f69
            obtain ⟨v76, e76, f76⟩ := h.val 24 76 (by kernel_rfl)
            obtain rfl : v76 = .bool true := f76
            have hbel := h.below
            clear h
            refine gives_by rfl act.eval rfl ?_
            generalize act.eval = ρ at *
            intro hf hc
            go_simp
            exact ⟨Below.refl _ _, rfl⟩
          · intro act wx h
            obtain ⟨v77, e77, f77⟩ := h.val 25 77 (by kernel_rfl)
            obtain rfl : v77 = .bool true := f77
            have hbel := h.below
            clear h
            refine gives_by rfl act.eval rfl ?_
            generalize act.eval = ρ at *
            intro hf hc
            go_simp
            exact ⟨Below.refl _ _, rfl⟩
          · intro act wx h
            have e3 : act.eval (.tmp 3) = .pointer (some ⟨w.heap.size, 0, none⟩) := h.old 3 (by kernel_rfl)
            have hg := h.guard 26 78 (by kernel_rfl) true (fun v hv => hv)
            have hbel := h.below
            clear h
            obtain ⟨x0, x1, x2, x3⟩ := box_ndc (HX6.out.below hbel HX6.out.lt)
            refine gives_by (by simp only [Region.wanted, hg]; rfl) act.eval rfl ?_
            generalize act.eval = ρ at *
            intro hf hc
            go_simp
            exact ⟨Below.refl _ _, rfl⟩
          · intro act wx h
            obtain ⟨v79, e79, f79⟩ := h.val 27 79 (by kernel_rfl)
            obtain rfl : v79 = .agg #[.bool false, .slice pa np pc, .slice ka nk kc, .slice ca nc cc] := f79
            have hg := h.guard 26 78 (by kernel_rfl) true (fun v hv => hv)
            have hbel := h.below
            clear h
            refine gives_by (by simp only [Region.wanted, hg]; rfl) act.eval rfl ?_
            generalize act.eval = ρ at *
            intro hf hc
            go_simp
            refine (HAL.out wx hbel).mono ?_
            rintro e w' ⟨b, he, h1, h2⟩
            exact ⟨_, he, h2, b, rfl, h1⟩
          · intro act wx h
            have e2 : act.eval (.tmp 2) = .int .u8 (mo : Int) := h.old 2 (by kernel_rfl)
            have hg := h.guard 26 78 (by kernel_rfl) true (fun v hv => hv)
            have hbel := h.below
            clear h
            refine gives_by (by simp only [Region.wanted, hg]; rfl) act.eval rfl ?_
            generalize act.eval = ρ at *
            intro hf hc
            go_simp
            exact ⟨Below.refl _ _, rfl⟩
          · intro act wx h
            obtain ⟨v81, e81, f81⟩ := h.val 29 81 (by kernel_rfl)
            obtain rfl : v81 = .int .u8 (mo : Int) := f81
            have hg := h.guard 26 78 (by kernel_rfl) true (fun v hv => hv)
            have hbel := h.below
            clear h
            have hcv := HCV.out wx
            refine gives_by (by simp only [Region.wanted, hg]; rfl) act.eval rfl ?_
            generalize act.eval = ρ at *
            intro hf hc
            go_simp
            exact ⟨Below.refl _ _, rfl⟩
          · intro act wx h
            obtain ⟨v80, e80, f80⟩ := h.val 28 80 (by kernel_rfl)
            obtain ⟨bv80, rfl, xv80⟩ := f80
            obtain ⟨v82, e82, f82⟩ := h.val 30 82 (by kernel_rfl)
            obtain rfl : v82 = .int .i64 (mo : Int) := f82
            have hg := h.guard 26 78 (by kernel_rfl) true (fun v hv => hv)
            have hbel := h.below
            clear h
            refine gives_by (by simp only [Region.wanted, hg]; rfl) act.eval rfl ?_
            generalize act.eval = ρ at *
            intro hf hc
            go_simp
            refine (HTM.out wx bv80 xv80).mono ?_
            rintro e w' ⟨u, xs, he, h1, h2⟩
            exact ⟨u, he, h2, xs, h1⟩
          · intro act wx h
            obtain ⟨v83, e83, f83⟩ := h.val 31 83 (by kernel_rfl)
            obtain ⟨xv83, pv83⟩ := f83
            have hg := h.guard 26 78 (by kernel_rfl) true (fun v hv => hv)
            have hbel := h.below
            clear h
            refine gives_by (by simp only [Region.wanted, hg]; rfl) act.eval rfl ?_
            generalize act.eval = ρ at *
            intro hf hc
            go_simp
            refine (HLF.out wx _ _ _ pv83).mono ?_
            rintro e w' ⟨u, he, h1, h2⟩
            exact ⟨u, he, h2, h1⟩
          · intro act wx h
            have e11 : act.eval (.tmp 11) = .slice none 0 0 := h.old 11 (by kernel_rfl)
            have hg := h.guard 26 78 (by kernel_rfl) true (fun v hv => hv)
            have hbel := h.below
            clear h
            refine gives_by (by simp only [Region.wanted, hg]; rfl) act.eval rfl ?_
            generalize act.eval = ρ at *
            intro hf hc
            go_simp
            exact ⟨Below.refl _ _, rfl⟩
          · intro act wx h
            have e12 : act.eval (.tmp 12) = .int .i64 (mm : Int) := h.old 12 (by kernel_rfl)
            have hg := h.guard 26 78 (by kernel_rfl) true (fun v hv => hv)
            have hbel := h.below
            clear h
            refine gives_by (by simp only [Region.wanted, hg]; rfl) act.eval rfl ?_
            generalize act.eval = ρ at *
            intro hf hc
            go_simp
            exact ⟨Below.refl _ _, rfl⟩
          · intro act wx h
            obtain ⟨v85, e85, f85⟩ := h.val 33 85 (by kernel_rfl)
            obtain rfl : v85 = .slice none 0 0 := f85
            obtain ⟨v86, e86, f86⟩ := h.val 34 86 (by kernel_rfl)
            obtain rfl : v86 = .int .i64 (mm : Int) := f86
            have hg := h.guard 26 78 (by kernel_rfl) true (fun v hv => hv)
            have hbel := h.below
            clear h
            have hct := HCT.out wx
            refine gives_by (by simp only [Region.wanted, hg]; rfl) act.eval rfl ?_
            generalize act.eval = ρ at *
            intro hf hc
            go_simp
            exact ⟨Below.refl _ _, rfl⟩
          · intro act wx h
            obtain ⟨v87, e87, f87⟩ := h.val 35 87 (by kernel_rfl)
            obtain rfl : v87 = .slice none mm 0 := f87
            have hg := h.guard 26 78 (by kernel_rfl) true (fun v hv => hv)
            have hbel := h.below
            clear h
            refine gives_by (by simp only [Region.wanted, hg]; rfl) act.eval rfl ?_
            generalize act.eval = ρ at *
            intro hf hc
            go_simp
            refine (HLX.out wx hbel).mono ?_
            rintro e w' ⟨u, he, h1, h2⟩
            exact ⟨u, he, h2, h1⟩
          · intro act wx h
            obtain ⟨v84, e84, f84⟩ := h.val 32 84 (by kernel_rfl)
            have nn84 := trivial
            obtain ⟨v88, e88, f88⟩ := h.val 36 88 (by kernel_rfl)
            have nn88 := trivial
            have hg := h.guard 26 78 (by kernel_rfl) true (fun v hv => hv)
            have hbel := h.below
            clear h
            refine gives_by (by simp only [Region.wanted, hg]; rfl) act.eval rfl ?_
            generalize act.eval = ρ at *
            intro hf hc
            go_simp
            exact call_gives (HSM.out wx _ _ _ f84 f88) (fun _ => rfl)
          · intro act wx h
            obtain ⟨v78, e78, f78⟩ := h.val 26 78 (by kernel_rfl)
            obtain rfl : v78 = .bool true := f78
            obtain ⟨v89, e89, f89⟩ := h.val 37 89 (by kernel_rfl)
            obtain rfl : v89 = .bool true := f89
            have hbel := h.below
            clear h
            refine gives_by rfl act.eval rfl ?_
            generalize act.eval = ρ at *
            intro hf hc
            go_simp
            exact ⟨Below.refl _ _, rfl⟩
          · intro act wx h
            obtain ⟨v90, e90, f90⟩ := h.val 38 90 (by kernel_rfl)
            obtain rfl : v90 = .bool true := f90
            have hbel := h.below
            clear h
            refine gives_by rfl act.eval rfl ?_
            generalize act.eval = ρ at *
            intro hf hc
            go_simp
            exact ⟨Below.refl _ _, rfl⟩
        · intro vals w8 hb8 hv
          have hv6 : vals 39 = .bool true := hv 39 6 (by kernel_rfl)
          clear hv
          generalize hact : putAll _ vals 0 _ = act
          have HB8 := hide hb8
          clear hb8
          subst hact
          simp only [putAll, Act.put, List.setIfInBounds_toArray, List.set_cons_zero, List.set_cons_succ, hv6, Nat.zero_add, Nat.reduceAdd]
          clear hv6
          go_wp2
          go_ret
          exact ⟨rfl, HB6.out.trans (HB8.out.mono HB6.out.size)⟩
    · have iL : (300 : Int) < (LK : Int) := by omega
      go_enter Try.func5, Try.ntmps5
      go_wp2_with (first
        | (go_at_call 9; refine (HFW1.out w2 HB2.out).mono ?_; rintro e w3 ⟨rfl, hb3⟩; have HB3 := hide (HB2.out.trans (hb3.mono HB2.out.size)); have HBX3 := hide (HBX2.out.below hb3 HBX2.out.lt); obtain ⟨x0, x1, x2, x3⟩ := box_ndc HBX3.out; have HLV3 := hide (HLV.out w3); clear HFW1 hb3)
        | (go_at_call 8; refine HLV3.out.mono ?_; rintro e w4 ⟨rfl, hb4⟩; have HB4 := hide (HB3.out.trans (hb4.mono HB3.out.size)); clear HLV3 hb4)
        | (go_at_call 8; refine (HLV.out w1).mono ?_; rintro e w2 ⟨rfl, hb2⟩; have HB2 := hide (HB1.out.trans (hb2.mono HB1.out.size)); have HBX2 := hide (HBB.out.below hb2 HBB.out.lt); obtain ⟨y0, y1, y2, y3⟩ := box_ndc HBX2.out; clear hb2))
      go_ret
      exact ⟨rfl, HB4.out⟩

end Go.Proofs.Ytoamdbjailpgdaa
