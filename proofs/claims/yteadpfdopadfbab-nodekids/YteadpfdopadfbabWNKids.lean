/- NodeKids, walked. -/
import Derived.Test.YteadpfdopadfbabNLive
import Derived.Test.YteadpfdopadfbabNFew
namespace Go.Proofs.Yteadpfdopadfbab
set_option maxRecDepth 20000
open Go.RowKit
set_option linter.unusedVariables false
set_option linter.unusedSimpArgs false
set_option maxRecDepth 100000

theorem kid_spec {n : Nd} (key : List Int) (h : innerB n = true) : kidN n key ≤ n.ks.length ∧ (∀ j, kidN n key = j + 1 → cmp (n.ks.getD j []) key ≤ 0) ∧ (kidN n key < n.ks.length → 0 < cmp (n.ks.getD (kidN n key) []) key) := by
  have hr := (innerB_ps h).2.2.2.2.1
  obtain ⟨h1, h2⟩ := cntK_spec [] n.ks key hr
  have hle := cntK_le n.ks key
  unfold kidN
  rw [if_pos h]
  cases hi : isK n.ks key with
  | true =>
    unfold isK at hi
    rw [Bool.and_eq_true, decide_eq_true_iff, decide_eq_true_iff] at hi
    simp only [if_true]
    refine ⟨by omega, fun j hj => ?_, fun hlt => ?_⟩
    · obtain rfl : j = cntK n.ks key := by omega
      rw [hi.2, cmp_self]; omega
    · have := rise_lt [] n.ks hr (cntK n.ks key) (cntK n.ks key + 1) (by omega) hlt
      rw [hi.2, cmp_swap] at this
      omega
  | false =>
    simp only [Bool.false_eq_true, if_false, Nat.add_zero]
    refine ⟨hle, fun j hj => ?_, fun hlt => ?_⟩
    · have := h1 j (by omega); omega
    · have h3 := h2 _ (Nat.le_refl _) hlt
      unfold isK at hi
      rw [decide_eq_true hlt, Bool.true_and, decide_eq_false_iff_not] at hi
      have : cmp (n.ks.getD (cntK n.ks key) []) key ≠ 0 := fun e => hi (cmp_eq_zero _ _ e)
      omega
theorem size_zero {n : Nd} : sizeN n = 0 ↔ mayN n = false := by
  unfold sizeN
  cases h : mayN n with
  | false => simp
  | true => simp; split <;> omega
theorem kid_none {n : Nd} (key : List Int) (h : innerB n = false) : kidN n key = 0 := by
  unfold kidN; rw [if_neg (by rw [h]; exact Bool.false_ne_true)]

/-- a literal with one node -/
theorem nds_one {w : World} {v : Value} {n : Nd} (h : NdV w v n) {lf : Bool} {p k c : Value} (hv : v = .agg #[.bool lf, p, k, c]) : Nds (w.alloc (.cells #[.bool lf, p, k, c] 26)) w.heap.size [v] [n] := by
  refine ⟨rfl, fun i hi => ?_⟩
  obtain rfl : i = 0 := by simp at hi; omega
  refine ⟨h.alloc _, ?_⟩
  have hB := Blk.new w 26 [.bool lf, p, k, c]
  subst hv
  exact hB.range 0 _ (fun j hj => by rw [Nat.zero_add]; rfl)

set_option maxHeartbeats 4000000 in
theorem nodeKids_walk (w : World) (v : Value) (n : Nd) (kv : Value) (key : List Int) (hv : NdV w v n) (hk : Sl w kv key) :
    Calls Try.prog 5 #[v, kv] w fun e w' => e = .returned (.bool true) ∧ Below w.heap.size w w' := by
  have HLV := hide live_any
  have HFW : Hid (∀ w1, Below w.heap.size w w1 → ∀ lf p k c, v = .agg #[.bool lf, p, k, c] → Calls Try.prog 8 #[.slice (some ⟨w1.heap.size, 0, none⟩) 1 1] (w1.alloc (.cells #[.bool lf, p, k, c] 26)) fun e w' => e = .returned (.bool (fewN [n])) ∧ Below w1.heap.size w1 w') := fun w1 hb lf p k c he =>
    (few_any _ _ 1 [v] [n] (nds_one (hv.below hb) he) (by simp)).mono fun e w' ⟨h1, h2⟩ => ⟨h1, after_alloc h2⟩
  have HKD : Hid (∀ w1, Below w.heap.size w w1 → Calls Try.prog 23 #[v, kv] w1 fun e w' => e = .returned (.int .i64 (kidN n key)) ∧ Below w1.heap.size w1 w') := fun w1 hb => kid_any w1 v n (hv.below hb) kv key (hk.below hb)
  have HSZ : Hid (∀ w1, Below w.heap.size w w1 → Calls Try.prog 13 #[v] w1 fun e w' => e = .returned (.int .i64 (sizeN n)) ∧ Below w1.heap.size w1 w') := fun w1 hb => size_any w1 v n (hv.below hb)
  have HS0 := hide (@size_zero n)
  obtain ⟨cm, hcm⟩ : ∃ cm : Nat → Int, ∀ j, cm j = cmp (n.ks.getD j []) key := ⟨_, fun _ => rfl⟩
  have HKS : Hid (innerB n = true → kidN n key ≤ n.ks.length ∧ (∀ j, kidN n key = j + 1 → cm j ≤ 0) ∧ (kidN n key < n.ks.length → 0 < cm (kidN n key))) := fun h => by
    obtain ⟨h1, h2, h3⟩ := kid_spec key h
    exact ⟨h1, fun j hj => by rw [hcm]; exact h2 j hj, fun hl => by rw [hcm]; exact h3 hl⟩
  have HKN := hide (@kid_none n key)
  have HMI := hide (@mayN_in n)
  have HNL : Hid (n.lf = true → innerB n = false) := fun h => by
    cases hi : innerB n with
    | false => rfl
    | true => have := innerB_lf hi; rw [h] at this; cases this
  have HIL : Hid (innerB n = true → n.cs.length = n.ks.length + 1 ∧ n.ks.length ≤ 255) := fun h => ⟨(innerB_ps h).2.2.2.1, (innerB_ps h).2.2.1⟩
  obtain ⟨pa, pc, ka, kc, ca, cc, xs, ys, rfl, hp1, hk1, hc1, hp2, hk2, hc2, hP, hK, hC⟩ := hv.open
  have HKA : Hid (0 < n.ks.length → ∃ b off, ka = some ⟨b, off, none⟩) := fun h0 => by
    obtain ⟨b, off, he, _⟩ := hK.at 0 h0
    exact ⟨b, off, he⟩
  have HCM : Hid (∀ b off, ka = some ⟨b, off, none⟩ → ∀ w1 j, Below w.heap.size w w1 → j < n.ks.length → ∃ a m c, w1.cell? ⟨b, off + j, none⟩ = some (.slice a m c) ∧ Calls Try.prog 24 #[.slice a m c, kv] w1 fun e w' => e = .returned (.int .i64 (cm j)) ∧ w' = w1) := fun b off he w1 j hb hj => by
    rw [hcm]
    obtain ⟨b', off', he', q, hs⟩ := (hK.below hb).at j hj
    rw [he] at he'
    simp only [Option.some.injEq, Addr.mk.injEq, and_true] at he'
    obtain ⟨rfl, rfl⟩ := he'
    obtain ⟨a, m, c, hu⟩ := sl_form hs
    rw [hu] at q hs
    exact ⟨a, m, c, q, bytesCompare_any w1 _ kv _ key hs (hk.below hb)⟩
  obtain ⟨a1, c1, rfl⟩ := sl_form' hk
  generalize key.length = L at *
  generalize fewN [n] = FW at *
  unfold ndv at HFW HKD HSZ ⊢
  generalize n.lf = lf at *
  generalize n.ps.length = np at *
  generalize n.ks.length = nk at *
  generalize n.cs.length = nc at *
  generalize mayN n = M at *
  generalize innerB n = I at *
  generalize sizeN n = S at *
  generalize kidN n key = KI at *
  obtain ⟨w1, hw1, HB1, HBB, z0, z1, z2, z3⟩ := nd_box w lf (.slice pa np pc) (.slice ka nk kc) (.slice ca nc cc)
  have HFW1 : Hid (∀ w1, Below w.heap.size w w1 → Calls Try.prog 8 #[.slice (some ⟨w1.heap.size, 0, none⟩) 1 1] (w1.alloc (.cells #[.bool lf, .slice pa np pc, .slice ka nk kc, .slice ca nc cc] 26)) fun e w' => e = .returned (.bool FW) ∧ Below w1.heap.size w1 w') := fun w1 hb => HFW.out w1 hb _ _ _ _ rfl
  clear hcm hv hk hP hK hC HFW hp1 hk1 hc1 hp2 hk2 hc2
  cases FW with
  | false =>
    go_enter Try.func5, Try.ntmps5
    go_wp2_with (first
      | (go_at_call 8; refine (HFW1.out w2 HB2.out).mono ?_; rintro e w3 ⟨rfl, hb3⟩; have HB3 := hide (HB2.out.trans (hb3.mono HB2.out.size)); have HLV3 := hide (HLV.out w3); clear HFW1 hb3)
      | (go_at_call 7; refine HLV3.out.mono ?_; rintro e w4 ⟨rfl, hb4⟩; have HB4 := hide (HB3.out.trans (hb4.mono HB3.out.size)); clear HLV3 hb4)
      | (go_at_call 7; refine (HLV.out w1).mono ?_; rintro e w2 ⟨rfl, hb2⟩; have HB2 := hide (HB1.out.trans (hb2.mono HB1.out.size)); obtain ⟨y0, y1, y2, y3⟩ := box_ndc (HBB.out.below hb2 HBB.out.lt); clear hb2))
    go_ret
    exact ⟨rfl, HB4.out⟩
  | true =>
    by_cases hL : L ≤ 300
    · have iL : ¬ (300 : Int) < (L : Int) := by omega
      cases lf with
      | true =>
        have hKI : KI = 0 := HKN.out (HNL.out rfl)
        subst hKI
        clear HSZ HS0 HKS HKN HMI HNL HIL HCM
        go_enter Try.func5, Try.ntmps5
        go_wp2_with (first
          | (go_at_call 7; refine (HLV.out w1).mono ?_; rintro e w2 ⟨rfl, hb2⟩; have HB2 := hide (HB1.out.trans (hb2.mono HB1.out.size)); have HBX2 := hide (HBB.out.below hb2 HBB.out.lt); obtain ⟨y0, y1, y2, y3⟩ := box_ndc HBX2.out; clear HLV hb2)
          | (go_at_call 8; refine (HFW1.out w2 HB2.out).mono ?_; rintro e w3 ⟨rfl, hb3⟩; have HB3 := hide (HB2.out.trans (hb3.mono HB2.out.size)); have HBX3 := hide (HBX2.out.below hb3 HBX2.out.lt); obtain ⟨x0, x1, x2, x3⟩ := box_ndc HBX3.out; clear HFW1 hb3)
          | (go_at_call 23; refine (HKD.out w3 HB3.out).mono ?_; rintro e w4 ⟨rfl, hb4⟩; have HB4 := hide (HB3.out.trans (hb4.mono HB3.out.size)); have HBX4 := hide (HBX3.out.below hb4 HBX3.out.lt); obtain ⟨t0, t1, t2, t3⟩ := box_ndc HBX4.out; clear HKD hb4))
        go_ret
        exact ⟨rfl, HB4.out⟩
      | false =>
        cases I with
        | false =>
          have hKI : KI = 0 := HKN.out rfl
          have hM : M = false := HMI.out rfl
          have hS : S = 0 := HS0.out.2 hM
          subst hKI
          subst hS
          clear HS0 HKS HKN HMI HNL HIL HCM hM
          go_enter Try.func5, Try.ntmps5
          go_wp2_with (first
            | (go_at_call 7; refine (HLV.out w1).mono ?_; rintro e w2 ⟨rfl, hb2⟩; have HB2 := hide (HB1.out.trans (hb2.mono HB1.out.size)); have HBX2 := hide (HBB.out.below hb2 HBB.out.lt); obtain ⟨y0, y1, y2, y3⟩ := box_ndc HBX2.out; clear HLV hb2)
            | (go_at_call 8; refine (HFW1.out w2 HB2.out).mono ?_; rintro e w3 ⟨rfl, hb3⟩; have HB3 := hide (HB2.out.trans (hb3.mono HB2.out.size)); have HBX3 := hide (HBX2.out.below hb3 HBX2.out.lt); obtain ⟨x0, x1, x2, x3⟩ := box_ndc HBX3.out; clear HFW1 hb3)
            | (go_at_call 23; refine (HKD.out w3 HB3.out).mono ?_; rintro e w4 ⟨rfl, hb4⟩; have HB4 := hide (HB3.out.trans (hb4.mono HB3.out.size)); have HBX4 := hide (HBX3.out.below hb4 HBX3.out.lt); obtain ⟨t0, t1, t2, t3⟩ := box_ndc HBX4.out; clear HKD hb4)
            | (go_at_call 13; refine (HSZ.out w4 HB4.out).mono ?_; rintro e w5 ⟨rfl, hb5⟩; have HB5 := hide (HB4.out.trans (hb5.mono HB4.out.size)); have HBX5 := hide (HBX4.out.below hb5 HBX4.out.lt); obtain ⟨s0, s1, s2, s3⟩ := box_ndc HBX5.out;  clear HSZ hb5))
          go_ret
          exact ⟨rfl, HB5.out⟩
        | true =>
          have hM : M = true := HMI.out rfl
          have hS : ¬ S = 0 := fun h => by have := HS0.out.1 h; rw [hM] at this; cases this
          have hSi : ¬ (S : Int) = 0 := by omega
          obtain ⟨hcn, hn5⟩ := HIL.out rfl
          obtain ⟨k1, k2, k3⟩ := HKS.out rfl
          have hkc : ¬ (nc : Int) ≤ (KI : Int) := by omega
          have hk0 : ¬ (KI : Int) < 0 := by omega
          have hC : Hid (nc = nk + 1) := hcn
          have HK2 := hide k2
          have HK3 := hide k3
          clear HS0 HKS HKN HMI HNL HIL hM hS hcn k2 k3
          by_cases hz : KI = 0
          · subst hz
            by_cases he : 0 = nk
            · subst he
              go_enter Try.func5, Try.ntmps5
              go_wp2_with (first
                | (go_at_call 7; refine (HLV.out w1).mono ?_; rintro e w2 ⟨rfl, hb2⟩; have HB2 := hide (HB1.out.trans (hb2.mono HB1.out.size)); have HBX2 := hide (HBB.out.below hb2 HBB.out.lt); obtain ⟨y0, y1, y2, y3⟩ := box_ndc HBX2.out; clear HLV hb2)
                | (go_at_call 8; refine (HFW1.out w2 HB2.out).mono ?_; rintro e w3 ⟨rfl, hb3⟩; have HB3 := hide (HB2.out.trans (hb3.mono HB2.out.size)); have HBX3 := hide (HBX2.out.below hb3 HBX2.out.lt); obtain ⟨x0, x1, x2, x3⟩ := box_ndc HBX3.out; clear HFW1 hb3)
                | (go_at_call 23; refine (HKD.out w3 HB3.out).mono ?_; rintro e w4 ⟨rfl, hb4⟩; have HB4 := hide (HB3.out.trans (hb4.mono HB3.out.size)); have HBX4 := hide (HBX3.out.below hb4 HBX3.out.lt); obtain ⟨t0, t1, t2, t3⟩ := box_ndc HBX4.out; clear HKD hb4)
                | (go_at_call 13; refine (HSZ.out w4 HB4.out).mono ?_; rintro e w5 ⟨rfl, hb5⟩; have HB5 := hide (HB4.out.trans (hb5.mono HB4.out.size)); have HBX5 := hide (HBX4.out.below hb5 HBX4.out.lt); obtain ⟨s0, s1, s2, s3⟩ := box_ndc HBX5.out;  clear HSZ hb5))
              go_ret
              exact ⟨rfl, HB5.out⟩
            · have hei : ¬ (0 : Int) = (nk : Int) := by omega
              have hei2 : ((0 : Int) == (nk : Int)) = false := by simpa using hei
              have hlt := HK3.out (by omega)
              obtain ⟨b, off, rfl⟩ := HKA.out (by omega)
              have HCK := hide (HCM.out b off rfl)
              clear HCM HKA
              go_enter Try.func5, Try.ntmps5
              go_wp2_with (first
                | (go_at_call 7; refine (HLV.out w1).mono ?_; rintro e w2 ⟨rfl, hb2⟩; have HB2 := hide (HB1.out.trans (hb2.mono HB1.out.size)); have HBX2 := hide (HBB.out.below hb2 HBB.out.lt); obtain ⟨y0, y1, y2, y3⟩ := box_ndc HBX2.out; clear HLV hb2)
                | (go_at_call 8; refine (HFW1.out w2 HB2.out).mono ?_; rintro e w3 ⟨rfl, hb3⟩; have HB3 := hide (HB2.out.trans (hb3.mono HB2.out.size)); have HBX3 := hide (HBX2.out.below hb3 HBX2.out.lt); obtain ⟨x0, x1, x2, x3⟩ := box_ndc HBX3.out; clear HFW1 hb3)
                | (go_at_call 23; refine (HKD.out w3 HB3.out).mono ?_; rintro e w4 ⟨rfl, hb4⟩; have HB4 := hide (HB3.out.trans (hb4.mono HB3.out.size)); have HBX4 := hide (HBX3.out.below hb4 HBX3.out.lt); obtain ⟨t0, t1, t2, t3⟩ := box_ndc HBX4.out; clear HKD hb4)
                | (go_at_call 13; refine (HSZ.out w4 HB4.out).mono ?_; rintro e w5 ⟨rfl, hb5⟩; have HB5 := hide (HB4.out.trans (hb5.mono HB4.out.size)); have HBX5 := hide (HBX4.out.below hb5 HBX4.out.lt); obtain ⟨s0, s1, s2, s3⟩ := box_ndc HBX5.out; obtain ⟨ua, um, uc, q, hc2⟩ := HCK.out w5 0 HB5.out (by omega); rw [Nat.add_zero] at q; have HC2 := hide hc2; clear hc2; clear HSZ hb5)
                | (go_at_call 24; refine HC2.out.mono ?_; rintro e w6 ⟨rfl, hw⟩; subst w6; clear HC2))
              go_ret
              exact ⟨rfl, HB5.out⟩
          · obtain ⟨j, hj⟩ : ∃ j, KI = j + 1 := ⟨KI - 1, by omega⟩
            have HJ := hide hj
            have hle := HK2.out j hj
            have hzi : ¬ (KI : Int) = 0 := by omega
            have hji : (KI : Int) - 1 = (j : Int) := by omega
            have hjn : j < nk := by omega
            have hjm : j ≤ 255 := by omega
            clear hj HK2
            obtain ⟨b, off, rfl⟩ := HKA.out (by omega)
            have HCK := hide (HCM.out b off rfl)
            clear HCM HKA
            by_cases he : KI = nk
            · have hei : ((KI : Int) == (nk : Int)) = true := beq_iff_eq.2 (by omega)
              clear he HK3
              go_enter Try.func5, Try.ntmps5
              go_wp2_with (first
                | (go_at_call 7; refine (HLV.out w1).mono ?_; rintro e w2 ⟨rfl, hb2⟩; have HB2 := hide (HB1.out.trans (hb2.mono HB1.out.size)); have HBX2 := hide (HBB.out.below hb2 HBB.out.lt); obtain ⟨y0, y1, y2, y3⟩ := box_ndc HBX2.out; clear HLV hb2)
                | (go_at_call 8; refine (HFW1.out w2 HB2.out).mono ?_; rintro e w3 ⟨rfl, hb3⟩; have HB3 := hide (HB2.out.trans (hb3.mono HB2.out.size)); have HBX3 := hide (HBX2.out.below hb3 HBX2.out.lt); obtain ⟨x0, x1, x2, x3⟩ := box_ndc HBX3.out; clear HFW1 hb3)
                | (go_at_call 23; refine (HKD.out w3 HB3.out).mono ?_; rintro e w4 ⟨rfl, hb4⟩; have HB4 := hide (HB3.out.trans (hb4.mono HB3.out.size)); have HBX4 := hide (HBX3.out.below hb4 HBX3.out.lt); obtain ⟨t0, t1, t2, t3⟩ := box_ndc HBX4.out; clear HKD hb4)
                | (go_at_call 13; refine (HSZ.out w4 HB4.out).mono ?_; rintro e w5 ⟨rfl, hb5⟩; have HB5 := hide (HB4.out.trans (hb5.mono HB4.out.size)); have HBX5 := hide (HBX4.out.below hb5 HBX4.out.lt); obtain ⟨s0, s1, s2, s3⟩ := box_ndc HBX5.out; obtain ⟨ua, um, uc, q, hc1⟩ := HCK.out w5 j HB5.out hjn; have HC1 := hide hc1; clear hc1; clear HSZ hb5)
                | (go_at_call 24; refine HC1.out.mono ?_; rintro e w6 ⟨rfl, hw⟩; subst w6; clear HC1))
              go_ret
              exact ⟨rfl, HB5.out⟩
            · have hei : ((KI : Int) == (nk : Int)) = false := beq_eq_false_iff_ne.2 (by omega)
              have hein : ¬ (KI : Int) = (nk : Int) := by omega
              have hkn : KI < nk := by omega
              have hlt := HK3.out (by omega)
              clear he HK3
              go_enter Try.func5, Try.ntmps5
              go_wp2_with (first
                | (go_at_call 7; refine (HLV.out w1).mono ?_; rintro e w2 ⟨rfl, hb2⟩; have HB2 := hide (HB1.out.trans (hb2.mono HB1.out.size)); have HBX2 := hide (HBB.out.below hb2 HBB.out.lt); obtain ⟨y0, y1, y2, y3⟩ := box_ndc HBX2.out; clear HLV hb2)
                | (go_at_call 8; refine (HFW1.out w2 HB2.out).mono ?_; rintro e w3 ⟨rfl, hb3⟩; have HB3 := hide (HB2.out.trans (hb3.mono HB2.out.size)); have HBX3 := hide (HBX2.out.below hb3 HBX2.out.lt); obtain ⟨x0, x1, x2, x3⟩ := box_ndc HBX3.out; clear HFW1 hb3)
                | (go_at_call 23; refine (HKD.out w3 HB3.out).mono ?_; rintro e w4 ⟨rfl, hb4⟩; have HB4 := hide (HB3.out.trans (hb4.mono HB3.out.size)); have HBX4 := hide (HBX3.out.below hb4 HBX3.out.lt); obtain ⟨t0, t1, t2, t3⟩ := box_ndc HBX4.out; clear HKD hb4)
                | (go_at_call 13; refine (HSZ.out w4 HB4.out).mono ?_; rintro e w5 ⟨rfl, hb5⟩; have HB5 := hide (HB4.out.trans (hb5.mono HB4.out.size)); have HBX5 := hide (HBX4.out.below hb5 HBX4.out.lt); obtain ⟨s0, s1, s2, s3⟩ := box_ndc HBX5.out; obtain ⟨ua, um, uc, q, hc1⟩ := HCK.out w5 j HB5.out hjn; obtain ⟨ua', um', uc', q', hc2⟩ := HCK.out w5 KI HB5.out hkn; have HC1 := hide hc1; have HC2 := hide hc2; clear hc1 hc2; clear HSZ hb5)
                | (go_at_call 24; refine HC1.out.mono ?_; rintro e w6 ⟨rfl, hw⟩; subst w6; clear HC1)
                | (go_at_call 24; refine HC2.out.mono ?_; rintro e w6 ⟨rfl, hw⟩; subst w6; clear HC2))
              go_ret
              exact ⟨rfl, HB5.out⟩
    · have iL : (300 : Int) < (L : Int) := by omega
      clear HSZ HS0 HKS HKN HMI HNL HIL HCM HKD HKA
      go_enter Try.func5, Try.ntmps5
      go_wp2_with (first
        | (go_at_call 8; refine (HFW1.out w2 HB2.out).mono ?_; rintro e w3 ⟨rfl, hb3⟩; have HB3 := hide (HB2.out.trans (hb3.mono HB2.out.size)); have HLV3 := hide (HLV.out w3); clear HFW1 hb3)
        | (go_at_call 7; refine HLV3.out.mono ?_; rintro e w4 ⟨rfl, hb4⟩; have HB4 := hide (HB3.out.trans (hb4.mono HB3.out.size)); clear HLV3 hb4)
        | (go_at_call 7; refine (HLV.out w1).mono ?_; rintro e w2 ⟨rfl, hb2⟩; have HB2 := hide (HB1.out.trans (hb2.mono HB1.out.size)); obtain ⟨y0, y1, y2, y3⟩ := box_ndc (HBB.out.below hb2 HBB.out.lt); clear hb2))
      go_ret
      exact ⟨rfl, HB4.out⟩

end Go.Proofs.Yteadpfdopadfbab
