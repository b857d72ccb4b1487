/- Contract: the document's own Get (incipitref08). -/
import Derived.Test.YtbnhacibkmcmkaaDoorKRefP
import Derived.Test.YtbnhacibkmcmkaaDoorKGet
namespace Go.Proofs.YtbnhacibkmcmkaaDoor
set_option maxRecDepth 20000
open Go.RowKit
set_option linter.unusedVariables false
set_option maxRecDepth 100000

theorem bit_of2 (x r : Nat) : ((x / 2 ^ r) % 2 = if x.testBit r then 1 else 0) := by
  rw [← Nat.shiftRight_eq_div_pow, Nat.testBit, Nat.and_comm, Nat.and_one_is_mod]
  rcases Nat.mod_two_eq_zero_or_one (x >>> r) with h | h <;> rw [h] <;> simp

set_option maxHeartbeats 4000000 in
theorem refGet_any (w : World) (n : Int) (v : Value) (vs : List Value) (pss : List (List Int)) (h : Parts w v vs pss) (hl : pss.length ≤ 100) : Calls Tryd.prog 13 #[.int .i64 n, v] w fun e w' => ∃ u, e = .returned (.tuple #[u, .int .i64 (getE n pss)]) ∧ Ints w' w.heap.size u (getL n pss) ∧ Below w.heap.size w w' := by
  have HMY := refMay_any w n
  have HN := refNeed_any w n
  have HP := hide h
  obtain ⟨ao, cap, rfl, hc1, hc2, hvl⟩ := h.shape
  unfold maxLen at hc2
  obtain ⟨m, hm⟩ : ∃ m, pss.length = m := ⟨_, rfl⟩
  by_cases hn : 8 ≤ n ∧ n ≤ 2048
  · rw [sizeB_iff.2 hn] at HMY
    have HMY := hide HMY
    obtain ⟨N, rfl⟩ : ∃ N : Nat, n = N := ⟨n.toNat, by omega⟩
    have hneed := needN_ok (n := N) (by omega) (by omega)
    obtain ⟨D, hD⟩ : ∃ D, 1 + (N - 1) / 1024 = D := ⟨_, rfl⟩
    rw [hD] at hneed
    rw [hneed] at HN
    have HN := hide HN
    by_cases hlen : m = D
    · have hl1 : (pss.length : Int) = needN N := by rw [hneed]; omega
      have HNO : Hid (okRows N pss = false → getE N pss = 80 ∧ getL N pss = []) := getE_no hn hl1
      have HYE : Hid (okRows N pss = true → getE N pss = 0 ∧ getL N pss = rdAll 0 pss) := getE_yes hn hl1
      subst hlen
      rw [hm] at HP hc1 hl hvl ⊢
      have HM := hide hm
      have HVL := hide hvl
      have hDn : m ≤ 2 := by omega
      have hDp : 0 < m := by omega
      have HPUT : Hid (∀ W tv k, Is W tv (rdAll 0 pss) → k < m → mayB N (rdAll 0 pss) = true → Calls Tryd.prog 11 #[.int .i64 N, tv, .int .i64 (k : Nat)] W fun e w' => ∃ g, e = .returned (.tuple #[pgv g, .int .i64 0]) ∧ Sl w' (pgv g) (putS k (rdAll 0 pss)) ∧ Below W.heap.size W w') := fun W tv k hi hk hmm => by
        refine (refPut_ok W N tv _ k hi hmm (by rw [hneed]; omega)).mono ?_
        rintro e w' ⟨g, rfl, _, hB, hb⟩
        exact ⟨g, rfl, sl_pg (putS_ok _ _) (putS_length _ _) hB, hb⟩
      have HPUB : Hid (∀ W tv k, Is W tv (rdAll 0 pss) → mayB N (rdAll 0 pss) = false → Calls Tryd.prog 11 #[.int .i64 N, tv, .int .i64 (k : Nat)] W fun e w' => e = .returned (.tuple #[.slice none 0 0, .int .i64 1]) ∧ Below W.heap.size W w') := fun W tv k hi hmm => refPut_bad W N tv _ k hi (fun hh => by rw [hmm] at hh; cases hh.1)
      clear h hm hvl hneed hl1 hD hn
      go_enter Tryd.func13, Tryd.ntmps13
      go_wp2_with (first
        | (go_at_call 39; refine HMY.out.mono ?_; rintro e w2 ⟨rfl, hw⟩; subst w2; clear HMY)
        | (go_at_call 15; refine HN.out.mono ?_; rintro e w2 ⟨rfl, hw⟩; subst w2; clear HN))
      go_loopg [6, 7] m (fun gg tv kv wr => ∃ k : Nat, gg + k = m ∧ kv = .int .i64 k ∧ RdI w tv (rdAll 0 (pss.take k)) wr ∧ ∀ i, i < k → (pss.getD i []).length = 240)
      case atStart => exact ⟨0, rfl, rfl, ⟨Ints.nil _ _, Below.refl _ _⟩, fun i hi => by omega⟩
      case round =>
        obtain ⟨k, hk, rfl, hrd, hal⟩ := hrel
        have HRD := hide hrd
        have HAL := hide hal
        obtain ⟨aot, capt, hut⟩ := hrd.ints.shape
        obtain ⟨nt, hnt⟩ : ∃ nt, (rdAll 0 (pss.take k)).length = nt := ⟨_, rfl⟩
        rw [hnt] at hut
        subst hut
        cases gk with
        | zero =>
          obtain rfl : k = m := by omega
          have h3 : ¬ (k : Int) < (k : Int) := by omega
          have HE : pss.take k = pss := List.take_of_length_le (by rw [HM.out]; exact Nat.le_refl _)
          rw [HE] at HRD
          clear hrd hnt hal HE hk
          go_wp2
          go_loopg [9] k (fun g4 jv wr4 => ∃ j : Nat, g4 + j = k ∧ jv = .int .i64 j ∧ RdI w (.slice aot nt capt) (rdAll 0 pss) wr4 ∧ (j = 0 ∨ mayB N (rdAll 0 pss) = true) ∧ ∀ i, i < j → pss.getD i [] = putS i (rdAll 0 pss))
          case atStart => exact ⟨0, by omega, rfl, HRD.out, .inl rfl, fun i hi => by omega⟩
          case round =>
            obtain ⟨j, hj, rfl, hri, hmk, hal⟩ := hrel
            have HI := hide hri.ints
            have HB := hide hri.below
            have HALJ := hide hal
            clear HRD
            cases gk with
            | zero =>
              obtain rfl : j = k := by omega
              have h4 : ¬ (j : Int) < (j : Int) := by omega
              have HOK : Hid (okRows N pss = true) := okRows_yes (hmk.resolve_left (by omega)) (fun i hi => hal i (by have := HM.out; omega))
              clear hri hmk hal hj
              go_wp2
              go_ret2
              obtain ⟨e1, e2⟩ := HYE.out HOK.out
              rw [e1, e2]
              exact ⟨_, rfl, HI.out, HB.out⟩
            | succ g5 =>
              have h4 : (j : Int) < (k : Int) := by omega
              have hjk : j < k := by omega
              have hjl : j < vs.length := by rw [HVL.out]; omega
              obtain ⟨b, off, hao, hcell, hsl⟩ := (HP.out.below hri.below).at j hjl
              subst hao
              obtain ⟨u, hu⟩ : ∃ u, vs.getD j (.slice none 0 0) = u := ⟨_, rfl⟩
              rw [hu] at hcell hsl
              obtain ⟨aob, capb, hub, _, _⟩ := hsl.shape
              obtain ⟨lb, hlb⟩ : ∃ lb, (pss.getD j []).length = lb := ⟨_, rfl⟩
              rw [hlb] at hub
              subst hub
              have HSL := hide hsl
              have hbk : b < wr.heap.size := World.block_lt_of_cell? wr _ hcell
              have HCL : Hid (∀ W, Below wr.heap.size wr W → W.cell? ⟨b, off + j, none⟩ = some (.slice aob lb capb)) := fun W hbW => (hbW.cell (p := ⟨b, off + j, none⟩) hbk).trans hcell
              clear hlb hu hcell
              cases hmy : mayB N (rdAll 0 pss) with
              | false =>
                have HPP := hide (HPUB.out wr _ j (is_of_own hri.ints) hmy)
                have HOK : Hid (okRows N pss = false) := okRows_no hmy
                clear hri hmk hal hsl hjl hmy HPUT HPUB HALJ
                go_wp2_with (first
                  | (go_at_call 11; refine HPP.out.mono ?_; rintro e w2 ⟨rfl, hb2⟩; have HB2 := hide (HB.out.trans (hb2.mono HB.out.size)); have hcell := HCL.out w2 hb2; clear HPP hb2 HCL))
                go_quiet (fail)
                go_wp2
                go_ret2
                obtain ⟨e1, e2⟩ := HNO.out HOK.out
                rw [e1, e2]
                exact ⟨_, rfl, Ints.nil _ _, HB2.out.trans ((belowN w2 nq).mono HB2.out.size)⟩
              | true =>
                have HPP := hide (HPUT.out wr _ j (is_of_own hri.ints) hjk hmy)
                obtain ⟨sx, hsx⟩ : ∃ s, s = strOfNums (putS j (rdAll 0 pss)) := ⟨_, rfl⟩
                obtain ⟨sy, hsy⟩ : ∃ s, s = strOfNums (pss.getD j []) := ⟨_, rfl⟩
                have HE := strOfNums_inj (putS_ok j (rdAll 0 pss)) hsl.bytes
                rw [← hsx, ← hsy] at HE
                have HCV : Hid (∀ W g, Below wr.heap.size wr W → Sl W (pgv g) (putS j (rdAll 0 pss)) → (∀ q, (convert 25 9 (pgv g)).run Tryd.prog (W.drewN q) = .ok (.string sx) (W.drewN q)) ∧ ∀ q, (convert 25 9 (.slice aob lb capb)).run Tryd.prog (W.drewN q) = .ok (.string sy) (W.drewN q)) := fun W g hbW h1 => by
                  rw [hsx, hsy]
                  exact ⟨fun q => run_convert_sl (P := Tryd.prog) (W.drewN q) 25 5 9 Tryd.underlying25 Tryd.underlying5 Tryd.underlying9 _ _ (h1.below (belowN W q)), fun q => run_convert_sl (P := Tryd.prog) (W.drewN q) 25 5 9 Tryd.underlying25 Tryd.underlying5 Tryd.underlying9 _ _ ((HSL.out.below hbW).below (belowN W q))⟩
                by_cases he : putS j (rdAll 0 pss) = pss.getD j []
                · have hss : sx = sy := HE.2 he
                  subst hss
                  have HNX : Hid (∀ W, Below wr.heap.size wr W → RdI w (.slice aot nt capt) (rdAll 0 pss) W ∧ ∀ i, i < j + 1 → pss.getD i [] = putS i (rdAll 0 pss)) := fun W hbw => by
                    refine ⟨⟨HI.out.below hbw, HB.out.trans (hbw.mono HB.out.size)⟩, fun i hi => ?_⟩
                    by_cases hij : i = j
                    · subst hij; exact he.symm
                    · exact HALJ.out i (by omega)
                  have HMY2 := hide hmy
                  clear hri hmk hal hsl hjl hmy HPUT HPUB HALJ HE hsx hsy he
                  go_wp2_with (first
                    | (go_at_call 11; refine HPP.out.mono ?_; rintro e w2 ⟨g2, rfl, hs2, hb2⟩; obtain ⟨r1, r2⟩ := HCV.out w2 g2 hb2 hs2; have HB2 := hide hb2; have hcell := HCL.out w2 hb2; clear HPP hb2 hs2 HCL HCV))
                  go_quiet (fail)
                  go_wp2
                  go_roundg g5
                  case measure => omega
                  case rel =>
                    obtain ⟨a1, a2⟩ := HNX.out (w2.drewN nq) (HB2.out.trans ((belowN w2 nq).mono HB2.out.size))
                    exact ⟨j + 1, by omega, by go_num, a1, .inr HMY2.out, a2⟩
                · have hss : ¬ sx.toList = sy.toList := fun e => he (HE.1 ((toList_same _ _).1 e))
                  have hss2 : (sx.toList == sy.toList) = false := by simpa using hss
                  have hss3 : decide (sx.toList = sy.toList) = false := decide_eq_false hss
                  have HOK : Hid (okRows N pss = false) := okRows_not (i := j) (by rw [HM.out]; exact hjk) (fun e => he e.symm)
                  clear hri hmk hal hsl hjl hmy HPUT HPUB HALJ HE hsx hsy he
                  go_wp2_with (first
                    | (go_at_call 11; refine HPP.out.mono ?_; rintro e w2 ⟨g2, rfl, hs2, hb2⟩; obtain ⟨r1, r2⟩ := HCV.out w2 g2 hb2 hs2; have HB2 := hide hb2; have hcell := HCL.out w2 hb2; clear HPP hb2 hs2 HCL HCV))
                  go_quiet (fail)
                  go_wp2
                  go_ret2
                  obtain ⟨e1, e2⟩ := HNO.out HOK.out
                  rw [e1, e2]
                  exact ⟨_, rfl, Ints.nil _ _, HB.out.trans ((HB2.out.trans ((belowN w2 nq).mono HB2.out.size)).mono HB.out.size)⟩
        | succ gg =>
          have h3 : (k : Int) < (m : Int) := by omega
          have hkl : k < vs.length := by rw [HVL.out]; omega
          obtain ⟨b, off, hao, hcell, hsl⟩ := (HP.out.below hrd.below).at k hkl
          subst hao
          have HTS : Hid (rdAll 0 (pss.take (k + 1)) = rdAll 0 (pss.take k) ++ rdRow k (pss.getD k []) (8 * min (pss.getD k []).length 128)) := by
            show _ = _
            have hkp : k < pss.length := by rw [HM.out]; omega
            rw [ci_take hkp, rdAll_snoc]
            simp only [List.length_take, Nat.zero_add]
            rw [show min k pss.length = k by omega]
          obtain ⟨bs, hbs⟩ : ∃ bs, pss.getD k [] = bs := ⟨_, rfl⟩
          rw [hbs] at hsl HTS
          obtain ⟨u, hu⟩ : ∃ u, vs.getD k (.slice none 0 0) = u := ⟨_, rfl⟩
          rw [hu] at hsl hcell
          obtain ⟨aob, capb, hub, hb1, hb2⟩ := hsl.shape
          unfold maxLen at hb2
          obtain ⟨L, hL⟩ : ∃ L, bs.length = L := ⟨_, rfl⟩
          rw [hL] at hb1 HTS hub
          subst hub
          by_cases h240 : L = 240
          · have HLB : Hid (∀ wr', Below w.heap.size w wr' → wr'.cell? ⟨b, off + k, none⟩ = some (.slice aob L capb) ∧ Sl wr' (.slice aob L capb) bs) := fun wr' hb' => by
              obtain ⟨b', off', e1, e2, e3⟩ := (HP.out.below hb').at k hkl
              simp only [Option.some.injEq, Addr.mk.injEq, and_true] at e1
              obtain ⟨rfl, rfl⟩ := e1
              rw [hu] at e2 e3
              rw [hbs] at e3
              exact ⟨e2, e3⟩
            subst h240
            have HBO := hide hsl.bytes
            have HLL := hide hL
            have hR0l : (rdAll 0 (pss.take k)).length ≤ 1024 * k := by
              refine Nat.le_trans (rdAll_len _ _) ?_
              simp
              omega
            have HAN : Hid (∀ i, i < k + 1 → (pss.getD i []).length = 240) := fun i hi => by
              by_cases hik : i = k
              · subst hik; rw [hbs, hL]
              · exact hal i (by omega)
            have hM0 : RdI w (.slice aot nt capt) (rdAll 0 (pss.take k) ++ rdRow k bs 0) wr := by
              rw [show rdRow k bs 0 = [] from rfl, List.append_nil]
              exact HRD.out
            have HM0 := hide hM0
            obtain ⟨R0, hR0⟩ : ∃ R0, rdAll 0 (pss.take k) = R0 := ⟨_, rfl⟩
            rw [hR0] at HTS HM0 hR0l
            rw [show 8 * min 240 128 = 1024 from rfl] at HTS
            clear hrd hsl hbs hu hL hkl hnt hal HAL HRD hR0 hM0
            go_wp2
            clear hcell
            go_loopg [6, 8] 1024 (fun g2 tv pv wr2 => ∃ p : Nat, g2 + p = 1024 ∧ pv = .int .i64 p ∧ RdI w tv (R0 ++ rdRow k bs p) wr2)
            case atStart => exact ⟨0, by omega, rfl, HM0.out⟩
            case round =>
              obtain ⟨p, hp, rfl, hrp⟩ := hrel
              have HRP := hide hrp
              clear HM0
              cases gk with
              | zero =>
                have hp1 : p = 1024 := by omega
                subst hp1
                clear hrp
                go_wp2
                go_roundg gg
                case measure => omega
                case rel => exact ⟨k + 1, by omega, by go_num, by rw [HTS.out]; exact HRP.out, HAN.out⟩
              | succ g3 =>
                have hp1 : (p : Int) < 1024 := by omega
                have hp2 : p < 1024 := by omega
                obtain ⟨hcell, hsl⟩ := HLB.out wr hrp.below
                obtain ⟨Q, hQ⟩ : ∃ Q, p / 8 = Q := ⟨_, rfl⟩
                have hQi : (p : Int) / 8 = (Q : Int) := by omega
                have hQl : Q < 240 := by omega
                have hQli : (Q : Int) < 240 := by omega
                obtain ⟨R, hR⟩ : ∃ R, p % 8 = R := ⟨_, rfl⟩
                have hRi : (p : Int) % 8 = (R : Int) := by omega
                have hRl : R < 8 := by omega
                obtain ⟨bb, offb, haob, hcb⟩ := hsl.at' Q (by rw [HLL.out]; omega)
                subst haob
                have hbg := HBO.out.get Q
                obtain ⟨X, hX⟩ : ∃ X : Nat, bs.getD Q 0 = X := ⟨(bs.getD Q 0).toNat, by omega⟩
                rw [hX] at hcb hbg
                have hXl : X < 256 := by omega
                obtain ⟨S, hS⟩ : ∃ S, X / 2 ^ R = S := ⟨_, rfl⟩
                have hSl : S < 256 := by rw [← hS]; exact Nat.lt_of_le_of_lt (Nat.div_le_self _ _) hXl
                have hSi : (X : Int) / 2 ^ R = (S : Int) := by rw [← hS]; simp
                have hbit := bit_of2 X R
                rw [hS] at hbit
                have HSN := rdRow_snoc k bs p
                rw [tb, hQ, hR, hX, Int.toNat_natCast] at HSN
                cases htb : X.testBit R with
                | false =>
                  rw [htb] at hbit HSN
                  simp only [Bool.false_eq_true, if_false, List.append_nil] at hbit HSN
                  have hmod : (S : Int) % 2 = 0 := by omega
                  have HSN := hide HSN
                  clear htb hrp hsl hQ hR hX hS hbit hbg
                  go_wp2
                  go_roundg g3
                  case measure => omega
                  case rel => exact ⟨p + 1, by omega, by go_num, by rw [HSN.out]; exact HRP.out⟩
                | true =>
                  rw [htb] at hbit HSN
                  simp only [if_true] at hbit HSN
                  have hmod : (S : Int) % 2 = 1 := by omega
                  have hlen : (R0 ++ rdRow k bs p).length + 1 ≤ 1000000 := by
                    have := rdRow_len k bs p
                    rw [List.length_append]
                    omega
                  obtain ⟨v', w', hrun, hi', ho'⟩ := run_append_int2 wr w.heap.size _ _ hrp.ints ((k : Int) * 1024 + (p : Int)) hlen hrp.below.size
                  have HNX : Hid (RdI w v' (R0 ++ rdRow k bs (p + 1)) w') := by
                    refine ⟨?_, hrp.below.trans (ho'.below hrp.below.size (fun j hj e => by have := (hrp.ints.lt j e).1; omega))⟩
                    rw [HSN, ← List.append_assoc, show ((1024 * k + p : Nat) : Int) = (k : Int) * 1024 + (p : Int) by omega]
                    exact hi'
                  obtain ⟨ao3, cap3, hu3⟩ := hrp.ints.shape
                  generalize (R0 ++ rdRow k bs p).length = n3 at hu3
                  subst hu3
                  have HRR := hide hrun
                  clear hrun hi' ho' hlen htb hrp HRP HSN hsl hQ hR hX hS hbit hbg
                  go_wp2_with (at_builtin; (with_reducible refine wpList_append_run _ rfl (.tmp 50) (.tmp 55) 22 rfl _ _ ?_ ?_ _ _ HRR.out ?_); exact rfl; exact rfl; clear HRR)
                  go_roundg g3
                  case measure => omega
                  case rel => exact ⟨p + 1, by omega, by go_num, HNX.out⟩
          · have hLi : ¬ (L : Int) = 240 := by omega
            have HOK : Hid (okRows N pss = false) := okRows_not (i := k) (by rw [HM.out]; omega) (fun e => h240 (by rw [← hL, ← hbs, e, putS_length]))
            clear hrd hsl hbs hu hL hkl hnt hal HAL h240
            go_wp2
            go_ret2
            obtain ⟨e1, e2⟩ := HNO.out HOK.out
            rw [e1, e2]
            exact ⟨_, rfl, Ints.nil _ _, HRD.out.below⟩
    · have hl1 : ¬ (pss.length : Int) = needN N := by rw [hneed]; omega
      obtain ⟨e1, e2⟩ := getE_len hn hl1
      rw [e1, e2, hm]
      have hmi : ¬ (m : Int) = (D : Int) := by omega
      clear h hm hvl hneed hl1 hD hn e1 e2 HP
      go_enter Tryd.func13, Tryd.ntmps13
      go_wp2_with (first
        | (go_at_call 39; refine HMY.out.mono ?_; rintro e w2 ⟨rfl, hw⟩; subst w2; clear HMY)
        | (go_at_call 15; refine HN.out.mono ?_; rintro e w2 ⟨rfl, hw⟩; subst w2; clear HN))
      go_ret2
      exact ⟨_, rfl, Ints.nil _ _, Below.refl _ _⟩
  · rw [sizeB_no hn] at HMY
    have HMY := hide HMY
    obtain ⟨e1, e2⟩ := getE_size (rs := pss) hn
    rw [e1, e2, hm]
    clear h hm hvl hn e1 e2 HP
    go_enter Tryd.func13, Tryd.ntmps13
    go_wp2_with (first
      | (go_at_call 39; refine HMY.out.mono ?_; rintro e w2 ⟨rfl, hw⟩; subst w2; clear HMY))
    go_ret2
    exact ⟨_, rfl, Ints.nil _ _, Below.refl _ _⟩

end Go.Proofs.YtbnhacibkmcmkaaDoor
