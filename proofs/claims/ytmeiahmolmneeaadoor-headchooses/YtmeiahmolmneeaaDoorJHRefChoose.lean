/- Contract: the newest head of copies, by the document's answer (incipitref06.Choose). -/
import Derived.Test.YtmeiahmolmneeaaDoorJHRefG
import Derived.Test.YtmeiahmolmneeaaDoorJHAt
import Derived.Test.YtmeiahmolmneeaaDoorFRefWant
import Derived.Test.YtmeiahmolmneeaaDoorHRefSame
import Derived.Test.YtmeiahmolmneeaaDoorJHLive
namespace Go.Proofs.YtmeiahmolmneeaaDoor
set_option maxRecDepth 20000
open Go.RowKit
set_option linter.unusedVariables false

/-- where the newest one lies, or -1 -/
def atR (c : Ch) : Int := if c.er = 0 then c.at' else -1
theorem chooseN_or (pages : Int) (cs : List (List Int)) : ∀ n, ((chooseN pages cs n).er = 0 ∧ 0 ≤ (chooseN pages cs n).at') ∨ chooseN pages cs n = ⟨noHd, 0, 60⟩
  | 0 => .inr rfl
  | n + 1 => by
    rw [chooseN]
    unfold stepC
    split
    · exact .inl ⟨rfl, by simp⟩
    · exact chooseN_or pages cs n

set_option maxHeartbeats 2000000 in
theorem refChooseH_any (w : World) (pages : Int) (v : Value) (vs : List Value) (pss : List (List Int)) (h : Parts w v vs pss) :
    Calls Tryd.prog 26 #[.int .i64 pages, v] w (GivesC w (chooseS pages pss)) := by
  have HLN := hide h.1
  have hP := h
  obtain ⟨-, ao, cap, rfl, h1, h2, -, -⟩ := h
  unfold maxLen at h2
  obtain ⟨K, hK⟩ : ∃ K, K = min vs.length 2 := ⟨_, rfl⟩
  have HCH : Hid (chooseS pages pss = chooseN pages pss K) := by show chooseS pages pss = _; unfold chooseS; rw [hK, HLN.out]
  have hza := zeroHeadRun
  have hzf := zeroFrameRun
  have hs1 := (Hs.new w).alloc (.cells #[.int .u64 0, .int .i64 0, .slice none 0 0, .slice none 0 0] 26)
  have hb1 := Blk.new (w.alloc (.cells #[.int .u64 0, .int .i64 0, .slice none 0 0, .slice none 0 0] 26)) 26 [.int .u64 0, .int .i64 0, .slice none 0 0, .slice none 0 0]
  rw [World.size_alloc] at hb1
  have HC0 : Hid (Cs w ⟨noHd, 0, 60⟩ none 0 none 0 ((w.alloc (.cells #[.int .u64 0, .int .i64 0, .slice none 0 0, .slice none 0 0] 26)).alloc (.cells #[.int .u64 0, .int .i64 0, .slice none 0 0, .slice none 0 0] 26))) := ⟨hs1, hb1, HdO.no _ _⟩
  have HP := hide hP
  have HOR := hide (chooseN_or pages pss)
  have hK1 : K ≤ vs.length := by omega
  have hK2 : K ≤ 2 := by omega
  have HKK := hide hK
  clear hP hs1 hb1 hK
  go_enter Tryd.func26, Tryd.ntmps26
  go_wp2
  go_loopg [8, 9] K (fun g a8 i wr => ∃ (j : Nat) (ma : Option Addr) (mc : Nat) (ua : Option Addr) (uc : Nat), g + j = K ∧ a8 = .int .i64 (atR (chooseN pages pss j)) ∧ i = .int .i64 j ∧ Cs w (chooseN pages pss j) ma mc ua uc wr)
  case atStart => exact ⟨0, none, 0, none, 0, by omega, rfl, rfl, HC0.out⟩
  case round =>
    obtain ⟨j, ma, mc, ua, uc, hj, rfl, rfl, hcs⟩ := hrel
    have HCS := hide hcs
    clear HC0 hcs
    cases gk with
    | zero =>
      obtain rfl : j = K := by omega
      have hend : (decide (j < vs.length) = false) ∨ ((j : Int) < (vs.length : Int) ∧ decide ((j : Int) < 2) = false) := by
        have := HKK.out
        by_cases hlt : j < vs.length
        · exact .inr ⟨by omega, decide_eq_false (by omega)⟩
        · exact .inl (decide_eq_false (by omega))
      have hor := HOR.out j
      have HAT : Hid (atR (chooseN pages pss j) = if (chooseN pages pss j).er = 0 then (chooseN pages pss j).at' else -1) := rfl
      obtain ⟨c, hc⟩ : ∃ c, c = chooseN pages pss j := ⟨_, rfl⟩
      have HCC : Hid (chooseS pages pss = c) := HCH.out.trans hc.symm
      rw [← hc] at HCS hor HAT ⊢
      clear hc
      rcases hor with ⟨he0, ha0⟩ | rfl
      · obtain ⟨⟨ge, gp, gms, gus⟩, at0, er0⟩ := c
        simp only at he0 ha0 HAT
        subst he0
        rw [HAT.out, if_pos rfl]
        obtain ⟨⟨c0, c1, c2, c3⟩, _⟩ := head_cells HCS.out.blk
        obtain ⟨⟨d0, d1, d2, d3⟩, k0, k1, k2, k3⟩ := head_cells HCS.out.st.2
        have HD := hide HCS.out.done
        simp only at c0 c1 c2 c3 HD
        have hat : decide (at0 < 0) = false := decide_eq_false (by omega)
        clear HCS HAT
        rcases hend with hend | ⟨hend, hend2⟩
        · go_wp2
          (try simp only [Exit.inBlock, Exit.then])
          refine bodyPost_ret (ret_head2 rfl _ _ w.heap.size _ _ _ _ _ _ rfl rfl rfl HD.out.1) rfl ?_
          rw [HCC.out]
          exact ⟨ma, mc, ua, uc, rfl, HD.out.2.1, HD.out.2.2⟩
        · go_wp2
          (try simp only [Exit.inBlock, Exit.then])
          refine bodyPost_ret (ret_head2 rfl _ _ w.heap.size _ _ _ _ _ _ rfl rfl rfl HD.out.1) rfl ?_
          rw [HCC.out]
          exact ⟨ma, mc, ua, uc, rfl, HD.out.2.1, HD.out.2.2⟩
      · rw [show atR ⟨noHd, 0, 60⟩ = -1 from rfl]
        obtain ⟨⟨d0, d1, d2, d3⟩, k0, k1, k2, k3⟩ := head_cells HCS.out.st.2
        have HD := hide (HCS.out.st.store (.int .u64 0) (.int .i64 0) (.slice none 0 0) (.slice none 0 0))
        clear HCS HAT
        rcases hend with hend | ⟨hend, hend2⟩
        · go_wp2
          (try simp only [Exit.inBlock, Exit.then])
          refine bodyPost_ret (ret_head2 rfl _ _ w.heap.size _ _ _ _ _ _ rfl rfl rfl HD.out.1) rfl ?_
          rw [HCC.out]
          exact ⟨none, 0, none, 0, rfl, HdO.no _ _, HD.out.2.1⟩
        · go_wp2
          (try simp only [Exit.inBlock, Exit.then])
          refine bodyPost_ret (ret_head2 rfl _ _ w.heap.size _ _ _ _ _ _ rfl rfl rfl HD.out.1) rfl ?_
          rw [HCC.out]
          exact ⟨none, 0, none, 0, rfl, HdO.no _ _, HD.out.2.1⟩
    | succ g =>
      have hjv : j < vs.length := by omega
      have hji : (j : Int) < (vs.length : Int) := by omega
      have hj2 : (j : Int) < 2 := by omega
      obtain ⟨b, off, rfl, cj, sj⟩ := HP.out.at j hjv
      have hcj : wr.cell? ⟨b, off + j, none⟩ = some (vs.getD j (.slice none 0 0)) := by
        rw [World.cell?_of_block (w := w) (HCS.out.st.1.block b (World.block_lt_of_cell? w _ cj))]
        exact cj
      have HCA := hide (HCS.out.below ((Below.refl _ wr).alloc (Nat.le_refl _) (.cells #[.int .i64 1] 3)))
      have HWA := hide (refWant_any _ _ _ j _ [1] ((sj.below HCS.out.st.1).alloc (.cells #[.int .i64 1] 3)) (is_one wr))
      unfold GivesS at HWA
      obtain ⟨hda, hep⟩ := wantS_data (zs := pss.getD j []) (q := j) (ks := [1]) sj.bytes
      obtain ⟨ha1, ha2, -⟩ := at_form j (pss.getD j []) pages
      have HST : Hid (chooseN pages pss (j + 1) = stepC (chooseN pages pss j) j (atB j (pss.getD j []) pages) (atH j (pss.getD j []) pages)) := rfl
      obtain ⟨cB, hcB⟩ : ∃ x, x = atB j (pss.getD j []) pages := ⟨_, rfl⟩
      obtain ⟨cH, hcH⟩ : ∃ x, x = atH j (pss.getD j []) pages := ⟨_, rfl⟩
      rw [← hcB, ← hcH] at HST
      rw [← hcB] at ha1 ha2
      rw [← hcH] at ha2
      obtain ⟨F, hF⟩ : ∃ F, F = wantS (pss.getD j []) j [1] := ⟨_, rfl⟩
      rw [← hF] at HWA hda hep ha1 ha2
      obtain ⟨er, fk, fp, ep, D⟩ := F
      simp only at HWA hda hep ha1 ha2
      obtain ⟨uj, huj⟩ : ∃ u, u = vs.getD j (.slice none 0 0) := ⟨_, rfl⟩
      rw [← huj] at hcj HWA sj
      obtain ⟨ja, jn, jc, rfl⟩ := sl_form sj
      have hor := HOR.out j
      obtain ⟨at8, hat8⟩ : ∃ x, x = atR (chooseN pages pss j) := ⟨_, rfl⟩
      obtain ⟨c, hc⟩ : ∃ c, c = chooseN pages pss j := ⟨_, rfl⟩
      rw [← hat8]
      rw [← hc] at HCS HCA HST hor hat8
      obtain ⟨⟨be, bp, bms, bus⟩, at0, er0⟩ := c
      have HAR0 : Hid (atR ⟨⟨be, bp, bms, bus⟩, at0, er0⟩ = at8) := hat8.symm
      have HAR : Hid (Value.int .i64 at8 = .int .i64 (atR ⟨⟨be, bp, bms, bus⟩, at0, er0⟩)) := by show _ = _; rw [hat8]
      have HPO : Hid (er0 = 0 → 0 ≤ at0) := by
        intro h
        rcases hor with ⟨_, h2⟩ | h2
        · exact h2
        · simp only [Ch.mk.injEq] at h2; omega
      clear hcB hcH hc huj cj sj hF hat8 hor HCS HKK
      by_cases h0 : er = 0
      · subst h0
        obtain ⟨hep1, -⟩ := hep rfl
        have HGE : Hid (∀ w1 a c, Sl w1 (.slice a D.length c) D → Calls Tryd.prog 24 #[.int .u64 ep, .slice a D.length c] w1 (GivesH w1 (getH ep D) (getE ep D))) := fun w1 a c hs => refGetH_any w1 ep _ D hs hep1
        unfold GivesH at HGE
        cases hg : getB ep D with
        | false =>
          have hEq : getE ep D = 60 := by unfold getE; rw [hg]; rfl
          have hHq : getH ep D = noHd := by unfold getH; rw [hg]; rfl
          rw [hEq, hHq] at HGE
          clear hEq hHq
          have HNX : Hid (chooseN pages pss (j + 1) = ⟨⟨be, bp, bms, bus⟩, at0, er0⟩) := HST.out.trans (stepC_no (fun h => absurd (ha1 ▸ h.1) (by simp [hg])))
          clear HST
          clear ha1 ha2 hep hg
          go_wp2_with (first
            | (go_at_call 40; refine HWA.out.mono ?_; rintro e3 w2 ⟨a2, c2, rfl, S2, bel2⟩; have cs2 := (HCA.out.below bel2).below ((Below.refl _ w2).alloc (Nat.le_refl _) (.cells #[.int .i64 fk, .int .i64 fp, .int .u64 ep, .slice a2 D.length c2] 59)); have HC2 := hide cs2; have HG3 := hide (HGE.out _ a2 c2 (S2.alloc (.cells #[.int .i64 fk, .int .i64 fp, .int .u64 ep, .slice a2 D.length c2] 59))); clear HGE; clear HWA HCA S2 bel2 cs2)
            | (go_at_call 24; refine HG3.out.mono ?_; rintro e3 w4 ⟨ma', mc', ua', uc', rfl, hv4, bel4⟩; have cs4 := (HC2.out.below bel4).below ((Below.refl _ w4).alloc (Nat.le_refl _) (.cells #[.int .u64 0, .int .i64 0, .slice ma' 0 mc', .slice ua' 0 uc'] 26)); have hv5 := (hv4.alloc (.cells #[.int .u64 0, .int .i64 0, .slice ma' 0 mc', .slice ua' 0 uc'] 26)).le (B' := w.heap.size + 2) (by have := HC2.out.blk.lt; omega); obtain ⟨⟨c0, c1, c2', c3⟩, k0, k1, k2, k3⟩ := head_cells cs4.blk; have HCS4 := hide cs4; have HV5 := hide hv5; simp only at c0 c1 c2' c3; unfold hdV noHd; clear HG3 HC2 hv4 bel4 cs4 hv5))
          go_roundg g
          case measure => omega
          case rel => exact ⟨j + 1, ma, mc, ua, uc, by omega, by rw [HNX.out]; exact HAR.out, by go_num, by rw [HNX.out]; exact HCS4.out⟩
        | true =>
          have hEq : getE ep D = 0 := by unfold getE; rw [hg]; rfl
          have hge := (getH_yes hg).2.2
          rw [hEq] at HGE
          rw [hg] at ha1
          have HPG := hide (fun wx => refPageH_any wx ep)
          obtain ⟨G, hG⟩ : ∃ G, G = getH ep D := ⟨_, rfl⟩
          rw [← hG] at HGE ha1 ha2 hge
          obtain ⟨ge, gp, gms, gus⟩ := G
          simp only at hge ha1 HGE
          subst hge
          obtain ⟨R, hR⟩ : ∃ R, R = ge % 2 := ⟨_, rfl⟩
          rw [← hR] at HPG ha1
          clear hEq hG hg hR
          by_cases h1 : R = j
          · by_cases h2 : gp = pages
            · skip
              have hBt : cB = true := by rw [ha1, h1, h2]; simp
              have hcH := ha2 hBt
              subst hBt hcH
              subst h2
              have hi1 : ((R : Int) != (j : Int)) = false := by rw [h1]; simp
              have HI := hide h1
              clear ha1 ha2 hep h1
              by_cases h0 : er0 = 0
              · subst h0
                have hat : at8 = at0 := by rw [← HAR0.out]; rfl
                subst hat
                have hat0 : decide (at8 < 0) = false := decide_eq_false (by have := HPO.out rfl; omega)
                by_cases hlt : be < ge
                · have HNX : Hid (chooseN gp pss (j + 1) = ⟨⟨ge, gp, gms, gus⟩, (j : Int), 0⟩) := HST.out.trans (stepC_yes rfl (.inr hlt))
                  have hli : (be : Int) < (ge : Int) := by omega
                  clear HST
                  go_wp2_with (first
                    | (go_at_call 40; refine HWA.out.mono ?_; rintro e3 w2 ⟨a2, c2, rfl, S2, bel2⟩; have cs2 := (HCA.out.below bel2).below ((Below.refl _ w2).alloc (Nat.le_refl _) (.cells #[.int .i64 fk, .int .i64 fp, .int .u64 ge, .slice a2 D.length c2] 59)); have HC2 := hide cs2; have HG3 := hide (HGE.out _ a2 c2 (S2.alloc (.cells #[.int .i64 fk, .int .i64 fp, .int .u64 ge, .slice a2 D.length c2] 59))); clear HGE; clear HWA HCA S2 bel2 cs2)
                    | (go_at_call 24; refine HG3.out.mono ?_; rintro e3 w4 ⟨ma', mc', ua', uc', rfl, hv4, bel4⟩; have cs4 := (HC2.out.below bel4).below ((Below.refl _ w4).alloc (Nat.le_refl _) (.cells #[.int .u64 ge, .int .i64 gp, .slice ma' gms.length mc', .slice ua' gus.length uc'] 26)); have hv5 := (hv4.alloc (.cells #[.int .u64 ge, .int .i64 gp, .slice ma' gms.length mc', .slice ua' gus.length uc'] 26)).le (B' := w.heap.size + 2) (by have := HC2.out.blk.lt; omega); obtain ⟨⟨c0, c1, c2', c3⟩, k0, k1, k2, k3⟩ := head_cells cs4.blk; have HCS4 := hide cs4; have HV5 := hide hv5; simp only at c0 c1 c2' c3; unfold hdV; clear HG3 HC2 hv4 bel4 cs4 hv5)
                    | (go_at_call 21; refine (HPG.out _).mono ?_; rintro e3 w5 ⟨rfl, hw⟩; subst w5; clear HPG))
                  go_roundg g
                  case measure => omega
                  case rel => exact ⟨j + 1, ma', mc', ua', uc', by omega, by rw [HNX.out]; rfl, by go_num, by rw [HNX.out]; exact HCS4.out.take _ _ HV5.out⟩
                · have HNX : Hid (chooseN gp pss (j + 1) = ⟨⟨be, bp, bms, bus⟩, at8, 0⟩) := HST.out.trans (stepC_no (fun h => h.2.elim (fun h => h rfl) hlt))
                  have hdi : decide (be < ge) = false := decide_eq_false hlt
                  clear HST
                  go_wp2_with (first
                    | (go_at_call 40; refine HWA.out.mono ?_; rintro e3 w2 ⟨a2, c2, rfl, S2, bel2⟩; have cs2 := (HCA.out.below bel2).below ((Below.refl _ w2).alloc (Nat.le_refl _) (.cells #[.int .i64 fk, .int .i64 fp, .int .u64 ge, .slice a2 D.length c2] 59)); have HC2 := hide cs2; have HG3 := hide (HGE.out _ a2 c2 (S2.alloc (.cells #[.int .i64 fk, .int .i64 fp, .int .u64 ge, .slice a2 D.length c2] 59))); clear HGE; clear HWA HCA S2 bel2 cs2)
                    | (go_at_call 24; refine HG3.out.mono ?_; rintro e3 w4 ⟨ma', mc', ua', uc', rfl, hv4, bel4⟩; have cs4 := (HC2.out.below bel4).below ((Below.refl _ w4).alloc (Nat.le_refl _) (.cells #[.int .u64 ge, .int .i64 gp, .slice ma' gms.length mc', .slice ua' gus.length uc'] 26)); have hv5 := (hv4.alloc (.cells #[.int .u64 ge, .int .i64 gp, .slice ma' gms.length mc', .slice ua' gus.length uc'] 26)).le (B' := w.heap.size + 2) (by have := HC2.out.blk.lt; omega); obtain ⟨⟨c0, c1, c2', c3⟩, k0, k1, k2, k3⟩ := head_cells cs4.blk; have HCS4 := hide cs4; have HV5 := hide hv5; simp only at c0 c1 c2' c3; unfold hdV; clear HG3 HC2 hv4 bel4 cs4 hv5)
                    | (go_at_call 21; refine (HPG.out _).mono ?_; rintro e3 w5 ⟨rfl, hw⟩; subst w5; clear HPG))
                  go_roundg g
                  case measure => omega
                  case rel => exact ⟨j + 1, ma, mc, ua, uc, by omega, by rw [HNX.out]; exact HAR.out, by go_num, by rw [HNX.out]; exact HCS4.out⟩
              · have HNX : Hid (chooseN gp pss (j + 1) = ⟨⟨ge, gp, gms, gus⟩, (j : Int), 0⟩) := HST.out.trans (stepC_yes rfl (.inl h0))
                have hat : at8 = -1 := by rw [← HAR0.out]; exact if_neg h0
                subst hat
                clear HST
                go_wp2_with (first
                  | (go_at_call 40; refine HWA.out.mono ?_; rintro e3 w2 ⟨a2, c2, rfl, S2, bel2⟩; have cs2 := (HCA.out.below bel2).below ((Below.refl _ w2).alloc (Nat.le_refl _) (.cells #[.int .i64 fk, .int .i64 fp, .int .u64 ge, .slice a2 D.length c2] 59)); have HC2 := hide cs2; have HG3 := hide (HGE.out _ a2 c2 (S2.alloc (.cells #[.int .i64 fk, .int .i64 fp, .int .u64 ge, .slice a2 D.length c2] 59))); clear HGE; clear HWA HCA S2 bel2 cs2)
                  | (go_at_call 24; refine HG3.out.mono ?_; rintro e3 w4 ⟨ma', mc', ua', uc', rfl, hv4, bel4⟩; have cs4 := (HC2.out.below bel4).below ((Below.refl _ w4).alloc (Nat.le_refl _) (.cells #[.int .u64 ge, .int .i64 gp, .slice ma' gms.length mc', .slice ua' gus.length uc'] 26)); have hv5 := (hv4.alloc (.cells #[.int .u64 ge, .int .i64 gp, .slice ma' gms.length mc', .slice ua' gus.length uc'] 26)).le (B' := w.heap.size + 2) (by have := HC2.out.blk.lt; omega); obtain ⟨⟨c0, c1, c2', c3⟩, k0, k1, k2, k3⟩ := head_cells cs4.blk; have HCS4 := hide cs4; have HV5 := hide hv5; simp only at c0 c1 c2' c3; unfold hdV; clear HG3 HC2 hv4 bel4 cs4 hv5)
                  | (go_at_call 21; refine (HPG.out _).mono ?_; rintro e3 w5 ⟨rfl, hw⟩; subst w5; clear HPG))
                go_roundg g
                case measure => omega
                case rel => exact ⟨j + 1, ma', mc', ua', uc', by omega, by rw [HNX.out]; rfl, by go_num, by rw [HNX.out]; exact HCS4.out.take _ _ HV5.out⟩
            · skip
              have HNX : Hid (chooseN pages pss (j + 1) = ⟨⟨be, bp, bms, bus⟩, at0, er0⟩) := HST.out.trans (stepC_no (fun h => absurd (ha1 ▸ h.1) (by simp [h2])))
              clear HST
              have hi1 : ((R : Int) != (j : Int)) = false := by rw [h1]; simp
              have hi3 : (gp != pages) = true := by simpa using h2
              have HI := hide h1
              clear ha1 ha2 hep h1
              go_wp2_with (first
                | (go_at_call 40; refine HWA.out.mono ?_; rintro e3 w2 ⟨a2, c2, rfl, S2, bel2⟩; have cs2 := (HCA.out.below bel2).below ((Below.refl _ w2).alloc (Nat.le_refl _) (.cells #[.int .i64 fk, .int .i64 fp, .int .u64 ge, .slice a2 D.length c2] 59)); have HC2 := hide cs2; have HG3 := hide (HGE.out _ a2 c2 (S2.alloc (.cells #[.int .i64 fk, .int .i64 fp, .int .u64 ge, .slice a2 D.length c2] 59))); clear HGE; clear HWA HCA S2 bel2 cs2)
                | (go_at_call 24; refine HG3.out.mono ?_; rintro e3 w4 ⟨ma', mc', ua', uc', rfl, hv4, bel4⟩; have cs4 := (HC2.out.below bel4).below ((Below.refl _ w4).alloc (Nat.le_refl _) (.cells #[.int .u64 ge, .int .i64 gp, .slice ma' gms.length mc', .slice ua' gus.length uc'] 26)); have hv5 := (hv4.alloc (.cells #[.int .u64 ge, .int .i64 gp, .slice ma' gms.length mc', .slice ua' gus.length uc'] 26)).le (B' := w.heap.size + 2) (by have := HC2.out.blk.lt; omega); obtain ⟨⟨c0, c1, c2', c3⟩, k0, k1, k2, k3⟩ := head_cells cs4.blk; have HCS4 := hide cs4; have HV5 := hide hv5; simp only at c0 c1 c2' c3; unfold hdV; clear HG3 HC2 hv4 bel4 cs4 hv5)
                | (go_at_call 21; refine (HPG.out _).mono ?_; rintro e3 w5 ⟨rfl, hw⟩; subst w5; clear HPG))
              go_roundg g
              case measure => omega
              case rel => exact ⟨j + 1, ma, mc, ua, uc, by omega, by rw [HNX.out]; exact HAR.out, by go_num, by rw [HNX.out]; exact HCS4.out⟩
          · skip
            have HNX : Hid (chooseN pages pss (j + 1) = ⟨⟨be, bp, bms, bus⟩, at0, er0⟩) := HST.out.trans (stepC_no (fun h => absurd (ha1 ▸ h.1) (by simp [h1])))
            clear HST
            have hi1 : ((R : Int) != (j : Int)) = true := by simp; omega
            clear ha1 ha2 hep h1
            go_wp2_with (first
              | (go_at_call 40; refine HWA.out.mono ?_; rintro e3 w2 ⟨a2, c2, rfl, S2, bel2⟩; have cs2 := (HCA.out.below bel2).below ((Below.refl _ w2).alloc (Nat.le_refl _) (.cells #[.int .i64 fk, .int .i64 fp, .int .u64 ge, .slice a2 D.length c2] 59)); have HC2 := hide cs2; have HG3 := hide (HGE.out _ a2 c2 (S2.alloc (.cells #[.int .i64 fk, .int .i64 fp, .int .u64 ge, .slice a2 D.length c2] 59))); clear HGE; clear HWA HCA S2 bel2 cs2)
              | (go_at_call 24; refine HG3.out.mono ?_; rintro e3 w4 ⟨ma', mc', ua', uc', rfl, hv4, bel4⟩; have cs4 := (HC2.out.below bel4).below ((Below.refl _ w4).alloc (Nat.le_refl _) (.cells #[.int .u64 ge, .int .i64 gp, .slice ma' gms.length mc', .slice ua' gus.length uc'] 26)); have hv5 := (hv4.alloc (.cells #[.int .u64 ge, .int .i64 gp, .slice ma' gms.length mc', .slice ua' gus.length uc'] 26)).le (B' := w.heap.size + 2) (by have := HC2.out.blk.lt; omega); obtain ⟨⟨c0, c1, c2', c3⟩, k0, k1, k2, k3⟩ := head_cells cs4.blk; have HCS4 := hide cs4; have HV5 := hide hv5; simp only at c0 c1 c2' c3; unfold hdV; clear HG3 HC2 hv4 bel4 cs4 hv5)
              | (go_at_call 21; refine (HPG.out _).mono ?_; rintro e3 w5 ⟨rfl, hw⟩; subst w5; clear HPG))
            go_roundg g
            case measure => omega
            case rel => exact ⟨j + 1, ma, mc, ua, uc, by omega, by rw [HNX.out]; exact HAR.out, by go_num, by rw [HNX.out]; exact HCS4.out⟩
      · skip
        have HNX : Hid (chooseN pages pss (j + 1) = ⟨⟨be, bp, bms, bus⟩, at0, er0⟩) := HST.out.trans (stepC_no (fun h => absurd (ha1 ▸ h.1) (by simp [h0])))
        clear HST
        have hne : (er != 0) = true := by simpa using h0
        clear ha1 ha2 hep
        go_wp2_with (first
          | (go_at_call 40; refine HWA.out.mono ?_; rintro e3 w2 ⟨a2, c2, rfl, S2, bel2⟩; have cs2 := (HCA.out.below bel2).below ((Below.refl _ w2).alloc (Nat.le_refl _) (.cells #[.int .i64 fk, .int .i64 fp, .int .u64 ep, .slice a2 D.length c2] 59)); have HC2 := hide cs2;  clear HWA HCA S2 bel2 cs2))
        go_roundg g
        case measure => omega
        case rel => exact ⟨j + 1, ma, mc, ua, uc, by omega, by rw [HNX.out]; exact HAR.out, by go_num, by rw [HNX.out]; exact HC2.out⟩

end Go.Proofs.YtmeiahmolmneeaaDoor
/- The walk of the statement HeadChooses. -/
namespace Go.Proofs.YtmeiahmolmneeaaDoor
set_option maxRecDepth 20000
open Go.RowKit
set_option linter.unusedVariables false

set_option maxHeartbeats 4000000 in
theorem headChooses_walk (w : World) (pages : Int) (v : Value) (vs : List Value) (pss : List (List Int)) (hpg : (Lit.int .i64 pages).wf = true) (h : Parts w v vs pss) (hT : Tab w) :
    Calls Tryd.prog 5 #[.int .i64 pages, v] w fun e w' => e = .returned (.bool true) ∧ Below w.heap.size w w' := by
  have HL : Hid (∀ w1, Below w.heap.size w w1 → Calls Tryd.prog 9 #[] w1 fun e w2 => e = .returned (.bool true) ∧ Below w.heap.size w w2) := fun w1 hb => by
    refine (liveH_any w1 (hT.below hb)).mono ?_
    rintro e w2 ⟨rfl, hb2⟩
    exact ⟨rfl, hb.trans (hb2.mono hb.size)⟩
  have HB0 : Hid (Below w.heap.size w w) := Below.refl _ w
  have HP := hide h
  obtain ⟨-, ao, cap, rfl, h1, h2, -, -⟩ := h
  unfold maxLen at h2
  by_cases hn : (8 : Int) < (vs.length : Int)
  · clear hT HP
    go_enter Tryd.func5, Tryd.ntmps5
    go_wp2_with (first
      | (go_at_call 9; refine (HL.out _ HB0.out).mono ?_; rintro e1 w1 ⟨rfl, b1⟩; have HB1 := hide b1; clear HB0 b1)
      | (go_at_call 9; refine (HL.out _ HB1.out).mono ?_; rintro e1 w2 ⟨rfl, b2⟩; clear HB1))
    go_ret
    exact ⟨rfl, b2⟩
  · have hn8 : (vs.length : Int) ≤ 8 := by omega
    have HCO := hide (fun w1 (hb : Below w.heap.size w w1) => choose_any w1 pages _ vs pss (HP.out.below hb) (hT.below hb))
    have HRC := hide (fun w1 (hb : Below w.heap.size w w1) => refChooseH_any w1 pages _ vs pss (HP.out.below hb))
    unfold GivesC at HCO HRC
    obtain ⟨C, hC⟩ : ∃ C, C = chooseS pages pss := ⟨_, rfl⟩
    rw [← hC] at HCO HRC
    obtain ⟨⟨ge, gp, gms, gus⟩, at0, er⟩ := C
    simp only at HCO HRC
    have HSA : Hid (∀ wx va vb, HdV wx va ⟨ge, gp, gms, gus⟩ → HdV wx vb ⟨ge, gp, gms, gus⟩ → Calls Tryd.prog 18 #[va, vb] wx fun r w' => r = .returned (.bool true) ∧ Below wx.heap.size wx w') := by
      intro wx va vb h1 h2
      have := refSameH_any wx va vb _ _ h1 h2
      rwa [sameH_self] at this
    have hza := zeroHeadRun
    clear hT hC
    go_enter Tryd.func5, Tryd.ntmps5
    go_wp2_with (go_at_call 9; refine (HL.out _ HB0.out).mono ?_; rintro e' w1 ⟨rfl, b1⟩; have HB1 := hide b1; clear HB0 b1 HL)
    go_loopg [23] vs.length (fun gl i wr => ∃ j : Nat, gl + j = vs.length ∧ i = .int .i64 j ∧ wr = w1)
    case atStart => exact ⟨0, by omega, rfl, rfl⟩
    case round =>
      obtain ⟨j, hj, rfl, hwr⟩ := hrel
      subst wr
      cases gk with
      | zero =>
        obtain rfl : j = vs.length := by omega
        have HC1 := hide (HCO.out w1 HB1.out)
        clear HCO hn hn8
        go_wp2_with (first
          | (go_at_call 25; refine HC1.out.mono ?_; rintro e' w3 ⟨ma, mc, ua, uc, rfl, V3, hb3⟩; have b3 := HB1.out.trans ((hb3.alloc hb3.size (.cells #[.int .u64 ge, .int .i64 gp, .slice ma gms.length mc, .slice ua gus.length uc] 26)).mono HB1.out.size); have HQ3 := hide (Blk.new w3 26 [.int .u64 ge, .int .i64 gp, .slice ma gms.length mc, .slice ua gus.length uc]); have HV3 := hide (V3.alloc (.cells #[.int .u64 ge, .int .i64 gp, .slice ma gms.length mc, .slice ua gus.length uc] 26)); have HR3 := hide (HRC.out _ b3); have HB3 := hide b3; unfold hdV; clear HC1 HRC V3 hb3 b3 HB1)
          | (go_at_call 26; refine HR3.out.mono ?_; rintro e' w5 ⟨ma5, mc5, ua5, uc5, rfl, V5, hb5⟩; have b5 := hb5.alloc hb5.size (.cells #[.int .u64 ge, .int .i64 gp, .slice ma5 gms.length mc5, .slice ua5 gus.length uc5] 26); have q5 := Blk.new w5 26 [.int .u64 ge, .int .i64 gp, .slice ma5 gms.length mc5, .slice ua5 gus.length uc5]; have v5 := V5.alloc (.cells #[.int .u64 ge, .int .i64 gp, .slice ma5 gms.length mc5, .slice ua5 gus.length uc5] 26); have HS5 := hide (HSA.out _ _ _ (HV3.out.below b5).val v5.val); obtain ⟨c0, c1, c2, c3⟩ := box_cells (HQ3.out.below b5 HQ3.out.lt); obtain ⟨d0, d1, d2, d3⟩ := box_cells q5; have HB5 := hide (HB3.out.trans (b5.mono HB3.out.size)); unfold hdV at HS5 ⊢; clear HR3 HSA V5 hb5 b5 q5 v5 HQ3 HV3 HB3)
          | (go_at_call 18; refine HS5.out.mono ?_; rintro e' w6 ⟨rfl, hb6⟩; clear c0 c1 c2 c3 d0 d1 d2 d3; have HB6 := hide (HB5.out.trans (hb6.mono HB5.out.size)); clear HS5 HB5 hb6))
        go_ret
        exact ⟨rfl, HB6.out⟩
      | succ gl =>
        have hjv : j < vs.length := by omega
        have hji : (j : Int) < (vs.length : Int) := by omega
        obtain ⟨b, off, rfl, cj, sj⟩ := (HP.out.below HB1.out).at j hjv
        obtain ⟨uj, huj⟩ : ∃ u, u = vs.getD j (.slice none 0 0) := ⟨_, rfl⟩
        rw [← huj] at cj sj
        obtain ⟨ja, jn, jc, rfl⟩ := sl_form sj
        clear huj sj
        by_cases hbig : (3000 : Int) < (jn : Int)
        · go_wp2
          go_ret
          exact ⟨rfl, HB1.out⟩
        · have hbig' : decide ((3000 : Int) < (jn : Int)) = false := decide_eq_false hbig
          go_wp2
          go_roundg gl
          case measure => omega
          case rel => exact ⟨j + 1, by omega, by go_num, rfl⟩

end Go.Proofs.YtmeiahmolmneeaaDoor
