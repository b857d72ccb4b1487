/- The walk of the statement CrcSums. -/
import Derived.Test.YtaahmpoldpdbjaaDoorCrcOf
import Derived.OpenShut
namespace Go.Proofs.YtaahmpoldpdbjaaDoor
open Go.RowKit

def fewB (pss : List (List Int)) : Bool := decide (pss.length ≤ 60) && pss.all fun p => decide (p.length ≤ 3000)

theorem few_any (w : World) (v : Value) (vs : List Value) (pss : List (List Int)) (h : Parts w v vs pss) :
    Calls Tryd.prog 10 #[v] w fun e w' => e = .returned (.bool (fewB pss)) ∧ w' = w := by
  obtain ⟨hl, ao, cap, rfl, h1, h2, h3, h4⟩ := h
  unfold maxLen at h2
  have HL := hide hl
  have H3 := hide h3
  have H4 := hide h4
  by_cases h60 : vs.length ≤ 60
  · have i60 : ¬ (60 : Int) < (vs.length : Int) := by omega
    clear hl h3 h4
    go_enter Tryd.func10, Tryd.ntmps10
    go_wp2
    go_loopg [10] vs.length (fun g i wr => ∃ k : Nat, g + k = vs.length ∧ ((pss.take k).all fun p => decide (p.length ≤ 3000)) = true ∧ i = .int .i64 k ∧ w = wr)
    case atStart => exact ⟨0, by omega, rfl, rfl, rfl⟩
    case round =>
      obtain ⟨k, hk, ha, rfl, rfl⟩ := hrel
      have HA := hide ha
      clear ha
      cases gk with
      | zero =>
        obtain rfl : k = vs.length := by omega
        go_wp2
        go_ret
        refine ⟨ret_bool ?_, rfl⟩
        have := HA.out
        rw [HL.out, List.take_length] at this
        unfold fewB
        rw [this, ← HL.out]
        simp [h60]
      | succ g =>
        have hkl : k < vs.length := by omega
        have hki : (k : Int) < (vs.length : Int) := by omega
        obtain ⟨b, o, rfl, hc⟩ := H4.out (by intro h; simp [h] at hkl)
        have c1 := hc k hkl
        have hp := H3.out k hkl
        obtain ⟨u, hu⟩ : ∃ u, u = vs.getD k (.slice none 0 0) := ⟨_, rfl⟩
        obtain ⟨ps, hps⟩ : ∃ ps, ps = pss.getD k [] := ⟨_, rfl⟩
        rw [← hu] at c1 hp
        rw [← hps] at hp
        have hmem : ps ∈ pss := by
          have hk2 : k < pss.length := HL.out ▸ hkl
          rw [hps]
          simp [List.getD, hk2]
        have HMEM := hide hmem
        have HPS := hide hps
        clear hc hu hps H4 H3 hmem
        obtain ⟨_, pao, pcap, rfl, _⟩ := hp
        by_cases h3 : ps.length ≤ 3000
        · have i3 : ¬ (3000 : Int) < (ps.length : Int) := by omega
          go_wp2
          go_roundg g
          case measure => omega
          case rel =>
            refine ⟨k + 1, by omega, ?_, by go_num, rfl⟩
            have hk2 : k < pss.length := HL.out ▸ hkl
            rw [List.take_succ_eq_append_getElem hk2, List.all_append, HA.out]
            have e : pss[k] = ps := by rw [HPS.out]; simp [List.getD, hk2]
            simp [e, h3]
        · have i3 : (3000 : Int) < (ps.length : Int) := by omega
          go_wp2
          go_ret
          refine ⟨ret_bool ?_, rfl⟩
          have : (pss.all fun p => decide (p.length ≤ 3000)) = false := by
            rw [← Bool.not_eq_true, List.all_eq_true]
            intro h
            exact h3 (by simpa using h ps HMEM.out)
          unfold fewB
          rw [this, Bool.and_false]
  · have i60 : (60 : Int) < (vs.length : Int) := by omega
    have hf : fewB pss = false := by
      unfold fewB
      rw [← hl]
      simp [h60]
    clear hl h3 h4
    go_enter Tryd.func10, Tryd.ntmps10
    go_wp2
    go_ret
    exact ⟨ret_bool hf.symm, rfl⟩

theorem Parts.below {w w' : World} {v : Value} {vs : List Value} {pss : List (List Int)} (h : Parts w v vs pss) (hb : Below w.heap.size w w') : Parts w' v vs pss := by
  obtain ⟨hl, ao, cap, rfl, h1, h2, h3, h4⟩ := h
  refine ⟨hl, ao, cap, rfl, h1, h2, fun i hi => (h3 i hi).below hb, fun hne => ?_⟩
  obtain ⟨b, off, rfl, hc⟩ := h4 hne
  refine ⟨b, off, rfl, fun i hi => ?_⟩
  have hlt := World.block_lt_of_cell? w _ (hc i hi)
  rw [World.cell?_of_block (w := w) (hb.block b hlt)]
  exact hc i hi

set_option maxHeartbeats 400000 in
theorem crcSums_walk (w : World) (a0 : Int) (v : Value) (vs : List Value) (pss : List (List Int)) (w0 : (Lit.int .u32 a0).wf = true) (h : Parts w v vs pss) (hT : Tab w) :
    Calls Tryd.prog 3 #[.int .u32 a0, v] w fun e w' => e = .returned (.bool true) ∧ Below w.heap.size w w' := by
  have b0 := bounds_u32 w0
  obtain ⟨s, rfl⟩ := Int.eq_ofNat_of_zero_le b0.1
  clear w0
  have HL := hide (live_any w hT)
  have HT := hide hT
  have HP := hide h
  have hv := h.2
  clear h hT
  obtain ⟨ao, cap, rfl, _⟩ := hv
  cases hf : fewB pss with
  | false =>
    have HF := fun w' (hp : Parts w' (.slice ao vs.length cap) vs pss) => few_any w' _ _ _ hp
    rw [hf] at HF
    have HFF := hide HF
    clear HF
    go_enter Tryd.func3, Tryd.ntmps3
    go_wp2_with (first
      | (go_at_call 9; refine HL.out.mono ?_; rintro e w1 ⟨rfl, hb1⟩; have HP1 := hide (HP.out.below hb1); have HL2 := hide (live_any w1 (HT.out.below hb1)); clear HL HP HT)
      | (go_at_call 10; refine (HFF.out _ HP1.out).mono ?_; rintro e w2 ⟨rfl, hw⟩; subst w2; clear HFF)
      | (go_at_call 9; refine HL2.out.mono ?_; rintro e w3 ⟨rfl, hb3⟩; clear HL2))
    go_ret
    exact ⟨rfl, below_then hb1 hb3 (Nat.le_refl _)⟩
  | true =>
    have HF := fun w' (hp : Parts w' (.slice ao vs.length cap) vs pss) => few_any w' _ _ _ hp
    rw [hf] at HF
    have HFF := hide HF
    clear HF
    have H1 := hide (fun w' (hT : Tab w') (hp : Parts w' (.slice ao vs.length cap) vs pss) => crcOf_any w' _ _ _ hT hp)
    have H2 := hide (fun w' (hp : Parts w' (.slice ao vs.length cap) vs pss) => refOf_any w' _ _ _ hp)
    have H3 := hide (fun w' (hT : Tab w') (hp : Parts w' (.slice ao vs.length cap) vs pss) => crcAdd_any w' s _ _ _ (by omega) hT hp)
    have H4 := hide (fun w' (hp : Parts w' (.slice ao vs.length cap) vs pss) => refAdd_any w' s _ _ _ (by omega) hp)
    go_enter Tryd.func3, Tryd.ntmps3
    go_wp2_with (first
      | (go_at_call 9; refine HL.out.mono ?_; rintro e w1 ⟨rfl, hb1⟩; have HP1 := hide (HP.out.below hb1); have HT1 := hide (HT.out.below hb1); clear HL HP HT)
      | (go_at_call 10; refine (HFF.out _ HP1.out).mono ?_; rintro e w2 ⟨rfl, hw⟩; subst w2; clear HFF)
      | (go_at_call 11; refine (H1.out _ HT1.out HP1.out).mono ?_; rintro e w2 ⟨rfl, hw⟩; subst w2; clear H1)
      | (go_at_call 12; refine (H2.out _ HP1.out).mono ?_; rintro e w2 ⟨rfl, hw⟩; subst w2; clear H2)
      | (go_at_call 13; refine (H3.out _ HT1.out HP1.out).mono ?_; rintro e w2 ⟨rfl, hw⟩; subst w2; clear H3)
      | (go_at_call 14; refine (H4.out _ HP1.out).mono ?_; rintro e w2 ⟨rfl, hw⟩; subst w2; clear H4))
    go_ret
    exact ⟨rfl, hb1⟩

end Go.Proofs.YtaahmpoldpdbjaaDoor
