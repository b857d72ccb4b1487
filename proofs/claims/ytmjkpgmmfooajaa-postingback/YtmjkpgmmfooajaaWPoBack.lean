/- The walk of PostingBack. -/
import Derived.Test.YtmjkpgmmfooajaaPoLive
import Derived.Test.YtmjkpgmmfooajaaPoFew
import Derived.Test.YtmjkpgmmfooajaaPoOpen
import Derived.Test.YtmjkpgmmfooajaaPoParse
namespace Go.Proofs.Ytmjkpgmmfooajaa
set_option maxRecDepth 20000
open Go.RowKit
set_option linter.unusedVariables false
set_option linter.unusedSimpArgs false
set_option maxRecDepth 100000

theorem parse_facts {zs : List Int} (hb : ByteOk zs) : (parseE zs = 150 ∧ parseR zs = []) ∨ (parseE zs = 0 ∧ listOk 0 (parseR zs) = true ∧ zs = listB 0 (parseR zs)) := by
  obtain ⟨rest, r1, r2, r3, r4, r5, r6⟩ := allG_form zs.length zs.length 0 zs (by omega) hb (Nat.le_refl _) (Nat.le_refl _)
  rw [Nat.sub_self] at r5
  have he : endL (allP 0 zs) = zs.length - rest.length := r5
  unfold parseE parseR
  by_cases h : endL (allP 0 zs) < zs.length
  · rw [if_pos h, if_pos h]
    exact .inl ⟨rfl, rfl⟩
  · rw [if_neg h, if_neg h]
    have hl := congrArg List.length r1
    rw [List.length_append] at hl
    have hr : rest = [] := List.eq_nil_of_length_eq_zero (by omega)
    rw [hr, List.append_nil] at r1
    exact .inr ⟨rfl, r2, r1⟩
theorem parse_list {ps : List Po} (h : listOk 0 ps = true) : parseE (listB 0 ps) = 0 ∧ parseR (listB 0 ps) = ps := by
  have hm : (allP 0 (listB 0 ps)).map (·.2) = ps := allG_list _ ps _ 0 (by omega) h (Nat.le_refl _)
  obtain ⟨rest, r1, r2, r3, r4, r5, r6⟩ := allG_form (listB 0 ps).length (listB 0 ps).length 0 (listB 0 ps) (by omega) (listB_ok _ _) (Nat.le_refl _) (Nat.le_refl _)
  rw [Nat.sub_self] at r5
  have he : endL (allP 0 (listB 0 ps)) = (listB 0 ps).length - rest.length := r5
  have hr : rest = [] := by
    have hl := congrArg List.length r1
    rw [List.length_append] at hl
    have e2 : (allG (listB 0 ps).length (listB 0 ps).length 0 (listB 0 ps)).map (·.2) = ps := hm
    rw [e2] at hl
    exact List.eq_nil_of_length_eq_zero (by omega)
  have hn : ¬ endL (allP 0 (listB 0 ps)) < (listB 0 ps).length := by rw [he, hr]; simp
  unfold parseE parseR
  rw [if_neg hn, if_neg hn, hm]
  exact ⟨rfl, rfl⟩
theorem list_bytes0 {ps : List Po} (h : listOk 0 ps = true) (hn : ps.length ≤ 60) : (listB 0 ps).length ≤ 600600 := by
  have h1 := (list_few ps 0 h).2.2
  omega
theorem live_on {w w' : World} (hb : Below w.heap.size w w') : Calls Try.prog 8 #[] w' fun e w'' => e = .returned (.bool true) ∧ Below w.heap.size w w'' :=
  (live_any w').mono fun e w'' ⟨he, h⟩ => ⟨he, hb.trans (h.mono hb.size)⟩

set_option maxHeartbeats 1000000 in
theorem postingBack_walk (w : World) (v : Value) (us : List Value) (ps : List Po) (vb : Value) (zs : List Int) (h : Pps w v us ps ∧ PosOk ps) (hz : Sl w vb zs) :
    Calls Try.prog 5 #[v, vb] w fun e w' => e = .returned (.bool true) ∧ Below w.heap.size w w' := by
  obtain ⟨h, _⟩ := h
  obtain ⟨ao, cap, rfl, h11, h12⟩ := h.shape
  have hzb := hz.bytes
  obtain ⟨bo, bc, rfl⟩ := sl_form' hz
  have HP := hide h
  have HZ := hide (fun W hb => hz.keep (w' := W) (fun j _ hlt => (hb : Below w.heap.size w W).block j hlt))
  have HL := hide (fun W hb => list_any W _ us ps (h.below (hb : Below w.heap.size w W)))
  have HFW : Hid (∀ W, Below w.heap.size w W → Calls Try.prog 9 #[.slice ao ps.length cap] W fun e w' => e = .returned (.bool (fewB ps)) ∧ Below W.heap.size W w') := fun W hb => few_any W _ us ps (h.below hb)
  obtain ⟨n, hn⟩ : ∃ n, ps.length = n := ⟨_, rfl⟩
  have HN := hide hn
  obtain ⟨bn, hbn⟩ : ∃ n, zs.length = n := ⟨_, rfl⟩
  have HBN := hide hbn
  rw [hn] at HP HL HFW h11 ⊢
  rw [hbn] at HZ ⊢
  have HPF := hide (parse_facts hzb)
  clear h hz hzb hn hbn
  have HL0 : Hid (Below w.heap.size w w) := Below.refl _ _
  cases hf : fewB ps with
  | false =>
    rw [hf] at HFW
    clear hf
    go_enter Try.func5, Try.ntmps5
    go_wp2_with (first
      | (go_at_call 8; refine (live_on HL0.out).mono ?_; rintro e w2 ⟨rfl, hb⟩; have HB2 := hide hb; clear HL0 hb)
      | (go_at_call 9; refine (HFW.out _ HB2.out).mono ?_; rintro e w3 ⟨rfl, hb⟩; have HB3 := hide (HB2.out.trans (hb.mono HB2.out.size)); clear HFW hb HB2)
      | (go_at_call 8; refine (live_on HB3.out).mono ?_; rintro e w4 ⟨rfl, hb⟩; have HB4 := hide hb; clear HB3 hb))
    go_ret
    exact ⟨rfl, HB4.out⟩
  | true =>
    rw [hf] at HFW
    obtain ⟨hf1, _⟩ := few_all hf
    clear hf
    by_cases hb3 : 3000 < bn
    · have hbi : (3000 : Int) < (bn : Int) := by omega
      go_enter Try.func5, Try.ntmps5
      go_wp2_with (first
        | (go_at_call 8; refine (live_on HL0.out).mono ?_; rintro e w2 ⟨rfl, hb⟩; have HB2 := hide hb; clear HL0 hb)
        | (go_at_call 9; refine (HFW.out _ HB2.out).mono ?_; rintro e w3 ⟨rfl, hb⟩; have HB3 := hide (HB2.out.trans (hb.mono HB2.out.size)); clear HFW hb HB2)
        | (go_at_call 8; refine (live_on HB3.out).mono ?_; rintro e w4 ⟨rfl, hb⟩; have HB4 := hide hb; clear HB3 hb))
      go_ret
      exact ⟨rfl, HB4.out⟩
    · have hbi : ¬ (3000 : Int) < (bn : Int) := by omega
      have HPB : Hid (∀ W, Below w.heap.size w W → Calls Try.prog 22 #[.slice bo bn bc] W fun e w' => ∃ u, e = .returned (.tuple #[u, .int .i64 (parseE zs)]) ∧ (∃ us, Pps w' u us (parseR zs)) ∧ Below W.heap.size W w') := fun W hb => parse_any W _ zs (HZ.out W hb) (by have := HBN.out; omega)
      have HSM : Hid (∀ W a m c, Sl W (.slice a m c) zs → Below w.heap.size w W → Calls Try.prog 12 #[.slice a m c, .slice bo bn bc] W fun e w' => e = .returned (.bool true) ∧ Below W.heap.size W w') := fun W a m c hs hb => by
        have := refSame_any W _ _ zs zs hs (HZ.out W hb)
        rwa [decide_eq_true rfl] at this
      have HSA : Hid (∀ W u us', Pps W u us' ps → Below w.heap.size w W → Calls Try.prog 29 #[u, .slice ao n cap] W fun e w' => e = .returned (.bool true) ∧ Below W.heap.size W w') := fun W u us' hp hb => by
        have := refSameAll_any W u _ us' us ps ps hp (HP.out.below hb)
        rwa [sameAllP_refl] at this
      generalize hRR : parseR zs = R at *
      cases hok : listOk 0 ps with
      | false =>
        have hE : listE ps = 150 := by unfold listE; rw [hok]; rfl
        rw [hE] at HL
        generalize listR ps = XS at HL
        clear hok hE HSA
        rcases HPF.out with ⟨hpe, hpr⟩ | ⟨hpe, hpo, hpz⟩
        · rw [hpe] at HPB
          subst hpr
          clear HPF hpe HSM
          have HC := HL0
          clear HL0
          go_enter Try.func5, Try.ntmps5
          go_wp2_with (first
            | (go_at_call 8; refine (live_on HC.out).mono ?_; rintro e w2 ⟨rfl, hb⟩; have HC := hide hb; clear hb)
            | (go_at_call 9; refine (HFW.out _ HC.out).mono ?_; rintro e w3 ⟨rfl, hb⟩; have HC := hide (HC.out.trans (hb.mono HC.out.size)); clear HFW hb)
            | (go_at_call 10; refine (HL.out _ HC.out).mono ?_; rintro e w4 hg; obtain ⟨u4, rfl, _, hb⟩ := hg; have HC := hide (HC.out.trans (hb.mono HC.out.size)); clear HL hb)
            | (go_at_call 22; refine (HPB.out _ HC.out).mono ?_; rintro e w7 ⟨u7, rfl, ⟨us7, hp7⟩, hb⟩; obtain ⟨o7, k7, rfl, _, _⟩ := hp7.shape; have HP7 := hide hp7; have HC := hide (HC.out.trans (hb.mono HC.out.size)); clear HPB hb hp7))
          go_ret
          exact ⟨rfl, HC.out⟩
        · rw [hpe] at HPB
          have HZB : Hid (ByteOk zs) := by show ByteOk zs; rw [hpz]; exact listB_ok _ _
          have HLM : Hid (∀ W u us, Pps W u us R → Calls Try.prog 10 #[u] W (GivesBE W zs 0)) := fun W u us hp => by
            have := list_any W u us R hp
            unfold listR listE at this
            rwa [hpo, if_pos rfl, if_pos rfl, ← hpz] at this
          clear HPF hpe hpo hpz
          generalize R.length = rn at *
          have HC := HL0
          clear HL0
          go_enter Try.func5, Try.ntmps5
          go_wp2_with (first
            | (go_at_call 8; refine (live_on HC.out).mono ?_; rintro e w2 ⟨rfl, hb⟩; have HC := hide hb; clear hb)
            | (go_at_call 9; refine (HFW.out _ HC.out).mono ?_; rintro e w3 ⟨rfl, hb⟩; have HC := hide (HC.out.trans (hb.mono HC.out.size)); clear HFW hb)
            | (go_at_call 10; refine (HL.out _ HC.out).mono ?_; rintro e w4 hg; obtain ⟨u4, rfl, _, hb⟩ := hg; have HC := hide (HC.out.trans (hb.mono HC.out.size)); clear HL hb)
            | (go_at_call 22; refine (HPB.out _ HC.out).mono ?_; rintro e w7 ⟨u7, rfl, ⟨us7, hp7⟩, hb⟩; obtain ⟨o7, k7, rfl, _, _⟩ := hp7.shape; have HP7 := hide hp7; have HC := hide (HC.out.trans (hb.mono HC.out.size)); clear HPB hb hp7)
            | (go_at_call 10; refine (HLM.out _ _ _ HP7.out).mono ?_; rintro e w8 hg; obtain ⟨a8, m8, c8, rfl, hs8, hm8, hb⟩ := hg.sl HZB.out; have HS8 := hide hs8; have HC := hide (HC.out.trans (hb.mono HC.out.size)); clear HLM hb hg hs8 hm8)
            | (go_at_call 12; refine (HSM.out _ _ _ _ HS8.out HC.out).mono ?_; rintro e w9 ⟨rfl, hb⟩; have HC := hide (HC.out.trans (hb.mono HC.out.size)); clear HSM hb))
          go_ret
          exact ⟨rfl, HC.out⟩
      | true =>
        have hE : listE ps = 0 := by unfold listE; rw [hok]; rfl
        have hR : listR ps = listB 0 ps := by unfold listR; rw [if_pos hok]
        rw [hE, hR] at HL
        have hbl := list_bytes0 hok (by have := HN.out; omega)
        obtain ⟨hq1, hq2⟩ := parse_list hok
        have HPX : Hid (∀ W a m c, Sl W (.slice a m c) (listB 0 ps) → Calls Try.prog 22 #[.slice a m c] W fun e w' => ∃ u, e = .returned (.tuple #[u, .int .i64 0]) ∧ (∃ us, Pps w' u us ps) ∧ Below W.heap.size W w') := fun W a m c hs => by
          have := parse_any W _ _ hs (by omega)
          rwa [hq1, hq2] at this
        have HXB : Hid (ByteOk (listB 0 ps)) := listB_ok _ _
        generalize listB 0 ps = XS at *
        clear hok hE hR hbl hq1 hq2
        rcases HPF.out with ⟨hpe, hpr⟩ | ⟨hpe, hpo, hpz⟩
        · rw [hpe] at HPB
          subst hpr
          clear HPF hpe HSM
          have HC := HL0
          clear HL0
          go_enter Try.func5, Try.ntmps5
          go_wp2_with (first
            | (go_at_call 8; refine (live_on HC.out).mono ?_; rintro e w2 ⟨rfl, hb⟩; have HC := hide hb; clear hb)
            | (go_at_call 9; refine (HFW.out _ HC.out).mono ?_; rintro e w3 ⟨rfl, hb⟩; have HC := hide (HC.out.trans (hb.mono HC.out.size)); clear HFW hb)
            | (go_at_call 10; refine (HL.out _ HC.out).mono ?_; rintro e w4 hg; obtain ⟨a4, m4, c4, rfl, hs4, hm4, hb⟩ := hg.sl HXB.out; have HS4 := hide hs4; have HC := hide (HC.out.trans (hb.mono HC.out.size)); clear HL hb hg hs4 hm4)
            | (go_at_call 22; refine (HPX.out _ _ _ _ HS4.out).mono ?_; rintro e w5 ⟨u5, rfl, ⟨us5, hp5⟩, hb⟩; obtain ⟨o5, k5, rfl, _, _⟩ := hp5.shape; have HP5 := hide hp5; have HC := hide (HC.out.trans (hb.mono HC.out.size)); clear HPX hb hp5 HS4)
            | (go_at_call 29; refine (HSA.out _ _ _ HP5.out HC.out).mono ?_; rintro e w6 ⟨rfl, hb⟩; have HC := hide (HC.out.trans (hb.mono HC.out.size)); clear HSA hb HP5)
            | (go_at_call 22; refine (HPB.out _ HC.out).mono ?_; rintro e w7 ⟨u7, rfl, ⟨us7, hp7⟩, hb⟩; obtain ⟨o7, k7, rfl, _, _⟩ := hp7.shape; have HP7 := hide hp7; have HC := hide (HC.out.trans (hb.mono HC.out.size)); clear HPB hb hp7))
          go_ret
          exact ⟨rfl, HC.out⟩
        · rw [hpe] at HPB
          have HZB : Hid (ByteOk zs) := by show ByteOk zs; rw [hpz]; exact listB_ok _ _
          have HLM : Hid (∀ W u us, Pps W u us R → Calls Try.prog 10 #[u] W (GivesBE W zs 0)) := fun W u us hp => by
            have := list_any W u us R hp
            unfold listR listE at this
            rwa [hpo, if_pos rfl, if_pos rfl, ← hpz] at this
          clear HPF hpe hpo hpz
          generalize R.length = rn at *
          have HC := HL0
          clear HL0
          go_enter Try.func5, Try.ntmps5
          go_wp2_with (first
            | (go_at_call 8; refine (live_on HC.out).mono ?_; rintro e w2 ⟨rfl, hb⟩; have HC := hide hb; clear hb)
            | (go_at_call 9; refine (HFW.out _ HC.out).mono ?_; rintro e w3 ⟨rfl, hb⟩; have HC := hide (HC.out.trans (hb.mono HC.out.size)); clear HFW hb)
            | (go_at_call 10; refine (HL.out _ HC.out).mono ?_; rintro e w4 hg; obtain ⟨a4, m4, c4, rfl, hs4, hm4, hb⟩ := hg.sl HXB.out; have HS4 := hide hs4; have HC := hide (HC.out.trans (hb.mono HC.out.size)); clear HL hb hg hs4 hm4)
            | (go_at_call 22; refine (HPX.out _ _ _ _ HS4.out).mono ?_; rintro e w5 ⟨u5, rfl, ⟨us5, hp5⟩, hb⟩; obtain ⟨o5, k5, rfl, _, _⟩ := hp5.shape; have HP5 := hide hp5; have HC := hide (HC.out.trans (hb.mono HC.out.size)); clear HPX hb hp5 HS4)
            | (go_at_call 29; refine (HSA.out _ _ _ HP5.out HC.out).mono ?_; rintro e w6 ⟨rfl, hb⟩; have HC := hide (HC.out.trans (hb.mono HC.out.size)); clear HSA hb HP5)
            | (go_at_call 22; refine (HPB.out _ HC.out).mono ?_; rintro e w7 ⟨u7, rfl, ⟨us7, hp7⟩, hb⟩; obtain ⟨o7, k7, rfl, _, _⟩ := hp7.shape; have HP7 := hide hp7; have HC := hide (HC.out.trans (hb.mono HC.out.size)); clear HPB hb hp7)
            | (go_at_call 10; refine (HLM.out _ _ _ HP7.out).mono ?_; rintro e w8 hg; obtain ⟨a8, m8, c8, rfl, hs8, hm8, hb⟩ := hg.sl HZB.out; have HS8 := hide hs8; have HC := hide (HC.out.trans (hb.mono HC.out.size)); clear HLM hb hg hs8 hm8)
            | (go_at_call 12; refine (HSM.out _ _ _ _ HS8.out HC.out).mono ?_; rintro e w9 ⟨rfl, hb⟩; have HC := hide (HC.out.trans (hb.mono HC.out.size)); clear HSM hb))
          go_ret
          exact ⟨rfl, HC.out⟩

end Go.Proofs.Ytmjkpgmmfooajaa
