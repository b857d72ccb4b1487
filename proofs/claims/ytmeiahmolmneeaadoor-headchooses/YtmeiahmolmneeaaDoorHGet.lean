/- Contract: the head of what a page bears (head.Get). -/
import Derived.Test.YtmeiahmolmneeaaDoorHRead
namespace Go.Proofs.YtmeiahmolmneeaaDoor
set_option maxRecDepth 20000
open Go.RowKit
set_option linter.unusedVariables false

theorem readS_e (e : Nat) (zs : List Int) : (readS e zs).e = e := rfl

theorem getB_no1 {e : Nat} {zs : List Int} (h : mayB (readS e zs).p (readS e zs).ms (readS e zs).us.length = false) : getB e zs = false := by unfold getB; rw [h]; rfl
theorem getB_no2 {e : Nat} {zs : List Int} (h : ¬ bearS (readS e zs).p (readS e zs).ms (readS e zs).us = zs) : getB e zs = false := by unfold getB; rw [decide_eq_false h, Bool.and_false]
theorem getB_yes {e : Nat} {zs : List Int} (h : mayB (readS e zs).p (readS e zs).ms (readS e zs).us.length = true) (h2 : bearS (readS e zs).p (readS e zs).ms (readS e zs).us = zs) : getB e zs = true := by unfold getB; rw [h, decide_eq_true h2]; rfl

/-- a head that was answered, with an error -/
def GivesH (w : World) (h : Hd) (er : Int) (r : Ending) (w' : World) : Prop :=
  ∃ ma mc ua uc, r = .returned (.tuple #[hdV h.e h.p ma h.ms.length mc ua h.us.length uc, .int .i64 er]) ∧ HdO w' (w.heap.size + 1) (hdV h.e h.p ma h.ms.length mc ua h.us.length uc) h ∧ Below w.heap.size w w'
theorem GivesH.no {w w' : World} (er : Int) (hb : Below w.heap.size w w') : GivesH w noHd er (.returned (.tuple #[hdV 0 0 none 0 0 none 0 0, .int .i64 er])) w' := ⟨none, 0, none, 0, rfl, HdO.no w' _, hb⟩

set_option maxHeartbeats 2000000 in
theorem hget_any (w : World) (e : Nat) (v : Value) (zs : List Int) (h : Sl w v zs) (hl : zs.length ≤ 50000) (he : e < 18446744073709551616) :
    Calls Tryd.prog 23 #[.int .u64 e, v] w (GivesH w (getH e zs) (getE e zs)) := by
  have HN := hide (Hs.new w)
  have HRD := hide (hread_any _ e v zs (h.below HN.out.1) hl he)
  have HSL := hide (h.below HN.out.1)
  obtain ⟨ao, cap, rfl⟩ := sl_form' h
  have hza := zeroHeadRun
  have hre := readS_e e zs
  have HN1 := hide (getB_no1 (e := e) (zs := zs))
  have HN2 := hide (getB_no2 (e := e) (zs := zs))
  have HY := hide (getB_yes (e := e) (zs := zs))
  have HGH : Hid (getH e zs = if getB e zs = true then readS e zs else noHd) := rfl
  have HGE : Hid (getE e zs = if getB e zs = true then 0 else 60) := rfl
  obtain ⟨G, hG⟩ : ∃ G, G = readS e zs := ⟨_, rfl⟩
  rw [← hG] at HRD HN1 HN2 HY HGH hre
  obtain ⟨e', p, ms, us⟩ := G
  simp only at hre HN1 HN2 HY
  subst hre
  clear h hG
  have HPB : Hid (∀ (w1 : World) ma mc ua uc, HdV w1 (hdV e' p ma ms.length mc ua us.length uc) ⟨e', p, ms, us⟩ → mayB p ms us.length = false → Calls Tryd.prog 11 #[.agg #[.int .u64 e', .int .i64 p, .slice ma ms.length mc, .slice ua us.length uc]] w1 fun r w' => r = .returned (.tuple #[.slice none 0 0, .int .i64 60]) ∧ Below w1.heap.size w1 w') := by
    intro w1 ma mc ua uc hv hm
    obtain ⟨ma', mc', ua', uc', hh, hI, _⟩ := hv
    unfold hdV at hh
    simp at hh
    obtain ⟨⟨rfl, rfl⟩, rfl, rfl⟩ := hh
    exact hput_bad w1 e' p ma ua mc us.length uc ms hI hm
  have HPO : Hid (∀ (w1 : World) ma mc ua uc, HdV w1 (hdV e' p ma ms.length mc ua us.length uc) ⟨e', p, ms, us⟩ → mayB p ms us.length = true → Calls Tryd.prog 11 #[.agg #[.int .u64 e', .int .i64 p, .slice ma ms.length mc, .slice ua us.length uc]] w1 fun r w' => ∃ g, r = .returned (.tuple #[.slice (some ⟨g, 0, none⟩) 240 240, .int .i64 0]) ∧ w1.heap.size ≤ g ∧ Blk w' g 5 (pc (bearS p ms us)) ∧ Below w1.heap.size w1 w') := by
    intro w1 ma mc ua uc hv hm
    exact hput_ok w1 _ ⟨e', p, ms, us⟩ hv hm
  cases hm : mayB p ms us.length with
  | false =>
    have hb := HN1.out hm
    rw [HGH.out, HGE.out, hb]
    simp only [Bool.false_eq_true, if_false]
    clear HN1 HN2 HY HGH HGE hb HPO
    go_enter Tryd.func23, Tryd.ntmps23
    go_wp2_with (first
      | (go_at_call 38; refine HRD.out.mono ?_; rintro e3 w2 ⟨u2, rfl, hv2, bel2⟩; have hvo := hv2; obtain ⟨ma, mc, ua, uc, rfl, hI, hS, _, _⟩ := hv2; have hs2 := HN.out.below bel2; have hv2 := hvo.val; have hs3 := hs2.alloc (.cells #[.int .u64 e', .int .i64 p, .slice ma ms.length mc, .slice ua us.length uc] 26); have HP2 := hide (HPB.out _ ma mc ua uc (hv2.alloc (.cells #[.int .u64 e', .int .i64 p, .slice ma ms.length mc, .slice ua us.length uc] 26)) hm); have HS3 := hide hs3; unfold hdV; clear HRD HPB HN hI hS hs2 hv2 hvo hs3 bel2)
      | (go_at_call 11; refine HP2.out.mono ?_; rintro e3 w4 ⟨rfl, bel4⟩; have hs4 := HS3.out.below bel4; obtain ⟨⟨d0, d1, d2, d3⟩, k0, k1, k2, k3⟩ := head_cells hs4.2; have HS4 := hide hs4; clear HP2 HS3 hs4 bel4))
    (try simp only [Exit.inBlock, Exit.then])
    obtain ⟨s1, s2, s3⟩ := HS4.out.store (.int .u64 0) (.int .i64 0) (.slice none 0 0) (.slice none 0 0)
    refine bodyPost_ret (ret_head1 rfl _ _ w.heap.size _ _ _ _ _ rfl rfl s1) rfl ?_
    exact GivesH.no 60 s2
  | true =>
    have HXE : Hid (∀ (w1 : World) (g : Nat), Blk w1 g 5 (pc (bearS p ms us)) → Sl w1 (.slice ao zs.length cap) zs → Sl w1 (.slice (some ⟨g, 0, none⟩) 240 240) (bearS p ms us) → Calls Tryd.prog 19 #[.slice (some ⟨g, 0, none⟩) 240 240, .slice ao zs.length cap] w1 fun r w' => r = .returned (.bool (decide (bearS p ms us = zs))) ∧ w' = w1) := fun w1 g hk hs hb => equal_any w1 _ _ _ _ hb hs
    by_cases hbz : bearS p ms us = zs
    · have hb := HY.out hm hbz
      rw [HGH.out, HGE.out, hb]
      simp only [if_true]
      rw [decide_eq_true hbz] at HXE
      clear HN1 HN2 HY HGH HGE hb HPB
      go_enter Tryd.func23, Tryd.ntmps23
      go_wp2_with (first
        | (go_at_call 38; refine HRD.out.mono ?_; rintro e3 w2 ⟨u2, rfl, hv2, bel2⟩; have hvo := hv2; obtain ⟨ma, mc, ua, uc, rfl, hI, hS, _, _⟩ := hv2; have hs2 := HN.out.below bel2; have hv2 := hvo.val; have hv3 := hv2.alloc (.cells #[.int .u64 e', .int .i64 p, .slice ma ms.length mc, .slice ua us.length uc] 26); have hs3 := hs2.alloc (.cells #[.int .u64 e', .int .i64 p, .slice ma ms.length mc, .slice ua us.length uc] 26); have HP2 := hide (HPO.out _ ma mc ua uc hv3 hm); have HS3 := hide hs3; have HV3 := hide (hvo.alloc (.cells #[.int .u64 e', .int .i64 p, .slice ma ms.length mc, .slice ua us.length uc] 26)); have HZ3 := hide ((HSL.out.below bel2).alloc (.cells #[.int .u64 e', .int .i64 p, .slice ma ms.length mc, .slice ua us.length uc] 26)); have HOK := hide (bearS_ok hm hS.bytes); have HK3 := hide (Blk.new w2 26 [.int .u64 e', .int .i64 p, .slice ma ms.length mc, .slice ua us.length uc]); unfold hdV; clear HRD HPO HN hI hS hs2 hv2 hv3 hvo hs3 bel2)
        | (go_at_call 11; refine HP2.out.mono ?_; rintro e3 w4 ⟨g4, rfl, hg4, k4, bel4⟩; have hs4 := HS3.out.below bel4; have hv4 := HV3.out.below bel4; have HE4 := hide (HXE.out w4 g4 k4 (HZ3.out.below bel4) (sl_blk k4 HOK.out (bearS_len hm) (by unfold maxLen; omega))); obtain ⟨⟨c0, c1, c2, c3⟩, _⟩ := head_cells (HK3.out.below bel4 HK3.out.lt); obtain ⟨⟨d0, d1, d2, d3⟩, k0, k1, k2, k3⟩ := head_cells hs4.2; have HS4 := hide hs4; have HV4 := hide hv4; clear HP2 HS3 HV3 HZ3 HXE HK3 hs4 hv4 k4 bel4)
        | (go_at_call 19; refine HE4.out.mono ?_; rintro e3 w5 ⟨rfl, hw⟩; subst w5; clear HE4))
      (try simp only [Exit.inBlock, Exit.then])
      obtain ⟨s1, s2, s3⟩ := HS4.out.store (.int .u64 e') (.int .i64 p) (.slice ma ms.length mc) (.slice ua us.length uc)
      refine bodyPost_ret (ret_head1 rfl _ _ w.heap.size _ _ _ _ _ rfl rfl s1) rfl ?_
      refine ⟨ma, mc, ua, uc, rfl, ?_, s2⟩
      rw [World.size_alloc] at HV4
      exact (HV4.out.only (laidH_only w4 w.heap.size _ _ _ _) (fun k hk => by omega)).le (by omega)
    · have hb := HN2.out hbz
      rw [HGH.out, HGE.out, hb]
      simp only [Bool.false_eq_true, if_false]
      rw [decide_eq_false hbz] at HXE
      clear HN1 HN2 HY HGH HGE hb HPB
      go_enter Tryd.func23, Tryd.ntmps23
      go_wp2_with (first
        | (go_at_call 38; refine HRD.out.mono ?_; rintro e3 w2 ⟨u2, rfl, hv2, bel2⟩; have hvo := hv2; obtain ⟨ma, mc, ua, uc, rfl, hI, hS, _, _⟩ := hv2; have hs2 := HN.out.below bel2; have hv2 := hvo.val; have hv3 := hv2.alloc (.cells #[.int .u64 e', .int .i64 p, .slice ma ms.length mc, .slice ua us.length uc] 26); have hs3 := hs2.alloc (.cells #[.int .u64 e', .int .i64 p, .slice ma ms.length mc, .slice ua us.length uc] 26); have HP2 := hide (HPO.out _ ma mc ua uc hv3 hm); have HS3 := hide hs3; have HV3 := hide (hvo.alloc (.cells #[.int .u64 e', .int .i64 p, .slice ma ms.length mc, .slice ua us.length uc] 26)); have HZ3 := hide ((HSL.out.below bel2).alloc (.cells #[.int .u64 e', .int .i64 p, .slice ma ms.length mc, .slice ua us.length uc] 26)); have HOK := hide (bearS_ok hm hS.bytes); have HK3 := hide (Blk.new w2 26 [.int .u64 e', .int .i64 p, .slice ma ms.length mc, .slice ua us.length uc]); unfold hdV; clear HRD HPO HN hI hS hs2 hv2 hv3 hvo hs3 bel2)
        | (go_at_call 11; refine HP2.out.mono ?_; rintro e3 w4 ⟨g4, rfl, hg4, k4, bel4⟩; have hs4 := HS3.out.below bel4; have hv4 := HV3.out.below bel4; have HE4 := hide (HXE.out w4 g4 k4 (HZ3.out.below bel4) (sl_blk k4 HOK.out (bearS_len hm) (by unfold maxLen; omega))); obtain ⟨⟨c0, c1, c2, c3⟩, _⟩ := head_cells (HK3.out.below bel4 HK3.out.lt); obtain ⟨⟨d0, d1, d2, d3⟩, k0, k1, k2, k3⟩ := head_cells hs4.2; have HS4 := hide hs4; have HV4 := hide hv4; clear HP2 HS3 HV3 HZ3 HXE HK3 hs4 hv4 k4 bel4)
        | (go_at_call 19; refine HE4.out.mono ?_; rintro e3 w5 ⟨rfl, hw⟩; subst w5; clear HE4))
      (try simp only [Exit.inBlock, Exit.then])
      obtain ⟨s1, s2, s3⟩ := HS4.out.store (.int .u64 0) (.int .i64 0) (.slice none 0 0) (.slice none 0 0)
      refine bodyPost_ret (ret_head1 rfl _ _ w.heap.size _ _ _ _ _ rfl rfl s1) rfl ?_
      exact GivesH.no 60 s2

end Go.Proofs.YtmeiahmolmneeaaDoor
