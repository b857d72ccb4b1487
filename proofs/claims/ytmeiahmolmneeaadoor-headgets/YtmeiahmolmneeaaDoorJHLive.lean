/- Contracts: the head of the chapter's example (incipitlaw06.some), a head's page (incipitlaw06.lay), that the example is as the chapter says (incipitlaw06.live). What is chosen of a head's page. -/
import Derived.Test.YtmeiahmolmneeaaDoorHLay
import Derived.Test.YtmeiahmolmneeaaDoorJHAt
import Derived.Test.YtmeiahmolmneeaaDoorHRefSame
namespace Go.Proofs.YtmeiahmolmneeaaDoor
set_option maxRecDepth 20000
open Go.RowKit
set_option linter.unusedVariables false

/-! ### what counts of a head's page -/
theorem want_lay (h : Hd) (hm : mayB h.p h.ms h.us.length = true) (he : h.e < 18446744073709551616) (i : Nat) :
    wantS (layS h) i [1] = if h.e % 2 = i then ⟨0, 1, i, h.e, bearS h.p h.ms h.us⟩ else noFr 41 := by
  have hg := getS_page 1 (h.e % 2) h.e (bearS h.p h.ms h.us) i (by omega) (by omega) he
  rw [loadS_zero (by rw [bearS_len hm]; omega), padTo_full (by rw [bearS_len hm]; omega)] at hg
  have hl : getS (layS h) i = if ((h.e % 2 : Nat) : Int) = (i : Int) then ⟨0, (1 : Nat), (h.e % 2 : Nat), h.e, bearS h.p h.ms h.us⟩ else noFr 41 := hg
  by_cases hi : h.e % 2 = i
  · rw [if_pos (by omega)] at hl
    rw [wantS_yes (by rw [hl]) (by rw [hl]; simp), hl, if_pos hi, hi]
    rfl
  · rw [if_neg (by omega)] at hl
    rw [wantS_err [1] (by rw [hl]; simp [noFr]), hl, if_neg hi]
    rfl
theorem at_lay (h : Hd) (hm : mayB h.p h.ms h.us.length = true) (he : h.e < 18446744073709551616) (i : Nat) (pages : Int) :
    atB i (layS h) pages = decide (h.e % 2 = i ∧ h.p = pages) ∧ (h.e % 2 = i → h.p = pages → atH i (layS h) pages = h) := by
  have hw := want_lay h hm he i
  by_cases hi : h.e % 2 = i
  · rw [if_pos hi] at hw
    obtain ⟨g1, g2⟩ := getH_bear h.e h.p h.ms h.us hm
    have gb := getB_bear h.e h.p h.ms h.us hm
    have hb : atB i (layS h) pages = decide (h.e % 2 = i ∧ h.p = pages) := by
      unfold atB
      rw [hw]
      simp only
      rw [gb, g1]
      simp [hi]
    refine ⟨hb, fun _ hp => ?_⟩
    unfold atH
    rw [hb, if_pos (decide_eq_true ⟨hi, hp⟩), hw]
    exact g1
  · rw [if_neg hi] at hw
    refine ⟨?_, fun h => absurd h hi⟩
    unfold atB
    rw [hw]
    simp [noFr, hi]
theorem at_short (i : Nat) (zs : List Int) (pages : Int) (h : zs.length ≠ 256) : atB i zs pages = false := by
  have : (wantS zs i [1]).err ≠ 0 := by
    have hg : getS zs i = noFr 1 := by unfold getS; rw [if_pos h]
    rw [wantS_err [1] (by rw [hg]; simp [noFr]), hg]
    simp [noFr]
  unfold atB
  rw [decide_eq_false this]
  rfl

/-- b[:h], its value shown -/
theorem cut_hd (ao : Option Addr) (n cap h : Nat) (h2 : h ≤ cap) (wx : World) :
    (Instr.slice 24 (.slice ao n cap) none (some (.int .i64 h)) none).run Tryd.prog wx = .ok (.slice ao h cap) wx := by
  rw [run_slice_h wx 24 ao n cap tySl .i64 h (by omega) (by omega), szSl]
  simp only [Result.andThen, sliced, Int.toNat_natCast]
  by_cases hc : cap = 0
  · rw [if_pos hc]; rfl
  · rw [if_neg hc]
    cases ao with
    | none => rfl
    | some x => simp [Addr.add]

/-! ### the example -/
def some6 : Hd := ⟨9, 64, [2], [7]⟩
theorem some6_may : mayB some6.p some6.ms some6.us.length = true := by decide
theorem some6_bear : (bearS some6.p some6.ms some6.us).take 8 = [0, 64, 1, 0, 2, 1, 7, 0] := by decide
theorem some6_choose : chooseS 64 [[], layS some6] = ⟨some6, 1, 0⟩ := by
  have h1 := at_lay some6 some6_may (by decide) 1 64
  have h0 := at_short 0 [] 64 (by simp)
  have e1 : atB 1 (layS some6) 64 = true := by rw [h1.1]; decide
  have e2 : atH 1 (layS some6) 64 = some6 := h1.2 rfl rfl
  show stepC (stepC ⟨noHd, 0, 60⟩ 0 (atB 0 [] 64) (atH 0 [] 64)) 1 (atB 1 (layS some6) 64) (atH 1 (layS some6) 64) = _
  have s0 : stepC ⟨noHd, 0, 60⟩ 0 (atB 0 [] 64) (atH 0 [] 64) = ⟨noHd, 0, 60⟩ := by rw [h0]; exact stepC_no (by simp)
  rw [s0, e1, e2, stepC_yes rfl (.inl (by simp))]
  rfl

theorem is_lit1 (w : World) (x : Int) : Is (w.alloc (.cells #[.int .i64 x] 3)) (.slice (some ⟨w.heap.size, 0, none⟩) 1 1) [x] := by
  refine ⟨some ⟨w.heap.size, 0, none⟩, 1, rfl, Nat.le_refl _, by simp [maxLen], fun _ => ⟨w.heap.size, 0, rfl, fun i hi => ?_⟩⟩
  have hi0 : i = 0 := by simp at hi; omega
  subst hi0
  exact (Blk.new w 3 [.int .i64 x]).cell 0

theorem some_any (w : World) : Calls Tryd.prog 29 #[] w fun r w' => ∃ ma ua, r = .returned (hdV 9 64 ma 1 1 ua 1 1) ∧ HdV w' (hdV 9 64 ma 1 1 ua 1 1) some6 ∧ Below w.heap.size w w' := by
  have hza := zeroHeadRun
  obtain ⟨W1, hW1⟩ : ∃ W, W = w.alloc (.cells #[.int .u64 9, .int .i64 64, .slice (some ⟨w.heap.size + 1, 0, none⟩) 1 1, .slice (some ⟨w.heap.size + 1 + 1, 0, none⟩) 1 1] 26) := ⟨_, rfl⟩
  have hz1 : W1.heap.size = w.heap.size + 1 := by rw [hW1, World.size_alloc]
  have hB1 : Blk W1 w.heap.size 26 [.int .u64 9, .int .i64 64, .slice (some ⟨w.heap.size + 1, 0, none⟩) 1 1, .slice (some ⟨w.heap.size + 1 + 1, 0, none⟩) 1 1] := by rw [hW1]; exact Blk.new w _ _
  have hb1 : Below w.heap.size w W1 := by rw [hW1]; exact (Below.refl _ w).alloc (Nat.le_refl _) _
  have hI := (is_lit1 W1 2).alloc (.cells #[.int .u8 7] 5)
  have hS : Sl ((W1.alloc (.cells #[.int .i64 2] 3)).alloc (.cells #[.int .u8 7] 5)) (.slice (some ⟨(W1.alloc (.cells #[.int .i64 2] 3)).heap.size, 0, none⟩) 1 1) [7] := sl_lit (W1.alloc (.cells #[.int .i64 2] 3)) 5 [7] (by intro z hz; simp at hz; omega) (by simp [maxLen])
  rw [World.size_alloc, hz1] at hS
  rw [hz1] at hI
  have hB3 := (hB1.alloc (.cells #[.int .i64 2] 3)).alloc (.cells #[.int .u8 7] 5)
  have hb3 := (hb1.alloc hb1.size (.cells #[.int .i64 2] 3)).alloc (by rw [World.size_alloc]; omega) (.cells #[.int .u8 7] 5)
  rw [hW1] at hI hS hB3 hb3
  have HI := hide hI
  have HS := hide hS
  have HB3 := hide hB3
  have Hb3 := hide hb3
  clear hz1 hB1 hb1 hI hS hB3 hb3 hW1
  go_enter Tryd.func29, Tryd.ntmps29
  go_wp2
  (try simp only [Exit.inBlock, Exit.then])
  refine bodyPost_ret (ret_head0 rfl _ _ w.heap.size _ _ _ _ rfl HB3.out) rfl ?_
  exact ⟨_, _, rfl, ⟨_, 1, _, 1, rfl, HI.out, HS.out, by decide⟩, Hb3.out⟩

/-- a head's page, by the law's own lay -/
theorem lay_any (w : World) (v : Value) (h : Hd) (hv : HdV w v h) (hm : mayB h.p h.ms h.us.length = true) (hT : Tab w) :
    Calls Tryd.prog 27 #[v] w fun r w' => ∃ a c, r = .returned (.slice a 256 c) ∧ w'.ownsRow w.heap.size 5 1 (.slice a 256 c) 256 ((layS h).map (Value.int .u8)) ∧ Below w.heap.size w w' := by
  have HL0 := fun wx hvx hTx => hlay_ok wx v h hvx hm hTx
  obtain ⟨ma, mc, ua, uc, rfl, h1, h2, h3⟩ := hv
  unfold hdV at HL0 ⊢
  obtain ⟨W, hW⟩ : ∃ W, W = w.alloc (.cells #[.int .u64 h.e, .int .i64 h.p, .slice ma h.ms.length mc, .slice ua h.us.length uc] 26) := ⟨_, rfl⟩
  have hbW : Below w.heap.size w W := by rw [hW]; exact (Below.refl _ w).alloc (Nat.le_refl _) _
  have HL := hide (HL0 W ⟨ma, mc, ua, uc, rfl, h1.below hbW, h2.below hbW, h3⟩ (hT.below hbW))
  have HB := hide hbW
  have HW := hide hW
  rw [hW] at HL
  clear HL0 h1 h2 h3 hT hbW hW
  go_enter Tryd.func27, Tryd.ntmps27
  go_wp2_with (go_at_call 13; refine HL.out.mono ?_; rintro e1 w1 ⟨v', rfl, ⟨a1, n1, c1, rfl, O1⟩, hb1⟩; rw [← HW.out] at O1 hb1; have HO1 := hide O1; have HB1 := hide hb1; clear HL O1 hb1)
  go_ret
  have ho := HO1.out
  rw [layS_len] at ho
  obtain ⟨a, c, he⟩ := own_slice ho
  simp only [Value.slice.injEq] at he
  obtain ⟨rfl, rfl, rfl⟩ := he
  exact ⟨_, _, rfl, own_of_le ho HB.out.size, HB.out.trans (HB1.out.mono HB.out.size)⟩

def isHd (h : Hd) : Value → World → Prop := fun v w => HdV w v h
theorem stable_isHd (h : Hd) : Stable (isHd h) := fun _ _ _ hb hv => hv.below hb

theorem parts_two {w : World} {v1 v2 : Value} {z1 z2 : List Int} (h1 : Sl w v1 z1) (h2 : Sl w v2 z2) : Parts (w.alloc (.cells #[v1, v2] 24)) (.slice (some ⟨w.heap.size, 0, none⟩) 2 2) [v1, v2] [z1, z2] :=
  parts_lit w 24 [v1, v2] [z1, z2] rfl (by simp) (fun i hi => by
    match i, hi with
    | 0, _ => exact h1
    | 1, _ => exact h2)

set_option maxHeartbeats 4000000 in
theorem liveH_any (w : World) (hT : Tab w) :
    Calls Tryd.prog 9 #[] w fun r w' => r = .returned (.bool true) ∧ Below w.heap.size w w' := by
  have HT := hide hT
  have HSO := hide some_any
  have HPU := hide (fun wx v (hv : HdV wx v some6) => hput_ok wx v some6 hv some6_may)
  have HLA := hide (fun wx v (hv : HdV wx v some6) (ht : Tab wx) => lay_any wx v some6 hv some6_may ht)
  have hok : ByteOk (bearS some6.p some6.ms some6.us) := bearS_ok some6_may (by intro z hz; simp [some6] at hz; omega)
  have hbl := bearS_len some6_may
  have hb8 := some6_bear
  have hlo : ByteOk (layS some6) := layS_ok some6_may (by intro z hz; simp [some6] at hz; omega)
  have HCH := hide some6_choose
  obtain ⟨D, hD⟩ : ∃ D, D = bearS some6.p some6.ms some6.us := ⟨_, rfl⟩
  obtain ⟨L, hL⟩ : ∃ L, L = layS some6 := ⟨_, rfl⟩
  rw [← hD] at HPU hok hbl hb8
  rw [← hL] at HLA HCH hlo
  have HCO : Hid (∀ wx v vs, Parts wx v vs [[], L] → Tab wx → Calls Tryd.prog 25 #[.int .i64 64, v] wx (GivesC wx ⟨some6, 1, 0⟩)) := fun wx v vs hp ht => by
    have := choose_any wx 64 v vs [[], L] hp ht
    rwa [HCH.out] at this
  have H8 := hide hb8
  clear hT hD hL hb8 HCH
  go_enter Tryd.func9, Tryd.ntmps9
  go_wp2_with (first
    | (go_at_call 11; refine (HPU.out _ _ HV1.out).mono ?_; rintro e1 w2 ⟨g2, rfl, hg2, k2, hb2⟩; have HB2 := hide (Hb1.out.trans (hb2.mono Hb1.out.size)); have HK2 := hide k2; have HS2 := hide (HSO.out w2); clear HPU HV1 Hb1 k2 hb2 HSO)
    | (go_at_call 27; refine (HLA.out _ _ HV3.out (HT.out.below HB3.out)).mono ?_; rintro e1 w4 ⟨a4, c4, rfl, O4, hb4⟩; have hB4 := HB3.out.trans (hb4.mono HB3.out.size); have hK4 := HK3.out.below hb4 HK3.out.lt; have hp4 := parts_two (Sl.nil w4) (sl_of_own O4 hlo rfl); have HCC := hide (HCO.out _ _ _ hp4 ((HT.out.below hB4).alloc _)); have HB4 := hide (hB4.alloc hB4.size (.cells #[.slice none 0 0, .slice a4 256 c4] 24)); have HK4 := hide (hK4.alloc (.cells #[.slice none 0 0, .slice a4 256 c4] 24)); clear HLA HCO HV3 HB3 HK3 O4 hb4 hB4 hK4 hp4)
    | (go_at_call 25; refine HCC.out.mono ?_; rintro e1 w5 ⟨ma, mc, ua, uc, rfl, hv5, hb5⟩; have hB5 := HB4.out.trans (hb5.mono HB4.out.size); have hK5 := HK4.out.below hb5 HK4.out.lt; have HV5 := hide hv5.val; have HB5 := hide hB5; have HK5 := hide hK5; unfold hdV; simp only [some6]; clear HCC HB4 HK4 hv5 hb5 hB5 hK5)
    | (go_at_call 29; refine HS2.out.mono ?_; rintro e1 w3 ⟨ma3, ua3, rfl, hv3, hb3⟩; have HV3 := hide hv3; have HB3 := hide (HB2.out.trans (hb3.mono HB2.out.size)); have HK3 := hide (HK2.out.below hb3 HK2.out.lt); clear HS2 HB2 HK2 hv3 hb3)
    | (go_at_call 29; refine (HSO.out _).mono ?_; rintro e1 w1 ⟨ma1, ua1, rfl, hv1, hb1⟩; have HV1 := hide hv1; have Hb1 := hide hb1; clear hv1 hb1))
  obtain ⟨W6, hW6⟩ : ∃ W, W = w5.alloc (.cells #[.int .u64 9, .int .i64 64, .slice ma 1 mc, .slice ua 1 uc] 26) := ⟨_, rfl⟩
  have HX6 : Hid (Blk W6 w5.heap.size 26 [.int .u64 9, .int .i64 64, .slice ma 1 mc, .slice ua 1 uc]) := by show Blk _ _ _ _; rw [hW6]; exact Blk.new w5 _ _
  have HV6 : Hid (HdV W6 (.agg #[.int .u64 9, .int .i64 64, .slice ma 1 mc, .slice ua 1 uc]) some6) := by show HdV _ _ _; rw [hW6]; exact HV5.out.alloc _
  have HK6 : Hid (Blk W6 g2 5 (pc D)) := by show Blk _ _ _ _; rw [hW6]; exact HK5.out.alloc _
  have HB6 : Hid (Below w.heap.size w W6) := by show Below _ _ _; rw [hW6]; exact HB5.out.alloc HB5.out.size _
  rw [← hW6]
  have HSO6 := hide some_any
  have HRS6 := hide (fun wx va vb (ha : HdV wx va some6) (hb : HdV wx vb some6) => refSameH_any wx va vb some6 some6 ha hb)
  rw [sameH_self] at HRS6
  have HE6 : Hid (∀ wx g, Blk wx g2 5 (pc D) → Blk wx g 5 (pc [0, 64, 1, 0, 2, 1, 7, 0]) → Calls Tryd.prog 19 #[.slice (some ⟨g2, 0, none⟩) 8 240, .slice (some ⟨g, 0, none⟩) 8 8] wx fun r w' => r = .returned (.bool true) ∧ w' = wx) := by
    intro wx g h1 h2
    have S1 : Sl wx (.slice (some ⟨g2, 0, none⟩) D.length 240) D := by have := sl_blk h1 hok hbl (by unfold maxLen; omega); rwa [hbl]
    have S2 := sl_take 8 S1 (by omega)
    rw [H8.out] at S2
    have S3 := sl_blk (n := 8) h2 (by intro z hz; simp at hz; omega) rfl (by simp [maxLen])
    have := equal_any wx _ _ _ _ S2 S3
    rwa [decide_eq_true rfl] at this
  have hcut : ∀ wx, (Instr.slice 24 (.slice (some ⟨g2, 0, none⟩) 240 240) none (some (.int .i64 8)) none).run Tryd.prog wx = .ok (.slice (some ⟨g2, 0, none⟩) 8 240) wx := fun wx => cut_hd (some ⟨g2, 0, none⟩) 240 240 8 (by omega) wx
  clear hW6 HV5 HK5 HB5
  refine wp_region_facts (FL [isV (.int .i64 0), isV (.bool true), isV (.bool true), isV (.int .i64 0), isV (.bool true), isV (.bool true), isV (.bool true), isV (.int .i64 1), isV (.bool true), isV (.bool true), isV (.bool true), isV (.agg #[.int .u64 9, .int .i64 64, .slice ma 1 mc, .slice ua 1 uc]), isHd some6, isV (.bool true), isV (.bool true), isV (.bool true), isV (.slice (some ⟨g2, 0, none⟩) 240 240), isV (.int .i64 240), isV (.bool true), isV (.bool true), isV (.bool true), isV (.slice (some ⟨g2, 0, none⟩) 240 240), isV (.slice (some ⟨g2, 0, none⟩) 8 240), isFull W6.heap.size [0, 64, 1, 0, 2, 1, 7, 0], isV (.bool true), isV (.bool true), isV (.bool true)]) 45 (by kernel_rfl) (by kernel_rfl) (by kernel_rfl) rfl (FL_stable _ (by repeat (first | exact trivial | refine ⟨stable_isV _, ?_⟩ | refine ⟨stable_isFull _ _, ?_⟩ | refine ⟨stable_isHd _, ?_⟩))) ?_ ?_
  · refine ⟨?_, ?_, ?_, ?_, ?_, ?_, ?_, ?_, ?_, ?_, ?_, ?_, ?_, ?_, ?_, ?_, ?_, ?_, ?_, ?_, ?_, ?_, ?_, ?_, ?_, ?_, ?_, trivial⟩
    · intro act wx h
      have e2 : act.eval (.tmp 2) = .int .i64 0 := h.old 2 (by kernel_rfl)
      have hbel := h.below
      clear h
      refine gives_by rfl act.eval rfl ?_
      generalize act.eval = ρ at *
      intro hf hc
      go_simp
      exact ⟨Below.refl _ _, rfl⟩
    · intro act wx h
      obtain ⟨v19, e19, f19⟩ := h.val 0 19 (by kernel_rfl)
      obtain rfl : v19 = .int .i64 0 := f19
      have hbel := h.below
      clear h
      refine gives_by rfl act.eval rfl ?_
      generalize act.eval = ρ at *
      intro hf hc
      go_simp
      exact ⟨Below.refl _ _, rfl⟩
    · intro act wx h
      obtain ⟨v20, e20, f20⟩ := h.val 1 20 (by kernel_rfl)
      obtain rfl : v20 = .bool true := f20
      have hbel := h.below
      clear h
      refine gives_by rfl act.eval rfl ?_
      generalize act.eval = ρ at *
      intro hf hc
      go_simp
      exact ⟨Below.refl _ _, rfl⟩
    · intro act wx h
      have e5 : act.eval (.tmp 5) = .int .i64 0 := h.old 5 (by kernel_rfl)
      have hg := h.guard 2 21 (by kernel_rfl) true (fun v hv => hv)
      have hbel := h.below
      clear h
      refine gives_by (by simp only [Region.wanted, hg]; rfl) act.eval rfl ?_
      generalize act.eval = ρ at *
      intro hf hc
      go_simp
      exact ⟨Below.refl _ _, rfl⟩
    · intro act wx h
      obtain ⟨v22, e22, f22⟩ := h.val 3 22 (by kernel_rfl)
      obtain rfl : v22 = .int .i64 0 := f22
      have hg := h.guard 2 21 (by kernel_rfl) true (fun v hv => hv)
      have hbel := h.below
      clear h
      refine gives_by (by simp only [Region.wanted, hg]; rfl) act.eval rfl ?_
      generalize act.eval = ρ at *
      intro hf hc
      go_simp
      exact ⟨Below.refl _ _, rfl⟩
    · intro act wx h
      obtain ⟨v21, e21, f21⟩ := h.val 2 21 (by kernel_rfl)
      obtain rfl : v21 = .bool true := f21
      obtain ⟨v23, e23, f23⟩ := h.val 4 23 (by kernel_rfl)
      obtain rfl : v23 = .bool true := f23
      have hbel := h.below
      clear h
      refine gives_by rfl act.eval rfl ?_
      generalize act.eval = ρ at *
      intro hf hc
      go_simp
      exact ⟨Below.refl _ _, rfl⟩
    · intro act wx h
      obtain ⟨v24, e24, f24⟩ := h.val 5 24 (by kernel_rfl)
      obtain rfl : v24 = .bool true := f24
      have hbel := h.below
      clear h
      refine gives_by rfl act.eval rfl ?_
      generalize act.eval = ρ at *
      intro hf hc
      go_simp
      exact ⟨Below.refl _ _, rfl⟩
    · intro act wx h
      have e4 : act.eval (.tmp 4) = .int .i64 1 := h.old 4 (by kernel_rfl)
      have hg := h.guard 6 25 (by kernel_rfl) true (fun v hv => hv)
      have hbel := h.below
      clear h
      refine gives_by (by simp only [Region.wanted, hg]; rfl) act.eval rfl ?_
      generalize act.eval = ρ at *
      intro hf hc
      go_simp
      exact ⟨Below.refl _ _, rfl⟩
    · intro act wx h
      obtain ⟨v26, e26, f26⟩ := h.val 7 26 (by kernel_rfl)
      obtain rfl : v26 = .int .i64 1 := f26
      have hg := h.guard 6 25 (by kernel_rfl) true (fun v hv => hv)
      have hbel := h.below
      clear h
      refine gives_by (by simp only [Region.wanted, hg]; rfl) act.eval rfl ?_
      generalize act.eval = ρ at *
      intro hf hc
      go_simp
      exact ⟨Below.refl _ _, rfl⟩
    · intro act wx h
      obtain ⟨v25, e25, f25⟩ := h.val 6 25 (by kernel_rfl)
      obtain rfl : v25 = .bool true := f25
      obtain ⟨v27, e27, f27⟩ := h.val 8 27 (by kernel_rfl)
      obtain rfl : v27 = .bool true := f27
      have hbel := h.below
      clear h
      refine gives_by rfl act.eval rfl ?_
      generalize act.eval = ρ at *
      intro hf hc
      go_simp
      exact ⟨Below.refl _ _, rfl⟩
    · intro act wx h
      obtain ⟨v28, e28, f28⟩ := h.val 9 28 (by kernel_rfl)
      obtain rfl : v28 = .bool true := f28
      have hbel := h.below
      clear h
      refine gives_by rfl act.eval rfl ?_
      generalize act.eval = ρ at *
      intro hf hc
      go_simp
      exact ⟨Below.refl _ _, rfl⟩
    · intro act wx h
      have e3 : act.eval (.tmp 3) = .pointer (some ⟨w5.heap.size, 0, none⟩) := h.old 3 (by kernel_rfl)
      have hg := h.guard 10 29 (by kernel_rfl) true (fun v hv => hv)
      have hbel := h.below
      clear h
      obtain ⟨x0, x1, x2, x3⟩ := box_cells (HX6.out.below hbel HX6.out.lt)
      refine gives_by (by simp only [Region.wanted, hg]; rfl) act.eval rfl ?_
      generalize act.eval = ρ at *
      intro hf hc
      go_simp
      exact ⟨Below.refl _ _, rfl⟩
    · intro act wx h
      have hg := h.guard 10 29 (by kernel_rfl) true (fun v hv => hv)
      have hbel := h.below
      clear h
      refine gives_by (by simp only [Region.wanted, hg]; rfl) act.eval rfl ?_
      generalize act.eval = ρ at *
      intro hf hc
      go_simp
      refine (HSO6.out wx).mono ?_
      rintro e w' ⟨ma', ua', rfl, hv, hb⟩
      exact ⟨_, rfl, hb, hv⟩
    · intro act wx h
      obtain ⟨v30, e30, f30⟩ := h.val 11 30 (by kernel_rfl)
      obtain rfl : v30 = .agg #[.int .u64 9, .int .i64 64, .slice ma 1 mc, .slice ua 1 uc] := f30
      obtain ⟨v31, e31, f31⟩ := h.val 12 31 (by kernel_rfl)
      obtain hd31 : HdV wx v31 some6 := f31
      have hg := h.guard 10 29 (by kernel_rfl) true (fun v hv => hv)
      have hbel := h.below
      clear h
      refine gives_by (by simp only [Region.wanted, hg]; rfl) act.eval rfl ?_
      generalize act.eval = ρ at *
      intro hf hc
      go_simp
      exact call_gives (HRS6.out wx _ _ (HV6.out.below hbel) f31) (fun _ => rfl)
    · intro act wx h
      obtain ⟨v29, e29, f29⟩ := h.val 10 29 (by kernel_rfl)
      obtain rfl : v29 = .bool true := f29
      obtain ⟨v32, e32, f32⟩ := h.val 13 32 (by kernel_rfl)
      obtain rfl : v32 = .bool true := f32
      have hbel := h.below
      clear h
      refine gives_by rfl act.eval rfl ?_
      generalize act.eval = ρ at *
      intro hf hc
      go_simp
      exact ⟨Below.refl _ _, rfl⟩
    · intro act wx h
      obtain ⟨v33, e33, f33⟩ := h.val 14 33 (by kernel_rfl)
      obtain rfl : v33 = .bool true := f33
      have hbel := h.below
      clear h
      refine gives_by rfl act.eval rfl ?_
      generalize act.eval = ρ at *
      intro hf hc
      go_simp
      exact ⟨Below.refl _ _, rfl⟩
    · intro act wx h
      have e1 : act.eval (.tmp 1) = .slice (some ⟨g2, 0, none⟩) 240 240 := h.old 1 (by kernel_rfl)
      have hg := h.guard 15 34 (by kernel_rfl) true (fun v hv => hv)
      have hbel := h.below
      clear h
      refine gives_by (by simp only [Region.wanted, hg]; rfl) act.eval rfl ?_
      generalize act.eval = ρ at *
      intro hf hc
      go_simp
      exact ⟨Below.refl _ _, rfl⟩
    · intro act wx h
      obtain ⟨v35, e35, f35⟩ := h.val 16 35 (by kernel_rfl)
      obtain rfl : v35 = .slice (some ⟨g2, 0, none⟩) 240 240 := f35
      have hg := h.guard 15 34 (by kernel_rfl) true (fun v hv => hv)
      have hbel := h.below
      clear h
      refine gives_by (by simp only [Region.wanted, hg]; rfl) act.eval rfl ?_
      generalize act.eval = ρ at *
      intro hf hc
      go_simp
      exact ⟨Below.refl _ _, rfl⟩
    · intro act wx h
      obtain ⟨v36, e36, f36⟩ := h.val 17 36 (by kernel_rfl)
      obtain rfl : v36 = .int .i64 240 := f36
      have hg := h.guard 15 34 (by kernel_rfl) true (fun v hv => hv)
      have hbel := h.below
      clear h
      refine gives_by (by simp only [Region.wanted, hg]; rfl) act.eval rfl ?_
      generalize act.eval = ρ at *
      intro hf hc
      go_simp
      exact ⟨Below.refl _ _, rfl⟩
    · intro act wx h
      obtain ⟨v34, e34, f34⟩ := h.val 15 34 (by kernel_rfl)
      obtain rfl : v34 = .bool true := f34
      obtain ⟨v37, e37, f37⟩ := h.val 18 37 (by kernel_rfl)
      obtain rfl : v37 = .bool true := f37
      have hbel := h.below
      clear h
      refine gives_by rfl act.eval rfl ?_
      generalize act.eval = ρ at *
      intro hf hc
      go_simp
      exact ⟨Below.refl _ _, rfl⟩
    · intro act wx h
      obtain ⟨v38, e38, f38⟩ := h.val 19 38 (by kernel_rfl)
      obtain rfl : v38 = .bool true := f38
      have hbel := h.below
      clear h
      refine gives_by rfl act.eval rfl ?_
      generalize act.eval = ρ at *
      intro hf hc
      go_simp
      exact ⟨Below.refl _ _, rfl⟩
    · intro act wx h
      have e1 : act.eval (.tmp 1) = .slice (some ⟨g2, 0, none⟩) 240 240 := h.old 1 (by kernel_rfl)
      have hg := h.guard 20 39 (by kernel_rfl) true (fun v hv => hv)
      have hbel := h.below
      clear h
      refine gives_by (by simp only [Region.wanted, hg]; rfl) act.eval rfl ?_
      generalize act.eval = ρ at *
      intro hf hc
      go_simp
      exact ⟨Below.refl _ _, rfl⟩
    · intro act wx h
      obtain ⟨v40, e40, f40⟩ := h.val 21 40 (by kernel_rfl)
      obtain rfl : v40 = .slice (some ⟨g2, 0, none⟩) 240 240 := f40
      have hg := h.guard 20 39 (by kernel_rfl) true (fun v hv => hv)
      have hbel := h.below
      clear h
      refine gives_by (by simp only [Region.wanted, hg]; rfl) act.eval rfl ?_
      generalize act.eval = ρ at *
      intro hf hc
      go_simp
      exact ⟨Below.refl _ _, rfl⟩
    · intro act wx h
      have hg := h.guard 20 39 (by kernel_rfl) true (fun v hv => hv)
      have hbel := h.below
      clear h
      refine gives_by (by simp only [Region.wanted, hg]; rfl) act.eval rfl ?_
      generalize act.eval = ρ at *
      intro hf hc
      go_simp
      exact ⟨(Below.refl _ wx).alloc (Nat.le_refl _) _, wx.heap.size, rfl, hbel.size, Blk.new wx _ [.int .u8 0, .int .u8 64, .int .u8 1, .int .u8 0, .int .u8 2, .int .u8 1, .int .u8 7, .int .u8 0]⟩
    · intro act wx h
      obtain ⟨v41, e41, f41⟩ := h.val 22 41 (by kernel_rfl)
      obtain rfl : v41 = .slice (some ⟨g2, 0, none⟩) 8 240 := f41
      obtain ⟨v42, e42, f42⟩ := h.val 23 42 (by kernel_rfl)
      obtain ⟨g42, rfl, hg42, hk42⟩ := f42
      have hg := h.guard 20 39 (by kernel_rfl) true (fun v hv => hv)
      have hbel := h.below
      clear h
      refine gives_by (by simp only [Region.wanted, hg]; rfl) act.eval rfl ?_
      generalize act.eval = ρ at *
      intro hf hc
      go_simp
      exact call_same (HE6.out wx g42 (HK6.out.below hbel HK6.out.lt) hk42) (fun _ => rfl)
    · intro act wx h
      obtain ⟨v39, e39, f39⟩ := h.val 20 39 (by kernel_rfl)
      obtain rfl : v39 = .bool true := f39
      obtain ⟨v43, e43, f43⟩ := h.val 24 43 (by kernel_rfl)
      obtain rfl : v43 = .bool true := f43
      have hbel := h.below
      clear h
      refine gives_by rfl act.eval rfl ?_
      generalize act.eval = ρ at *
      intro hf hc
      go_simp
      exact ⟨Below.refl _ _, rfl⟩
    · intro act wx h
      obtain ⟨v44, e44, f44⟩ := h.val 25 44 (by kernel_rfl)
      obtain rfl : v44 = .bool true := f44
      have hbel := h.below
      clear h
      refine gives_by rfl act.eval rfl ?_
      generalize act.eval = ρ at *
      intro hf hc
      go_simp
      exact ⟨Below.refl _ _, rfl⟩
  · intro vals w7 hb7 hv
    have hv26 : vals 26 = .bool true := hv 26 0 (by kernel_rfl)
    clear hv
    have HB7 := hide (HB6.out.trans (hb7.mono HB6.out.size))
    generalize hact : putAll _ vals 0 _ = act
    subst hact
    simp only [putAll, Act.put, List.setIfInBounds_toArray, List.set_cons_zero, List.set_cons_succ, hv26, Nat.zero_add, Nat.reduceAdd]
    go_wp2
    go_ret
    exact ⟨rfl, HB7.out⟩

end Go.Proofs.YtmeiahmolmneeaaDoor
/- Contract: whether heads have so little that they may be gone through (incipitlaw06.short). A head that comes in, boxed. -/
namespace Go.Proofs.YtmeiahmolmneeaaDoor
set_option maxRecDepth 20000
open Go.RowKit
set_option linter.unusedVariables false

/-- a head as it is handed in -/
structure Hm where
  e : Nat
  p : Int
  ma : Option Addr
  mn : Nat
  mc : Nat
  ua : Option Addr
  un : Nat
  uc : Nat
def Hm.cells (f : Hm) : List Value := [.int .u64 f.e, .int .i64 f.p, .slice f.ma f.mn f.mc, .slice f.ua f.un f.uc]

theorem flat_cellH (b : Nat) : ∀ (fs : List Hm) (i j : Nat) (f : Hm), fs[i]? = some f → j < 4 → ((fs.map Hm.cells).flatten)[i * 4 + j]? = f.cells[j]?
  | [], i, j, f, h, _ => by simp at h
  | g :: fs, 0, j, f, h, hj => by
    simp at h
    subst h
    rw [List.map_cons, List.flatten_cons, List.getElem?_append_left (by simp [Hm.cells]; omega)]
    simp
  | g :: fs, i + 1, j, f, h, hj => by
    have ih := flat_cellH b fs i j f (by simpa using h) hj
    rw [List.map_cons, List.flatten_cons, List.getElem?_append_right (by simp [Hm.cells]; omega)]
    rw [show (i + 1) * 4 + j - g.cells.length = i * 4 + j by simp [Hm.cells]; omega]
    exact ih

def shortHB (fs : List Hm) : Bool := fs.all fun f => decide (f.mn ≤ 100 ∧ f.un ≤ 3000)

set_option maxHeartbeats 1000000 in
theorem shortH_any (w : World) (b : Nat) (fs : List Hm) (h : Blk w b 26 (fs.map Hm.cells).flatten) (hn : fs.length ≤ 100) :
    Calls Tryd.prog 10 #[.slice (some ⟨b, 0, none⟩) fs.length fs.length] w fun r w' => r = .returned (.bool (shortHB fs)) ∧ Below w.heap.size w w' := by
  have HB := hide h
  have HSB : Hid ((∀ (i : Nat) (f : Hm), fs[i]? = some f → ¬ (f.mn ≤ 100 ∧ f.un ≤ 3000) → shortHB fs = false) ∧ ((∀ (i : Nat) (f : Hm), fs[i]? = some f → f.mn ≤ 100 ∧ f.un ≤ 3000) → shortHB fs = true)) := by
    refine ⟨fun i f hf hn => ?_, fun hall => ?_⟩
    · unfold shortHB
      rw [List.all_eq_false]
      exact ⟨f, List.mem_of_getElem? hf, by simpa using hn⟩
    · unfold shortHB
      rw [List.all_eq_true]
      intro f hf
      obtain ⟨i, hi⟩ := List.getElem?_of_mem hf
      exact decide_eq_true (hall i f hi)
  clear h
  have hza := zeroHeadRun
  go_enter Tryd.func10, Tryd.ntmps10
  go_wp2
  go_loopg [7] fs.length (fun g i wr => ∃ k : Nat, g + k = fs.length ∧ i = .int .i64 k ∧ Below w.heap.size w wr ∧ ∀ (j : Nat) (f : Hm), j < k → fs[j]? = some f → f.mn ≤ 100 ∧ f.un ≤ 3000)
  case atStart => exact ⟨0, by omega, rfl, Below.refl _ _, fun j f hj => by omega⟩
  case round =>
    obtain ⟨k, hk, rfl, hb, hall⟩ := hrel
    have HA := hide hall
    have Hb := hide hb
    clear hall
    cases gk with
    | zero =>
      obtain rfl : k = fs.length := by omega
      clear hb
      go_wp2
      go_ret
      exact ⟨ret_bool (HSB.out.2 (fun i f hf => HA.out i f (List.getElem?_eq_some_iff.1 hf).1 hf)).symm, Hb.out⟩
    | succ g =>
      have hkl : k < fs.length := by omega
      have hki : (k : Int) < (fs.length : Int) := by omega
      obtain ⟨f, hf⟩ : ∃ f, fs[k]? = some f := ⟨fs[k], List.getElem?_eq_getElem hkl⟩
      have hB := HB.out.below hb HB.out.lt
      have c0 := (hB.cell (k * 4 + 0)).trans (flat_cellH b fs k 0 f hf (by omega))
      have c1 := (hB.cell (k * 4 + 1)).trans (flat_cellH b fs k 1 f hf (by omega))
      have c2 := (hB.cell (k * 4 + 2)).trans (flat_cellH b fs k 2 f hf (by omega))
      have c3 := (hB.cell (k * 4 + 3)).trans (flat_cellH b fs k 3 f hf (by omega))
      simp only [Hm.cells, List.getElem?_cons_zero, List.getElem?_cons_succ, Nat.add_zero] at c0 c1 c2 c3
      have HF := hide hf
      clear hB hf hb
      by_cases hs : f.mn ≤ 100 ∧ f.un ≤ 3000
      · have hsi : ¬ (100 : Int) < (f.mn : Int) := by omega
        have hsj : ¬ (3000 : Int) < (f.un : Int) := by omega
        have hd1 : decide ((100 : Int) < (f.mn : Int)) = false := decide_eq_false hsi
        go_wp2
        go_roundg g
        case measure => omega
        case rel =>
          refine ⟨k + 1, by omega, by go_num, Hb.out.alloc Hb.out.size _, fun j f' hj hf' => ?_⟩
          rcases Nat.lt_or_ge j k with h1 | h1
          · exact HA.out j f' h1 hf'
          · obtain rfl : j = k := by omega
            rw [HF.out] at hf'
            cases hf'
            exact hs
      · by_cases hs1 : f.mn ≤ 100
        · have hsi : ¬ (100 : Int) < (f.mn : Int) := by omega
          have hd1 : decide ((100 : Int) < (f.mn : Int)) = false := decide_eq_false hsi
          have hsj : (3000 : Int) < (f.un : Int) := by omega
          go_wp2
          go_ret
          exact ⟨ret_bool (HSB.out.1 k f HF.out hs).symm, Hb.out.alloc Hb.out.size _⟩
        · have hsi : (100 : Int) < (f.mn : Int) := by omega
          go_wp2
          go_ret
          exact ⟨ret_bool (HSB.out.1 k f HF.out hs).symm, Hb.out.alloc Hb.out.size _⟩

/-- what is short of a head -/
def shB (h : Hd) : Bool := decide (h.ms.length ≤ 100 ∧ h.us.length ≤ 3000)

/-- a head that came in, boxed: it stays -/
def Bh (w w1 : World) (cs : List Value) : Prop := Below w.heap.size w w1 ∧ Blk w1 w.heap.size 26 cs
theorem Bh.below {w w1 w2 : World} {cs : List Value} (h : Bh w w1 cs) (hb : Below w1.heap.size w1 w2) : Bh w w2 cs := ⟨h.1.trans (hb.mono h.1.size), h.2.below hb h.2.lt⟩
theorem Bh.alloc {w w1 : World} {cs : List Value} (h : Bh w w1 cs) (o : Obj) : Bh w (w1.alloc o) cs := h.below ((Below.refl _ w1).alloc (Nat.le_refl _) o)
theorem Bh.new (w : World) (cs : List Value) : Bh w (w.alloc (.cells cs.toArray 26)) cs := ⟨(Below.refl _ w).alloc (Nat.le_refl _) _, Blk.new w _ cs⟩
theorem Bh.only {S : Nat → Prop} {w w1 w2 : World} {cs : List Value} (h : Bh w w1 cs) (ho : Only S w1 w2) (hS : ∀ k, S k → w.heap.size < k) : Bh w w2 cs :=
  ⟨h.1.trans (ho.below h.1.size (fun k hk hs => by have := hS k hs; omega)), h.2.only ho (fun hs => by have := hS _ hs; omega)⟩
/-- two of them -/
def Bh2 (w w1 : World) (cs ds : List Value) : Prop := Below w.heap.size w w1 ∧ Blk w1 w.heap.size 26 cs ∧ Blk w1 (w.heap.size + 1) 26 ds
theorem Bh2.below {w w1 w2 : World} {cs ds : List Value} (h : Bh2 w w1 cs ds) (hb : Below w1.heap.size w1 w2) : Bh2 w w2 cs ds := ⟨h.1.trans (hb.mono h.1.size), h.2.1.below hb h.2.1.lt, h.2.2.below hb h.2.2.lt⟩
theorem Bh2.alloc {w w1 : World} {cs ds : List Value} (h : Bh2 w w1 cs ds) (o : Obj) : Bh2 w (w1.alloc o) cs ds := h.below ((Below.refl _ w1).alloc (Nat.le_refl _) o)
theorem Bh2.only {S : Nat → Prop} {w w1 w2 : World} {cs ds : List Value} (h : Bh2 w w1 cs ds) (ho : Only S w1 w2) (hS : ∀ k, S k → w.heap.size + 1 < k) : Bh2 w w2 cs ds :=
  ⟨h.1.trans (ho.below h.1.size (fun k hk hs => by have := hS k hs; omega)), h.2.1.only ho (fun hs => by have := hS _ hs; omega), h.2.2.only ho (fun hs => by have := hS _ hs; omega)⟩
theorem Bh2.new (w : World) (cs ds : List Value) : Bh2 w ((w.alloc (.cells cs.toArray 26)).alloc (.cells ds.toArray 26)) cs ds := two_box w cs ds

theorem live_bh (w : World) (cs : List Value) (hT : Tab w) (w1 : World) (h : Bh w w1 cs) :
    Calls Tryd.prog 9 #[] w1 fun r w2 => r = .returned (.bool true) ∧ Bh w w2 cs := by
  refine (liveH_any w1 (hT.below h.1)).mono ?_
  rintro r w2 ⟨rfl, hb⟩
  exact ⟨rfl, h.below hb⟩
theorem live_bh2 (w : World) (cs ds : List Value) (hT : Tab w) (w1 : World) (h : Bh2 w w1 cs ds) :
    Calls Tryd.prog 9 #[] w1 fun r w2 => r = .returned (.bool true) ∧ Bh2 w w2 cs ds := by
  refine (liveH_any w1 (hT.below h.1)).mono ?_
  rintro r w2 ⟨rfl, hb⟩
  exact ⟨rfl, h.below hb⟩

/-- whether one head, or two, are short -/
theorem short_one (w1 : World) (f : Hm) : Calls Tryd.prog 10 #[.slice (some ⟨w1.heap.size, 0, none⟩) 1 1] (w1.alloc (.cells #[.int .u64 f.e, .int .i64 f.p, .slice f.ma f.mn f.mc, .slice f.ua f.un f.uc] 26)) fun r w2 =>
    r = .returned (.bool (decide (f.mn ≤ 100 ∧ f.un ≤ 3000))) ∧ Below w1.heap.size w1 w2 := by
  refine (shortH_any (w1.alloc (.cells #[.int .u64 f.e, .int .i64 f.p, .slice f.ma f.mn f.mc, .slice f.ua f.un f.uc] 26)) w1.heap.size [f] (Blk.new w1 _ _) (by simp)).mono ?_
  rintro r w2 ⟨rfl, hb⟩
  refine ⟨by simp [shortHB], after_alloc hb⟩
theorem short_two (w1 : World) (f g : Hm) : Calls Tryd.prog 10 #[.slice (some ⟨w1.heap.size, 0, none⟩) 2 2] (w1.alloc (.cells #[.int .u64 f.e, .int .i64 f.p, .slice f.ma f.mn f.mc, .slice f.ua f.un f.uc, .int .u64 g.e, .int .i64 g.p, .slice g.ma g.mn g.mc, .slice g.ua g.un g.uc] 26)) fun r w2 =>
    r = .returned (.bool (decide ((f.mn ≤ 100 ∧ f.un ≤ 3000) ∧ (g.mn ≤ 100 ∧ g.un ≤ 3000)))) ∧ Below w1.heap.size w1 w2 := by
  refine (shortH_any (w1.alloc (.cells #[.int .u64 f.e, .int .i64 f.p, .slice f.ma f.mn f.mc, .slice f.ua f.un f.uc, .int .u64 g.e, .int .i64 g.p, .slice g.ma g.mn g.mc, .slice g.ua g.un g.uc] 26)) w1.heap.size [f, g] (Blk.new w1 _ _) (by simp)).mono ?_
  rintro r w2 ⟨rfl, hb⟩
  refine ⟨by simp [shortHB], after_alloc hb⟩

end Go.Proofs.YtmeiahmolmneeaaDoor
/- Pages in a row, and what is chosen of them; a head that comes in. -/
namespace Go.Proofs.YtmeiahmolmneeaaDoor
set_option maxRecDepth 20000
open Go.RowKit
set_option linter.unusedVariables false

theorem parts_blk {w : World} {g : Nat} {vs : List Value} {pss : List (List Int)} (hg : Blk w g 24 vs) (hl : vs.length = pss.length) (hm : vs.length ≤ 1000) (h : ∀ i, i < vs.length → Sl w (vs.getD i (.slice none 0 0)) (pss.getD i [])) : Parts w (.slice (some ⟨g, 0, none⟩) vs.length vs.length) vs pss := by
  refine ⟨hl, some ⟨g, 0, none⟩, vs.length, rfl, Nat.le_refl _, by unfold maxLen; omega, h, fun _ => ⟨g, 0, rfl, fun i hi => ?_⟩⟩
  rw [hg.cell, Nat.zero_add, List.getElem?_eq_getElem hi]
  simp [List.getD, hi]

/-- a page at the place where it belongs, and none at the other one -/
def vsR (R : Nat) (v : Value) : List Value := if R = 0 then [v, .slice none 0 0] else [.slice none 0 0, v]
def psR (R : Nat) (zs : List Int) : List (List Int) := if R = 0 then [zs, []] else [[], zs]
theorem set_vsR (R : Nat) (v : Value) (hR : R < 2) : [Value.slice none 0 0, .slice none 0 0].set R v = vsR R v := by
  rcases (by omega : R = 0 ∨ R = 1) with rfl | rfl <;> rfl
theorem parts_R {w : World} {g R : Nat} {v : Value} {zs : List Int} (hg : Blk w g 24 (vsR R v)) (hR : R < 2) (h : Sl w v zs) : Parts w (.slice (some ⟨g, 0, none⟩) 2 2) (vsR R v) (psR R zs) := by
  rcases (by omega : R = 0 ∨ R = 1) with rfl | rfl
  · exact parts_blk (vs := [v, .slice none 0 0]) (pss := [zs, []]) hg rfl (by simp) (fun i hi => by
      match i, hi with
      | 0, _ => exact h
      | 1, _ => exact Sl.nil w)
  · exact parts_blk (vs := [.slice none 0 0, v]) (pss := [[], zs]) hg rfl (by simp) (fun i hi => by
      match i, hi with
      | 0, _ => exact Sl.nil w
      | 1, _ => exact h)

theorem choose_two (pages : Int) (a b : List Int) : chooseS pages [a, b] = stepC (stepC ⟨noHd, 0, 60⟩ 0 (atB 0 a pages) (atH 0 a pages)) 1 (atB 1 b pages) (atH 1 b pages) := rfl
theorem choose_R (h : Hd) (hm : mayB h.p h.ms h.us.length = true) (he : h.e < 18446744073709551616) : chooseS h.p (psR (h.e % 2) (layS h)) = ⟨h, ((h.e % 2 : Nat) : Int), 0⟩ := by
  have hs0 := at_short 0 [] h.p (by simp)
  have hs1 := at_short 1 [] h.p (by simp)
  rcases (by omega : h.e % 2 = 0 ∨ h.e % 2 = 1) with hR | hR
  · obtain ⟨h1, h2⟩ := at_lay h hm he 0 h.p
    rw [decide_eq_true ⟨hR, rfl⟩] at h1
    rw [hR]
    show chooseS h.p [layS h, []] = _
    rw [choose_two, h1, h2 hR rfl, stepC_yes rfl (.inl (by simp)), hs1, stepC_no (by simp)]
  · obtain ⟨h1, h2⟩ := at_lay h hm he 1 h.p
    rw [decide_eq_true ⟨hR, rfl⟩] at h1
    rw [hR]
    show chooseS h.p [[], layS h] = _
    have s0 : stepC ⟨noHd, 0, 60⟩ 0 (atB 0 [] h.p) (atH 0 [] h.p) = ⟨noHd, 0, 60⟩ := by rw [hs0]; exact stepC_no (by simp)
    rw [choose_two, s0, h1, h2 hR rfl, stepC_yes rfl (.inl (by simp))]

theorem infoSl : (Tryd.prog.info? 24).map (fun i => (i.zero, i.size, i.bytes)) = some (some (.slice none 0 0), 1, 24) := by kernel_rfl
theorem make_two (wx : World) : (Instr.makeSlice 40 (.int .i64 2) (.int .i64 2)).run Tryd.prog wx = .ok (.slice (some ⟨wx.heap.size, 0, none⟩) 2 2) (wx.alloc (.cells #[.slice none 0 0, .slice none 0 0] 24)) := by
  have := run_make_row' (P := Tryd.prog) 40 24 (.slice none 0 0) 24 Tryd.underlying40 infoSl rfl .i64 .i64 2 (by omega) (by omega) wx
  rw [show madeCells #[Value.slice none 0 0] 2 = #[.slice none 0 0, .slice none 0 0] from Array.toList_inj.1 (toList_madeCells_one _ _)] at this
  exact this

theorem and1R (R : Nat) (hR : R < 2) : bits .and .i64 (R : Int) 1 = (R : Int) := by
  rcases (by omega : R = 0 ∨ R = 1) with rfl | rfl <;> decide

/-- a head that comes in -/
def HdIn (w : World) (v : Value) (h : Hd) : Prop := HdV w v h

def isOwnN (B : Nat) (zs : List Int) : Value → World → Prop := fun v w => ∃ a c, v = .slice a zs.length c ∧ w.ownsRow B 5 1 (.slice a zs.length c) zs.length (zs.map (Value.int .u8))

end Go.Proofs.YtmeiahmolmneeaaDoor
