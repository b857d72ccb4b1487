/- Contract: a head's page in its frame (head.Lay). -/
import Derived.Test.YtmeiahmolmneeaaDoorHPut
namespace Go.Proofs.YtmeiahmolmneeaaDoor
set_option maxRecDepth 20000
open Go.RowKit
set_option linter.unusedVariables false

def layS (h : Hd) : List Int := pageS 1 (h.e % 2) h.e (bearS h.p h.ms h.us)
theorem layS_len (h : Hd) : (layS h).length = 256 := pageS_len _ _ _ _
theorem layS_ok {h : Hd} (hm : mayB h.p h.ms h.us.length = true) (hu : ByteOk h.us) : ByteOk (layS h) := pageS_ok (by omega) (bearS_ok hm hu)

/-- a call in the region: its value, and that it leaves what is there -/
theorem call_gives {P : Program} {f : FuncId} {args : Array Value} {wx : World} {v : Value} {F : Value → World → Prop} (h : Calls P f args wx fun r w' => r = .returned v ∧ Below wx.heap.size wx w') (hF : ∀ w', F v w') :
    Calls P f args wx fun e w' => ∃ v, e = .returned v ∧ Below wx.heap.size wx w' ∧ F v w' := by
  refine h.mono ?_
  rintro r w' ⟨rfl, hb⟩
  exact ⟨_, rfl, hb, hF w'⟩
/-- a call that changes nothing -/
theorem call_same {P : Program} {f : FuncId} {args : Array Value} {wx : World} {v : Value} {F : Value → World → Prop} (h : Calls P f args wx fun r w' => r = .returned v ∧ w' = wx) (hF : ∀ w', F v w') :
    Calls P f args wx fun e w' => ∃ v, e = .returned v ∧ Below wx.heap.size wx w' ∧ F v w' := by
  refine h.mono ?_
  rintro r w' ⟨rfl, rfl⟩
  exact ⟨_, rfl, Below.refl _ _, hF _⟩

/-- bytes of the call's own, and no error -/
def isTwo (B : Nat) (zs : List Int) : Value → World → Prop := fun v w => ∃ a n c, v = .tuple #[.slice a n c, .int .i64 0] ∧ w.ownsRow B 5 1 (.slice a n c) zs.length (zs.map (Value.int .u8))
theorem stable_isTwo (B : Nat) (zs : List Int) : Stable (isTwo B zs) := fun _ _ _ hb ⟨a, n, c, h1, h2⟩ => ⟨a, n, c, h1, own_keep h2 hb⟩

theorem hlay_bad (w : World) (v : Value) (h : Hd) (hv : HdV w v h) (hmay : mayB h.p h.ms h.us.length = false) :
    Calls Tryd.prog 13 #[v] w fun r w' => r = .returned (.tuple #[.slice none 0 0, .int .i64 60]) ∧ Below w.heap.size w w' := by
  obtain ⟨ma, mc, ua, uc, rfl, hm, hu, he⟩ := hv
  obtain ⟨W, hW⟩ : ∃ W, W = w.alloc (.cells #[.int .u64 h.e, .int .i64 h.p, .slice ma h.ms.length mc, .slice ua h.us.length uc] 26) := ⟨_, rfl⟩
  have HB : Hid (Below w.heap.size w W) := by show Below _ _ _; rw [hW]; exact (Below.refl _ w).alloc (Nat.le_refl _) _
  have HP := hide (hput_bad W h.e h.p ma ua mc h.us.length uc h.ms (hm.below HB.out) hmay)
  have HW := hide hW
  rw [hW] at HP
  unfold hdV at HP ⊢
  clear hm hu he hmay hW
  go_enter Tryd.func13, Tryd.ntmps13
  go_wp2_with (go_at_call 11; refine HP.out.mono ?_; rintro e1 w1 ⟨rfl, hb1⟩; rw [← HW.out] at hb1; have HB1 := hide hb1; clear HP hb1)
  go_ret2
  exact ⟨rfl, HB.out.trans (HB1.out.mono HB.out.size)⟩

set_option maxHeartbeats 4000000 in
theorem hlay_ok (w : World) (v : Value) (h : Hd) (hv : HdV w v h) (hmay : mayB h.p h.ms h.us.length = true) (hT : Tab w) :
    Calls Tryd.prog 13 #[v] w fun r w' => ∃ v', r = .returned v' ∧ isTwo w.heap.size (layS h) v' w' ∧ Below w.heap.size w w' := by
  have hok := bearS_ok hmay (by obtain ⟨_, _, _, _, _, _, hu, _⟩ := hv; exact hu.bytes)
  have hbl := bearS_len hmay
  have HP0 := fun wx hvx => hput_ok wx v h hvx hmay
  obtain ⟨ma, mc, ua, uc, rfl, hm, hu, he⟩ := hv
  have HL : Hid (layS h = pageS 1 (h.e % 2) h.e (bearS h.p h.ms h.us)) := rfl
  obtain ⟨e, p, ms, us⟩ := h
  simp only at hm hu he hmay hok hbl HP0 HL ⊢
  unfold hdV at HP0 ⊢
  obtain ⟨W, hW⟩ : ∃ W, W = w.alloc (.cells #[.int .u64 e, .int .i64 p, .slice ma ms.length mc, .slice ua us.length uc] 26) := ⟨_, rfl⟩
  have hbW : Below w.heap.size w W := by rw [hW]; exact (Below.refl _ w).alloc (Nat.le_refl _) _
  have hbx : Blk W w.heap.size 26 [.int .u64 e, .int .i64 p, .slice ma ms.length mc, .slice ua us.length uc] := by rw [hW]; exact Blk.new w _ _
  have HP := hide (HP0 W ⟨ma, mc, ua, uc, rfl, hm.below hbW, hu.below hbW, he⟩)
  have HT := hide (hT.below hbW)
  have HB := hide hbW
  have HBX := hide hbx
  have HW := hide hW
  rw [hW] at HP
  obtain ⟨D, hD⟩ : ∃ D, D = bearS p ms us := ⟨_, rfl⟩
  rw [← hD] at HP hok hbl HL
  clear HP0 hm hu hmay hbW hbx hW hT hD
  go_enter Tryd.func13, Tryd.ntmps13
  go_wp2_with (go_at_call 11; refine HP.out.mono ?_; rintro e1 w1 ⟨g1, rfl, hg1, k1, hb1⟩; rw [← HW.out] at hg1 hb1; have HB1 := hide hb1; have HX1 := hide (HBX.out.below hb1 HBX.out.lt); have HT1 := hide (HT.out.below hb1); have HS1 := hide (sl_blk k1 hok hbl (by unfold maxLen; omega)); clear HP HBX HT hb1 k1)
  have HPF : Hid (∀ wx, Below w1.heap.size w1 wx → Calls Tryd.prog 33 #[.agg #[.int .i64 1, .int .i64 ((e % 2 : Nat) : Int), .int .u64 e, .slice (some ⟨g1, 0, none⟩) 240 240]] wx fun r w' => ∃ v, r = .returned v ∧ Below wx.heap.size wx w' ∧ isTwo w.heap.size (layS ⟨e, p, ms, us⟩) v w') := by
    intro wx hbel
    refine (put_ok wx 1 (e % 2) e (.slice (some ⟨g1, 0, none⟩) 240 240) D (HS1.out.below hbel) (HT1.out.below hbel) (by omega) (by omega) he (by omega)).mono ?_
    rintro r w' ⟨u, rfl, ho, hb⟩
    rw [← HL.out] at ho
    obtain ⟨a, c, rfl⟩ := own_slice ho
    refine ⟨_, rfl, hb, a, _, c, rfl, ?_⟩
    rw [layS_len]
    exact own_of_le ho (by have := HB.out.size; have := HB1.out.size; have := hbel.size; omega)
  refine wp_region_facts (FL [isV (.pointer (some ⟨w.heap.size, 0, none⟩)), isV (.int .u64 (e : Int)), isV (.int .i64 ((e % 2 : Nat) : Int)), isV (.pointer (some ⟨w.heap.size, 0, none⟩)), isV (.int .u64 (e : Int)), isV (.slice (some ⟨g1, 0, none⟩) 240 240), isV (.agg #[.int .i64 1, .int .i64 ((e % 2 : Nat) : Int), .int .u64 e, .slice (some ⟨g1, 0, none⟩) 240 240]), isTwo w.heap.size (layS ⟨e, p, ms, us⟩), isOwn w.heap.size (layS ⟨e, p, ms, us⟩), isV (.int .i64 0), isOwn w.heap.size (layS ⟨e, p, ms, us⟩), isV (.int .i64 0)]) 24 (by kernel_rfl) (by kernel_rfl) (by kernel_rfl) rfl (FL_stable _ (by repeat (first | exact trivial | refine ⟨stable_isV _, ?_⟩ | refine ⟨stable_isTwo _ _, ?_⟩ | refine ⟨stable_isOwn _ _, ?_⟩))) ?_ ?_
  · refine ⟨?_, ?_, ?_, ?_, ?_, ?_, ?_, ?_, ?_, ?_, ?_, ?_, trivial⟩
    · intro act wx h
      have e1 : act.eval (.tmp 1) = .pointer (some ⟨w.heap.size, 0, none⟩) := h.old 1 (by kernel_rfl)
      have hbel := h.below
      clear h
      refine gives_by rfl act.eval rfl ?_
      generalize act.eval = ρ at *
      intro hf hc
      go_simp
      exact ⟨Below.refl _ _, rfl⟩
    · intro act wx h
      obtain ⟨v14, e14, f14⟩ := h.val 0 14 (by kernel_rfl)
      obtain rfl : v14 = .pointer (some ⟨w.heap.size, 0, none⟩) := f14
      have hbel := h.below
      clear h
      obtain ⟨x0, x1, x2, x3⟩ := box_cells (HX1.out.below hbel HX1.out.lt)
      refine gives_by rfl act.eval rfl ?_
      generalize act.eval = ρ at *
      intro hf hc
      go_simp
      exact ⟨Below.refl _ _, rfl⟩
    · intro act wx h
      obtain ⟨v15, e15, f15⟩ := h.val 1 15 (by kernel_rfl)
      obtain rfl : v15 = .int .u64 (e : Int) := f15
      have hbel := h.below
      clear h
      refine gives_by rfl act.eval rfl ?_
      generalize act.eval = ρ at *
      intro hf hc
      go_simp
      exact call_same (hpage_any wx e) (fun _ => rfl)
    · intro act wx h
      have e1 : act.eval (.tmp 1) = .pointer (some ⟨w.heap.size, 0, none⟩) := h.old 1 (by kernel_rfl)
      have hbel := h.below
      clear h
      refine gives_by rfl act.eval rfl ?_
      generalize act.eval = ρ at *
      intro hf hc
      go_simp
      exact ⟨Below.refl _ _, rfl⟩
    · intro act wx h
      obtain ⟨v17, e17, f17⟩ := h.val 3 17 (by kernel_rfl)
      obtain rfl : v17 = .pointer (some ⟨w.heap.size, 0, none⟩) := f17
      have hbel := h.below
      clear h
      obtain ⟨x0, x1, x2, x3⟩ := box_cells (HX1.out.below hbel HX1.out.lt)
      refine gives_by rfl act.eval rfl ?_
      generalize act.eval = ρ at *
      intro hf hc
      go_simp
      exact ⟨Below.refl _ _, rfl⟩
    · intro act wx h
      have e4 : act.eval (.tmp 4) = .slice (some ⟨g1, 0, none⟩) 240 240 := h.old 4 (by kernel_rfl)
      have hbel := h.below
      clear h
      refine gives_by rfl act.eval rfl ?_
      generalize act.eval = ρ at *
      intro hf hc
      go_simp
      exact ⟨Below.refl _ _, rfl⟩
    · intro act wx h
      obtain ⟨v16, e16, f16⟩ := h.val 2 16 (by kernel_rfl)
      obtain rfl : v16 = .int .i64 ((e % 2 : Nat) : Int) := f16
      obtain ⟨v18, e18, f18⟩ := h.val 4 18 (by kernel_rfl)
      obtain rfl : v18 = .int .u64 (e : Int) := f18
      obtain ⟨v19, e19, f19⟩ := h.val 5 19 (by kernel_rfl)
      obtain rfl : v19 = .slice (some ⟨g1, 0, none⟩) 240 240 := f19
      have hbel := h.below
      clear h
      refine gives_by rfl act.eval rfl ?_
      generalize act.eval = ρ at *
      intro hf hc
      go_simp
      exact ⟨Below.refl _ _, rfl⟩
    · intro act wx h
      obtain ⟨v20, e20, f20⟩ := h.val 6 20 (by kernel_rfl)
      obtain rfl : v20 = .agg #[.int .i64 1, .int .i64 ((e % 2 : Nat) : Int), .int .u64 e, .slice (some ⟨g1, 0, none⟩) 240 240] := f20
      have hbel := h.below
      clear h
      refine gives_by rfl act.eval rfl ?_
      generalize act.eval = ρ at *
      intro hf hc
      go_simp
      exact HPF.out wx hbel
    · intro act wx h
      obtain ⟨v21, e21, f21⟩ := h.val 7 21 (by kernel_rfl)
      obtain ⟨a21, n21, c21, rfl, O21⟩ := f21
      have hbel := h.below
      clear h
      refine gives_by rfl act.eval rfl ?_
      generalize act.eval = ρ at *
      intro hf hc
      go_simp
      exact ⟨Below.refl _ _, a21, n21, c21, rfl, O21⟩
    · intro act wx h
      obtain ⟨v21, e21, f21⟩ := h.val 7 21 (by kernel_rfl)
      obtain ⟨a21, n21, c21, rfl, O21⟩ := f21
      have hbel := h.below
      clear h
      refine gives_by rfl act.eval rfl ?_
      generalize act.eval = ρ at *
      intro hf hc
      go_simp
      exact ⟨Below.refl _ _, rfl⟩
    · intro act wx h
      obtain ⟨v22, e22, f22⟩ := h.val 8 22 (by kernel_rfl)
      obtain ⟨a22, n22, c22, rfl, O22⟩ := f22
      have hbel := h.below
      clear h
      refine gives_by rfl act.eval rfl ?_
      generalize act.eval = ρ at *
      intro hf hc
      go_simp
      exact ⟨Below.refl _ _, ⟨a22, n22, c22, rfl, O22⟩⟩
    · intro act wx h
      obtain ⟨v23, e23, f23⟩ := h.val 9 23 (by kernel_rfl)
      obtain rfl : v23 = .int .i64 0 := f23
      have hbel := h.below
      clear h
      refine gives_by rfl act.eval rfl ?_
      generalize act.eval = ρ at *
      intro hf hc
      go_simp
      exact ⟨Below.refl _ _, rfl⟩
  · intro vals w2 hb2 hv
    obtain ⟨a2, n2, l2, hv10, O2⟩ : isOwn w.heap.size (layS ⟨e, p, ms, us⟩) (vals 10) w2 := hv 10 2 (by kernel_rfl)
    have hv11 : vals 11 = .int .i64 0 := hv 11 3 (by kernel_rfl)
    clear hv
    have hb02 : Below w.heap.size w w2 := HB.out.trans ((HB1.out.mono HB.out.size).trans (hb2.mono (by have := HB.out.size; have := HB1.out.size; omega)))
    have HO2 := hide O2
    have HB2 := hide hb02
    generalize hact : putAll _ vals 0 _ = act
    clear O2 hb02 hb2
    subst hact
    simp only [putAll, Act.put, List.setIfInBounds_toArray, List.set_cons_zero, List.set_cons_succ, hv10, hv11, Nat.zero_add, Nat.reduceAdd]
    go_wp2
    go_ret2
    exact ⟨_, rfl, ⟨a2, n2, l2, rfl, HO2.out⟩, HB2.out⟩

end Go.Proofs.YtmeiahmolmneeaaDoor
