/- Contracts: package freemap's Clone, Avail, Alloc. -/
import Derived.Test.YtbnhacibkmcmkaaDoorKAlloc
import Derived.Test.YtbnhacibkmcmkaaDoorRegionG
namespace Go.Proofs.YtbnhacibkmcmkaaDoor
set_option maxRecDepth 20000
open Go.RowKit
set_option linter.unusedVariables false
set_option maxRecDepth 100000

/-- two copies, the one at A, the other one behind it; both in a struct's value; that in a block -/
def isOne (A n : Nat) (f : Nat → Bool) : Value → World → Prop := fun v w => v = dp A ∧ SetB w A n f
def isTwo (A n : Nat) (f g : Nat → Bool) : Value → World → Prop := fun v w => ∃ d, v = dp d ∧ A < d ∧ SetB w A n f ∧ SetB w d n g
def isAgg (A n : Nat) (f g : Nat → Bool) : Value → World → Prop := fun v w => ∃ d, v = .agg #[dp A, dp d] ∧ A < d ∧ SetB w A n f ∧ SetB w d n g
def isMap (A n : Nat) (f g : Nat → Bool) : Value → World → Prop := fun v w => ∃ q d, v = dp q ∧ A < d ∧ A < q ∧ SetB w A n f ∧ SetB w d n g ∧ Blk w q 66 [dp A, dp d]
theorem stS_isOne (A n : Nat) (f : Nat → Bool) : StS (fun _ => False) (isOne A n f) := fun v w w' hb ⟨h1, h2⟩ => ⟨h1, h2.only hb (fun h => h)⟩
theorem stS_isTwo (A n : Nat) (f g : Nat → Bool) : StS (fun _ => False) (isTwo A n f g) := fun v w w' hb ⟨d, h1, h2, h3, h4⟩ => ⟨d, h1, h2, h3.only hb (fun h => h), h4.only hb (fun h => h)⟩
theorem stS_isAgg (A n : Nat) (f g : Nat → Bool) : StS (fun _ => False) (isAgg A n f g) := fun v w w' hb ⟨d, h1, h2, h3, h4⟩ => ⟨d, h1, h2, h3.only hb (fun h => h), h4.only hb (fun h => h)⟩
theorem stS_isMap (A n : Nat) (f g : Nat → Bool) : StS (fun _ => False) (isMap A n f g) := fun v w w' hb ⟨q, d, h1, h2, h3, h4, h5, h6⟩ => ⟨q, d, h1, h2, h3, h4.only hb (fun h => h), h5.only hb (fun h => h), h6.only hb (fun h => h)⟩

set_option maxHeartbeats 2000000 in
/-- a copy: its blocks are new -/
theorem mclone_any (w : World) (B b n : Nat) (f g : Nat → Bool) (h : MapE w B b n f g) : Calls Tryd.prog 23 #[dp b] w fun e w' => ∃ c, e = .returned (dp c) ∧ MapE w' w.heap.size c n f g ∧ Below w.heap.size w w' := by
  have HM := hide (mmade_any w B b n f g h)
  obtain ⟨t, s, h⟩ := h
  have HV0 : Hid (∀ wx, Only (fun _ => False) w wx → wx.cell? ⟨b, 0, none⟩ = some (dp t) ∧ wx.cell? ⟨b, 1, none⟩ = some (dp s) ∧ SetB wx t n f ∧ SetB wx s n g) := fun wx ho => by
    have h' := h.below (ho.below (Nat.le_refl _) (fun _ _ h => h))
    exact ⟨h'.c0, h'.c1, h'.ts, h'.ss⟩
  have HT := hide h.tab
  have HP : Hid (0 < w.heap.size) := Nat.lt_of_lt_of_le h.pos h.le
  clear h
  go_enter Tryd.func23, Tryd.ntmps23
  go_wp2_with (first
    | (go_at_call 52; refine HM.out.mono ?_; rintro e wx ⟨rfl, hw⟩; subst wx; clear HM))
  refine wp_region_grow [isV (.pointer (some ⟨b, 0, none⟩)), isV (.pointer (some ⟨b, 0, none⟩)), isV (.pointer (some ⟨b, 0, none⟩)), isV (.pointer (some ⟨t, 0, none⟩)), isOne w.heap.size n f, isV (.pointer (some ⟨b, 0, none⟩)), isV (.pointer (some ⟨b, 0, none⟩)), isV (.pointer (some ⟨b, 1, none⟩)), isV (.pointer (some ⟨s, 0, none⟩)), isTwo w.heap.size n f g, isAgg w.heap.size n f g, isMap w.heap.size n f g] 4 18 12 (by kernel_rfl) (by kernel_rfl) (by kernel_rfl) (by kernel_rfl) rfl ?_ ?_ ?_
  · repeat (first | exact trivial | refine allStL_isV ?_ | refine ⟨stS_isOne _ _ _, fun _ => stS_isOne _ _ _, ?_⟩ | refine ⟨stS_isTwo _ _ _ _, fun _ => stS_isTwo _ _ _ _, ?_⟩ | refine ⟨stS_isAgg _ _ _ _, fun _ => stS_isAgg _ _ _ _, ?_⟩ | refine ⟨stS_isMap _ _ _ _, fun _ => stS_isMap _ _ _ _, ?_⟩)
  · refine ⟨?_, ?_, ?_, ?_, ?_, ?_, ?_, ?_, ?_, ?_, ?_, ?_, trivial⟩
    · intro act wx h
      have e0 : act.eval (.tmp 0) = .pointer (some ⟨b, 0, none⟩) := h.old 0 (by kernel_rfl)
      have hrel := h.rel
      clear h
      refine gives_by rfl act.eval rfl ?_
      generalize act.eval = ρ at *
      intro hf hc
      go_simp
      exact ⟨grow_refl _ _ _ _, rfl⟩
    · intro act wx h
      obtain ⟨v6, e6, f6⟩ := h.val 0 6 (by kernel_rfl)
      obtain rfl : v6 = .pointer (some ⟨b, 0, none⟩) := f6
      have hrel := h.rel
      clear h
      refine gives_by rfl act.eval rfl ?_
      generalize act.eval = ρ at *
      intro hf hc
      go_simp
      exact ⟨grow_refl _ _ _ _, rfl⟩
    · intro act wx h
      obtain ⟨v7, e7, f7⟩ := h.val 1 7 (by kernel_rfl)
      obtain rfl : v7 = .pointer (some ⟨b, 0, none⟩) := f7
      have hrel := h.rel
      clear h
      refine gives_by rfl act.eval rfl ?_
      generalize act.eval = ρ at *
      intro hf hc
      go_simp
      exact ⟨grow_refl _ _ _ _, rfl⟩
    · intro act wx h
      obtain ⟨v8, e8, f8⟩ := h.val 2 8 (by kernel_rfl)
      obtain rfl : v8 = .pointer (some ⟨b, 0, none⟩) := f8
      have hrel := h.rel
      clear h
      have cx := (HV0.out wx hrel).1
      refine gives_by rfl act.eval rfl ?_
      generalize act.eval = ρ at *
      intro hf hc
      go_simp
      exact ⟨grow_refl _ _ _ _, rfl⟩
    · intro act wx h
      obtain ⟨v9, e9, f9⟩ := h.val 3 9 (by kernel_rfl)
      obtain rfl : v9 = .pointer (some ⟨t, 0, none⟩) := f9
      have hrel := h.rel
      have hq := growO_at h.relq
      clear h
      refine gives_by rfl act.eval rfl ?_
      generalize act.eval = ρ at *
      intro hf hc
      go_simp
      refine (clone_any wx t n f (HV0.out wx hrel).2.2.1).mono ?_
      rintro e wy ⟨rfl, hw⟩
      have hbw : Below wx.heap.size wx wy := by rw [hw]; exact (Below.refl _ wx).alloc (Nat.le_refl _) _
      have hss := (HV0.out wx hrel).2.2.1
      exact ⟨_, rfl, grow_M (Only.of_below _ hbw), by rw [hq], ⟨by rw [hw, ← hq]; exact Blk.new wx _ _, hss.lo, hss.hi, hss.out⟩⟩
    · intro act wx h
      have e0 : act.eval (.tmp 0) = .pointer (some ⟨b, 0, none⟩) := h.old 0 (by kernel_rfl)
      have hrel := h.rel
      clear h
      refine gives_by rfl act.eval rfl ?_
      generalize act.eval = ρ at *
      intro hf hc
      go_simp
      exact ⟨grow_refl _ _ _ _, rfl⟩
    · intro act wx h
      obtain ⟨v11, e11, f11⟩ := h.val 5 11 (by kernel_rfl)
      obtain rfl : v11 = .pointer (some ⟨b, 0, none⟩) := f11
      have hrel := h.rel
      clear h
      refine gives_by rfl act.eval rfl ?_
      generalize act.eval = ρ at *
      intro hf hc
      go_simp
      exact ⟨grow_refl _ _ _ _, rfl⟩
    · intro act wx h
      obtain ⟨v12, e12, f12⟩ := h.val 6 12 (by kernel_rfl)
      obtain rfl : v12 = .pointer (some ⟨b, 0, none⟩) := f12
      have hrel := h.rel
      clear h
      refine gives_by rfl act.eval rfl ?_
      generalize act.eval = ρ at *
      intro hf hc
      go_simp
      exact ⟨grow_refl _ _ _ _, rfl⟩
    · intro act wx h
      obtain ⟨v13, e13, f13⟩ := h.val 7 13 (by kernel_rfl)
      obtain rfl : v13 = .pointer (some ⟨b, 1, none⟩) := f13
      have hrel := h.rel
      clear h
      have cx := (HV0.out wx hrel).2.1
      refine gives_by rfl act.eval rfl ?_
      generalize act.eval = ρ at *
      intro hf hc
      go_simp
      exact ⟨grow_refl _ _ _ _, rfl⟩
    · intro act wx h
      obtain ⟨v14, e14, f14⟩ := h.val 8 14 (by kernel_rfl)
      obtain rfl : v14 = .pointer (some ⟨s, 0, none⟩) := f14
      have hrel := h.rel
      obtain ⟨v10, e10, f10⟩ := h.val 4 10 (by kernel_rfl)
      obtain ⟨rfl, hs10⟩ := f10
      clear h
      refine gives_by rfl act.eval rfl ?_
      generalize act.eval = ρ at *
      intro hf hc
      go_simp
      refine (clone_any wx s n g (HV0.out wx hrel).2.2.2).mono ?_
      rintro e wy ⟨rfl, hw⟩
      have hbw : Below wx.heap.size wx wy := by rw [hw]; exact (Below.refl _ wx).alloc (Nat.le_refl _) _
      have hss := (HV0.out wx hrel).2.2.2
      exact ⟨_, rfl, grow_dep (by kernel_rfl) (Only.of_below _ hbw), _, rfl, hs10.lt, hs10.below hbw, ⟨by rw [hw]; exact Blk.new wx _ _, hss.lo, hss.hi, hss.out⟩⟩
    · intro act wx h
      obtain ⟨v10, e10, f10⟩ := h.val 4 10 (by kernel_rfl)
      obtain ⟨rfl, hs10⟩ := f10
      obtain ⟨v15, e15, f15⟩ := h.val 9 15 (by kernel_rfl)
      obtain ⟨d15, rfl, hd15, hs15, hr15⟩ := f15
      have hrel := h.rel
      clear h
      refine gives_by rfl act.eval rfl ?_
      generalize act.eval = ρ at *
      intro hf hc
      go_simp
      exact ⟨grow_refl _ _ _ _, d15, rfl, hd15, hs15, hr15⟩
    · intro act wx h
      obtain ⟨v16, e16, f16⟩ := h.val 10 16 (by kernel_rfl)
      obtain ⟨d16, rfl, hd16, hs16, hr16⟩ := f16
      have hrel := h.rel
      clear h
      refine gives_by rfl act.eval rfl ?_
      generalize act.eval = ρ at *
      intro hf hc
      go_simp
      have hbw : Below wx.heap.size wx (wx.alloc (.cells #[dp w.heap.size, dp d16] 66)) := (Below.refl _ wx).alloc (Nat.le_refl _) _
      exact ⟨grow_dep (by kernel_rfl) (Only.of_below _ hbw), _, d16, rfl, hd16, hs16.lt, hs16.below hbw, hr16.below hbw, Blk.new wx _ _⟩
  · intro oL hoL vals w3 ho3 hv
    simp only [List.getElem?_toArray, List.getElem?_cons_succ, List.getElem?_cons_zero, Option.some.injEq] at hoL
    subst hoL
    have hv11 : isMap w.heap.size n f g (vals 11) w3 := hv 11 17 (by decide) (by kernel_rfl)
    clear hv
    generalize hact : putAll _ vals 0 _ = act
    obtain ⟨q, d, hq, hd1, hq1, h1, h2, h3⟩ := hv11
    have hb : Below w.heap.size w w3 := ho3.below (Nat.le_refl _) (fun _ _ h => h)
    have HR : Hid (MapE w3 w.heap.size q n f g ∧ Below w.heap.size w w3) := ⟨⟨w.heap.size, d, h3, h1, h2, by omega, by omega, Nat.le_refl _, by omega, HT.out.below hb, HP.out⟩, hb⟩
    clear h1 h2 h3 hb hd1 hq1
    subst hact
    simp only [List.dropLast, putAll, Act.put, List.setIfInBounds_toArray, List.set_cons_zero, List.set_cons_succ, hq]
    refine gives_by rfl _ rfl ?_
    intro hf hc
    go_simp
    clear hf hc
    refine gUpon_value rfl ?_
    go_wp2
    go_ret
    exact ⟨q, rfl, HR.out.1, HR.out.2⟩

set_option maxHeartbeats 2000000 in
theorem mavail_any (w : World) (B b n : Nat) (f g : Nat → Bool) (h : MapE w B b n f g) : Calls Tryd.prog 33 #[dp b] w fun e w' => e = .returned (.int .i64 (cntF (frF n f g) n : Nat)) ∧ Below w.heap.size w w' := by
  have HM := hide (mmade_any w B b n f g h)
  have HX := hide h
  have HC := cnt_parts n f g
  have hn := h.num.2
  obtain ⟨t, s, h⟩ := h
  have HV0 : Hid (∀ wx, Below w.heap.size w wx → wx.cell? ⟨b, 0, none⟩ = some (dp t) ∧ SetB wx t n f) := fun wx hb => ⟨(h.below hb).c0, (h.below hb).ts⟩
  have HH : Hid (∀ wx, Below w.heap.size w wx → Calls Tryd.prog 32 #[dp b] wx fun e w' => e = .returned (.int .i64 (cntF (heF f g) n : Nat)) ∧ Below wx.heap.size wx w') := fun wx hb => mheld_any wx B b n f g (HX.out.below hb)
  have HL : Hid (∀ wx, Below w.heap.size w wx → Calls Tryd.prog 59 #[dp t] wx fun e w' => e = .returned (.int .i64 (cntF f n : Nat)) ∧ w' = wx) := fun wx hb => len_any wx t n f (HV0.out wx hb).2
  generalize cntF f n = c1 at *
  generalize cntF (heF f g) n = c2 at *
  generalize cntF (frF n f g) n = c3 at *
  obtain ⟨c4, hc4⟩ : ∃ c4, c2 + c3 = c4 := ⟨_, rfl⟩
  have d1 : (n : Int) - (c1 : Int) = (c4 : Int) := by omega
  have d2 : (c4 : Int) - (c2 : Int) = (c3 : Int) := by omega
  have w1 := wrap_i64_in c4 (by omega)
  have w2 := wrap_i64_in c3 (by omega)
  clear h HC hc4
  go_enter Tryd.func33, Tryd.ntmps33
  go_wp2_with (first
    | (go_at_call 52; refine HM.out.mono ?_; rintro e wx ⟨rfl, hw⟩; subst wx; clear HM))
  refine wp_region_facts (FL [isV (.pointer (some ⟨b, 0, none⟩)), isV (.pointer (some ⟨b, 0, none⟩)), isV (.pointer (some ⟨b, 0, none⟩)), isV (.pointer (some ⟨t, 0, none⟩)), isV (.int .i64 (n : Int)), isV (.pointer (some ⟨b, 0, none⟩)), isV (.pointer (some ⟨b, 0, none⟩)), isV (.pointer (some ⟨b, 0, none⟩)), isV (.pointer (some ⟨t, 0, none⟩)), isV (.int .i64 (c1 : Int)), isV (.int .i64 (c4 : Int)), isV (.pointer (some ⟨b, 0, none⟩)), isV (.int .i64 (c2 : Int)), isV (.int .i64 (c3 : Int)), isV (.int .i64 (c3 : Int))]) 20 (by kernel_rfl) (by kernel_rfl) (by kernel_rfl) rfl (FL_stable _ (by repeat (first | exact trivial | refine ⟨stable_isV _, ?_⟩))) ?_ ?_
  · refine ⟨?_, ?_, ?_, ?_, ?_, ?_, ?_, ?_, ?_, ?_, ?_, ?_, ?_, ?_, ?_, trivial⟩
    · intro act wx h
      have e0 : act.eval (.tmp 0) = .pointer (some ⟨b, 0, none⟩) := h.old 0 (by kernel_rfl)
      have hbel := h.below
      clear h
      refine gives_by rfl act.eval rfl ?_
      generalize act.eval = ρ at *
      intro hf hc
      go_simp
      exact ⟨Below.refl _ _, rfl⟩
    · intro act wx h
      obtain ⟨v6, e6, f6⟩ := h.val 0 6 (by kernel_rfl)
      obtain rfl : v6 = .pointer (some ⟨b, 0, none⟩) := f6
      have hbel := h.below
      clear h
      refine gives_by rfl act.eval rfl ?_
      generalize act.eval = ρ at *
      intro hf hc
      go_simp
      exact ⟨Below.refl _ _, rfl⟩
    · intro act wx h
      obtain ⟨v7, e7, f7⟩ := h.val 1 7 (by kernel_rfl)
      obtain rfl : v7 = .pointer (some ⟨b, 0, none⟩) := f7
      have hbel := h.below
      clear h
      refine gives_by rfl act.eval rfl ?_
      generalize act.eval = ρ at *
      intro hf hc
      go_simp
      exact ⟨Below.refl _ _, rfl⟩
    · intro act wx h
      obtain ⟨v8, e8, f8⟩ := h.val 2 8 (by kernel_rfl)
      obtain rfl : v8 = .pointer (some ⟨b, 0, none⟩) := f8
      have hbel := h.below
      clear h
      have cx := (HV0.out wx hbel).1
      refine gives_by rfl act.eval rfl ?_
      generalize act.eval = ρ at *
      intro hf hc
      go_simp
      exact ⟨Below.refl _ _, rfl⟩
    · intro act wx h
      obtain ⟨v9, e9, f9⟩ := h.val 3 9 (by kernel_rfl)
      obtain rfl : v9 = .pointer (some ⟨t, 0, none⟩) := f9
      have hbel := h.below
      clear h
      refine gives_by rfl act.eval rfl ?_
      generalize act.eval = ρ at *
      intro hf hc
      go_simp
      refine (size_any wx t n f (HV0.out wx hbel).2).mono ?_
      rintro e wy ⟨rfl, hw⟩
      subst wy
      exact ⟨_, rfl, Below.refl _ _, rfl⟩
    · intro act wx h
      have e0 : act.eval (.tmp 0) = .pointer (some ⟨b, 0, none⟩) := h.old 0 (by kernel_rfl)
      have hbel := h.below
      clear h
      refine gives_by rfl act.eval rfl ?_
      generalize act.eval = ρ at *
      intro hf hc
      go_simp
      exact ⟨Below.refl _ _, rfl⟩
    · intro act wx h
      obtain ⟨v11, e11, f11⟩ := h.val 5 11 (by kernel_rfl)
      obtain rfl : v11 = .pointer (some ⟨b, 0, none⟩) := f11
      have hbel := h.below
      clear h
      refine gives_by rfl act.eval rfl ?_
      generalize act.eval = ρ at *
      intro hf hc
      go_simp
      exact ⟨Below.refl _ _, rfl⟩
    · intro act wx h
      obtain ⟨v12, e12, f12⟩ := h.val 6 12 (by kernel_rfl)
      obtain rfl : v12 = .pointer (some ⟨b, 0, none⟩) := f12
      have hbel := h.below
      clear h
      refine gives_by rfl act.eval rfl ?_
      generalize act.eval = ρ at *
      intro hf hc
      go_simp
      exact ⟨Below.refl _ _, rfl⟩
    · intro act wx h
      obtain ⟨v13, e13, f13⟩ := h.val 7 13 (by kernel_rfl)
      obtain rfl : v13 = .pointer (some ⟨b, 0, none⟩) := f13
      have hbel := h.below
      clear h
      have cx := (HV0.out wx hbel).1
      refine gives_by rfl act.eval rfl ?_
      generalize act.eval = ρ at *
      intro hf hc
      go_simp
      exact ⟨Below.refl _ _, rfl⟩
    · intro act wx h
      obtain ⟨v14, e14, f14⟩ := h.val 8 14 (by kernel_rfl)
      obtain rfl : v14 = .pointer (some ⟨t, 0, none⟩) := f14
      have hbel := h.below
      clear h
      refine gives_by rfl act.eval rfl ?_
      generalize act.eval = ρ at *
      intro hf hc
      go_simp
      refine (HL.out wx hbel).mono ?_
      rintro e wy ⟨rfl, hw⟩
      subst wy
      exact ⟨_, rfl, Below.refl _ _, rfl⟩
    · intro act wx h
      obtain ⟨v10, e10, f10⟩ := h.val 4 10 (by kernel_rfl)
      obtain rfl : v10 = .int .i64 (n : Int) := f10
      obtain ⟨v15, e15, f15⟩ := h.val 9 15 (by kernel_rfl)
      obtain rfl : v15 = .int .i64 (c1 : Int) := f15
      have hbel := h.below
      clear h
      refine gives_by rfl act.eval rfl ?_
      generalize act.eval = ρ at *
      intro hf hc
      go_simp
      exact ⟨Below.refl _ _, rfl⟩
    · intro act wx h
      have e0 : act.eval (.tmp 0) = .pointer (some ⟨b, 0, none⟩) := h.old 0 (by kernel_rfl)
      have hbel := h.below
      clear h
      refine gives_by rfl act.eval rfl ?_
      generalize act.eval = ρ at *
      intro hf hc
      go_simp
      exact ⟨Below.refl _ _, rfl⟩
    · intro act wx h
      obtain ⟨v17, e17, f17⟩ := h.val 11 17 (by kernel_rfl)
      obtain rfl : v17 = .pointer (some ⟨b, 0, none⟩) := f17
      have hbel := h.below
      clear h
      refine gives_by rfl act.eval rfl ?_
      generalize act.eval = ρ at *
      intro hf hc
      go_simp
      refine (HH.out wx hbel).mono ?_
      rintro e wy ⟨rfl, hb⟩
      exact ⟨_, rfl, hb, rfl⟩
    · intro act wx h
      obtain ⟨v16, e16, f16⟩ := h.val 10 16 (by kernel_rfl)
      obtain rfl : v16 = .int .i64 (c4 : Int) := f16
      obtain ⟨v18, e18, f18⟩ := h.val 12 18 (by kernel_rfl)
      obtain rfl : v18 = .int .i64 (c2 : Int) := f18
      have hbel := h.below
      clear h
      refine gives_by rfl act.eval rfl ?_
      generalize act.eval = ρ at *
      intro hf hc
      go_simp
      exact ⟨Below.refl _ _, rfl⟩
    · intro act wx h
      obtain ⟨v19, e19, f19⟩ := h.val 13 19 (by kernel_rfl)
      obtain rfl : v19 = .int .i64 (c3 : Int) := f19
      have hbel := h.below
      clear h
      refine gives_by rfl act.eval rfl ?_
      generalize act.eval = ρ at *
      intro hf hc
      go_simp
      exact ⟨Below.refl _ _, rfl⟩
  · intro vals w2 hb2 hv
    have hv14 : vals 14 = .int .i64 (c3 : Int) := hv 14 2 (by kernel_rfl)
    clear hv
    generalize hact : putAll _ vals 0 _ = act
    have HB2 := hide hb2
    clear hb2
    subst hact
    simp only [putAll, Act.put, List.setIfInBounds_toArray, List.set_cons_zero, List.set_cons_succ, hv14, Nat.zero_add, Nat.reduceAdd]
    go_wp2
    go_ret
    exact ⟨rfl, HB2.out⟩

theorem malloc_any (w : World) (B b n : Nat) (f g : Nat → Bool) (h : MapE w B b n f g) : Calls Tryd.prog 24 #[dp b] w fun e w' => e = .returned (.tuple #[.int .i64 (alV n f g 1), .int .i64 (alE n f g 1)]) ∧ MapE w' B b n (alF n f g 1) g ∧ OnlyM B w w' := by
  have HA := hide (mrun_any w B b n f g 1 h)
  clear h
  go_enter Tryd.func24, Tryd.ntmps24
  go_wp2_with (first
    | (go_at_call 29; refine HA.out.mono ?_; rintro e w2 ⟨rfl, hm, ho⟩; have HM := hide hm; have HO := hide ho; clear HA hm ho))
  go_ret2
  exact ⟨rfl, HM.out, HO.out⟩

end Go.Proofs.YtbnhacibkmcmkaaDoor
