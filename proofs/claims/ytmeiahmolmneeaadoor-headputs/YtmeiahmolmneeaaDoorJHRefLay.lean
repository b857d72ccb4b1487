/- Contract: a head's page in its frame, by the document's answer (incipitref06.Lay). -/
import Derived.Test.YtmeiahmolmneeaaDoorJHRefCheck
import Derived.Test.YtmeiahmolmneeaaDoorHLay
import Derived.Test.YtmeiahmolmneeaaDoorFRefPut
import Derived.Test.YtmeiahmolmneeaaDoorHRefSame
import Derived.Test.YtmeiahmolmneeaaDoorJHLive
namespace Go.Proofs.YtmeiahmolmneeaaDoor
set_option maxRecDepth 20000
open Go.RowKit
set_option linter.unusedVariables false

theorem refLayH_bad (w : World) (v : Value) (h : Hd) (hv : HdV w v h) (hmay : mayB h.p h.ms h.us.length = false) :
    Calls Tryd.prog 14 #[v] w fun r w' => r = .returned (.tuple #[.slice none 0 0, .int .i64 60]) ∧ Below w.heap.size w w' := by
  obtain ⟨ma, mc, ua, uc, rfl, hm, hu, he⟩ := hv
  obtain ⟨W, hW⟩ : ∃ W, W = w.alloc (.cells #[.int .u64 h.e, .int .i64 h.p, .slice ma h.ms.length mc, .slice ua h.us.length uc] 26) := ⟨_, rfl⟩
  have HB : Hid (Below w.heap.size w W) := by show Below _ _ _; rw [hW]; exact (Below.refl _ w).alloc (Nat.le_refl _) _
  have HP := hide (refPutH_bad W h.e h.p ma ua mc h.us.length uc h.ms (hm.below HB.out) hmay)
  have HW := hide hW
  rw [hW] at HP
  unfold hdV at HP ⊢
  clear hm hu he hmay hW
  go_enter Tryd.func14, Tryd.ntmps14
  go_wp2_with (go_at_call 12; refine HP.out.mono ?_; rintro e1 w1 ⟨rfl, hb1⟩; rw [← HW.out] at hb1; have HB1 := hide hb1; clear HP hb1)
  go_ret2
  exact ⟨rfl, HB.out.trans (HB1.out.mono HB.out.size)⟩

set_option maxHeartbeats 4000000 in
theorem refLayH_ok (w : World) (v : Value) (h : Hd) (hv : HdV w v h) (hmay : mayB h.p h.ms h.us.length = true) :
    Calls Tryd.prog 14 #[v] w fun r w' => ∃ v', r = .returned v' ∧ isTwo w.heap.size (layS h) v' w' ∧ Below w.heap.size w w' := by
  have hok := bearS_ok hmay (by obtain ⟨_, _, _, _, _, _, hu, _⟩ := hv; exact hu.bytes)
  have hbl := bearS_len hmay
  have HP0 := fun wx hvx => refPutH_ok wx v h hvx hmay
  obtain ⟨ma, mc, ua, uc, rfl, hm, hu, he⟩ := hv
  have HL : Hid (layS h = pageS 1 (h.e % 2) h.e (bearS h.p h.ms h.us)) := rfl
  obtain ⟨e, p, ms, us⟩ := h
  simp only at hm hu he hmay hok hbl HP0 HL ⊢
  unfold hdV at HP0 ⊢
  obtain ⟨W, hW⟩ : ∃ W, W = w.alloc (.cells #[.int .u64 e, .int .i64 p, .slice ma ms.length mc, .slice ua us.length uc] 26) := ⟨_, rfl⟩
  have hbW : Below w.heap.size w W := by rw [hW]; exact (Below.refl _ w).alloc (Nat.le_refl _) _
  have hbx : Blk W w.heap.size 26 [.int .u64 e, .int .i64 p, .slice ma ms.length mc, .slice ua us.length uc] := by rw [hW]; exact Blk.new w _ _
  have HP := hide (HP0 W ⟨ma, mc, ua, uc, rfl, hm.below hbW, hu.below hbW, he⟩)
  have HB := hide hbW
  have HBX := hide hbx
  have HW := hide hW
  rw [hW] at HP
  obtain ⟨D, hD⟩ : ∃ D, D = bearS p ms us := ⟨_, rfl⟩
  rw [← hD] at HP hok hbl HL
  clear HP0 hm hu hmay hbW hbx hW hD
  go_enter Tryd.func14, Tryd.ntmps14
  go_wp2_with (go_at_call 12; refine HP.out.mono ?_; rintro e1 w1 ⟨ga, gn, gc, rfl, k1, hb1⟩; rw [← HW.out] at hb1; obtain ⟨ga', gc', hgg⟩ := own_slice k1; have HB1 := hide hb1; have HX1 := hide (HBX.out.below hb1 HBX.out.lt); have HS1 := hide (sl_of_own_len k1 hok); have hgn : gn = 240 := (by simp only [Value.slice.injEq] at hgg; exact hgg.2.1.trans hbl); clear HP HBX hb1 k1 hgg)
  try subst hgn
  have HPF : Hid (∀ wx, Below w1.heap.size w1 wx → Calls Tryd.prog 34 #[.agg #[.int .i64 1, .int .i64 ((e % 2 : Nat) : Int), .int .u64 e, .slice ga 240 gc]] wx fun r w' => ∃ v, r = .returned v ∧ Below wx.heap.size wx w' ∧ isTwo w.heap.size (layS ⟨e, p, ms, us⟩) v w') := by
    intro wx hbel
    have hpo := refPut_ok wx 1 (e % 2) e ga gc D (by rw [hbl]; exact HS1.out.below hbel) (by omega) (by omega) he (by omega)
    rw [hbl] at hpo
    refine hpo.mono ?_
    rintro r w' ⟨u, rfl, ho, hb⟩
    rw [← HL.out] at ho
    obtain ⟨a, c, rfl⟩ := own_slice ho
    refine ⟨_, rfl, hb, a, _, c, rfl, ?_⟩
    rw [layS_len]
    exact own_of_le ho (by have := HB.out.size; have := HB1.out.size; have := hbel.size; omega)
  refine wp_region_facts (FL [isV (.pointer (some ⟨w.heap.size, 0, none⟩)), isV (.int .u64 (e : Int)), isV (.int .i64 ((e % 2 : Nat) : Int)), isV (.pointer (some ⟨w.heap.size, 0, none⟩)), isV (.int .u64 (e : Int)), isV (.slice ga 240 gc), isV (.agg #[.int .i64 1, .int .i64 ((e % 2 : Nat) : Int), .int .u64 e, .slice ga 240 gc]), isTwo w.heap.size (layS ⟨e, p, ms, us⟩), isOwn w.heap.size (layS ⟨e, p, ms, us⟩), isV (.int .i64 0), isOwn w.heap.size (layS ⟨e, p, ms, us⟩), isV (.int .i64 0)]) 24 (by kernel_rfl) (by kernel_rfl) (by kernel_rfl) rfl (FL_stable _ (by repeat (first | exact trivial | refine ⟨stable_isV _, ?_⟩ | refine ⟨stable_isTwo _ _, ?_⟩ | refine ⟨stable_isOwn _ _, ?_⟩))) ?_ ?_
  · refine ⟨?_, ?_, ?_, ?_, ?_, ?_, ?_, ?_, ?_, ?_, ?_, ?_, trivial⟩
    · intro act wx h
      have e1 : act.eval (.tmp 1) = .pointer (some ⟨w.heap.size, 0, none⟩) := h.old 1 (by kernel_rfl)
      have hbel := h.below
      clear h
      refine gives_by rfl act.eval rfl ?_
      generalize act.eval = ρ at *
      intro hf hc
      go_simp
      exact ⟨Below.refl _ _, rfl⟩
    · intro act wx h
      obtain ⟨v14, e14, f14⟩ := h.val 0 14 (by kernel_rfl)
      obtain rfl : v14 = .pointer (some ⟨w.heap.size, 0, none⟩) := f14
      have hbel := h.below
      clear h
      obtain ⟨x0, x1, x2, x3⟩ := box_cells (HX1.out.below hbel HX1.out.lt)
      refine gives_by rfl act.eval rfl ?_
      generalize act.eval = ρ at *
      intro hf hc
      go_simp
      exact ⟨Below.refl _ _, rfl⟩
    · intro act wx h
      obtain ⟨v15, e15, f15⟩ := h.val 1 15 (by kernel_rfl)
      obtain rfl : v15 = .int .u64 (e : Int) := f15
      have hbel := h.below
      clear h
      refine gives_by rfl act.eval rfl ?_
      generalize act.eval = ρ at *
      intro hf hc
      go_simp
      exact call_same (refPageH_any wx e) (fun _ => rfl)
    · intro act wx h
      have e1 : act.eval (.tmp 1) = .pointer (some ⟨w.heap.size, 0, none⟩) := h.old 1 (by kernel_rfl)
      have hbel := h.below
      clear h
      refine gives_by rfl act.eval rfl ?_
      generalize act.eval = ρ at *
      intro hf hc
      go_simp
      exact ⟨Below.refl _ _, rfl⟩
    · intro act wx h
      obtain ⟨v17, e17, f17⟩ := h.val 3 17 (by kernel_rfl)
      obtain rfl : v17 = .pointer (some ⟨w.heap.size, 0, none⟩) := f17
      have hbel := h.below
      clear h
      obtain ⟨x0, x1, x2, x3⟩ := box_cells (HX1.out.below hbel HX1.out.lt)
      refine gives_by rfl act.eval rfl ?_
      generalize act.eval = ρ at *
      intro hf hc
      go_simp
      exact ⟨Below.refl _ _, rfl⟩
    · intro act wx h
      have e4 : act.eval (.tmp 4) = .slice ga 240 gc := h.old 4 (by kernel_rfl)
      have hbel := h.below
      clear h
      refine gives_by rfl act.eval rfl ?_
      generalize act.eval = ρ at *
      intro hf hc
      go_simp
      exact ⟨Below.refl _ _, rfl⟩
    · intro act wx h
      obtain ⟨v16, e16, f16⟩ := h.val 2 16 (by kernel_rfl)
      obtain rfl : v16 = .int .i64 ((e % 2 : Nat) : Int) := f16
      obtain ⟨v18, e18, f18⟩ := h.val 4 18 (by kernel_rfl)
      obtain rfl : v18 = .int .u64 (e : Int) := f18
      obtain ⟨v19, e19, f19⟩ := h.val 5 19 (by kernel_rfl)
      obtain rfl : v19 = .slice ga 240 gc := f19
      have hbel := h.below
      clear h
      refine gives_by rfl act.eval rfl ?_
      generalize act.eval = ρ at *
      intro hf hc
      go_simp
      exact ⟨Below.refl _ _, rfl⟩
    · intro act wx h
      obtain ⟨v20, e20, f20⟩ := h.val 6 20 (by kernel_rfl)
      obtain rfl : v20 = .agg #[.int .i64 1, .int .i64 ((e % 2 : Nat) : Int), .int .u64 e, .slice ga 240 gc] := f20
      have hbel := h.below
      clear h
      refine gives_by rfl act.eval rfl ?_
      generalize act.eval = ρ at *
      intro hf hc
      go_simp
      exact HPF.out wx hbel
    · intro act wx h
      obtain ⟨v21, e21, f21⟩ := h.val 7 21 (by kernel_rfl)
      obtain ⟨a21, n21, c21, rfl, O21⟩ := f21
      have hbel := h.below
      clear h
      refine gives_by rfl act.eval rfl ?_
      generalize act.eval = ρ at *
      intro hf hc
      go_simp
      exact ⟨Below.refl _ _, a21, n21, c21, rfl, O21⟩
    · intro act wx h
      obtain ⟨v21, e21, f21⟩ := h.val 7 21 (by kernel_rfl)
      obtain ⟨a21, n21, c21, rfl, O21⟩ := f21
      have hbel := h.below
      clear h
      refine gives_by rfl act.eval rfl ?_
      generalize act.eval = ρ at *
      intro hf hc
      go_simp
      exact ⟨Below.refl _ _, rfl⟩
    · intro act wx h
      obtain ⟨v22, e22, f22⟩ := h.val 8 22 (by kernel_rfl)
      obtain ⟨a22, n22, c22, rfl, O22⟩ := f22
      have hbel := h.below
      clear h
      refine gives_by rfl act.eval rfl ?_
      generalize act.eval = ρ at *
      intro hf hc
      go_simp
      exact ⟨Below.refl _ _, ⟨a22, n22, c22, rfl, O22⟩⟩
    · intro act wx h
      obtain ⟨v23, e23, f23⟩ := h.val 9 23 (by kernel_rfl)
      obtain rfl : v23 = .int .i64 0 := f23
      have hbel := h.below
      clear h
      refine gives_by rfl act.eval rfl ?_
      generalize act.eval = ρ at *
      intro hf hc
      go_simp
      exact ⟨Below.refl _ _, rfl⟩
  · intro vals w2 hb2 hv
    obtain ⟨a2, n2, l2, hv10, O2⟩ : isOwn w.heap.size (layS ⟨e, p, ms, us⟩) (vals 10) w2 := hv 10 2 (by kernel_rfl)
    have hv11 : vals 11 = .int .i64 0 := hv 11 3 (by kernel_rfl)
    clear hv
    have hb02 : Below w.heap.size w w2 := HB.out.trans ((HB1.out.mono HB.out.size).trans (hb2.mono (by have := HB.out.size; have := HB1.out.size; omega)))
    have HO2 := hide O2
    have HB2 := hide hb02
    generalize hact : putAll _ vals 0 _ = act
    clear O2 hb02 hb2
    subst hact
    simp only [putAll, Act.put, List.setIfInBounds_toArray, List.set_cons_zero, List.set_cons_succ, hv10, hv11, Nat.zero_add, Nat.reduceAdd]
    go_wp2
    go_ret2
    exact ⟨_, rfl, ⟨a2, n2, l2, rfl, HO2.out⟩, HB2.out⟩

end Go.Proofs.YtmeiahmolmneeaaDoor
/- The walk of the statement HeadPuts. -/
namespace Go.Proofs.YtmeiahmolmneeaaDoor
set_option maxRecDepth 20000
open Go.RowKit
set_option linter.unusedVariables false

/-- what a head's page bears, and that page, or nothing -/
def putD (h : Hd) : List Int := if mayB h.p h.ms h.us.length = true then bearS h.p h.ms h.us else []
def layD (h : Hd) : List Int := if mayB h.p h.ms h.us.length = true then layS h else []
theorem gen_no {h : Hd} (hm : mayB h.p h.ms h.us.length = false) : hcheckS h.p h.ms h.us.length = 60 ∧ putD h = [] ∧ layD h = [] := by
  unfold hcheckS putD layD
  rw [hm]
  exact ⟨rfl, rfl, rfl⟩
theorem gen_yes {h : Hd} (hm : mayB h.p h.ms h.us.length = true) : hcheckS h.p h.ms h.us.length = 0 ∧ putD h = bearS h.p h.ms h.us ∧ layD h = layS h := by
  unfold hcheckS putD layD
  rw [hm]
  exact ⟨rfl, rfl, rfl⟩
/-- bytes that were answered, with an error -/
def GivesD (w : World) (er : Int) (zs : List Int) (r : Ending) (w' : World) : Prop := ∃ a n c, r = .returned (.tuple #[.slice a n c, .int .i64 er]) ∧ Sl w' (.slice a n c) zs ∧ Below w.heap.size w w'

theorem hput_gen (w : World) (v : Value) (h : Hd) (hv : HdV w v h) : Calls Tryd.prog 11 #[v] w (GivesD w (hcheckS h.p h.ms h.us.length) (putD h)) := by
  cases hm : mayB h.p h.ms h.us.length with
  | false =>
    obtain ⟨q1, q2, _⟩ := gen_no hm
    rw [q1, q2]
    obtain ⟨ma, mc, ua, uc, rfl, hI, hU, he⟩ := hv
    refine (hput_bad w h.e h.p ma ua mc h.us.length uc h.ms hI hm).mono ?_
    rintro r w' ⟨rfl, hb⟩
    exact ⟨none, 0, 0, rfl, Sl.nil _, hb⟩
  | true =>
    obtain ⟨q1, q2, _⟩ := gen_yes hm
    rw [q1, q2]
    have hok := bearS_ok hm (by obtain ⟨_, _, _, _, _, _, hu, _⟩ := hv; exact hu.bytes)
    refine (hput_ok w v h hv hm).mono ?_
    rintro r w' ⟨g, rfl, _, hk, hb⟩
    exact ⟨_, _, _, rfl, sl_blk hk hok (bearS_len hm) (by unfold maxLen; omega), hb⟩
theorem rput_gen (w : World) (v : Value) (h : Hd) (hv : HdV w v h) : Calls Tryd.prog 12 #[v] w (GivesD w (hcheckS h.p h.ms h.us.length) (putD h)) := by
  cases hm : mayB h.p h.ms h.us.length with
  | false =>
    obtain ⟨q1, q2, _⟩ := gen_no hm
    rw [q1, q2]
    obtain ⟨ma, mc, ua, uc, rfl, hI, hU, he⟩ := hv
    refine (refPutH_bad w h.e h.p ma ua mc h.us.length uc h.ms hI hm).mono ?_
    rintro r w' ⟨rfl, hb⟩
    exact ⟨none, 0, 0, rfl, Sl.nil _, hb⟩
  | true =>
    obtain ⟨q1, q2, _⟩ := gen_yes hm
    rw [q1, q2]
    have hok := bearS_ok hm (by obtain ⟨_, _, _, _, _, _, hu, _⟩ := hv; exact hu.bytes)
    refine (refPutH_ok w v h hv hm).mono ?_
    rintro r w' ⟨a, n, c, rfl, ho, hb⟩
    exact ⟨_, _, _, rfl, sl_of_own_len ho hok, hb⟩
theorem hlay_gen (w : World) (v : Value) (h : Hd) (hv : HdV w v h) (hT : Tab w) : Calls Tryd.prog 13 #[v] w (GivesD w (hcheckS h.p h.ms h.us.length) (layD h)) := by
  cases hm : mayB h.p h.ms h.us.length with
  | false =>
    obtain ⟨q1, _, q2⟩ := gen_no hm
    rw [q1, q2]
    refine (hlay_bad w v h hv hm).mono ?_
    rintro r w' ⟨rfl, hb⟩
    exact ⟨none, 0, 0, rfl, Sl.nil _, hb⟩
  | true =>
    obtain ⟨q1, _, q2⟩ := gen_yes hm
    rw [q1, q2]
    have hok := layS_ok hm (by obtain ⟨_, _, _, _, _, _, hu, _⟩ := hv; exact hu.bytes)
    refine (hlay_ok w v h hv hm hT).mono ?_
    rintro r w' ⟨v', rfl, ⟨a, n, c, rfl, ho⟩, hb⟩
    exact ⟨_, _, _, rfl, sl_of_own_len ho hok, hb⟩
theorem rlay_gen (w : World) (v : Value) (h : Hd) (hv : HdV w v h) : Calls Tryd.prog 14 #[v] w (GivesD w (hcheckS h.p h.ms h.us.length) (layD h)) := by
  cases hm : mayB h.p h.ms h.us.length with
  | false =>
    obtain ⟨q1, _, q2⟩ := gen_no hm
    rw [q1, q2]
    refine (refLayH_bad w v h hv hm).mono ?_
    rintro r w' ⟨rfl, hb⟩
    exact ⟨none, 0, 0, rfl, Sl.nil _, hb⟩
  | true =>
    obtain ⟨q1, _, q2⟩ := gen_yes hm
    rw [q1, q2]
    have hok := layS_ok hm (by obtain ⟨_, _, _, _, _, _, hu, _⟩ := hv; exact hu.bytes)
    refine (refLayH_ok w v h hv hm).mono ?_
    rintro r w' ⟨v', rfl, ⟨a, n, c, rfl, ho⟩, hb⟩
    exact ⟨_, _, _, rfl, sl_of_own_len ho hok, hb⟩

set_option maxHeartbeats 8000000 in
theorem headPuts_walk (w : World) (va : Value) (ga : Hd) (vb : Value) (gb : Hd) (hva : HdIn w va ga) (hvb : HdIn w vb gb) (hT : Tab w) :
    Calls Tryd.prog 3 #[va, vb] w fun e w' => e = .returned (.bool true) ∧ Below w.heap.size w w' := by
  obtain ⟨ma, mc, ua, uc, rfl, hI, hU, he⟩ := hva
  obtain ⟨mb, nc, ub, vc, rfl, hJ, hV, he'⟩ := hvb
  obtain ⟨e, p, ms, us⟩ := ga
  obtain ⟨e', p', ns, vs⟩ := gb
  simp only at hI hU he hJ hV he' ⊢
  unfold hdV
  obtain ⟨M, hM⟩ : ∃ M, M = ms.length := ⟨_, rfl⟩
  obtain ⟨N, hN⟩ : ∃ N, N = us.length := ⟨_, rfl⟩
  obtain ⟨M', hM'⟩ : ∃ M, M = ns.length := ⟨_, rfl⟩
  obtain ⟨N', hN'⟩ : ∃ N, N = vs.length := ⟨_, rfl⟩
  rw [← hM] at hI ⊢
  rw [← hN] at hU ⊢
  rw [← hM'] at hJ ⊢
  rw [← hN'] at hV ⊢
  obtain ⟨cs, hcs⟩ : ∃ cs : List Value, cs = [.int .u64 e, .int .i64 p, .slice ma M mc, .slice ua N uc] := ⟨_, rfl⟩
  obtain ⟨ds, hds⟩ : ∃ ds : List Value, ds = [.int .u64 e', .int .i64 p', .slice mb M' nc, .slice ub N' vc] := ⟨_, rfl⟩
  have HN0 : Hid (Bh2 w ((w.alloc (.cells #[.int .u64 e, .int .i64 p, .slice ma M mc, .slice ua N uc] 26)).alloc (.cells #[.int .u64 e', .int .i64 p', .slice mb M' nc, .slice ub N' vc] 26)) cs ds) := by show Bh2 _ _ _ _; rw [hcs, hds]; exact Bh2.new w _ _
  have HL := hide (live_bh2 w cs ds hT)
  have HCE : Hid (∀ w1, Bh2 w w1 cs ds → (w1.cell? ⟨w.heap.size, 0, none⟩ = some (.int .u64 e) ∧ w1.cell? ⟨w.heap.size, 1, none⟩ = some (.int .i64 p) ∧ w1.cell? ⟨w.heap.size, 2, none⟩ = some (.slice ma M mc) ∧ w1.cell? ⟨w.heap.size, 3, none⟩ = some (.slice ua N uc)) ∧ (w1.cell? ⟨w.heap.size + 1, 0, none⟩ = some (.int .u64 e') ∧ w1.cell? ⟨w.heap.size + 1, 1, none⟩ = some (.int .i64 p') ∧ w1.cell? ⟨w.heap.size + 1, 2, none⟩ = some (.slice mb M' nc) ∧ w1.cell? ⟨w.heap.size + 1, 3, none⟩ = some (.slice ub N' vc))) := fun w1 hb => ⟨box_cells (hcs ▸ hb.2.1), box_cells (hds ▸ hb.2.2)⟩
  have HVA : Hid (∀ w1, Below w.heap.size w w1 → HdV w1 (.agg #[.int .u64 e, .int .i64 p, .slice ma M mc, .slice ua N uc]) ⟨e, p, ms, us⟩) := fun w1 hb => ⟨ma, mc, ua, uc, by rw [hM, hN]; rfl, by rw [← hM]; exact hI.below hb, by rw [← hN]; exact hU.below hb, he⟩
  have HVB : Hid (∀ w1, Below w.heap.size w w1 → HdV w1 (.agg #[.int .u64 e', .int .i64 p', .slice mb M' nc, .slice ub N' vc]) ⟨e', p', ns, vs⟩) := fun w1 hb => ⟨mb, nc, ub, vc, by rw [hM', hN']; rfl, by rw [← hM']; exact hJ.below hb, by rw [← hN']; exact hV.below hb, he'⟩
  have HS : Hid (∀ w1, Bh2 w w1 cs ds → Calls Tryd.prog 10 #[.slice (some ⟨w1.heap.size, 0, none⟩) 2 2] (w1.alloc (.cells #[.int .u64 e, .int .i64 p, .slice ma M mc, .slice ua N uc, .int .u64 e', .int .i64 p', .slice mb M' nc, .slice ub N' vc] 26)) fun r w2 => r = .returned (.bool (decide ((M ≤ 100 ∧ N ≤ 3000) ∧ (M' ≤ 100 ∧ N' ≤ 3000)))) ∧ Bh2 w w2 cs ds) := fun w1 hb => by
    refine (short_two w1 ⟨e, p, ma, M, mc, ua, N, uc⟩ ⟨e', p', mb, M', nc, ub, N', vc⟩).mono ?_
    rintro r w2 ⟨rfl, hb2⟩
    exact ⟨rfl, hb.below hb2⟩
  obtain ⟨CK, hCK⟩ : ∃ x, x = hcheckS p ms us.length := ⟨_, rfl⟩
  obtain ⟨D, hD⟩ : ∃ x, x = putD ⟨e, p, ms, us⟩ := ⟨_, rfl⟩
  obtain ⟨L, hLL⟩ : ∃ x, x = layD ⟨e, p, ms, us⟩ := ⟨_, rfl⟩
  obtain ⟨SB, hSB⟩ : ∃ x, x = sameH ⟨e, p, ms, us⟩ ⟨e', p', ns, vs⟩ := ⟨_, rfl⟩
  have HP1 : Hid (∀ w1, Below w.heap.size w w1 → Calls Tryd.prog 11 #[.agg #[.int .u64 e, .int .i64 p, .slice ma M mc, .slice ua N uc]] w1 (GivesD w1 CK D)) := fun w1 hb => by rw [hCK, hD]; exact hput_gen w1 _ ⟨e, p, ms, us⟩ (HVA.out w1 hb)
  have HP2 : Hid (∀ w1, Below w.heap.size w w1 → Calls Tryd.prog 12 #[.agg #[.int .u64 e, .int .i64 p, .slice ma M mc, .slice ua N uc]] w1 (GivesD w1 CK D)) := fun w1 hb => by rw [hCK, hD]; exact rput_gen w1 _ ⟨e, p, ms, us⟩ (HVA.out w1 hb)
  have HP3 : Hid (∀ w1, Below w.heap.size w w1 → Calls Tryd.prog 13 #[.agg #[.int .u64 e, .int .i64 p, .slice ma M mc, .slice ua N uc]] w1 (GivesD w1 CK L)) := fun w1 hb => by rw [hCK, hLL]; exact hlay_gen w1 _ ⟨e, p, ms, us⟩ (HVA.out w1 hb) (hT.below hb)
  have HP4 : Hid (∀ w1, Below w.heap.size w w1 → Calls Tryd.prog 14 #[.agg #[.int .u64 e, .int .i64 p, .slice ma M mc, .slice ua N uc]] w1 (GivesD w1 CK L)) := fun w1 hb => by rw [hCK, hLL]; exact rlay_gen w1 _ ⟨e, p, ms, us⟩ (HVA.out w1 hb)
  have HK1 : Hid (∀ w1, Below w.heap.size w w1 → Calls Tryd.prog 15 #[.agg #[.int .u64 e, .int .i64 p, .slice ma M mc, .slice ua N uc]] w1 fun r w2 => r = .returned (.int .i64 CK) ∧ Below w1.heap.size w1 w2) := fun w1 hb => by
    have := hcheck_any w1 e p ma ua mc us.length uc ms (by rw [← hM]; exact hI.below hb)
    rw [← hM, ← hCK, ← hN] at this
    exact this
  have HK2 : Hid (∀ w1, Below w.heap.size w w1 → Calls Tryd.prog 16 #[.agg #[.int .u64 e, .int .i64 p, .slice ma M mc, .slice ua N uc]] w1 fun r w2 => r = .returned (.int .i64 CK) ∧ Below w1.heap.size w1 w2) := fun w1 hb => by
    have := refCheckH_any w1 e p ma ua mc us.length uc ms (by rw [← hM]; exact hI.below hb)
    rw [← hM, ← hCK, ← hN] at this
    exact this
  have HM1 : Hid (∀ w1, Below w.heap.size w w1 → Calls Tryd.prog 17 #[.agg #[.int .u64 e, .int .i64 p, .slice ma M mc, .slice ua N uc], .agg #[.int .u64 e', .int .i64 p', .slice mb M' nc, .slice ub N' vc]] w1 fun r w2 => r = .returned (.bool SB) ∧ Below w1.heap.size w1 w2) := fun w1 hb => by rw [hSB]; exact hsame_any w1 _ _ _ _ (HVA.out w1 hb) (HVB.out w1 hb)
  have HM2 : Hid (∀ w1, Below w.heap.size w w1 → Calls Tryd.prog 18 #[.agg #[.int .u64 e, .int .i64 p, .slice ma M mc, .slice ua N uc], .agg #[.int .u64 e', .int .i64 p', .slice mb M' nc, .slice ub N' vc]] w1 fun r w2 => r = .returned (.bool SB) ∧ Below w1.heap.size w1 w2) := fun w1 hb => by rw [hSB]; exact refSameH_any w1 _ _ _ _ (HVA.out w1 hb) (HVB.out w1 hb)
  have HXE : Hid (∀ w1 u v (zs : List Int), Sl w1 u zs → Sl w1 v zs → Calls Tryd.prog 19 #[u, v] w1 fun r w' => r = .returned (.bool true) ∧ w' = w1) := fun w1 u v zs h1 h2 => by
    have := equal_any w1 u v zs zs h1 h2
    rwa [decide_eq_true rfl] at this
  unfold GivesD at HP1 HP2 HP3 HP4
  have hza := zeroHeadRun
  clear hcs hds hM hN hM' hN' hI hU hJ hV HVA HVB hT hCK hD hLL hSB
  by_cases hsh : (M ≤ 100 ∧ N ≤ 3000) ∧ (M' ≤ 100 ∧ N' ≤ 3000)
  · rw [decide_eq_true hsh] at HS
    go_enter Tryd.func3, Tryd.ntmps3
    go_wp2_with (first
      | (go_at_call 9; refine (HL.out _ HN0.out).mono ?_; rintro e1 w1 ⟨rfl, b1⟩; have HS1 := hide (HS.out w1 b1); obtain ⟨⟨c0, c1, c2, c3⟩, ⟨d0, d1, d2, d3⟩⟩ := HCE.out _ b1; clear HN0 HS b1)
      | (go_at_call 10; refine HS1.out.mono ?_; rintro e1 w2 ⟨rfl, b2⟩; clear c0 c1 c2 c3 d0 d1 d2 d3; obtain ⟨⟨c0, c1, c2, c3⟩, ⟨d0, d1, d2, d3⟩⟩ := HCE.out _ b2; have HB2 := hide b2; have HQ1 := hide (HP1.out w2 b2.1); clear HS1 HP1 b2)
      | (go_at_call 11; refine HQ1.out.mono ?_; rintro e1 w3 ⟨xa, xn, xc, rfl, s3, b3⟩; clear c0 c1 c2 c3 d0 d1 d2 d3; obtain ⟨⟨c0, c1, c2, c3⟩, ⟨d0, d1, d2, d3⟩⟩ := HCE.out _ (HB2.out.below b3); have HB3 := hide (HB2.out.below b3); have HX3 := hide s3; have HQ2 := hide (HP2.out w3 HB3.out.1); clear HQ1 HP2 HB2 s3 b3)
      | (go_at_call 12; refine HQ2.out.mono ?_; rintro e1 w4 ⟨ya, yn, yc, rfl, s4, b4⟩; clear c0 c1 c2 c3 d0 d1 d2 d3; obtain ⟨⟨c0, c1, c2, c3⟩, ⟨d0, d1, d2, d3⟩⟩ := HCE.out _ (HB3.out.below b4); have HB4 := hide (HB3.out.below b4); have HX4 := hide (HX3.out.below b4); have HY4 := hide s4; have HQ3 := hide (HP3.out w4 HB4.out.1); clear HQ2 HP3 HB3 HX3 s4 b4)
      | (go_at_call 13; refine HQ3.out.mono ?_; rintro e1 w5 ⟨la, ln, lc, rfl, s5, b5⟩; clear c0 c1 c2 c3 d0 d1 d2 d3; obtain ⟨⟨c0, c1, c2, c3⟩, ⟨d0, d1, d2, d3⟩⟩ := HCE.out _ (HB4.out.below b5); have HB5 := hide (HB4.out.below b5); have HX5 := hide (HX4.out.below b5); have HY5 := hide (HY4.out.below b5); have HU5 := hide s5; have HQ4 := hide (HP4.out w5 HB5.out.1); clear HQ3 HP4 HB4 HX4 HY4 s5 b5)
      | (go_at_call 14; refine HQ4.out.mono ?_; rintro e1 w6 ⟨ka, kn, kc, rfl, s6, b6⟩; clear c0 c1 c2 c3 d0 d1 d2 d3; have HB6 := hide (HB5.out.below b6); have HX6 := hide (HX5.out.below b6); have HY6 := hide (HY5.out.below b6); have HU6 := hide (HU5.out.below b6); have HV6 := hide s6; clear HQ4 HB5 HX5 HY5 HU5 s6 b6))
    have HE1 : Hid (∀ wx, Below w6.heap.size w6 wx → Calls Tryd.prog 19 #[.slice xa xn xc, .slice ya yn yc] wx fun r w' => r = .returned (.bool true) ∧ w' = wx) := fun wx hb => HXE.out wx _ _ D (HX6.out.below hb) (HY6.out.below hb)
    have HE2 : Hid (∀ wx, Below w6.heap.size w6 wx → Calls Tryd.prog 19 #[.slice la ln lc, .slice ka kn kc] wx fun r w' => r = .returned (.bool true) ∧ w' = wx) := fun wx hb => HXE.out wx _ _ L (HU6.out.below hb) (HV6.out.below hb)
    clear HX6 HY6 HU6 HV6 HXE HL
    refine wp_region_facts (FL [isV (.agg #[.int .u64 e, .int .i64 p, .slice ma M mc, .slice ua N uc]), isV (.int .i64 (CK : Int)), isV (.agg #[.int .u64 e, .int .i64 p, .slice ma M mc, .slice ua N uc]), isV (.int .i64 (CK : Int)), isV (.bool true), isV (.bool true), isV (.agg #[.int .u64 e, .int .i64 p, .slice ma M mc, .slice ua N uc]), isV (.agg #[.int .u64 e', .int .i64 p', .slice mb M' nc, .slice ub N' vc]), isV (.bool SB), isV (.agg #[.int .u64 e, .int .i64 p, .slice ma M mc, .slice ua N uc]), isV (.agg #[.int .u64 e', .int .i64 p', .slice mb M' nc, .slice ub N' vc]), isV (.bool SB), isV (.bool true), isV (.bool true), isV (.bool true), isV (.slice xa xn xc), isV (.slice ya yn yc), isV (.bool true), isV (.bool true), isV (.bool true), isV (.int .i64 (CK : Int)), isV (.int .i64 (CK : Int)), isV (.bool true), isV (.bool true), isV (.bool true), isV (.slice la ln lc), isV (.slice ka kn kc), isV (.bool true), isV (.bool true), isV (.bool true), isV (.int .i64 (CK : Int)), isV (.int .i64 (CK : Int)), isV (.bool true), isV (.bool true), isV (.bool true), isV (.pointer (some ⟨w.heap.size, 0, none⟩)), isV (.int .u64 (e : Int)), isV (.int .i64 ((e % 2 : Nat) : Int)), isV (.pointer (some ⟨w.heap.size, 0, none⟩)), isV (.int .u64 (e : Int)), isV (.int .i64 ((e % 2 : Nat) : Int)), isV (.bool true), isV (.bool true), isV (.bool true)]) 86 (by kernel_rfl) (by kernel_rfl) (by kernel_rfl) rfl (FL_stable _ (by repeat (first | exact trivial | refine ⟨stable_isV _, ?_⟩))) ?_ ?_
    · refine ⟨?_, ?_, ?_, ?_, ?_, ?_, ?_, ?_, ?_, ?_, ?_, ?_, ?_, ?_, ?_, ?_, ?_, ?_, ?_, ?_, ?_, ?_, ?_, ?_, ?_, ?_, ?_, ?_, ?_, ?_, ?_, ?_, ?_, ?_, ?_, ?_, ?_, ?_, ?_, ?_, ?_, ?_, ?_, ?_, trivial⟩
      · intro act wx h
        have e2 : act.eval (.tmp 2) = .pointer (some ⟨w.heap.size, 0, none⟩) := h.old 2 (by kernel_rfl)
        have hbel := h.below
        clear h
        obtain ⟨⟨x0, x1, x2, x3⟩, ⟨y0, y1, y2, y3⟩⟩ := HCE.out wx (HB6.out.below hbel)
        refine gives_by rfl act.eval rfl ?_
        generalize act.eval = ρ at *
        intro hf hc
        go_simp
        exact ⟨Below.refl _ _, rfl⟩
      · intro act wx h
        obtain ⟨v43, e43, f43⟩ := h.val 0 43 (by kernel_rfl)
        obtain rfl : v43 = .agg #[.int .u64 e, .int .i64 p, .slice ma M mc, .slice ua N uc] := f43
        have hbel := h.below
        clear h
        refine gives_by rfl act.eval rfl ?_
        generalize act.eval = ρ at *
        intro hf hc
        go_simp
        exact call_gives (HK1.out wx (HB6.out.below hbel).1) (fun _ => rfl)
      · intro act wx h
        have e2 : act.eval (.tmp 2) = .pointer (some ⟨w.heap.size, 0, none⟩) := h.old 2 (by kernel_rfl)
        have hbel := h.below
        clear h
        obtain ⟨⟨x0, x1, x2, x3⟩, ⟨y0, y1, y2, y3⟩⟩ := HCE.out wx (HB6.out.below hbel)
        refine gives_by rfl act.eval rfl ?_
        generalize act.eval = ρ at *
        intro hf hc
        go_simp
        exact ⟨Below.refl _ _, rfl⟩
      · intro act wx h
        obtain ⟨v45, e45, f45⟩ := h.val 2 45 (by kernel_rfl)
        obtain rfl : v45 = .agg #[.int .u64 e, .int .i64 p, .slice ma M mc, .slice ua N uc] := f45
        have hbel := h.below
        clear h
        refine gives_by rfl act.eval rfl ?_
        generalize act.eval = ρ at *
        intro hf hc
        go_simp
        exact call_gives (HK2.out wx (HB6.out.below hbel).1) (fun _ => rfl)
      · intro act wx h
        obtain ⟨v44, e44, f44⟩ := h.val 1 44 (by kernel_rfl)
        obtain rfl : v44 = .int .i64 (CK : Int) := f44
        obtain ⟨v46, e46, f46⟩ := h.val 3 46 (by kernel_rfl)
        obtain rfl : v46 = .int .i64 (CK : Int) := f46
        have hbel := h.below
        clear h
        refine gives_by rfl act.eval rfl ?_
        generalize act.eval = ρ at *
        intro hf hc
        go_simp
        exact ⟨Below.refl _ _, rfl⟩
      · intro act wx h
        obtain ⟨v47, e47, f47⟩ := h.val 4 47 (by kernel_rfl)
        obtain rfl : v47 = .bool true := f47
        have hbel := h.below
        clear h
        refine gives_by rfl act.eval rfl ?_
        generalize act.eval = ρ at *
        intro hf hc
        go_simp
        exact ⟨Below.refl _ _, rfl⟩
      · intro act wx h
        have e2 : act.eval (.tmp 2) = .pointer (some ⟨w.heap.size, 0, none⟩) := h.old 2 (by kernel_rfl)
        have hg := h.guard 5 48 (by kernel_rfl) true (fun v hv => hv)
        have hbel := h.below
        clear h
        obtain ⟨⟨x0, x1, x2, x3⟩, ⟨y0, y1, y2, y3⟩⟩ := HCE.out wx (HB6.out.below hbel)
        refine gives_by (by simp only [Region.wanted, hg]; rfl) act.eval rfl ?_
        generalize act.eval = ρ at *
        intro hf hc
        go_simp
        exact ⟨Below.refl _ _, rfl⟩
      · intro act wx h
        have e3 : act.eval (.tmp 3) = .pointer (some ⟨w.heap.size + 1, 0, none⟩) := h.old 3 (by kernel_rfl)
        have hg := h.guard 5 48 (by kernel_rfl) true (fun v hv => hv)
        have hbel := h.below
        clear h
        obtain ⟨⟨x0, x1, x2, x3⟩, ⟨y0, y1, y2, y3⟩⟩ := HCE.out wx (HB6.out.below hbel)
        refine gives_by (by simp only [Region.wanted, hg]; rfl) act.eval rfl ?_
        generalize act.eval = ρ at *
        intro hf hc
        go_simp
        exact ⟨Below.refl _ _, rfl⟩
      · intro act wx h
        obtain ⟨v49, e49, f49⟩ := h.val 6 49 (by kernel_rfl)
        obtain rfl : v49 = .agg #[.int .u64 e, .int .i64 p, .slice ma M mc, .slice ua N uc] := f49
        obtain ⟨v50, e50, f50⟩ := h.val 7 50 (by kernel_rfl)
        obtain rfl : v50 = .agg #[.int .u64 e', .int .i64 p', .slice mb M' nc, .slice ub N' vc] := f50
        have hg := h.guard 5 48 (by kernel_rfl) true (fun v hv => hv)
        have hbel := h.below
        clear h
        refine gives_by (by simp only [Region.wanted, hg]; rfl) act.eval rfl ?_
        generalize act.eval = ρ at *
        intro hf hc
        go_simp
        exact call_gives (HM1.out wx (HB6.out.below hbel).1) (fun _ => rfl)
      · intro act wx h
        have e2 : act.eval (.tmp 2) = .pointer (some ⟨w.heap.size, 0, none⟩) := h.old 2 (by kernel_rfl)
        have hg := h.guard 5 48 (by kernel_rfl) true (fun v hv => hv)
        have hbel := h.below
        clear h
        obtain ⟨⟨x0, x1, x2, x3⟩, ⟨y0, y1, y2, y3⟩⟩ := HCE.out wx (HB6.out.below hbel)
        refine gives_by (by simp only [Region.wanted, hg]; rfl) act.eval rfl ?_
        generalize act.eval = ρ at *
        intro hf hc
        go_simp
        exact ⟨Below.refl _ _, rfl⟩
      · intro act wx h
        have e3 : act.eval (.tmp 3) = .pointer (some ⟨w.heap.size + 1, 0, none⟩) := h.old 3 (by kernel_rfl)
        have hg := h.guard 5 48 (by kernel_rfl) true (fun v hv => hv)
        have hbel := h.below
        clear h
        obtain ⟨⟨x0, x1, x2, x3⟩, ⟨y0, y1, y2, y3⟩⟩ := HCE.out wx (HB6.out.below hbel)
        refine gives_by (by simp only [Region.wanted, hg]; rfl) act.eval rfl ?_
        generalize act.eval = ρ at *
        intro hf hc
        go_simp
        exact ⟨Below.refl _ _, rfl⟩
      · intro act wx h
        obtain ⟨v52, e52, f52⟩ := h.val 9 52 (by kernel_rfl)
        obtain rfl : v52 = .agg #[.int .u64 e, .int .i64 p, .slice ma M mc, .slice ua N uc] := f52
        obtain ⟨v53, e53, f53⟩ := h.val 10 53 (by kernel_rfl)
        obtain rfl : v53 = .agg #[.int .u64 e', .int .i64 p', .slice mb M' nc, .slice ub N' vc] := f53
        have hg := h.guard 5 48 (by kernel_rfl) true (fun v hv => hv)
        have hbel := h.below
        clear h
        refine gives_by (by simp only [Region.wanted, hg]; rfl) act.eval rfl ?_
        generalize act.eval = ρ at *
        intro hf hc
        go_simp
        exact call_gives (HM2.out wx (HB6.out.below hbel).1) (fun _ => rfl)
      · intro act wx h
        obtain ⟨v51, e51, f51⟩ := h.val 8 51 (by kernel_rfl)
        obtain rfl : v51 = .bool SB := f51
        obtain ⟨v54, e54, f54⟩ := h.val 11 54 (by kernel_rfl)
        obtain rfl : v54 = .bool SB := f54
        have hg := h.guard 5 48 (by kernel_rfl) true (fun v hv => hv)
        have hbel := h.below
        clear h
        refine gives_by (by simp only [Region.wanted, hg]; rfl) act.eval rfl ?_
        generalize act.eval = ρ at *
        intro hf hc
        go_simp
        exact ⟨Below.refl _ _, rfl⟩
      · intro act wx h
        obtain ⟨v48, e48, f48⟩ := h.val 5 48 (by kernel_rfl)
        obtain rfl : v48 = .bool true := f48
        obtain ⟨v55, e55, f55⟩ := h.val 12 55 (by kernel_rfl)
        obtain rfl : v55 = .bool true := f55
        have hbel := h.below
        clear h
        refine gives_by rfl act.eval rfl ?_
        generalize act.eval = ρ at *
        intro hf hc
        go_simp
        exact ⟨Below.refl _ _, rfl⟩
      · intro act wx h
        obtain ⟨v56, e56, f56⟩ := h.val 13 56 (by kernel_rfl)
        obtain rfl : v56 = .bool true := f56
        have hbel := h.below
        clear h
        refine gives_by rfl act.eval rfl ?_
        generalize act.eval = ρ at *
        intro hf hc
        go_simp
        exact ⟨Below.refl _ _, rfl⟩
      · intro act wx h
        have e5 : act.eval (.tmp 5) = .slice xa xn xc := h.old 5 (by kernel_rfl)
        have hg := h.guard 14 57 (by kernel_rfl) true (fun v hv => hv)
        have hbel := h.below
        clear h
        refine gives_by (by simp only [Region.wanted, hg]; rfl) act.eval rfl ?_
        generalize act.eval = ρ at *
        intro hf hc
        go_simp
        exact ⟨Below.refl _ _, rfl⟩
      · intro act wx h
        have e7 : act.eval (.tmp 7) = .slice ya yn yc := h.old 7 (by kernel_rfl)
        have hg := h.guard 14 57 (by kernel_rfl) true (fun v hv => hv)
        have hbel := h.below
        clear h
        refine gives_by (by simp only [Region.wanted, hg]; rfl) act.eval rfl ?_
        generalize act.eval = ρ at *
        intro hf hc
        go_simp
        exact ⟨Below.refl _ _, rfl⟩
      · intro act wx h
        obtain ⟨v58, e58, f58⟩ := h.val 15 58 (by kernel_rfl)
        obtain rfl : v58 = .slice xa xn xc := f58
        obtain ⟨v59, e59, f59⟩ := h.val 16 59 (by kernel_rfl)
        obtain rfl : v59 = .slice ya yn yc := f59
        have hg := h.guard 14 57 (by kernel_rfl) true (fun v hv => hv)
        have hbel := h.below
        clear h
        refine gives_by (by simp only [Region.wanted, hg]; rfl) act.eval rfl ?_
        generalize act.eval = ρ at *
        intro hf hc
        go_simp
        exact call_same (HE1.out wx hbel) (fun _ => rfl)
      · intro act wx h
        obtain ⟨v57, e57, f57⟩ := h.val 14 57 (by kernel_rfl)
        obtain rfl : v57 = .bool true := f57
        obtain ⟨v60, e60, f60⟩ := h.val 17 60 (by kernel_rfl)
        obtain rfl : v60 = .bool true := f60
        have hbel := h.below
        clear h
        refine gives_by rfl act.eval rfl ?_
        generalize act.eval = ρ at *
        intro hf hc
        go_simp
        exact ⟨Below.refl _ _, rfl⟩
      · intro act wx h
        obtain ⟨v61, e61, f61⟩ := h.val 18 61 (by kernel_rfl)
        obtain rfl : v61 = .bool true := f61
        have hbel := h.below
        clear h
        refine gives_by rfl act.eval rfl ?_
        generalize act.eval = ρ at *
        intro hf hc
        go_simp
        exact ⟨Below.refl _ _, rfl⟩
      · intro act wx h
        have e6 : act.eval (.tmp 6) = .int .i64 (CK : Int) := h.old 6 (by kernel_rfl)
        have hg := h.guard 19 62 (by kernel_rfl) true (fun v hv => hv)
        have hbel := h.below
        clear h
        refine gives_by (by simp only [Region.wanted, hg]; rfl) act.eval rfl ?_
        generalize act.eval = ρ at *
        intro hf hc
        go_simp
        exact ⟨Below.refl _ _, rfl⟩
      · intro act wx h
        have e8 : act.eval (.tmp 8) = .int .i64 (CK : Int) := h.old 8 (by kernel_rfl)
        have hg := h.guard 19 62 (by kernel_rfl) true (fun v hv => hv)
        have hbel := h.below
        clear h
        refine gives_by (by simp only [Region.wanted, hg]; rfl) act.eval rfl ?_
        generalize act.eval = ρ at *
        intro hf hc
        go_simp
        exact ⟨Below.refl _ _, rfl⟩
      · intro act wx h
        obtain ⟨v63, e63, f63⟩ := h.val 20 63 (by kernel_rfl)
        obtain rfl : v63 = .int .i64 (CK : Int) := f63
        obtain ⟨v64, e64, f64⟩ := h.val 21 64 (by kernel_rfl)
        obtain rfl : v64 = .int .i64 (CK : Int) := f64
        have hg := h.guard 19 62 (by kernel_rfl) true (fun v hv => hv)
        have hbel := h.below
        clear h
        refine gives_by (by simp only [Region.wanted, hg]; rfl) act.eval rfl ?_
        generalize act.eval = ρ at *
        intro hf hc
        go_simp
        exact ⟨Below.refl _ _, rfl⟩
      · intro act wx h
        obtain ⟨v62, e62, f62⟩ := h.val 19 62 (by kernel_rfl)
        obtain rfl : v62 = .bool true := f62
        obtain ⟨v65, e65, f65⟩ := h.val 22 65 (by kernel_rfl)
        obtain rfl : v65 = .bool true := f65
        have hbel := h.below
        clear h
        refine gives_by rfl act.eval rfl ?_
        generalize act.eval = ρ at *
        intro hf hc
        go_simp
        exact ⟨Below.refl _ _, rfl⟩
      · intro act wx h
        obtain ⟨v66, e66, f66⟩ := h.val 23 66 (by kernel_rfl)
        obtain rfl : v66 = .bool true := f66
        have hbel := h.below
        clear h
        refine gives_by rfl act.eval rfl ?_
        generalize act.eval = ρ at *
        intro hf hc
        go_simp
        exact ⟨Below.refl _ _, rfl⟩
      · intro act wx h
        have e9 : act.eval (.tmp 9) = .slice la ln lc := h.old 9 (by kernel_rfl)
        have hg := h.guard 24 67 (by kernel_rfl) true (fun v hv => hv)
        have hbel := h.below
        clear h
        refine gives_by (by simp only [Region.wanted, hg]; rfl) act.eval rfl ?_
        generalize act.eval = ρ at *
        intro hf hc
        go_simp
        exact ⟨Below.refl _ _, rfl⟩
      · intro act wx h
        have e11 : act.eval (.tmp 11) = .slice ka kn kc := h.old 11 (by kernel_rfl)
        have hg := h.guard 24 67 (by kernel_rfl) true (fun v hv => hv)
        have hbel := h.below
        clear h
        refine gives_by (by simp only [Region.wanted, hg]; rfl) act.eval rfl ?_
        generalize act.eval = ρ at *
        intro hf hc
        go_simp
        exact ⟨Below.refl _ _, rfl⟩
      · intro act wx h
        obtain ⟨v68, e68, f68⟩ := h.val 25 68 (by kernel_rfl)
        obtain rfl : v68 = .slice la ln lc := f68
        obtain ⟨v69, e69, f69⟩ := h.val 26 69 (by kernel_rfl)
        obtain rfl : v69 = .slice ka kn kc := f69
        have hg := h.guard 24 67 (by kernel_rfl) true (fun v hv => hv)
        have hbel := h.below
        clear h
        refine gives_by (by simp only [Region.wanted, hg]; rfl) act.eval rfl ?_
        generalize act.eval = ρ at *
        intro hf hc
        go_simp
        exact call_same (HE2.out wx hbel) (fun _ => rfl)
      · intro act wx h
        obtain ⟨v67, e67, f67⟩ := h.val 24 67 (by kernel_rfl)
        obtain rfl : v67 = .bool true := f67
        obtain ⟨v70, e70, f70⟩ := h.val 27 70 (by kernel_rfl)
        obtain rfl : v70 = .bool true := f70
        have hbel := h.below
        clear h
        refine gives_by rfl act.eval rfl ?_
        generalize act.eval = ρ at *
        intro hf hc
        go_simp
        exact ⟨Below.refl _ _, rfl⟩
      · intro act wx h
        obtain ⟨v71, e71, f71⟩ := h.val 28 71 (by kernel_rfl)
        obtain rfl : v71 = .bool true := f71
        have hbel := h.below
        clear h
        refine gives_by rfl act.eval rfl ?_
        generalize act.eval = ρ at *
        intro hf hc
        go_simp
        exact ⟨Below.refl _ _, rfl⟩
      · intro act wx h
        have e10 : act.eval (.tmp 10) = .int .i64 (CK : Int) := h.old 10 (by kernel_rfl)
        have hg := h.guard 29 72 (by kernel_rfl) true (fun v hv => hv)
        have hbel := h.below
        clear h
        refine gives_by (by simp only [Region.wanted, hg]; rfl) act.eval rfl ?_
        generalize act.eval = ρ at *
        intro hf hc
        go_simp
        exact ⟨Below.refl _ _, rfl⟩
      · intro act wx h
        have e12 : act.eval (.tmp 12) = .int .i64 (CK : Int) := h.old 12 (by kernel_rfl)
        have hg := h.guard 29 72 (by kernel_rfl) true (fun v hv => hv)
        have hbel := h.below
        clear h
        refine gives_by (by simp only [Region.wanted, hg]; rfl) act.eval rfl ?_
        generalize act.eval = ρ at *
        intro hf hc
        go_simp
        exact ⟨Below.refl _ _, rfl⟩
      · intro act wx h
        obtain ⟨v73, e73, f73⟩ := h.val 30 73 (by kernel_rfl)
        obtain rfl : v73 = .int .i64 (CK : Int) := f73
        obtain ⟨v74, e74, f74⟩ := h.val 31 74 (by kernel_rfl)
        obtain rfl : v74 = .int .i64 (CK : Int) := f74
        have hg := h.guard 29 72 (by kernel_rfl) true (fun v hv => hv)
        have hbel := h.below
        clear h
        refine gives_by (by simp only [Region.wanted, hg]; rfl) act.eval rfl ?_
        generalize act.eval = ρ at *
        intro hf hc
        go_simp
        exact ⟨Below.refl _ _, rfl⟩
      · intro act wx h
        obtain ⟨v72, e72, f72⟩ := h.val 29 72 (by kernel_rfl)
        obtain rfl : v72 = .bool true := f72
        obtain ⟨v75, e75, f75⟩ := h.val 32 75 (by kernel_rfl)
        obtain rfl : v75 = .bool true := f75
        have hbel := h.below
        clear h
        refine gives_by rfl act.eval rfl ?_
        generalize act.eval = ρ at *
        intro hf hc
        go_simp
        exact ⟨Below.refl _ _, rfl⟩
      · intro act wx h
        obtain ⟨v76, e76, f76⟩ := h.val 33 76 (by kernel_rfl)
        obtain rfl : v76 = .bool true := f76
        have hbel := h.below
        clear h
        refine gives_by rfl act.eval rfl ?_
        generalize act.eval = ρ at *
        intro hf hc
        go_simp
        exact ⟨Below.refl _ _, rfl⟩
      · intro act wx h
        have e2 : act.eval (.tmp 2) = .pointer (some ⟨w.heap.size, 0, none⟩) := h.old 2 (by kernel_rfl)
        have hg := h.guard 34 77 (by kernel_rfl) true (fun v hv => hv)
        have hbel := h.below
        clear h
        refine gives_by (by simp only [Region.wanted, hg]; rfl) act.eval rfl ?_
        generalize act.eval = ρ at *
        intro hf hc
        go_simp
        exact ⟨Below.refl _ _, rfl⟩
      · intro act wx h
        obtain ⟨v78, e78, f78⟩ := h.val 35 78 (by kernel_rfl)
        obtain rfl : v78 = .pointer (some ⟨w.heap.size, 0, none⟩) := f78
        have hg := h.guard 34 77 (by kernel_rfl) true (fun v hv => hv)
        have hbel := h.below
        clear h
        obtain ⟨⟨x0, x1, x2, x3⟩, ⟨y0, y1, y2, y3⟩⟩ := HCE.out wx (HB6.out.below hbel)
        refine gives_by (by simp only [Region.wanted, hg]; rfl) act.eval rfl ?_
        generalize act.eval = ρ at *
        intro hf hc
        go_simp
        exact ⟨Below.refl _ _, rfl⟩
      · intro act wx h
        obtain ⟨v79, e79, f79⟩ := h.val 36 79 (by kernel_rfl)
        obtain rfl : v79 = .int .u64 (e : Int) := f79
        have hg := h.guard 34 77 (by kernel_rfl) true (fun v hv => hv)
        have hbel := h.below
        clear h
        refine gives_by (by simp only [Region.wanted, hg]; rfl) act.eval rfl ?_
        generalize act.eval = ρ at *
        intro hf hc
        go_simp
        exact call_same (hpage_any wx e) (fun _ => rfl)
      · intro act wx h
        have e2 : act.eval (.tmp 2) = .pointer (some ⟨w.heap.size, 0, none⟩) := h.old 2 (by kernel_rfl)
        have hg := h.guard 34 77 (by kernel_rfl) true (fun v hv => hv)
        have hbel := h.below
        clear h
        refine gives_by (by simp only [Region.wanted, hg]; rfl) act.eval rfl ?_
        generalize act.eval = ρ at *
        intro hf hc
        go_simp
        exact ⟨Below.refl _ _, rfl⟩
      · intro act wx h
        obtain ⟨v81, e81, f81⟩ := h.val 38 81 (by kernel_rfl)
        obtain rfl : v81 = .pointer (some ⟨w.heap.size, 0, none⟩) := f81
        have hg := h.guard 34 77 (by kernel_rfl) true (fun v hv => hv)
        have hbel := h.below
        clear h
        obtain ⟨⟨x0, x1, x2, x3⟩, ⟨y0, y1, y2, y3⟩⟩ := HCE.out wx (HB6.out.below hbel)
        refine gives_by (by simp only [Region.wanted, hg]; rfl) act.eval rfl ?_
        generalize act.eval = ρ at *
        intro hf hc
        go_simp
        exact ⟨Below.refl _ _, rfl⟩
      · intro act wx h
        obtain ⟨v82, e82, f82⟩ := h.val 39 82 (by kernel_rfl)
        obtain rfl : v82 = .int .u64 (e : Int) := f82
        have hg := h.guard 34 77 (by kernel_rfl) true (fun v hv => hv)
        have hbel := h.below
        clear h
        refine gives_by (by simp only [Region.wanted, hg]; rfl) act.eval rfl ?_
        generalize act.eval = ρ at *
        intro hf hc
        go_simp
        exact call_same (refPageH_any wx e) (fun _ => rfl)
      · intro act wx h
        obtain ⟨v80, e80, f80⟩ := h.val 37 80 (by kernel_rfl)
        obtain rfl : v80 = .int .i64 ((e % 2 : Nat) : Int) := f80
        obtain ⟨v83, e83, f83⟩ := h.val 40 83 (by kernel_rfl)
        obtain rfl : v83 = .int .i64 ((e % 2 : Nat) : Int) := f83
        have hg := h.guard 34 77 (by kernel_rfl) true (fun v hv => hv)
        have hbel := h.below
        clear h
        refine gives_by (by simp only [Region.wanted, hg]; rfl) act.eval rfl ?_
        generalize act.eval = ρ at *
        intro hf hc
        go_simp
        exact ⟨Below.refl _ _, rfl⟩
      · intro act wx h
        obtain ⟨v77, e77, f77⟩ := h.val 34 77 (by kernel_rfl)
        obtain rfl : v77 = .bool true := f77
        obtain ⟨v84, e84, f84⟩ := h.val 41 84 (by kernel_rfl)
        obtain rfl : v84 = .bool true := f84
        have hbel := h.below
        clear h
        refine gives_by rfl act.eval rfl ?_
        generalize act.eval = ρ at *
        intro hf hc
        go_simp
        exact ⟨Below.refl _ _, rfl⟩
      · intro act wx h
        obtain ⟨v85, e85, f85⟩ := h.val 42 85 (by kernel_rfl)
        obtain rfl : v85 = .bool true := f85
        have hbel := h.below
        clear h
        refine gives_by rfl act.eval rfl ?_
        generalize act.eval = ρ at *
        intro hf hc
        go_simp
        exact ⟨Below.refl _ _, rfl⟩
    · intro vals w7 hb7 hv
      have hv43 : vals 43 = .bool true := hv 43 4 (by kernel_rfl)
      clear hv
      have HB8 := hide (HB6.out.below hb7)
      generalize hact : putAll _ vals 0 _ = act
      clear hb7 HB6
      subst hact
      simp only [putAll, Act.put, List.setIfInBounds_toArray, List.set_cons_zero, List.set_cons_succ, hv43, Nat.zero_add, Nat.reduceAdd]
      clear hv43
      go_wp2
      go_ret
      exact ⟨rfl, HB8.out.1⟩
  · rw [decide_eq_false hsh] at HS
    clear HP1 HP2 HP3 HP4 HK1 HK2 HM1 HM2 HXE
    go_enter Tryd.func3, Tryd.ntmps3
    go_wp2_with (first
      | (go_at_call 9; refine (HL.out _ HN0.out).mono ?_; rintro e1 w1 ⟨rfl, b1⟩; have HS1 := hide (HS.out w1 b1); obtain ⟨⟨c0, c1, c2, c3⟩, ⟨d0, d1, d2, d3⟩⟩ := HCE.out _ b1; clear HN0 HS b1)
      | (go_at_call 10; refine HS1.out.mono ?_; rintro e1 w2 ⟨rfl, b2⟩; have HB2 := hide b2; clear c0 c1 c2 c3 d0 d1 d2 d3; clear HS1 b2)
      | (go_at_call 9; refine (HL.out _ HB2.out).mono ?_; rintro e1 w3 ⟨rfl, b3⟩; clear HB2))
    go_ret
    exact ⟨rfl, b3.1⟩

end Go.Proofs.YtmeiahmolmneeaaDoor
