/- Contract: package posting's Take. -/
import Derived.Test.YtmjkpgmmfooajaaJPoRR
import Derived.Test.YtmjkpgmmfooajaaPoNx2
import Derived.Test.YtmjkpgmmfooajaaPoRead
import Derived.Deep.RegionWith
namespace Go.Proofs.Ytmjkpgmmfooajaa
set_option maxRecDepth 20000
open Go.RowKit
set_option linter.unusedVariables false
set_option linter.unusedSimpArgs false
set_option maxRecDepth 100000

theorem run_minP (n k m : Nat) (hm : m = min n k) (ts : Array TypeId) (t : TypeId) (wx : World) : (Builtin.min_ ts t #[.int .i64 (n : Int), .int .i64 (k : Int)]).run Try.prog wx = .ok (.int .i64 (m : Int)) wx := by
  subst hm
  rw [run_min_int2]
  congr 2
  split <;> omega

set_option maxHeartbeats 2000000 in
theorem takeP_any (w : World) (vb : Value) (zs : List Int) (hz : Sl w vb zs) (hl : zs.length ≤ 50000) (a : Int) (prev : Nat) (hp : prev < 4294967296) :
    Calls Try.prog 20 #[vb, .int .i64 a, .int .u32 (prev : Int)] w (GivesTk w (takeV zs a prev)) := by
  have hzb := hz.bytes
  obtain ⟨bo, bc, rfl⟩ := sl_form' hz
  obtain ⟨bn, hbn⟩ : ∃ n, zs.length = n := ⟨_, rfl⟩
  obtain ⟨w1, hw1⟩ : ∃ w1, w.alloc (.cells #[.int .u32 0, .slice none 0 0] 34) = w1 := ⟨_, rfl⟩
  have hb1 : Below w.heap.size w w1 := by rw [← hw1]; exact (Below.refl _ w).alloc (Nat.le_refl _) _
  have hB1 : Blk w1 w.heap.size 34 [.int .u32 0, .slice none 0 0] := by rw [← hw1]; exact Blk.new w _ _
  have HE1 := hide (GivesTk.err (er := 1) hb1 hB1)
  have HB1 := hide hB1
  have HBE := hide hb1
  obtain ⟨⟨a0, a1⟩, a2, a3⟩ := po_cells hB1
  rw [hbn] at hz hl ⊢
  by_cases hneg : a < 0
  · have HT : Hid (takeV zs a prev = (noPo, 0, 1)) := by show _ = _; unfold takeV; rw [if_pos (.inl hneg)]
    generalize takeV zs a prev = T at *
    clear hB1 hb1 hz hzb
    go_enter Try.func20, Try.ntmps20
    go_wp2
    try rw [hw1]
    refine bodyPost_ret (ret_po2 rfl _ _ w.heap.size _ _ _ _ rfl rfl rfl HE1.out.2) rfl ?_
    rw [HT.out]
    exact HE1.out.1
  · by_cases hbig : (bn : Int) < a
    · have HT : Hid (takeV zs a prev = (noPo, 0, 1)) := by show _ = _; unfold takeV; rw [hbn, if_pos (.inr hbig)]
      generalize takeV zs a prev = T at *
      clear hB1 hb1 hz hzb
      go_enter Try.func20, Try.ntmps20
      go_wp2
      try rw [hw1]
      refine bodyPost_ret (ret_po2 rfl _ _ w.heap.size _ _ _ _ rfl rfl rfl HE1.out.2) rfl ?_
      rw [HT.out]
      exact HE1.out.1
    · obtain ⟨A, rfl⟩ : ∃ A : Nat, a = (A : Int) := ⟨a.toNat, by omega⟩
      have hAn : A ≤ bn := by omega
      have HT : Hid (takeV zs (A : Int) prev = if nextOk prev (zs.drop A) = true then (nextPo prev (zs.drop A), bn - (nP (zs.drop A)).2.1.length, 0) else (noPo, 0, 150)) := by
        show _ = _
        unfold takeV
        rw [hbn, if_neg (by omega)]
        rfl
      obtain ⟨m, hm⟩ : ∃ m, min bn (A + 10010) = m := ⟨_, rfl⟩
      have hmA : A ≤ m := by omega
      have hmn : m ≤ bn := by omega
      have hc0 := cut_lh w bo zs bc A m (by rw [hbn]; exact hz) hmA (by omega)
      rw [hbn] at hc0
      obtain ⟨a', c', hcut, hdr⟩ := hc0
      have hzc : (zs.take m).drop A = (zs.drop A).take (m - A) := by rw [List.drop_take]
      rw [hzc] at hcut hdr
      obtain ⟨zr, hzr⟩ : ∃ zr, zs.drop A = zr := ⟨_, rfl⟩
      have hzrb : ByteOk zr := by rw [← hzr]; exact hzb.drop _
      have hzrl : zr.length = bn - A := by rw [← hzr]; simp; omega
      rw [hzr] at HT hcut hdr
      obtain ⟨rm, hrm⟩ : ∃ x, m - A = x := ⟨_, rfl⟩
      rw [hrm] at hcut hdr
      obtain ⟨hn1, hn2⟩ := next_cut hp hzrb rm (by omega) (by omega)
      have hzcb : ByteOk (zr.take rm) := fun z hz => hzrb z (List.mem_of_mem_take hz)
      have hzcl : (zr.take rm).length = rm := by simp; omega
      obtain ⟨zc, hzc2⟩ : ∃ zc, zr.take rm = zc := ⟨_, rfl⟩
      rw [hzc2] at hcut hdr hn1 hn2 hzcb hzcl
      rw [hzcl] at hcut hdr
      have hmin : ∀ (ts : Array TypeId) (t : TypeId) (wx : World), (Builtin.min_ ts t #[.int .i64 (bn : Int), .int .i64 ((A : Int) + 10010)]).run Try.prog wx = .ok (.int .i64 (m : Int)) wx := fun ts t wx => by
        have := run_minP bn (A + 10010) m hm.symm ts t wx
        rw [show ((A + 10010 : Nat) : Int) = (A : Int) + 10010 by omega] at this
        exact this
      have HRD := hide (readM_any w1 _ zc ((hdr w hz).keep (fun j _ hlt => hb1.block j hlt)) (by omega))
      have HNX : Hid (∀ W b u, Rd W b u zc 0 → Calls Try.prog 39 #[.pointer (some ⟨b, 0, none⟩), .int .u32 (prev : Int)] W (GivesNx W u b prev zc)) := fun W b u h => next_any W b u zc prev h hp
      generalize takeV zs (A : Int) prev = T at *
      have HN1 := hide hn1
      have HN2 := hide hn2
      have HZL : Hid (zr.length = bn - A ∧ m - A = rm) := ⟨hzrl, hrm⟩
      clear hB1 hb1 hz hzb hdr hzr hzrb hzrl hzc hzc2 hzcb hzcl hn1 hn2 hm hrm hbn
      cases hok : nextOk prev zc with
      | false =>
        have HTN : Hid (T = (noPo, 0, 150)) := by show _ = _; rw [HT.out, ← HN1.out, hok]; rfl
        have hE : nextE prev zc = 150 := by unfold nextE; rw [hok]; rfl
        have HNX2 : Hid (∀ W b u, Rd W b u zc 0 → Calls Try.prog 39 #[.pointer (some ⟨b, 0, none⟩), .int .u32 (prev : Int)] W fun e w' => ∃ po pn pc pd, e = .returned (.tuple #[.agg #[.int .u32 (pd : Nat), .slice po pn pc], .int .i64 150]) ∧ Only (· = b) W w') := fun W b u h => (HNX.out W b u h).mono fun e w' ⟨v, he, ⟨_, cu, hv, hi⟩, ho, _⟩ => by
          obtain ⟨po, pc, rfl⟩ := hi.shape
          subst hv
          rw [hE] at he
          exact ⟨po, _, pc, _, he, ho⟩
        clear hok hE HNX
        go_enter Try.func20, Try.ntmps20
        go_wp2_with (first
          | (go_at_call 38; (try rw [hw1]); refine HRD.out.mono ?_; rintro e w2 ⟨b, u, rfl, hbb, hrd, hfr, hb⟩; have HR2 := hide hrd; have HB2 := hide hb; have HBB := hide hbb; clear HRD hbb hrd hfr hb)
          | (go_at_call 39; refine (HNX2.out _ _ _ HR2.out).mono ?_; rintro e w3 ⟨po, pn, pc, pd, rfl, ho⟩; have hbA : Blk w3 w.heap.size 34 [.int .u32 0, nilS] := (HB1.out.below HB2.out HB1.out.lt).only ho (by have := HBB.out; have := HB1.out.lt; omega); have hbW : Below w.heap.size w w3 := (HBE.out.trans (HB2.out.mono HBE.out.size)).trans (ho.below (Nat.le_trans HBE.out.size HB2.out.size) (fun j hj e => by have := HBB.out; have := HB1.out.lt; omega)); have HA3 := hide (hbA.alloc (.cells #[.int .u32 (pd : Nat), .slice po pn pc] 34)); have HW3 := hide (hbW.alloc hbW.size (.cells #[.int .u32 (pd : Nat), .slice po pn pc] 34)); clear a0 a1 a2 a3; obtain ⟨⟨a0, a1⟩, a2, a3⟩ := po_cells HA3.out; clear HNX2 ho hbA hbW))
        have hge := GivesTk.err (er := 150) HW3.out HA3.out
        refine bodyPost_ret (ret_po2 rfl _ _ w.heap.size _ _ _ _ rfl rfl rfl hge.2) rfl ?_
        rw [HTN.out]
        exact hge.1
      | true =>
        obtain ⟨hpo, hlen, hle⟩ := HN2.out (by rw [← HN1.out]; exact hok)
        obtain ⟨p, hpp⟩ : ∃ p, nextPo prev zr = p := ⟨_, rfl⟩
        rw [hpp] at hpo
        have hE : nextE prev zc = 0 := by unfold nextE; rw [hok]; rfl
        have hQ : nextQ prev zc = p := by unfold nextQ; rw [if_pos hok]; exact hpo
        have hzrl := HZL.out.1
        have hrmm := HZL.out.2
        obtain ⟨L1, hL1⟩ : ∃ x, (nP zc).2.1.length = x := ⟨_, rfl⟩
        obtain ⟨L2, hL2⟩ : ∃ x, (nP zr).2.1.length = x := ⟨_, rfl⟩
        rw [hL1, hL2] at hlen
        rw [hL1] at hle
        have HTY : Hid (T = (p, bn - L2, 0)) := by show _ = _; rw [HT.out, ← HN1.out, hok, if_pos rfl, hpp, hL2]
        have HNX2 : Hid (∀ W b u, Rd W b u zc 0 → Calls Try.prog 39 #[.pointer (some ⟨b, 0, none⟩), .int .u32 (prev : Int)] W fun e w' => ∃ po pn pc, e = .returned (.tuple #[.agg #[.int .u32 (p.doc : Nat), .slice po pn pc], .int .i64 0]) ∧ p.doc < 4294967296 ∧ Ints w' W.heap.size (.slice po pn pc) p.pos ∧ Only (· = b) W w' ∧ ∃ u', Rd w' b u' (nP zc).2.1 0 ∧ ∀ k, u'.ownBlock = some k → u.ownBlock = some k) := fun W b u h => (HNX.out W b u h).mono fun e w' ⟨v, he, hv, ho, hy⟩ => by
          rw [hQ] at hv
          obtain ⟨hpd, cu, hv, hi⟩ := hv
          obtain ⟨po, pc, rfl⟩ := hi.shape
          subst hv
          rw [hE] at he
          obtain ⟨u', hr, hru⟩ := hy hok
          exact ⟨po, _, pc, he, hpd, hi, ho, u', hr, hru⟩
        have hend : (A : Int) + (rm : Int) - (L1 : Int) = ((bn - L2 : Nat) : Int) := by omega
        have HL1 := hide hL1
        have hAl : A + rm ≤ 50000 := by omega
        clear hok hE hQ HNX hpp hpo hL1 hL2 hlen hzrl hrmm
        generalize hdoc : p.doc = pd at *
        have HDOC := hide hdoc
        clear hdoc
        go_enter Try.func20, Try.ntmps20
        go_wp2_with (first
          | (go_at_call 38; (try rw [hw1]); refine HRD.out.mono ?_; rintro e w2 ⟨b, u, rfl, hbb, hrd, hfr, hb⟩; have HR2 := hide hrd; have HB2 := hide hb; have HBB := hide hbb; have HFR := hide hfr; clear HRD hbb hrd hfr hb)
          | (go_at_call 39; refine (HNX2.out _ _ _ HR2.out).mono ?_; rintro e w3 ⟨po, pn, pc, rfl, hpd, hpi, ho, u3, hr3, hu3⟩; have HU3 : Hid (∀ k, u3.ownBlock = some k → w.heap.size < k) := fun k hk => (by have := (HFR.out k (hu3 k hk)).1; have := HB1.out.lt; omega); have hbA : Blk w3 w.heap.size 34 [.int .u32 0, nilS] := (HB1.out.below HB2.out HB1.out.lt).only ho (by have := HBB.out; have := HB1.out.lt; omega); have hbW : Below w.heap.size w w3 := (HBE.out.trans (HB2.out.mono HBE.out.size)).trans (ho.below (Nat.le_trans HBE.out.size HB2.out.size) (fun j hj e => by have := HBB.out; have := HB1.out.lt; omega)); have HS3 := hide ho.size; have HPI := hide hpi; have HPD := hide hpd; have HR3 := hide hr3; have HA3 := hide hbA; have HW3 := hide hbW; clear a0 a1 a2 a3; clear HNX2 ho hbA hbW hpi hpd hr3 hu3))
        obtain ⟨w4, hw4⟩ : ∃ x, w3.alloc (.cells #[.int .u32 (pd : Int), .slice po pn pc] 34) = x := ⟨_, rfl⟩
        have hb4 : Below w3.heap.size w3 w4 := by rw [← hw4]; exact (Below.refl _ w3).alloc (Nat.le_refl _) _
        have hB4 : Blk w4 w3.heap.size 34 [.int .u32 (pd : Int), .slice po pn pc] := by rw [← hw4]; exact Blk.new w3 _ _
        obtain ⟨p0, p1⟩ := box_po hB4
        have HA4 := hide (HA3.out.below hb4 HA3.out.lt)
        obtain ⟨⟨a0, a1⟩, a2, a3⟩ := po_cells HA4.out
        have HLF := hide (fun W ho => left_any W b u3 (nP zc).2.1 0 (HR3.out.only (ho : Only (· = w.heap.size) w3 W) (fun j hj e => ⟨by have := HBB.out; have := HB1.out.lt; omega, fun k hk => by have := HU3.out k hk; omega⟩)))
        rw [HL1.out] at HLF
        have ho4 : Only (· = w.heap.size) w3 w4 := Only.of_below _ hb4
        have HO1 : Hid (Only (· = w.heap.size) w3 w4.drew) := ho4.drew
        have HO2 : Hid (Only (· = w.heap.size) w3 (laidP w4 w.heap.size (.int .u32 (pd : Int)) (.slice po pn pc)).drew) := (ho4.trans (laidP_only _ _ _ _) (fun _ _ h => h)).drew
        have HPI4 := hide (HPI.out.only (Only.of_below (fun _ => False) hb4) (fun _ _ h => h))
        have HW4 := hide (HW3.out.trans (hb4.mono HW3.out.size))
        clear ho4
        have HB4 := hide hb4
        have hne : ¬ w3.heap.size = w.heap.size := by have := HA3.out.lt; omega
        rw [hw4]
        clear hw4 hb4 hB4
        obtain ⟨E, hE⟩ : ∃ E, bn - L2 = E := ⟨_, rfl⟩
        rw [hE] at hend HTY
        have hEl : E ≤ 50000 := by omega
        have hwr1 : IntKind.i64.wrap ((A : Int) + (rm : Int)) = (A : Int) + (rm : Int) := IntWalk.i64_in _ (by omega)
        have hwr2 : IntKind.i64.wrap (E : Int) = (E : Int) := IntWalk.i64_in _ (by omega)
        clear hE
        go_region_with (first
          | (go_at_call 40; refine (HLF.out _ HO1.out).mono ?_; rintro e wq ⟨rfl, hw⟩; subst hw)
          | (go_at_call 40; refine (HLF.out _ HO2.out).mono ?_; rintro e wq ⟨rfl, hw⟩; subst hw))
        all_goals go_wp2
        all_goals
          have hge := laidP_only w4.drew w.heap.size (.int .u32 (pd : Int)) (.slice po pn pc)
          refine bodyPost_ret (ret_po2 rfl _ _ w.heap.size (.int .u32 (pd : Int)) (.slice po pn pc) (.int .i64 (E : Int)) (.int .i64 0) rfl rfl rfl (laidP_blk HA4.out.drew _ _)) rfl ?_
          rw [HTY.out]
          refine ⟨_, rfl, ⟨by rw [HDOC.out]; exact HPD.out, _, by rw [HDOC.out], ?_⟩, HW4.out.drew.trans (hge.below (by have := HW4.out.size; simpa using this) (fun j hj e => by omega))⟩
          exact ((HPI4.out.only ((Only.refl (fun _ => False) w4).drew) (fun _ _ h => h)).only hge (fun j hj e => by have := (HPI.out.lt j hj).1; have := HB2.out.size; have := HB1.out.lt; omega)).base (by have := HB2.out.size; have := HB1.out.lt; omega)

end Go.Proofs.Ytmjkpgmmfooajaa
