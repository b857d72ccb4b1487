/- The walk of PostingRises. -/
import Derived.Test.YtmjkpgmmfooajaaPoLive
import Derived.Test.YtmjkpgmmfooajaaPoOpen
import Derived.Test.YtmjkpgmmfooajaaPoRis
import Derived.Test.YtmjkpgmmfooajaaCut
import Derived.BigQuiet
namespace Go.Proofs.Ytmjkpgmmfooajaa
set_option maxRecDepth 20000
open Go.RowKit
set_option linter.unusedVariables false
set_option linter.unusedSimpArgs false
set_option maxRecDepth 100000

theorem live_on {w w' : World} (hb : Below w.heap.size w w') : Calls Try.prog 8 #[] w' fun e w'' => e = .returned (.bool true) ∧ Below w.heap.size w w'' :=
  (live_any w').mono fun e w'' ⟨he, h⟩ => ⟨he, hb.trans (h.mono hb.size)⟩

set_option maxHeartbeats 1000000 in
theorem postingRises_walk (w : World) (vb : Value) (zs : List Int) (hz : Sl w vb zs) :
    Calls Try.prog 7 #[vb] w fun e w' => e = .returned (.bool true) ∧ Below w.heap.size w w' := by
  have hzb := hz.bytes
  obtain ⟨bo, bc, rfl⟩ := sl_form' hz
  have HZ := hide (fun W hb => hz.keep (w' := W) (fun j _ hlt => (hb : Below w.heap.size w W).block j hlt))
  obtain ⟨bn, hbn⟩ : ∃ n, zs.length = n := ⟨_, rfl⟩
  have HBN := hide hbn
  have HSZ := hide hz
  rw [hbn] at HZ HSZ ⊢
  have HC : Hid (Below w.heap.size w w) := Below.refl _ _
  by_cases hb3 : 3000 < bn
  · have hbi : (3000 : Int) < (bn : Int) := by omega
    clear hz hbn hzb
    go_enter Try.func7, Try.ntmps7
    go_wp2_with (go_at_call 8; refine (live_on HC.out).mono ?_; rintro e w2 ⟨rfl, hb⟩; have HC := hide hb; clear hb)
    go_ret
    exact ⟨rfl, HC.out⟩
  · have hbi : ¬ (3000 : Int) < (bn : Int) := by omega
    obtain ⟨hrf, hpe, hpr, hle⟩ := rises_facts hzb
    have hal : (allP 0 zs).length ≤ 3000 := by have := allP_len 0 zs; omega
    have HAL : Hid (∀ W, Below w.heap.size w W → Calls Try.prog 28 #[.slice bo bn bc, .int .u32 0] W fun e w' => ∃ Bs Pv, e = .returned (.func (.func 52) #[] #[.pointer (some ⟨Bs, 0, none⟩), .pointer (some ⟨Pv, 0, none⟩)]) ∧ (∃ bv, EachAt w' Bs Pv bv zs 0) ∧ Below W.heap.size W w') := fun W hb => all_any W _ zs (HZ.out W hb) (by omega) 0 (by omega)
    have HTO : Hid (∀ W Bs Pv bv, EachAt W Bs Pv bv zs 0 → Calls Try.prog 27 #[.func (.func 52) #[] #[.pointer (some ⟨Bs, 0, none⟩), .pointer (some ⟨Pv, 0, none⟩)], .int .i64 1048576] W fun e w' => ∃ lo ln lc eo ec, e = .returned (.tuple #[.slice lo ln lc, .slice eo ln ec]) ∧ ln = (allP 0 zs).length ∧ (∃ us, Pps w' (.slice lo ln lc) us ((allP 0 zs).map (·.2))) ∧ Is w' (.slice eo ln ec) (endsL (allP 0 zs)) ∧ Below W.heap.size W w') := fun W Bs Pv bv h => by
      have := toldP_any W Bs Pv bv zs 0 (by omega) (by omega) h 1048576 (by omega)
      rw [List.take_of_length_le (by omega)] at this
      refine this.mono fun e w' ⟨v, u, he, ⟨us, hp⟩, hi, hb⟩ => ?_
      obtain ⟨lo, lc, rfl, _, _⟩ := hp.shape
      obtain ⟨eo, ec, rfl⟩ := hi.shape
      rw [List.length_map] at he hp
      rw [endsL_len] at he hi
      exact ⟨lo, _, lc, eo, ec, he, rfl, ⟨us, hp⟩, hi.is, hb⟩
    have HFD : Hid (∀ W, Below w.heap.size w W → ∀ d p, d < 4294967296 → d = p.doc → findL d (allP 0 zs) = (p, true) → Calls Try.prog 24 #[.slice bo bn bc, .int .u32 (d : Nat)] W fun e w' => ∃ qo qn qc, e = .returned (.tuple #[.agg #[.int .u32 (d : Nat), .slice qo qn qc], .bool true]) ∧ PoV w' (.agg #[.int .u32 (d : Nat), .slice qo qn qc]) p ∧ Below W.heap.size W w') := fun W hb d p hd hdp hf => by
      have := find_any W _ zs (HZ.out W hb) (by omega) d hd
      rw [hf] at this
      refine this.mono fun e w' ⟨v, he, hp, hbb⟩ => ?_
      obtain ⟨qo, qc, rfl, _, _⟩ := hp.val.open
      subst hdp
      exact ⟨qo, _, qc, he, hp.val, hbb⟩
    have HCUT : Hid (∀ W, Below w.heap.size w W → ∃ a' m' c', (∀ wx, (Instr.slice 23 (.slice bo bn bc) none (some (.int .i64 (endL (allP 0 zs) : Nat))) none).run Try.prog wx = .ok (.slice a' m' c') wx) ∧ Sl W (.slice a' m' c') (zs.take (endL (allP 0 zs)))) := fun W hb => by
      have hs := HZ.out W hb
      rw [← HBN.out] at hs
      obtain ⟨a', c', h1, h2⟩ := cut_h W bo zs bc (endL (allP 0 zs)) hs hle
      rw [HBN.out] at h1 hs
      exact ⟨a', _, c', h1, h2 W (by rw [HBN.out]; exact hs)⟩
    have HPA : Hid (∀ W a m c, Sl W (.slice a m c) (zs.take (endL (allP 0 zs))) → Calls Try.prog 22 #[.slice a m c] W fun e w' => ∃ u, e = .returned (.tuple #[u, .int .i64 0]) ∧ (∃ us, Pps w' u us ((allP 0 zs).map (·.2))) ∧ Below W.heap.size W w') := fun W a m c hs => by
      have := parse_any W _ _ hs (by simp; omega)
      rwa [hpe, hpr] at this
    have HSA : Hid (∀ W u us v vs, Pps W u us ((allP 0 zs).map (·.2)) → Pps W v vs ((allP 0 zs).map (·.2)) → Calls Try.prog 29 #[u, v] W fun e w' => e = .returned (.bool true) ∧ Below W.heap.size W w') := fun W u us v vs h1 h2 => by
      have := refSameAll_any W u v us vs _ _ h1 h2
      rwa [sameAllP_refl] at this
    have HRF := hide hrf
    rw [hbn] at hle
    have HAL2 := hide hal
    clear hz hbn hzb hrf hpe hpr hal
    generalize allP 0 zs = L at *
    go_enter Try.func7, Try.ntmps7
    go_wp2_with (first
      | (go_at_call 8; refine (live_on HC.out).mono ?_; rintro e w2 ⟨rfl, hb⟩; have HC := hide hb; clear hb)
      | (go_at_call 28; refine (HAL.out _ HC.out).mono ?_; rintro e w3 ⟨Bs, Pv, rfl, ⟨bv, hea⟩, hb⟩; have HEA := hide hea; have HC := hide (HC.out.trans (hb.mono HC.out.size)); clear HAL hb hea)
      | (go_at_call 27; refine (HTO.out _ _ _ _ HEA.out).mono ?_; rintro e w4 ⟨lo, ln, lc, eo, ec, rfl, hln, ⟨us, hps⟩, his, hb⟩; have HLN := hide hln; have HPS := hide hps; have HIS := hide his; have HC := hide (HC.out.trans (hb.mono HC.out.size)); clear HTO hb hln hps his HEA))
    have HEC : Hid (∀ W, Below w4.heap.size w4 W → ∀ i (hi : i < L.length), ∃ b off, eo = some ⟨b, off, none⟩ ∧ W.cell? ⟨b, off + i, none⟩ = some (.int .i64 (L[i].1 : Nat)) ∧ (ln : Int) ≤ (ec : Int) ∧ (ec : Int) ≤ 9223372036854775807) := fun W hb i hi => by
      obtain ⟨ao', cap', he, h1, h2, h3⟩ := HIS.out.below hb
      simp only [Value.slice.injEq] at he
      obtain ⟨rfl, hle2, rfl⟩ := he
      obtain ⟨b, off, rfl, hc⟩ := h3 (fun e => by
        have h0 : (endsL L).length = 0 := by rw [e]; rfl
        rw [endsL_len] at h0
        omega)
      have := hc i (by rw [endsL_len]; exact hi)
      have hg : (endsL L).getD i 0 = (L[i].1 : Int) := by simp [endsL, List.getD, hi]
      rw [hg] at this
      unfold maxLen at h2
      exact ⟨b, off, rfl, this, by omega, by omega⟩
    have HLE : Hid (ln ≤ lc ∧ lc ≤ 9223372036854775807) := by
      obtain ⟨ao', cap', he, h1, h2⟩ := HPS.out.shape
      simp only [Value.slice.injEq] at he
      obtain ⟨rfl, hle2, rfl⟩ := he
      show _ ∧ _
      omega
    have hlc := HLE.out.1
    have hlc2 := HLE.out.2
    go_loopg [5, 6, 7, 8, 9, 10, 11, 30] ln (fun g la at6 i7 b8 i9 b10 i11 ix wr => ∃ i : Nat, g + i = ln ∧ la = .int .u32 (lastDoc 0 ((L.take i).map (·.2)) : Nat) ∧ at6 = .int .i64 (endL (L.take i) : Nat) ∧ ix = .int .i64 (i : Int) ∧ Below w4.heap.size w4 wr)
    case atStart => exact ⟨0, by omega, rfl, rfl, rfl, Below.refl _ _⟩
    case round =>
      obtain ⟨i, hg, rfl, rfl, rfl, hbq⟩ := hrel
      have HBQ := hide hbq
      clear hbq
      by_cases hiln : i < ln
      · have hi : i < L.length := by have := HLN.out; omega
        have hF := HRF.out i hi
        obtain ⟨g1, o1, rfl, q1, q2, hd1, hi1⟩ := (HPS.out.below HBQ.out).at i (by simpa using hi)
        have eg : (L.map (·.2)).getD i noPo = L[i].2 := by simp [List.getD, hi]
        rw [eg] at q1 hd1 hi1
        obtain ⟨xo, xc, hxv, hx1, hx2⟩ := hi1.shape
        rw [hxv] at q2 hi1
        obtain ⟨W2, hW2⟩ : ∃ W2, wr.alloc (.cells #[.int .u32 (L[i].2.doc : Int), .slice xo L[i].2.pos.length xc] 34) = W2 := ⟨_, rfl⟩
        have hb2 : Below wr.heap.size wr W2 := by rw [← hW2]; exact (Below.refl _ wr).alloc (Nat.le_refl _) _
        have HB2 := hide (HBQ.out.trans (hb2.mono HBQ.out.size))
        have hB2 : Blk W2 wr.heap.size 34 [.int .u32 (L[i].2.doc : Int), .slice xo L[i].2.pos.length xc] := by rw [← hW2]; exact Blk.new wr _ _
        obtain ⟨eb, eoff, rfl, ce, hec1, hec2⟩ := HEC.out W2 HB2.out i hi
        have hpi2 := hi1.below hb2
        obtain ⟨f1, f2, f3, f4, f5, f6, f7, f8, f9⟩ := hF
        obtain ⟨x, hx⟩ : ∃ x, L[i] = x := ⟨_, rfl⟩
        rw [hx] at q1 q2 hd1 hW2 hB2 ce hpi2 f1 f2 f3 f4 f5 f6 f7 f8 f9 hx1
        obtain ⟨en, d, pos⟩ := x
        simp only at q1 q2 hd1 hW2 hB2 ce hpi2 f1 f2 f3 f4 f5 f6 f7 f8 f9 hx1
        obtain ⟨_, _, hev, h21, h22, h23⟩ := hpi2
        simp only [Value.slice.injEq, true_and] at hev
        obtain ⟨rfl, rfl⟩ := hev
        have HPC := hide h23
        have HPV : Hid (PoV W2 (.agg #[.int .u32 (d : Int), .slice xo pos.length xc]) ⟨d, pos⟩) := ⟨f2, _, rfl, by have := hi1.below hb2; rw [hx] at this; exact this⟩
        have HRI := hide f6
        have HD32 := hide f2
        have HCE0 := hide ce
        have HFI := hide f7
        have HLA := hide f8
        have HEN := hide f9
        obtain ⟨m, hm⟩ : ∃ m, pos.length = m := ⟨_, rfl⟩
        have HM := hide hm
        rw [hm] at q2 hW2 hB2 f5 h21 HPC HPV hx1
        obtain ⟨x0, x1⟩ := box_po hB2
        have HBX := hide hB2
        have k1 : ¬ (d : Int) ≤ (lastDoc 0 ((L.take i).map (·.2)) : Nat) := by omega
        have k2 : ¬ (en : Int) ≤ (endL (L.take i) : Nat) := by omega
        have k3 : ¬ (bn : Int) < (en : Int) := by have := HBN.out; omega
        have k4 : ((m : Int) == 0) = false := by simp; omega
        have i1 : (i : Int) < (ln : Int) := by omega
        generalize lastDoc 0 ((L.take i).map (·.2)) = D at *
        generalize endL (L.take i) = AT at *
        clear hd1 hi1 hxv hb2 hB2 h23 hm hx f1 f2 f3 f4 f6 f7 f8 f9 eg
        unfold maxLen at h22
        have HG : Hid (gk + i = ln) := hg
        obtain ⟨GK, hGK⟩ : ∃ x, gk = x := ⟨_, rfl⟩
        have HGK := hide hGK
        go_wp2
        go_loopg [9] (m - 1) (fun g i9 wx => ∃ j : Nat, 1 ≤ j ∧ g + j = m ∧ i9 = .int .i64 (j : Int) ∧ ∃ q, wx = W2.drewN q)
        case atStart => exact ⟨1, by omega, by omega, rfl, 0, rfl⟩
        case round =>
          obtain ⟨j, hj1, hgj, rfl, q, rfl⟩ := hrel
          by_cases hjm : j < m
          · obtain ⟨pb, poff, rfl, hpc⟩ := HPC.out (by intro e; have := HM.out; rw [e] at this; simp at this; omega)
            have y1 := hpc j hjm
            have y0 := hpc (j - 1) (by omega)
            have hri := (rises_get pos (-1) j HRI.out (by have := HM.out; omega)).2.1 (by omega)
            obtain ⟨t, rfl⟩ : ∃ t, j = t + 1 := ⟨j - 1, by omega⟩
            rw [show t + 1 - 1 = t by omega] at y0 hri
            have yi : (((t + 1 : Nat) : Int)) - 1 = (t : Int) := by omega
            obtain ⟨z1, hz1⟩ : ∃ z, pos.getD (t + 1) 0 = z := ⟨_, rfl⟩
            obtain ⟨z0, hz0⟩ : ∃ z, pos.getD t 0 = z := ⟨_, rfl⟩
            rw [hz1] at y1 hri
            rw [hz0] at y0 hri
            have yn : ¬ z1 ≤ z0 := by omega
            clear hpc hz1 hz0 hri
            go_wp2
            go_quiet (fail)
            go_wp2
            go_roundg (gk - 1)
            case measure => omega
            case rel => exact ⟨t + 1 + 1, by omega, by omega, by go_num, _, rfl⟩
          · obtain rfl : j = m := by omega
            clear hgj
            have HB3 := hide (below_drewN HB2.out q)
            have HPV3 := hide (HPV.out.below (below_drewN (Below.refl _ W2) q))
            have hfd := HFD.out (W2.drewN q) (HC.out.trans (HB3.out.mono HC.out.size)) d ⟨d, pos⟩ HD32.out rfl HFI.out
            have HF2 := hide hfd
            have HSP : Hid (∀ W v, PoV W v ⟨d, pos⟩ → PoV W (.agg #[.int .u32 (d : Nat), .slice xo j xc]) ⟨d, pos⟩ → Calls Try.prog 19 #[.agg #[.int .u32 (d : Nat), .slice xo j xc], v] W fun e w' => e = .returned (.bool true) ∧ Below W.heap.size W w') := fun W v h1 h2 => by
              have := refSameP_any W _ _ _ _ h2 h1
              rwa [sameP_refl] at this
            have HCE : Hid (∀ W, Below W2.heap.size W2 W → W.cell? ⟨eb, eoff + i, none⟩ = some (.int .i64 (en : Nat)) ∧ W.cell? ⟨wr.heap.size, 0, none⟩ = some (.int .u32 (d : Nat)) ∧ W.cell? ⟨wr.heap.size, 1, none⟩ = some (.slice xo j xc)) := fun W hb => by
              have hbx := HBX.out.below hb HBX.out.lt
              exact ⟨cell_below hb HCE0.out, hbx.cell 0, hbx.cell 1⟩
            clear hfd
            go_wp2_with (first
              | (go_at_call 24; refine HF2.out.mono ?_; rintro e w5 ⟨qo, qn, qc, rfl, hq, hb⟩; have hbA : Below W2.heap.size W2 w5 := (below_drewN (Below.refl _ W2) q).trans hb; have HQ5 := hide hq; have HB5 := hide hbA; obtain ⟨x0, x1⟩ := box_po ((Blk.new w5 34 [.int .u32 (d : Nat), .slice qo qn qc])); obtain ⟨ce, v0, v1⟩ := HCE.out _ (hbA.alloc hbA.size (.cells #[.int .u32 (d : Nat), .slice qo qn qc] 34)); clear HF2 hq hb hbA)
              | (go_at_call 19; have hba : Below w5.heap.size w5 (w5.alloc (.cells #[.int .u32 (d : Nat), .slice qo qn qc] 34)) := (Below.refl _ w5).alloc (Nat.le_refl _) _; refine (HSP.out _ _ (HQ5.out.below hba) (HPV.out.below (HB5.out.trans (hba.mono HB5.out.size)))).mono ?_; rintro e w7 ⟨rfl, hb⟩; have hbA : Below W2.heap.size W2 w7 := (HB5.out.trans (hba.mono HB5.out.size)).trans (hb.mono (by have := HB5.out.size; simp; omega)); have HB7 := hide hbA; clear ce v0 v1 x0 x1; obtain ⟨ce, v0, v1⟩ := HCE.out _ hbA; clear HSP hb hba hbA))
            go_quiet (fail)
            go_wp2
            go_roundg (GK - 1)
            case measure => have := HGK.out; omega
            case rel => exact ⟨i + 1, by have := HGK.out; omega, by rw [HLA.out], by rw [HEN.out], by go_num, HB2.out.trans ((below_drewN HB7.out _).mono HB2.out.size)⟩
      · obtain rfl : i = ln := by omega
        have hLt : L.take i = L := List.take_of_length_le (by have := HLN.out; omega)
        rw [hLt]
        obtain ⟨a', m', c', hct, hsl⟩ := HCUT.out wr (HC.out.trans (HBQ.out.mono HC.out.size))
        have HPA2 := hide (HPA.out wr _ _ _ hsl)
        generalize endL L = AT at *
        clear hsl hLt
        go_wp2_with (first
          | (go_at_call 22; refine HPA2.out.mono ?_; rintro e w5 ⟨u5, rfl, ⟨us5, hp5⟩, hb⟩; obtain ⟨o5, n5, k5, rfl⟩ : ∃ o n k, u5 = .slice o n k := (by obtain ⟨o, k, h, _⟩ := hp5.shape; exact ⟨_, _, _, h⟩); have HP5 := hide hp5; have HB5 := hide (HBQ.out.trans (hb.mono HBQ.out.size)); clear HPA2 hb hp5)
          | (go_at_call 29; refine (HSA.out _ _ _ _ _ HP5.out (HPS.out.below HB5.out)).mono ?_; rintro e w6 ⟨rfl, hb⟩; have HB6 := hide (HB5.out.trans (hb.mono HB5.out.size)); clear HSA hb))
        go_ret
        exact ⟨rfl, HC.out.trans (HB6.out.mono HC.out.size)⟩

end Go.Proofs.Ytmjkpgmmfooajaa
