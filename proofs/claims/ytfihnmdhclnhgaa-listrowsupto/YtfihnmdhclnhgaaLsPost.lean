/- Contract: the law's postings: the places of a word in texts. -/
import Derived.Test.YtfihnmdhclnhgaaLsPosP
import Derived.Test.YtfihnmdhclnhgaaLsLive
import Derived.Test.YtfihnmdhclnhgaaKParts
namespace Go.Proofs.Ytfihnmdhclnhgaa
set_option maxRecDepth 20000
open Go.RowKit
set_option linter.unusedVariables false
set_option linter.unusedSimpArgs false
set_option maxRecDepth 100000

/-- 'append(s, x)', longer -/
theorem run_append_intL (w : World) (base : Nat) (v : Value) (zs : List Int) (h : Ints w base v zs) (x : Int) (hl : zs.length + 1 ≤ 4000000) (hb : base ≤ w.heap.size) :
    ∃ v' w', (Builtin.append_ #[44, 44] 44 #[v, .slice (some ⟨w.heap.size, 0, none⟩) 1 1]).run Try.prog (w.alloc (.cells #[.int .i64 x] 3)) = .ok v' w' ∧ Ints w' base v' (zs ++ [x]) ∧ (w.alloc (.cells #[.int .i64 x] 3)).grownBy w' v.ownBlock ∧ (v'.ownBlock = v.ownBlock ∨ v'.ownBlock = some (w.heap.size + 1)) ∧ ∃ ao cap, v' = .slice ao (zs.length + 1) cap := by
  obtain ⟨i0, hi, hz, hs, hby⟩ := info_parts infoInt
  obtain ⟨v', w', hr, h1, h2, _, h4⟩ := run_append_own_at (P := Try.prog) (w.alloc (.cells #[.int .i64 x] 3)) base 44 44 3 i0 (.int .i64 0) 1 8 Try.underlying44 hi hz hs hby rfl (by decide) v zs.length (iv zs) (World.ownsRow.alloc h _) ⟨w.heap.size, 0, none⟩ 1 1 [.int .i64 x] rfl
    (fun j u hj => by
      have hB := Blk.new w 3 [.int .i64 x]
      have hj0 : j < 1 := by have := (List.getElem?_eq_some_iff.1 hj).1; simpa using this
      obtain rfl : j = 0 := by omega
      have := hB.cell 0
      simp only [List.getElem?_cons_zero, Option.some.injEq] at hj
      subst hj
      exact this) (by intro u hu; simp at hu; subst hu; rfl) (by unfold maxLen; omega) (by omega) (by simp; omega)
  refine ⟨v', w', hr, ?_, h2, ?_, ?_⟩
  · unfold Ints
    simpa using h1
  · simpa using h4
  · exact own_form' h1

set_option maxHeartbeats 4000000 in
theorem postings_any (w : World) (v : Value) (us : List Value) (ts : List (List Int)) (h : Parts w v us ts) (W : Int) (hn : ts.length ≤ 1000) (hl : ∀ t ∈ ts, t.length ≤ 2000000) :
    Calls Try.prog 35 #[v, .int .u8 W] w fun e w' => ∃ u zs, e = .returned u ∧ PpO w' w.heap.size u zs ∧ posOf zs = plL (posZ W) 1 ts ∧ Below w.heap.size w w' ∧ ∀ x ∈ zs, ∀ q, x.1.ownBlock = some q → w.heap.size ≤ q := by
  obtain ⟨ao, cap, rfl, h1, h2, huv⟩ := h.shape
  unfold maxLen at h2
  have HU := hide h
  obtain ⟨n, hnn⟩ : ∃ n, ts.length = n := ⟨_, rfl⟩
  have HN := hide hnn
  have HUV : Hid (us.length = n) := by show _ = _; omega
  have HLL := hide hl
  rw [hnn] at HU h1 hn ⊢
  clear h hnn hl huv
  go_enter Try.func35, Try.ntmps35
  go_wp2
  go_loopg [5, 13] n (fun g l5 l13 wr => ∃ (k : Nat) (zs : List PE) (a : Option Addr) (c : Nat), g + k = n ∧ l13 = .int .i64 (k : Int) ∧ l5 = .slice a zs.length c ∧ PpO wr w.heap.size (.slice a zs.length c) zs ∧ posOf zs = plL (posZ W) 1 (ts.take k) ∧ Below w.heap.size w wr ∧ ∀ x ∈ zs, ∀ q, x.1.ownBlock = some q → w.heap.size ≤ q)
  case atStart => exact ⟨0, [], none, 0, by omega, rfl, rfl, PpO.nil _ _, by rw [List.take_zero]; rfl, Below.refl _ _, fun x hx => by cases hx⟩
  case round =>
    obtain ⟨k, zs, za, zc, hg, rfl, rfl, hpp, hps, hb, hfr⟩ := hrel
    have HFR := hide hfr
    have HPP := hide hpp
    have HPS := hide hps
    have HB := hide hb
    obtain ⟨GK, hGK⟩ : ∃ x, gk = x := ⟨_, rfl⟩
    have HGK := hide hGK
    have HG : Hid (gk + k = n) := hg
    have hzl : zs.length ≤ k := by
      have e : zs.length = (plL (posZ W) 1 (ts.take k)).length := by rw [← hps]; simp [posOf]
      rw [e]
      exact Nat.le_trans (plL_len _ _ _) (by rw [List.length_take]; omega)
    obtain ⟨zn, hzn⟩ : ∃ n, zs.length = n := ⟨_, rfl⟩
    have HZN := hide hzn
    rw [hzn] at HPP hzl ⊢
    clear hpp hps hb hGK hzn hfr
    by_cases hk : k < n
    · obtain ⟨b, off, rfl, c1, hs⟩ := (HU.out.below HB.out).at k (by have := HUV.out; omega)
      have hkt : k < ts.length := by have := HN.out; omega
      obtain ⟨t, ht⟩ : ∃ t, ts.getD k [] = t := ⟨_, rfl⟩
      have ht2 : ts[k] = t := by rw [← ht]; simp [List.getD, hkt]
      have htl : t.length ≤ 2000000 := HLL.out t (by rw [← ht2]; exact List.getElem_mem hkt)
      rw [show (Value.slice none 0 0) = nilS from rfl, ht] at hs
      obtain ⟨ta, tc, htv, htc1, htc2⟩ := hs.shape
      unfold maxLen at htc2
      rw [show (Value.slice none 0 0) = nilS from rfl, htv] at c1
      rw [htv] at hs
      have HSL := hide hs
      have HTK : Hid (ts.take (k + 1) = ts.take k ++ [t]) := by show _ = _; rw [take_snoc ts k hkt, ht2]
      obtain ⟨m, hm⟩ : ∃ m, t.length = m := ⟨_, rfl⟩
      have HM := hide hm
      rw [hm] at c1 HSL htl htc1
      obtain ⟨WR, hWR⟩ : ∃ y, y = wr := ⟨_, rfl⟩
      subst hWR
      obtain ⟨W1, hW1⟩ : ∃ W1, WR.alloc (.cells #[.int .u32 ((k : Int) + 1), .slice none 0 0] 63) = W1 := ⟨_, rfl⟩
      have hb1 : Below WR.heap.size WR W1 := by rw [← hW1]; exact (Below.refl _ WR).alloc (Nat.le_refl _) _
      have hB1 : Blk W1 WR.heap.size 63 [.int .u32 ((k : Int) + 1), .slice none 0 0] := by rw [← hW1]; exact Blk.new WR _ _
      have HW1 := hide hW1
      have HB1 := hide hb1
      have HBX := hide hB1
      have hw1 : IntKind.i64.wrap ((k : Int) + 1) = (k : Int) + 1 := IntWalk.i64_in _ (by omega)
      have hw2 : IntKind.u32.wrap ((k : Int) + 1) = (k : Int) + 1 := IntWalk.u32_in _ (by omega)
      have hkk : (k : Int) < (n : Int) := by omega
      have hs1 : W1.heap.size = WR.heap.size + 1 := by rw [← hW1]; simp
      have HS1 := hide hs1
      clear hs ht ht2 htv hm hb1 hB1 hW1 hs1 hkt
      go_wp2
      rw [HW1.out]
      go_loopg [24] m (fun g l24 wx => ∃ (j : Nat) (u : Value), g + j = m ∧ l24 = .int .i64 (j : Int) ∧ Blk wx WR.heap.size 63 [.int .u32 ((k : Int) + 1), u] ∧ Ints wx (WR.heap.size + 1) u (nJ (isW W t) j) ∧ Below WR.heap.size W1 wx ∧ WR.heap.size + 1 ≤ wx.heap.size)
      case atStart => exact ⟨0, _, by omega, rfl, HBX.out, Ints.nil _ _, Below.refl _ _, by rw [HS1.out]; exact Nat.le_refl _⟩
      case round =>
        obtain ⟨j, u, hgj, rfl, hbx, hi, hbj, hsj⟩ := hrel
        have HBJ := hide hbj
        have HIJ := hide hi
        have HBXJ := hide hbx
        have HSJ := hide hsj
        have HGJ : Hid (gk + j = m) := hgj
        obtain ⟨GJ, hGJ⟩ : ∃ x, gk = x := ⟨_, rfl⟩
        have HGJK := hide hGJ
        have hnl : (nJ (isW W t) j).length ≤ j := nJ_len _ _
        obtain ⟨nl, hnl2⟩ : ∃ x, (nJ (isW W t) j).length = x := ⟨_, rfl⟩
        obtain ⟨ua, uc, rfl⟩ := hi.shape
        rw [hnl2] at HBXJ HIJ hnl hbx
        have HNL := hide hnl2
        have cu : wr.cell? ⟨WR.heap.size, 1, none⟩ = some (.slice ua nl uc) := hbx.cell 1
        have cd : wr.cell? ⟨WR.heap.size, 0, none⟩ = some (.int .u32 ((k : Int) + 1)) := hbx.cell 0
        have cf := hbx.frozen 1
        clear hbx hi hbj hsj hnl2 hGJ
        by_cases hj : j < m
        · have HWB : Hid (Below WR.heap.size WR wr) := HB1.out.trans HBJ.out
          obtain ⟨_, ta', tc', he, _, _, _, hcell⟩ := HSL.out
          simp only [Value.slice.injEq] at he
          obtain ⟨rfl, hmm, rfl⟩ := he
          clear hmm
          obtain ⟨b2, off2, rfl, hcc⟩ := hcell (by intro e; have := HM.out; rw [e] at this; simp at this; omega)
          have c2 := cell_belowL HWB.out (hcc j (by have := HM.out; omega))
          obtain ⟨y, hy⟩ : ∃ y, t.getD j 0 = y := ⟨_, rfl⟩
          rw [hy] at c2
          have hjj : (j : Int) < (m : Int) := by omega
          have hyw : isW W t j = decide (y = W) := by
            have hjt : j < t.length := by have := HM.out; omega
            unfold isW
            rw [← hy]
            simp [List.getD, hjt]
          have HNX := hide (nJ_succ (isW W t) j)
          have HYW := hide hyw
          clear hcell hcc hy hyw
          by_cases hyW : y = W
          · subst hyW
            have HNX2 : Hid (nJ (isW y t) (j + 1) = nJ (isW y t) j ++ [(j : Int)]) := by
              show _ = _
              rw [HNX.out, if_pos (by rw [HYW.out]; simp)]
            obtain ⟨v2, w3, hr, hi2, hg2, hv2, ao2, cap2, rfl⟩ := run_append_intL wr (WR.heap.size + 1) _ _ HIJ.out (j : Int) (by rw [HNL.out]; omega) HSJ.out
            have hown : ∀ q, (Value.slice ua nl uc).ownBlock = some q → WR.heap.size + 1 ≤ q := fun q hq => (Ints.lt (by have := HIJ.out; exact this) q hq).1
            have hoA : Only (fun q => (Value.slice ua nl uc).ownBlock = some q) wr w3 := ((Only.refl _ wr).alloc _).grown hg2 (fun q e _ => e)
            have hB3 := HBXJ.out.only hoA (fun e => by have := hown _ e; omega)
            have cc3 : w3.cell? ⟨WR.heap.size, 1, none⟩ = some (.slice ua nl uc) := hB3.cell 1
            have ff3 := hB3.frozen 1
            rw [HNL.out] at hr hi2 hv2
            have HR := hide hr
            have HI2 := hide hi2
            have HV2 := hide hv2
            have HOA := hide hoA
            have HB3 := hide hB3
            have HOW := hide hown
            clear hr hi2 hv2 hg2 hoA hB3 hown HNX HYW
            go_wp2_with (at_builtin; (with_reducible refine wpList_append_run _ rfl (.tmp 33) (.tmp 35) 44 rfl _ _ ?_ ?_ _ _ HR.out ?_); exact rfl; exact rfl; clear HR)
            go_roundg (GJ - 1)
            case measure => have := HGJK.out; have := HGJ.out; omega
            case rel =>
              have hoB : Only (· = WR.heap.size) w3 (w3.setCell ⟨WR.heap.size, 1, none⟩ (.slice ao2 (nl + 1) cap2)) := (Only.refl (· = WR.heap.size) w3).setCell ⟨WR.heap.size, 1, none⟩ _ (fun _ => rfl)
              have hv3 : ∀ q, (Value.slice ao2 (nl + 1) cap2).ownBlock = some q → WR.heap.size + 1 ≤ q := fun q hq => by
                rcases HV2.out with e | e
                · exact HOW.out q (e ▸ hq)
                · rw [e] at hq
                  have := Option.some.inj hq
                  have := HSJ.out
                  omega
              refine ⟨j + 1, _, by have := HGJK.out; have := HGJ.out; omega, by go_num, HB3.out.set 1 _, ?_, ?_, ?_⟩
              · rw [HNX2.out]
                exact HI2.out.only hoB (fun q hq e => by have := hv3 q hq; omega)
              · exact (HBJ.out.trans (HOA.out.below (by have := HSJ.out; omega) (fun q hq e => by have := HOW.out q e; omega))).trans (hoB.below (by have := HOA.out.size; have := HSJ.out; omega) (fun q hq e => by omega))
              · have := HOA.out.size
                have := hoB.size
                have := HSJ.out
                omega
          · have hyW2 : (y == W) = false := by simpa using hyW
            have HNX2 : Hid (nJ (isW W t) (j + 1) = nJ (isW W t) j) := by
              show _ = _
              rw [HNX.out, if_neg (by rw [HYW.out]; simpa using hyW), List.append_nil]
            clear HNX HYW
            go_wp2
            go_roundg (GJ - 1)
            case measure => have := HGJK.out; have := HGJ.out; omega
            case rel => exact ⟨j + 1, _, by have := HGJK.out; have := HGJ.out; omega, by go_num, HBXJ.out, by rw [HNX2.out]; exact HIJ.out, HBJ.out, HSJ.out⟩
        · obtain rfl : j = m := by omega
          have HPZ : Hid (posZ W t = nJ (isW W t) j) := by show _ = _; unfold posZ; rw [HM.out]
          have HWB : Hid (Below WR.heap.size WR wr) := HB1.out.trans HBJ.out
          have HPW := hide ((HPP.out).fresh HWB.out)
          have hwz : w.heap.size ≤ wr.heap.size := Nat.le_trans HB.out.size HWB.out.size
          by_cases hnl0 : nl = 0
          · subst hnl0
            have HNE : Hid (posZ W t = []) := by show _ = _; rw [HPZ.out]; exact List.eq_nil_of_length_eq_zero HNL.out
            clear HPZ
            go_wp2
            go_roundg (GK - 1)
            case measure => have := HGK.out; have := HG.out; omega
            case rel =>
              refine ⟨k + 1, zs, za, zc, by have := HGK.out; have := HG.out; omega, by go_num, by rw [HZN.out], by rw [HZN.out]; exact HPW.out, ?_, HB.out.trans (HWB.out.mono HB.out.size), HFR.out⟩
              rw [HTK.out, plL_snoc, if_pos HNE.out, List.append_nil]
              exact HPS.out
          · have hnlp : (0 : Int) < (nl : Int) := by omega
            have HNE : Hid (posZ W t ≠ []) := by show _ ≠ _; rw [HPZ.out]; intro e; have := HNL.out; rw [e] at this; simp at this; omega
            obtain ⟨v2, w3, hr, hp2, ho2, hv2, ao2, cap2, rfl⟩ := push_po wr w.heap.size _ zs HPW.out (.slice ua nl uc, ⟨k + 1, nJ (isW W t) j⟩) (by show k + 1 < _; omega) (by exact HIJ.out.base (Nat.zero_le _)) rfl (by rw [HZN.out]; omega) hwz
            have hzl1 : (zs ++ [((.slice ua nl uc, ⟨k + 1, nJ (isW W t) j⟩) : PE)]).length = zs.length + 1 := by simp
            rw [hzl1, HZN.out] at hr hp2 hv2
            have hdd : (((k + 1 : Nat) : Int)) = (k : Int) + 1 := by omega
            simp only [hdd] at hr
            have HR := hide hr
            have HP2 := hide hp2
            have HO2 := hide ho2
            clear hr hp2 ho2 hv2 hzl1 hdd
            go_wp2_with (at_builtin; (with_reducible refine wpList_append_run _ rfl (.tmp 43) (.tmp 45) 47 rfl _ _ ?_ ?_ _ _ HR.out ?_); exact rfl; exact rfl; clear HR)
            go_roundg (GK - 1)
            case measure => have := HGK.out; have := HG.out; omega
            case rel =>
              have hln : (zs ++ [((.slice ua nl uc, ⟨k + 1, nJ (isW W t) j⟩) : PE)]).length = zn + 1 := by rw [List.length_append, HZN.out]; rfl
              refine ⟨k + 1, _, ao2, cap2, by have := HGK.out; have := HG.out; omega, by go_num, by rw [hln], by rw [hln]; exact HP2.out, ?_, ?_, ?_⟩
              · rw [HTK.out, plL_snoc, if_neg HNE.out, List.length_take, HN.out, Nat.min_eq_left (by omega)]
                show posOf (zs ++ _) = _
                unfold posOf at *
                rw [List.map_append, HPS.out, HPZ.out]
                simp [Nat.add_comm]
              · have hle := HB.out.trans (HWB.out.mono HB.out.size)
                exact hle.trans (HO2.out.below hle.size (fun q hq e => by have := (HPW.out.lt q e.1).1; omega))
              · intro x hx q hq
                rcases List.mem_append.1 hx with hx | hx
                · exact HFR.out x hx q hq
                · rw [List.mem_singleton] at hx
                  subst hx
                  have h1 := (HIJ.out.lt q hq).1
                  have h2 := HB.out.size
                  omega
    · obtain rfl : k = n := by omega
      go_wp2
      go_ret
      refine ⟨_, zs, rfl, HPP.out, ?_, HB.out, HFR.out⟩
      rw [HPS.out, List.take_of_length_le (by have := HN.out; omega)]

end Go.Proofs.Ytfihnmdhclnhgaa
