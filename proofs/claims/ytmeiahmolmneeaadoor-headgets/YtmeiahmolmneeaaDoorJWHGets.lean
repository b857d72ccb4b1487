/- The walk of the statement HeadGets. -/
import Derived.Test.YtmeiahmolmneeaaDoorJHRefG
import Derived.Test.YtmeiahmolmneeaaDoorHRefSame
import Derived.Test.YtmeiahmolmneeaaDoorJHLive
namespace Go.Proofs.YtmeiahmolmneeaaDoor
set_option maxRecDepth 20000
open Go.RowKit
set_option linter.unusedVariables false

theorem xor8G (x : Int) (hx : 0 ≤ x ∧ x ≤ 255) : ∃ y, bits .xor .u8 x 255 = y ∧ 0 ≤ y ∧ y ≤ 255 := by
  have := u8_xor_nat x.toNat 255 (by omega) (by omega)
  rw [show ((x.toNat : Nat) : Int) = x by omega] at this
  have h2 : x.toNat ^^^ 255 < 2 ^ 8 := Nat.xor_lt_two_pow (by omega) (by omega)
  exact ⟨_, this, by omega, by omega⟩
theorem own_atG {w : World} {base n c : Nat} {e : TypeId} {a : Option Addr} {xs : List Value} (h : w.ownsRow base e 1 (.slice a n c) n xs) (hn : 0 < n) : ∃ g, a = some ⟨g, 0, none⟩ ∧ base ≤ g := by
  rcases h.2 with ⟨_, hh⟩ | ⟨g, cp, cur, hv, hg, _⟩
  · omega
  · simp only [Value.slice.injEq] at hv
    exact ⟨g, hv.1, hg⟩

set_option maxHeartbeats 4000000 in
theorem headGets_walk (w : World) (ep : Nat) (v : Value) (bs : List Int) (hep : ep < 18446744073709551616) (h : Sl w v bs) (hT : Tab w) :
    Calls Tryd.prog 4 #[.int .u64 ep, v] w fun e w' => e = .returned (.bool true) ∧ Below w.heap.size w w' := by
  have HL : Hid (∀ w1, Below w.heap.size w w1 → Calls Tryd.prog 9 #[] w1 fun e w2 => e = .returned (.bool true) ∧ Below w.heap.size w w2) := fun w1 hb => by
    refine (liveH_any w1 (hT.below hb)).mono ?_
    rintro e w2 ⟨rfl, hb2⟩
    exact ⟨rfl, hb.trans (hb2.mono hb.size)⟩
  have HB0 : Hid (Below w.heap.size w w) := Below.refl _ w
  obtain ⟨bo, bc, rfl⟩ := sl_form' h
  by_cases hn : (3000 : Int) < (bs.length : Int)
  · clear h hT
    go_enter Tryd.func4, Tryd.ntmps4
    go_wp2_with (first
      | (go_at_call 9; refine (HL.out _ HB0.out).mono ?_; rintro e1 w1 ⟨rfl, b1⟩; have HB1 := hide b1; clear HB0 b1)
      | (go_at_call 9; refine (HL.out _ HB1.out).mono ?_; rintro e1 w2 ⟨rfl, b2⟩; clear HB1))
    go_ret
    exact ⟨rfl, b2⟩
  · have HCL : Hid (∀ w1, Below w.heap.size w w1 → Calls Tryd.prog 22 #[.slice bo bs.length bc] w1 fun r w2 => ∃ a2 l2, r = .returned (.slice a2 bs.length l2) ∧ w2.ownsRow w1.heap.size 5 1 (.slice a2 bs.length l2) bs.length (bs.map (Value.int .u8)) ∧ Below w1.heap.size w1 w2) := by
      intro w1 hb
      refine (clone_any w1 _ bs (h.below hb) (by omega)).mono ?_
      rintro r w2 ⟨u, rfl, ho, hb2⟩
      obtain ⟨a2, n2, l2, rfl⟩ := sl_form (sl_of_own_len ho h.bytes)
      obtain rfl := own_n ho
      exact ⟨a2, l2, rfl, ho, hb2⟩
    have HG := hide (fun w1 (u : Value) (hu : Sl w1 u bs) => hget_any w1 ep u bs hu (by omega) hep)
    have HRG := hide (fun w1 (hb : Below w.heap.size w w1) => refGetH_any w1 ep _ bs (h.below hb) hep)
    unfold GivesH at HG HRG
    have okb := h.bytes
    obtain ⟨G, hG⟩ : ∃ G, G = getH ep bs := ⟨_, rfl⟩
    obtain ⟨er, hE⟩ : ∃ x, x = getE ep bs := ⟨_, rfl⟩
    rw [← hG, ← hE] at HG HRG
    obtain ⟨ge, gp, gms, gus⟩ := G
    simp only at HG HRG
    have HSA : Hid (∀ wx va vb, HdV wx va ⟨ge, gp, gms, gus⟩ → HdV wx vb ⟨ge, gp, gms, gus⟩ → Calls Tryd.prog 18 #[va, vb] wx fun r w' => r = .returned (.bool true) ∧ Below wx.heap.size wx w') := by
      intro wx va vb h1 h2
      have := refSameH_any wx va vb _ _ h1 h2
      rwa [sameH_self] at this
    have hza := zeroHeadRun
    clear h hT hG hE
    go_enter Tryd.func4, Tryd.ntmps4
    go_wp2_with (first
      | (go_at_call 9; refine (HL.out _ HB0.out).mono ?_; rintro e' w1 ⟨rfl, b1⟩; have HB1 := hide b1; have HCL1 := hide (HCL.out w1 b1); clear HB0 HCL b1 HL)
      | (go_at_call 22; refine HCL1.out.mono ?_; rintro e' w2 ⟨a2, l2, rfl, O2, hb2⟩; have b2 : Below w.heap.size w w2 := HB1.out.trans (hb2.mono HB1.out.size); have HO2 := hide O2; have HB2 := hide b2; have HG2 := hide (HG.out w2 _ (sl_of_own_len O2 okb)); clear HCL1 HG O2 hb2 b2)
      | (go_at_call 23; refine HG2.out.mono ?_; rintro e' w3 ⟨ma, mc, ua, uc, rfl, V3, hb3⟩; have b3 := hb3.alloc hb3.size (.cells #[.int .u64 ge, .int .i64 gp, .slice ma gms.length mc, .slice ua gus.length uc] 26); have HQ3 := hide (Blk.new w3 26 [.int .u64 ge, .int .i64 gp, .slice ma gms.length mc, .slice ua gus.length uc]); have HV3 := hide (V3.alloc (.cells #[.int .u64 ge, .int .i64 gp, .slice ma gms.length mc, .slice ua gus.length uc] 26)); have HB3 := hide b3; have HL3 := hide hb3.size; unfold hdV; clear HG2 V3 hb3 b3))
    obtain ⟨WS, hWS⟩ : ∃ WS, WS = w3.alloc (.cells #[.int .u64 ge, .int .i64 gp, .slice ma gms.length mc, .slice ua gus.length uc] 26) := ⟨_, rfl⟩
    rw [← hWS] at HQ3 HV3 HB3
    rw [← hWS]
    have hle3 : w2.heap.size ≤ w3.heap.size := HL3.out
    have hO2 := own_keep HO2.out HB3.out
    have hSlt : ∀ k, (Value.slice a2 bs.length l2).ownBlock = some k → w1.heap.size ≤ k ∧ k < w2.heap.size := fun k hk => HO2.out.lt k hk
    have HBW : Hid (Below w.heap.size w WS) := HB2.out.trans (HB3.out.mono HB2.out.size)
    have HSL := hide hSlt
    have hw1 := HB1.out.size
    have HL3' := hide hle3
    have HW1' := hide hw1
    have HHN := hide hn
    clear hWS HB3 HO2 HB2 HL3 hle3 hw1 hSlt hn HB1
    go_loopg [29] bs.length (fun gl i wr => ∃ (j : Nat) (Z : List Int), gl + j = bs.length ∧ i = .int .i64 j ∧ Z.length = bs.length ∧ ByteOk Z ∧ wr.ownsRow w1.heap.size 5 1 (.slice a2 bs.length l2) Z.length (Z.map (Value.int .u8)) ∧ Only (fun k => (Value.slice a2 bs.length l2).ownBlock = some k) WS wr)
    case atStart => exact ⟨0, bs, by omega, rfl, rfl, okb, hO2, Only.refl _ _⟩
    case round =>
      obtain ⟨j, Z, hj, rfl, hZl, hZok, hown, hon⟩ := hrel
      have HOW := hide hown
      have HON := hide hon
      clear hO2
      cases gk with
      | zero =>
        obtain rfl : j = bs.length := by omega
        have bwr : Below w.heap.size w wr := HBW.out.trans (hon.below HBW.out.size (fun k hk hh => by have := (HSL.out k hh).1; have := HW1'.out; omega))
        have q3 := HQ3.out.only hon (fun hh => by have := (HSL.out _ hh).2; have := HL3'.out; omega)
        have v3 := HV3.out.only hon (fun k hh => by have := (HSL.out k hh).2; omega)
        have HRG1 := hide (HRG.out wr bwr)
        have HBR := hide bwr
        have HQ3r := hide q3
        have HV3r := hide v3
        clear bwr q3 v3 hown hon HRG HQ3 HV3 HOW HON
        go_wp2_with (first
          | (go_at_call 24; refine HRG1.out.mono ?_; rintro e' w5 ⟨ma5, mc5, ua5, uc5, rfl, V5, hb5⟩; have b5 := hb5.alloc hb5.size (.cells #[.int .u64 ge, .int .i64 gp, .slice ma5 gms.length mc5, .slice ua5 gus.length uc5] 26); have q5 := Blk.new w5 26 [.int .u64 ge, .int .i64 gp, .slice ma5 gms.length mc5, .slice ua5 gus.length uc5]; have v5 := V5.alloc (.cells #[.int .u64 ge, .int .i64 gp, .slice ma5 gms.length mc5, .slice ua5 gus.length uc5] 26); have HS5 := hide (HSA.out _ _ _ (HV3r.out.below b5).val v5.val); obtain ⟨c0, c1, c2, c3⟩ := box_cells (HQ3r.out.below b5 HQ3r.out.lt); obtain ⟨d0, d1, d2, d3⟩ := box_cells q5; have HB5 := hide (HBR.out.trans (b5.mono HBR.out.size)); unfold hdV at HS5 ⊢; clear HRG1 HSA V5 hb5 b5 q5 v5 HQ3r HV3r HBR)
          | (go_at_call 18; refine HS5.out.mono ?_; rintro e' w6 ⟨rfl, hb6⟩; clear c0 c1 c2 c3 d0 d1 d2 d3; have HB6 := hide (HB5.out.trans (hb6.mono HB5.out.size)); clear HS5 HB5 hb6))
        go_ret
        exact ⟨rfl, HB6.out⟩
      | succ gl =>
        have hjl : j < bs.length := by omega
        have hji : (j : Int) < (bs.length : Int) := by omega
        have hjZ : j < Z.length := by omega
        rw [hZl] at hown
        obtain ⟨gx, rfl, hgb⟩ := own_atG hown (by omega)
        have hxb := hZok.get j
        obtain ⟨x, hx⟩ : ∃ x, x = Z.getD j 0 := ⟨_, rfl⟩
        have hcl : wr.cell? ⟨gx, j, none⟩ = some (.int .u8 x) := by
          rw [hown.cellAt j (by omega), hx, getD_lt _ hjZ, List.getElem?_map, List.getElem?_eq_getElem hjZ]
          rfl
        rw [← hx] at hxb
        obtain ⟨y, hxy, hyb⟩ := xor8G x hxb
        have hfr := hown.frozenAt j
        have hst := (hown.stored j (.int .u8 y)).1
        have hset : (Z.map (Value.int .u8)).set j (.int .u8 y) = (Z.set j y).map (Value.int .u8) := by rw [List.map_set]
        rw [hset] at hst
        have hl2 : (Z.set j y).length = bs.length := by rw [List.length_set]; exact hZl
        have hok2 : ByteOk (Z.set j y) := fun z hz => by
          rcases List.mem_or_eq_of_mem_set hz with h | h
          · exact hZok z h
          · omega
        have HST := hide hst
        have HOY := hide (hon.setCell ⟨gx, j, none⟩ (.int .u8 y) (fun _ => rfl))
        clear hst hset hx hown hon
        go_wp2
        go_roundg gl
        case measure => omega
        case rel => exact ⟨j + 1, Z.set j y, by omega, by go_num, hl2, hok2, by rw [hl2]; exact HST.out, HOY.out⟩

end Go.Proofs.YtmeiahmolmneeaaDoor
