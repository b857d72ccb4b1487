/- The walk of the statement CrcFault. -/
import Derived.Test.YtaahmpoldpdbjaaDoorCrcTurn
import Derived.Test.YtaahmpoldpdbjaaDoorWSeals
namespace Go.Proofs.YtaahmpoldpdbjaaDoor
open Go.RowKit

theorem bad_step (T : List Int) (f N k : Nat) (hk : k < 4) (hf : f + k < T.length) :
    ((turned T f ((le4 N).take k)).map (Value.int .u8)).set (f + k) (.int .u8 (xorB ((turned T f ((le4 N).take k)).getD (f + k) 0) ((le4 N).getD k 0))) = (turned T f ((le4 N).take (k + 1))).map (Value.int .u8) := by
  have hl : (le4 N).length = 4 := by simp [le4]
  have hlk : ((le4 N).take k).length = k := by simp [hl]; omega
  have := turned_step T f ((le4 N).take k) ((le4 N).getD k 0) (by rw [hlk]; exact hf)
  rw [hlk] at this
  rw [take_getD (le4 N) (by omega), this, List.map_set]
theorem bad_past (T : List Int) (f N k : Nat) (hk : k < 4) (hf : T.length ≤ f + k) : turned T f ((le4 N).take (k + 1)) = turned T f ((le4 N).take k) := by
  have hl : (le4 N).length = 4 := by simp [le4]
  have hlk : ((le4 N).take k).length = k := by simp [hl]; omega
  rw [take_getD (le4 N) (by omega)]
  exact turned_past T f _ _ (by rw [hlk]; exact hf)

set_option maxRecDepth 20000 in
set_option maxHeartbeats 8000000 in
theorem crcFault_walk (w : World) (v : Value) (zs : List Int) (a1 a2 : Int) (hS : Sl w v zs) (u1 : (Lit.int .u16 a1).wf = true) (u2 : (Lit.int .u32 a2).wf = true) (hT : Tab w) :
    Calls Tryd.prog 7 #[v, .int .u16 a1, .int .u32 a2] w fun e w' => e = .returned (.bool true) ∧ Below w.heap.size w w' := by
  have b1 := bounds_u16 u1
  have b2 := bounds_u32 u2
  obtain ⟨P, rfl⟩ := Int.eq_ofNat_of_zero_le b1.1
  obtain ⟨N, rfl⟩ := Int.eq_ofNat_of_zero_le b2.1
  clear u1 u2
  have hb0 : Below w.heap.size w w := Below.refl _ w
  have HL1 := hide (fun wx hb => live_on w hT wx hb)
  obtain ⟨ao, cap, rfl⟩ := sl_form' hS
  by_cases hbig : zs.length ≤ 3000
  · have hbi : ¬ (3000 : Int) < (zs.length : Int) := by omega
    have HS := hide hS
    have HT := hide hT
    have okz := hS.bytes
    have okT := sealS_ok okz
    have lT := sealS_len zs
    have C1 := hide (fun wx (hb : Below w.heap.size w wx) => crcSeal_any wx _ zs (HS.out.below hb) (HT.out.below hb) (by omega))
    have C2 := fun wx u (hu : Sl wx u (sealS zs)) => clone_any wx u (sealS zs) hu (by omega)
    rw [lT] at C2
    have HBI := hide (fun f h => bad_iff zs f N okz h)
    have HOS := hide (openB_seal zs)
    obtain ⟨T, hTT⟩ : ∃ T, T = sealS zs := ⟨_, rfl⟩
    rw [← hTT] at C1 C2 okT lT HBI HOS
    have C2' := hide C2
    have HOKT := hide okT
    have HLT := hide lT
    have hcmp : ((4 : Int) + (zs.length : Int) != (zs.length : Int) + 4) = false := by simp; omega
    have d0 : (N : Int) % 256 = ((N % 256 : Nat) : Int) := by omega
    have d1 : (N : Int) / 256 % 256 = ((N / 256 % 256 : Nat) : Int) := by omega
    have d2 : (N : Int) / 65536 % 256 = ((N / 65536 % 256 : Nat) : Int) := by omega
    have d3 : (N : Int) / 16777216 = ((N / 16777216 % 256 : Nat) : Int) := by omega
    have HLE : Hid (le4 N = [((N % 256 : Nat) : Int), ((N / 256 % 256 : Nat) : Int), ((N / 65536 % 256 : Nat) : Int), ((N / 16777216 % 256 : Nat) : Int)]) := rfl
    have hq0 : N % 256 < 256 := by omega
    have hq1 : N / 256 % 256 < 256 := by omega
    have hq2 : N / 65536 % 256 < 256 := by omega
    have hq3 : N / 16777216 % 256 < 256 := by omega
    obtain ⟨q0, h0⟩ : ∃ q, q = N % 256 := ⟨_, rfl⟩
    obtain ⟨q1, h1⟩ : ∃ q, q = N / 256 % 256 := ⟨_, rfl⟩
    obtain ⟨q2, h2⟩ : ∃ q, q = N / 65536 % 256 := ⟨_, rfl⟩
    obtain ⟨q3, h3⟩ : ∃ q, q = N / 16777216 % 256 := ⟨_, rfl⟩
    rw [← h0] at d0 HLE hq0
    rw [← h1] at d1 HLE hq1
    rw [← h2] at d2 HLE hq2
    rw [← h3] at d3 HLE hq3
    have d3' : (q3 : Int) % 256 = (q3 : Int) := by omega
    obtain ⟨f, hf, hcase⟩ : ∃ f : Nat, (f = 0 ∨ ∃ g, f = 4 + g) ∧ f ≤ 3004 ∧ ((f = 0 ∧ ((P : Int) % 2 = 0 ∨ ((P : Int) % 2 = 1 ∧ ¬ (0 : Int) < (zs.length : Int)))) ∨ ((P : Int) % 2 = 1 ∧ (0 : Int) < (zs.length : Int) ∧ ∃ R : Nat, (P : Int) / 2 % (zs.length : Int) = (R : Int) ∧ (4 : Int) + (R : Int) = (f : Int))) := by
      by_cases hp : P % 2 = 1
      · by_cases hn : 0 < zs.length
        · have hm := Nat.mod_lt (P / 2) hn
          refine ⟨4 + P / 2 % zs.length, .inr ⟨_, rfl⟩, by omega, .inr ⟨by omega, by omega, P / 2 % zs.length, ?_, by omega⟩⟩
          rw [show (P : Int) / 2 = ((P / 2 : Nat) : Int) by omega, ← Int.natCast_emod]
        · exact ⟨0, .inl rfl, by omega, .inl ⟨rfl, .inr ⟨by omega, by omega⟩⟩⟩
      · exact ⟨0, .inl rfl, by omega, .inl ⟨rfl, .inl (by omega)⟩⟩
    obtain ⟨hf4, hcase⟩ := hcase
    have hbad := HBI.out f hf
    obtain ⟨C4, hC4⟩ : ∃ C, C = turned T f (le4 N) := ⟨_, rfl⟩
    rw [← hC4] at hbad
    have okC4 : ByteOk C4 := by rw [hC4]; exact turned_ok T f _ okT (le4_ok N)
    have lC4 : C4.length = 4 + zs.length := by rw [hC4, turned_len, lT]
    have C3 := hide (fun wx u (hb : Below w.heap.size w wx) (hu : Sl wx u C4) => crcOpen_any wx u C4 hu (HT.out.below hb) (by omega))
    have C4E := hide (fun wx u u' (hu : Sl wx u C4) (hu' : Sl wx u' T) => equal_any wx u u' C4 T hu hu')
    have HDEC : Hid (sealB C4 = decide (C4 = T)) := by unfold sealB; rw [decide_eq_decide]; exact hbad
    have HOT : Hid (C4 = T → openB C4 = zs) := fun h => by rw [h]; exact HOS.out
    have HON : Hid (¬ C4 = T → openB C4 = []) := fun h => openB_no (fun hh => h (hbad.1 hh))
    have HC4 := hide hC4
    have HOK4 := hide okC4
    have HLC4 := hide lC4
    clear hS hT C2 okT lT hbad hC4 okC4 lC4 hTT HBI HOS h0 h1 h2 h3 hf
    rcases hcase with hcase | hcase
    · obtain ⟨rfl, hcase⟩ := hcase
      rcases hcase with hpar | ⟨hpar, hpos⟩
      all_goals
        go_enter Tryd.func7, Tryd.ntmps7
        go_wp2_with (first
          | (go_at_call 9; refine (HL1.out _ hb0).mono ?_; rintro e w1 ⟨rfl, hb1⟩; clear HL1)
          | (go_at_call 18; refine (C1.out _ hb1).mono ?_; rintro e w2 ⟨us, rfl, os, hb2'⟩; obtain ⟨ps, cs, rfl, as', gs'⟩ := own_form os; have AS := hide as'; have GS := hide gs'; have hb2 := below_then hb1 hb2' (Nat.le_refl _); have HOSS := hide os; clear C1 as' gs' os)
          | (go_at_call 17; refine (C2'.out _ _ (sl_of_own HOSS.out HOKT.out rfl)).mono ?_; rintro e w3 ⟨ub, rfl, ob, hb3'⟩; obtain ⟨pb, cb, rfl, _, gb'⟩ := own_form ob; have GB := hide gb'; have HOBB := hide ob; clear C2' ob gb'))
        obtain ⟨gs, rfl, gs1, gs2⟩ := GS.out (by omega)
        obtain ⟨gb, rfl, gb1, gb2⟩ := GB.out (by omega)
        have b23 := hb3'
        have HSS := hide (sl_of_own HOSS.out HOKT.out rfl)
        have hstart : w3.ownsRow w2.heap.size 5 1 (.slice (some ⟨gb, 0, none⟩) (4 + zs.length) cb) (4 + zs.length) ((turned T 0 ((le4 N).take 0)).map (Value.int .u8)) := by rw [List.take_zero, turned_nil]; exact HOBB.out
        clear AS GS GB HOSS HOBB
        go_loopg [46] 4 (fun g i wr => ∃ k : Nat, g + k = 4 ∧ i = .int .i64 k ∧ wr.ownsRow w2.heap.size 5 1 (.slice (some ⟨gb, 0, none⟩) (4 + zs.length) cb) (4 + zs.length) ((turned T 0 ((le4 N).take k)).map (Value.int .u8)) ∧ Below w2.heap.size w2 wr)
        case atStart => exact ⟨0, rfl, rfl, hstart, b23⟩
        case round =>
          obtain ⟨k, hk, rfl, hown, hbw⟩ := hrel
          have HO := hide hown
          have HB := hide hbw
          clear hstart b23 hown hbw
          cases gk with
          | zero =>
            obtain rfl : k = 4 := by omega
            have hbw := below_then hb2 HB.out (Nat.le_refl _)
            have hsl : Sl wr (.slice (some ⟨gb, 0, none⟩) (4 + zs.length) cb) C4 := sl_of_own HO.out HOK4.out (by rw [HC4.out, List.take_of_length_le (by simp [le4])])
            have O1 := C3.out wr _ hbw hsl
            have HSL := hide hsl
            rw [HDEC.out] at O1
            by_cases hh : C4 = T
            · rw [decide_eq_true hh, HOT.out hh] at O1
              have HO1 := hide O1
              have E1 : Hid (∀ wx, Below wr.heap.size wr wx → Calls Tryd.prog 21 #[.slice (some ⟨gb, 0, none⟩) (4 + zs.length) cb, .slice (some ⟨gs, 0, none⟩) (4 + zs.length) cs] wx fun e w' => e = .returned (.bool true) ∧ w' = wx) := fun wx hb => by
                have := C4E.out wx _ _ (HSL.out.below hb) ((HSS.out.below HB.out).below hb)
                rwa [decide_eq_true hh] at this
              clear hh O1 hsl
              go_wp2_with (first
                | (go_at_call 19; refine HO1.out.mono ?_; rintro e w4 ⟨ux, rfl, ox, hb4⟩; obtain ⟨px, cx, rfl, _, _⟩ := own_form ox; have HOXX := hide ox; clear HO1 ox)
                | (go_at_call 21; refine (E1.out _ hb4).mono ?_; rintro e w5 ⟨rfl, hw⟩; subst w5; clear E1)
                | (go_at_call 21; refine (equal_same _ _ _ zs (sl_of_own HOXX.out okz rfl) (HS.out.below (below_then hbw hb4 (Nat.le_refl _)))).mono ?_; rintro e w5 ⟨rfl, hw⟩; subst w5))
              go_ret
              exact ⟨rfl, below_then hbw hb4 (Nat.le_refl _)⟩
            · rw [decide_eq_false hh, HON.out hh] at O1
              have HO1 := hide O1
              have E1 : Hid (∀ wx, Below wr.heap.size wr wx → Calls Tryd.prog 21 #[.slice (some ⟨gb, 0, none⟩) (4 + zs.length) cb, .slice (some ⟨gs, 0, none⟩) (4 + zs.length) cs] wx fun e w' => e = .returned (.bool false) ∧ w' = wx) := fun wx hb => by
                have := C4E.out wx _ _ (HSL.out.below hb) ((HSS.out.below HB.out).below hb)
                rwa [decide_eq_false hh] at this
              clear hh O1 hsl
              go_wp2_with (first
                | (go_at_call 19; refine HO1.out.mono ?_; rintro e w4 ⟨ux, rfl, ox, hb4⟩; obtain ⟨px, cx, rfl, _, _⟩ := own_form ox; clear HO1 ox)
                | (go_at_call 21; refine (E1.out _ hb4).mono ?_; rintro e w5 ⟨rfl, hw⟩; subst w5; clear E1))
              go_ret
              exact ⟨rfl, below_then hbw hb4 (Nat.le_refl _)⟩
          | succ g =>
            rcases (by omega : k = 0 ∨ k = 1 ∨ k = 2 ∨ k = 3) with rfl | rfl | rfl | rfl
            · have hin : (0 : Nat) < 4 + zs.length := by omega
              have hJl : (0 : Int) < 4 + (zs.length : Int) := by omega
              obtain ⟨x, hx⟩ : ∃ x, x = (turned T 0 ((le4 N).take 0)).getD 0 0 := ⟨_, rfl⟩
              have hxb := (turned_ok T 0 ((le4 N).take 0) HOKT.out ((le4_ok N).take 0)).get 0
              have hCl : (turned T 0 ((le4 N).take 0)).length = 4 + zs.length := by rw [turned_len]; exact HLT.out
              have hcl : wr.cell? ⟨gb, 0, none⟩ = some (.int .u8 x) := by
                rw [HO.out.cellAt 0 (by omega), hx, getD_lt _ (by omega), List.getElem?_map, List.getElem?_eq_getElem (by omega)]
                rfl
              rw [← hx] at hxb
              obtain ⟨hxy, hyb⟩ := xor8' x q0 hxb hq0
              have hset := bad_step T 0 N 0 (by omega) (by rw [HLT.out]; omega)
              rw [show (le4 N).getD 0 0 = (q0 : Int) by rw [HLE.out]; rfl] at hset
              rw [Nat.zero_add] at hset
              rw [← hx] at hset
              obtain ⟨y, hy⟩ : ∃ y, y = xorB x (q0 : Int) := ⟨_, rfl⟩
              rw [← hy] at hset hxy hyb
              have hst := HO.out.stored 0 (.int .u8 y)
              have hfr := HO.out.frozenAt 0
              have hO2 := hst.1
              rw [hset] at hO2
              have HO2 := hide hO2
              clear hst hO2 hset hx hCl hy
              go_wp2
              go_roundg g
              case measure => omega
              case rel => exact ⟨1, by omega, by go_num, HO2.out, HB.out.setCell gb1 _⟩
            · have hin : (1 : Nat) < 4 + zs.length := by omega
              have hJl : (1 : Int) < 4 + (zs.length : Int) := by omega
              obtain ⟨x, hx⟩ : ∃ x, x = (turned T 0 ((le4 N).take 1)).getD 1 0 := ⟨_, rfl⟩
              have hxb := (turned_ok T 0 ((le4 N).take 1) HOKT.out ((le4_ok N).take 1)).get 1
              have hCl : (turned T 0 ((le4 N).take 1)).length = 4 + zs.length := by rw [turned_len]; exact HLT.out
              have hcl : wr.cell? ⟨gb, 1, none⟩ = some (.int .u8 x) := by
                rw [HO.out.cellAt 1 (by omega), hx, getD_lt _ (by omega), List.getElem?_map, List.getElem?_eq_getElem (by omega)]
                rfl
              rw [← hx] at hxb
              obtain ⟨hxy, hyb⟩ := xor8' x q1 hxb hq1
              have hset := bad_step T 0 N 1 (by omega) (by rw [HLT.out]; omega)
              rw [show (le4 N).getD 1 0 = (q1 : Int) by rw [HLE.out]; rfl] at hset
              rw [Nat.zero_add] at hset
              rw [← hx] at hset
              obtain ⟨y, hy⟩ : ∃ y, y = xorB x (q1 : Int) := ⟨_, rfl⟩
              rw [← hy] at hset hxy hyb
              have hst := HO.out.stored 1 (.int .u8 y)
              have hfr := HO.out.frozenAt 1
              have hO2 := hst.1
              rw [hset] at hO2
              have HO2 := hide hO2
              clear hst hO2 hset hx hCl hy
              go_wp2
              go_roundg g
              case measure => omega
              case rel => exact ⟨2, by omega, by go_num, HO2.out, HB.out.setCell gb1 _⟩
            · have hin : (2 : Nat) < 4 + zs.length := by omega
              have hJl : (2 : Int) < 4 + (zs.length : Int) := by omega
              obtain ⟨x, hx⟩ : ∃ x, x = (turned T 0 ((le4 N).take 2)).getD 2 0 := ⟨_, rfl⟩
              have hxb := (turned_ok T 0 ((le4 N).take 2) HOKT.out ((le4_ok N).take 2)).get 2
              have hCl : (turned T 0 ((le4 N).take 2)).length = 4 + zs.length := by rw [turned_len]; exact HLT.out
              have hcl : wr.cell? ⟨gb, 2, none⟩ = some (.int .u8 x) := by
                rw [HO.out.cellAt 2 (by omega), hx, getD_lt _ (by omega), List.getElem?_map, List.getElem?_eq_getElem (by omega)]
                rfl
              rw [← hx] at hxb
              obtain ⟨hxy, hyb⟩ := xor8' x q2 hxb hq2
              have hset := bad_step T 0 N 2 (by omega) (by rw [HLT.out]; omega)
              rw [show (le4 N).getD 2 0 = (q2 : Int) by rw [HLE.out]; rfl] at hset
              rw [Nat.zero_add] at hset
              rw [← hx] at hset
              obtain ⟨y, hy⟩ : ∃ y, y = xorB x (q2 : Int) := ⟨_, rfl⟩
              rw [← hy] at hset hxy hyb
              have hst := HO.out.stored 2 (.int .u8 y)
              have hfr := HO.out.frozenAt 2
              have hO2 := hst.1
              rw [hset] at hO2
              have HO2 := hide hO2
              clear hst hO2 hset hx hCl hy
              go_wp2
              go_roundg g
              case measure => omega
              case rel => exact ⟨3, by omega, by go_num, HO2.out, HB.out.setCell gb1 _⟩
            · have hin : (3 : Nat) < 4 + zs.length := by omega
              have hJl : (3 : Int) < 4 + (zs.length : Int) := by omega
              obtain ⟨x, hx⟩ : ∃ x, x = (turned T 0 ((le4 N).take 3)).getD 3 0 := ⟨_, rfl⟩
              have hxb := (turned_ok T 0 ((le4 N).take 3) HOKT.out ((le4_ok N).take 3)).get 3
              have hCl : (turned T 0 ((le4 N).take 3)).length = 4 + zs.length := by rw [turned_len]; exact HLT.out
              have hcl : wr.cell? ⟨gb, 3, none⟩ = some (.int .u8 x) := by
                rw [HO.out.cellAt 3 (by omega), hx, getD_lt _ (by omega), List.getElem?_map, List.getElem?_eq_getElem (by omega)]
                rfl
              rw [← hx] at hxb
              obtain ⟨hxy, hyb⟩ := xor8' x q3 hxb hq3
              have hset := bad_step T 0 N 3 (by omega) (by rw [HLT.out]; omega)
              rw [show (le4 N).getD 3 0 = (q3 : Int) by rw [HLE.out]; rfl] at hset
              rw [Nat.zero_add] at hset
              rw [← hx] at hset
              obtain ⟨y, hy⟩ : ∃ y, y = xorB x (q3 : Int) := ⟨_, rfl⟩
              rw [← hy] at hset hxy hyb
              have hst := HO.out.stored 3 (.int .u8 y)
              have hfr := HO.out.frozenAt 3
              have hO2 := hst.1
              rw [hset] at hO2
              have HO2 := hide hO2
              clear hst hO2 hset hx hCl hy
              go_wp2
              go_roundg g
              case measure => omega
              case rel => exact ⟨4, by omega, by go_num, HO2.out, HB.out.setCell gb1 _⟩
    · obtain ⟨hpar, hpos, R, hR, hfR⟩ := hcase
      go_enter Tryd.func7, Tryd.ntmps7
      go_wp2_with (first
        | (go_at_call 9; refine (HL1.out _ hb0).mono ?_; rintro e w1 ⟨rfl, hb1⟩; clear HL1)
        | (go_at_call 18; refine (C1.out _ hb1).mono ?_; rintro e w2 ⟨us, rfl, os, hb2'⟩; obtain ⟨ps, cs, rfl, as', gs'⟩ := own_form os; have AS := hide as'; have GS := hide gs'; have hb2 := below_then hb1 hb2' (Nat.le_refl _); have HOSS := hide os; clear C1 as' gs' os)
        | (go_at_call 17; refine (C2'.out _ _ (sl_of_own HOSS.out HOKT.out rfl)).mono ?_; rintro e w3 ⟨ub, rfl, ob, hb3'⟩; obtain ⟨pb, cb, rfl, _, gb'⟩ := own_form ob; have GB := hide gb'; have HOBB := hide ob; clear C2' ob gb'))
      obtain ⟨gs, rfl, gs1, gs2⟩ := GS.out (by omega)
      obtain ⟨gb, rfl, gb1, gb2⟩ := GB.out (by omega)
      have b23 := hb3'
      have HSS := hide (sl_of_own HOSS.out HOKT.out rfl)
      have hstart : w3.ownsRow w2.heap.size 5 1 (.slice (some ⟨gb, 0, none⟩) (4 + zs.length) cb) (4 + zs.length) ((turned T f ((le4 N).take 0)).map (Value.int .u8)) := by rw [List.take_zero, turned_nil]; exact HOBB.out
      clear AS GS GB HOSS HOBB hpar hpos hR hfR
      rename 0 < zs.length => hzz
      clear hzz
      go_loopg [46] 4 (fun g i wr => ∃ k : Nat, g + k = 4 ∧ i = .int .i64 k ∧ wr.ownsRow w2.heap.size 5 1 (.slice (some ⟨gb, 0, none⟩) (4 + zs.length) cb) (4 + zs.length) ((turned T f ((le4 N).take k)).map (Value.int .u8)) ∧ Below w2.heap.size w2 wr)
      case atStart => exact ⟨0, rfl, rfl, hstart, b23⟩
      case round =>
        obtain ⟨k, hk, rfl, hown, hbw⟩ := hrel
        have HO := hide hown
        have HB := hide hbw
        clear hstart b23 hown hbw
        cases gk with
        | zero =>
          obtain rfl : k = 4 := by omega
          have hbw := below_then hb2 HB.out (Nat.le_refl _)
          have hsl : Sl wr (.slice (some ⟨gb, 0, none⟩) (4 + zs.length) cb) C4 := sl_of_own HO.out HOK4.out (by rw [HC4.out, List.take_of_length_le (by simp [le4])])
          have O1 := C3.out wr _ hbw hsl
          have HSL := hide hsl
          rw [HDEC.out] at O1
          by_cases hh : C4 = T
          · rw [decide_eq_true hh, HOT.out hh] at O1
            have HO1 := hide O1
            have E1 : Hid (∀ wx, Below wr.heap.size wr wx → Calls Tryd.prog 21 #[.slice (some ⟨gb, 0, none⟩) (4 + zs.length) cb, .slice (some ⟨gs, 0, none⟩) (4 + zs.length) cs] wx fun e w' => e = .returned (.bool true) ∧ w' = wx) := fun wx hb => by
              have := C4E.out wx _ _ (HSL.out.below hb) ((HSS.out.below HB.out).below hb)
              rwa [decide_eq_true hh] at this
            clear hh O1 hsl
            go_wp2_with (first
              | (go_at_call 19; refine HO1.out.mono ?_; rintro e w4 ⟨ux, rfl, ox, hb4⟩; obtain ⟨px, cx, rfl, _, _⟩ := own_form ox; have HOXX := hide ox; clear HO1 ox)
              | (go_at_call 21; refine (E1.out _ hb4).mono ?_; rintro e w5 ⟨rfl, hw⟩; subst w5; clear E1)
              | (go_at_call 21; refine (equal_same _ _ _ zs (sl_of_own HOXX.out okz rfl) (HS.out.below (below_then hbw hb4 (Nat.le_refl _)))).mono ?_; rintro e w5 ⟨rfl, hw⟩; subst w5))
            go_ret
            exact ⟨rfl, below_then hbw hb4 (Nat.le_refl _)⟩
          · rw [decide_eq_false hh, HON.out hh] at O1
            have HO1 := hide O1
            have E1 : Hid (∀ wx, Below wr.heap.size wr wx → Calls Tryd.prog 21 #[.slice (some ⟨gb, 0, none⟩) (4 + zs.length) cb, .slice (some ⟨gs, 0, none⟩) (4 + zs.length) cs] wx fun e w' => e = .returned (.bool false) ∧ w' = wx) := fun wx hb => by
              have := C4E.out wx _ _ (HSL.out.below hb) ((HSS.out.below HB.out).below hb)
              rwa [decide_eq_false hh] at this
            clear hh O1 hsl
            go_wp2_with (first
              | (go_at_call 19; refine HO1.out.mono ?_; rintro e w4 ⟨ux, rfl, ox, hb4⟩; obtain ⟨px, cx, rfl, _, _⟩ := own_form ox; clear HO1 ox)
              | (go_at_call 21; refine (E1.out _ hb4).mono ?_; rintro e w5 ⟨rfl, hw⟩; subst w5; clear E1))
            go_ret
            exact ⟨rfl, below_then hbw hb4 (Nat.le_refl _)⟩
        | succ g =>
          rcases (by omega : k = 0 ∨ k = 1 ∨ k = 2 ∨ k = 3) with rfl | rfl | rfl | rfl
          · by_cases hin : f + 0 < 4 + zs.length
            · have hJl : (f : Int) < 4 + (zs.length : Int) := by omega
              obtain ⟨x, hx⟩ : ∃ x, x = (turned T f ((le4 N).take 0)).getD f 0 := ⟨_, rfl⟩
              have hxb := (turned_ok T f ((le4 N).take 0) HOKT.out ((le4_ok N).take 0)).get f
              have hCl : (turned T f ((le4 N).take 0)).length = 4 + zs.length := by rw [turned_len]; exact HLT.out
              have hcl : wr.cell? ⟨gb, f, none⟩ = some (.int .u8 x) := by
                rw [HO.out.cellAt f (by omega), hx, getD_lt _ (by omega), List.getElem?_map, List.getElem?_eq_getElem (by omega)]
                rfl
              rw [← hx] at hxb
              obtain ⟨hxy, hyb⟩ := xor8' x q0 hxb hq0
              have hset := bad_step T f N 0 (by omega) (by rw [HLT.out]; omega)
              rw [show (le4 N).getD 0 0 = (q0 : Int) by rw [HLE.out]; rfl, Nat.add_zero] at hset
              rw [← hx] at hset
              obtain ⟨y, hy⟩ : ∃ y, y = xorB x (q0 : Int) := ⟨_, rfl⟩
              rw [← hy] at hset hxy hyb
              have hst := HO.out.stored f (.int .u8 y)
              have hfr := HO.out.frozenAt f
              have hO2 := hst.1
              rw [hset] at hO2
              have HO2 := hide hO2
              clear hst hO2 hset hx hCl hy
              go_wp2
              go_roundg g
              case measure => omega
              case rel => exact ⟨1, by omega, by go_num, HO2.out, HB.out.setCell gb1 _⟩
            · have hJl : ¬ (f : Int) < 4 + (zs.length : Int) := by omega
              have hpast := bad_past T f N 0 (by omega) (by rw [HLT.out]; omega)
              have HP := hide hpast
              clear hpast
              go_wp2
              go_roundg g
              case measure => omega
              case rel => exact ⟨1, by omega, by go_num, by rw [HP.out]; exact HO.out, HB.out⟩
          · by_cases hin : f + 1 < 4 + zs.length
            · obtain ⟨J, hJ⟩ : ∃ J, J = f + 1 := ⟨_, rfl⟩
              have hJi : (f : Int) + 1 = (J : Int) := by omega
              have hJl : (J : Int) < 4 + (zs.length : Int) := by omega
              obtain ⟨x, hx⟩ : ∃ x, x = (turned T f ((le4 N).take 1)).getD J 0 := ⟨_, rfl⟩
              have hxb := (turned_ok T f ((le4 N).take 1) HOKT.out ((le4_ok N).take 1)).get J
              have hCl : (turned T f ((le4 N).take 1)).length = 4 + zs.length := by rw [turned_len]; exact HLT.out
              have hcl : wr.cell? ⟨gb, J, none⟩ = some (.int .u8 x) := by
                rw [HO.out.cellAt J (by omega), hx, getD_lt _ (by omega), List.getElem?_map, List.getElem?_eq_getElem (by omega)]
                rfl
              rw [← hx] at hxb
              obtain ⟨hxy, hyb⟩ := xor8' x q1 hxb hq1
              have hset := bad_step T f N 1 (by omega) (by rw [HLT.out]; omega)
              rw [show (le4 N).getD 1 0 = (q1 : Int) by rw [HLE.out]; rfl, ← hJ] at hset
              rw [← hx] at hset
              obtain ⟨y, hy⟩ : ∃ y, y = xorB x (q1 : Int) := ⟨_, rfl⟩
              rw [← hy] at hset hxy hyb
              have hst := HO.out.stored J (.int .u8 y)
              have hfr := HO.out.frozenAt J
              have hO2 := hst.1
              rw [hset] at hO2
              have HO2 := hide hO2
              clear hst hO2 hset hx hCl hy hJ
              go_wp2
              go_roundg g
              case measure => omega
              case rel => exact ⟨2, by omega, by go_num, HO2.out, HB.out.setCell gb1 _⟩
            · have hJl : ¬ (f : Int) + 1 < 4 + (zs.length : Int) := by omega
              have hpast := bad_past T f N 1 (by omega) (by rw [HLT.out]; omega)
              have HP := hide hpast
              clear hpast
              go_wp2
              go_roundg g
              case measure => omega
              case rel => exact ⟨2, by omega, by go_num, by rw [HP.out]; exact HO.out, HB.out⟩
          · by_cases hin : f + 2 < 4 + zs.length
            · obtain ⟨J, hJ⟩ : ∃ J, J = f + 2 := ⟨_, rfl⟩
              have hJi : (f : Int) + 2 = (J : Int) := by omega
              have hJl : (J : Int) < 4 + (zs.length : Int) := by omega
              obtain ⟨x, hx⟩ : ∃ x, x = (turned T f ((le4 N).take 2)).getD J 0 := ⟨_, rfl⟩
              have hxb := (turned_ok T f ((le4 N).take 2) HOKT.out ((le4_ok N).take 2)).get J
              have hCl : (turned T f ((le4 N).take 2)).length = 4 + zs.length := by rw [turned_len]; exact HLT.out
              have hcl : wr.cell? ⟨gb, J, none⟩ = some (.int .u8 x) := by
                rw [HO.out.cellAt J (by omega), hx, getD_lt _ (by omega), List.getElem?_map, List.getElem?_eq_getElem (by omega)]
                rfl
              rw [← hx] at hxb
              obtain ⟨hxy, hyb⟩ := xor8' x q2 hxb hq2
              have hset := bad_step T f N 2 (by omega) (by rw [HLT.out]; omega)
              rw [show (le4 N).getD 2 0 = (q2 : Int) by rw [HLE.out]; rfl, ← hJ] at hset
              rw [← hx] at hset
              obtain ⟨y, hy⟩ : ∃ y, y = xorB x (q2 : Int) := ⟨_, rfl⟩
              rw [← hy] at hset hxy hyb
              have hst := HO.out.stored J (.int .u8 y)
              have hfr := HO.out.frozenAt J
              have hO2 := hst.1
              rw [hset] at hO2
              have HO2 := hide hO2
              clear hst hO2 hset hx hCl hy hJ
              go_wp2
              go_roundg g
              case measure => omega
              case rel => exact ⟨3, by omega, by go_num, HO2.out, HB.out.setCell gb1 _⟩
            · have hJl : ¬ (f : Int) + 2 < 4 + (zs.length : Int) := by omega
              have hpast := bad_past T f N 2 (by omega) (by rw [HLT.out]; omega)
              have HP := hide hpast
              clear hpast
              go_wp2
              go_roundg g
              case measure => omega
              case rel => exact ⟨3, by omega, by go_num, by rw [HP.out]; exact HO.out, HB.out⟩
          · by_cases hin : f + 3 < 4 + zs.length
            · obtain ⟨J, hJ⟩ : ∃ J, J = f + 3 := ⟨_, rfl⟩
              have hJi : (f : Int) + 3 = (J : Int) := by omega
              have hJl : (J : Int) < 4 + (zs.length : Int) := by omega
              obtain ⟨x, hx⟩ : ∃ x, x = (turned T f ((le4 N).take 3)).getD J 0 := ⟨_, rfl⟩
              have hxb := (turned_ok T f ((le4 N).take 3) HOKT.out ((le4_ok N).take 3)).get J
              have hCl : (turned T f ((le4 N).take 3)).length = 4 + zs.length := by rw [turned_len]; exact HLT.out
              have hcl : wr.cell? ⟨gb, J, none⟩ = some (.int .u8 x) := by
                rw [HO.out.cellAt J (by omega), hx, getD_lt _ (by omega), List.getElem?_map, List.getElem?_eq_getElem (by omega)]
                rfl
              rw [← hx] at hxb
              obtain ⟨hxy, hyb⟩ := xor8' x q3 hxb hq3
              have hset := bad_step T f N 3 (by omega) (by rw [HLT.out]; omega)
              rw [show (le4 N).getD 3 0 = (q3 : Int) by rw [HLE.out]; rfl, ← hJ] at hset
              rw [← hx] at hset
              obtain ⟨y, hy⟩ : ∃ y, y = xorB x (q3 : Int) := ⟨_, rfl⟩
              rw [← hy] at hset hxy hyb
              have hst := HO.out.stored J (.int .u8 y)
              have hfr := HO.out.frozenAt J
              have hO2 := hst.1
              rw [hset] at hO2
              have HO2 := hide hO2
              clear hst hO2 hset hx hCl hy hJ
              go_wp2
              go_roundg g
              case measure => omega
              case rel => exact ⟨4, by omega, by go_num, HO2.out, HB.out.setCell gb1 _⟩
            · have hJl : ¬ (f : Int) + 3 < 4 + (zs.length : Int) := by omega
              have hpast := bad_past T f N 3 (by omega) (by rw [HLT.out]; omega)
              have HP := hide hpast
              clear hpast
              go_wp2
              go_roundg g
              case measure => omega
              case rel => exact ⟨4, by omega, by go_num, by rw [HP.out]; exact HO.out, HB.out⟩
  · have hbi : (3000 : Int) < (zs.length : Int) := by omega
    have HL2 := hide (fun wx hb => live_on w hT wx hb)
    clear hT hS
    go_enter Tryd.func7, Tryd.ntmps7
    go_wp2_with (first
      | (go_at_call 9; refine (HL1.out _ hb0).mono ?_; rintro e w1 ⟨rfl, hb1⟩; clear HL1)
      | (go_at_call 9; refine (HL2.out _ hb1).mono ?_; rintro e w2 ⟨rfl, hb2⟩; clear HL2))
    go_ret
    exact ⟨rfl, hb2⟩

end Go.Proofs.YtaahmpoldpdbjaaDoor
