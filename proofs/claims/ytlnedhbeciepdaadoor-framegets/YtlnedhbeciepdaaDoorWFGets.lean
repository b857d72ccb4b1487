/- The walk of the statement FrameGets. -/
import Derived.Test.YtlnedhbeciepdaaDoorFRefWant
import Derived.Test.YtlnedhbeciepdaaDoorWFBack
import Derived.Test.YtlnedhbeciepdaaDoorFTurn
namespace Go.Proofs.YtlnedhbeciepdaaDoor
open Go.RowKit
set_option linter.unusedVariables false

theorem getS_ok {zs : List Int} (q : Int) (h : ByteOk zs) : ByteOk (getS zs q).data := by
  by_cases h0 : (getS zs q).err = 0
  · obtain ⟨k, p, e, _, _, _, _, h5, _⟩ := getS_back zs q h h0
    rw [h5]
    exact (h.drop 4).drop 12
  · rw [getS_err zs q h0]
    intro z hz; cases hz
theorem wantS_ok {zs : List Int} (q : Int) (ks : List Int) (h : ByteOk zs) : ByteOk (wantS zs q ks).data := by
  unfold wantS
  split
  · intro z hz; cases hz
  · split
    · exact getS_ok q h
    · intro z hz; cases hz

theorem gives_len {w w' : World} {g : Fr} {r : Ending} (h : Gives w g r w') : ∃ a c, r = .returned (.tuple #[.agg #[.int .i64 g.kind, .int .i64 g.page, .int .u64 g.epoch, .slice a g.data.length c], .int .i64 g.err]) ∧ w'.ownsRow w.heap.size 5 1 (.slice a g.data.length c) g.data.length (g.data.map (Value.int .u8)) ∧ Below w.heap.size w w' := by
  obtain ⟨a, n, c, rfl, ho, hb⟩ := h
  obtain rfl := own_n ho
  exact ⟨a, c, rfl, ho, hb⟩

theorem Is.only {S : Nat → Prop} {w w' : World} {v : Value} {ks : List Int} (h : Is w v ks) {B : Nat} (hb : Below B w w') (hB : w.heap.size ≤ B) : Is w' v ks := h.below (hb.mono hB)

set_option maxRecDepth 20000 in
set_option maxHeartbeats 16000000 in
theorem frameGets_walk (w : World) (v : Value) (bs : List Int) (q : Int) (kv : Value) (ks : List Int) (kk : Int) (h : Sl w v bs) (hq : (Lit.int .i64 q).wf = true) (hk : Is w kv ks) (hkk : (Lit.int .i64 kk).wf = true) (hT : Tab w) :
    Calls Tryd.prog 4 #[v, .int .i64 q, kv, .int .i64 kk] w fun e w' => e = .returned (.bool true) ∧ Below w.heap.size w w' := by
  have HL : Hid (∀ w1, Below w.heap.size w w1 → Calls Tryd.prog 8 #[] w1 fun e w2 => e = .returned (.bool true) ∧ Below w.heap.size w w2) := fun w1 hb => by
    refine (liveF_any w1 (hT.below hb)).mono ?_
    rintro e w2 ⟨rfl, hb2⟩
    exact ⟨rfl, hb.trans (hb2.mono hb.size)⟩
  have HB0 : Hid (Below w.heap.size w w) := Below.refl _ w
  have HK := hide hk
  obtain ⟨bo, bc, rfl⟩ := sl_form' h
  obtain ⟨ko, kc, rfl, _⟩ := hk
  by_cases hn : (3000 : Int) < (bs.length : Int)
  · clear h hT HK
    go_enter Tryd.func4, Tryd.ntmps4
    go_wp2_with (first
      | (go_at_call 8; refine (HL.out _ HB0.out).mono ?_; rintro e1 w1 ⟨rfl, b1⟩; have HB1 := hide b1; clear HB0 b1)
      | (go_at_call 8; refine (HL.out _ HB1.out).mono ?_; rintro e1 w2 ⟨rfl, b2⟩; clear HB1))
    go_ret
    exact ⟨rfl, b2⟩
  · by_cases hm : (100 : Int) < (ks.length : Int)
    · clear h hT HK
      go_enter Tryd.func4, Tryd.ntmps4
      go_wp2_with (first
        | (go_at_call 8; refine (HL.out _ HB0.out).mono ?_; rintro e1 w1 ⟨rfl, b1⟩; have HB1 := hide b1; clear HB0 b1)
        | (go_at_call 8; refine (HL.out _ HB1.out).mono ?_; rintro e1 w2 ⟨rfl, b2⟩; clear HB1))
      go_ret
      exact ⟨rfl, b2⟩
    · have HCL : Hid (∀ w1, Below w.heap.size w w1 → Calls Tryd.prog 10 #[.slice bo bs.length bc] w1 fun r w2 => ∃ a2 l2, r = .returned (.slice a2 bs.length l2) ∧ w2.ownsRow w1.heap.size 5 1 (.slice a2 bs.length l2) bs.length (bs.map (Value.int .u8)) ∧ Below w1.heap.size w1 w2) := by
        intro w1 hb
        refine (clone_any w1 _ bs (h.below hb) (by omega)).mono ?_
        rintro r w2 ⟨u, rfl, ho, hb2⟩
        obtain ⟨a2, n2, l2, rfl⟩ := sl_form (sl_of_own_len ho h.bytes)
        obtain rfl := own_n ho
        exact ⟨a2, l2, rfl, ho, hb2⟩
      have HG := hide (fun w1 (u : Value) (hb : Below w.heap.size w w1) (hu : Sl w1 u bs) => (get_any w1 u bs q hu (hT.below hb)).mono (fun r w2 hh => gives_len hh))
      have HW := hide (fun w1 (u : Value) (hb : Below w.heap.size w w1) (hu : Sl w1 u bs) => (want_any w1 u bs q _ ks hu (HK.out.below hb) (hT.below hb)).mono (fun r w2 hh => gives_len hh))
      have HRG := hide (fun w1 (hb : Below w.heap.size w w1) => refGet_any w1 _ bs q (h.below hb))
      have HRW := hide (fun w1 (hb : Below w.heap.size w w1) => refWant_any w1 _ bs q _ ks (h.below hb) (HK.out.below hb))
      unfold GivesS at HRG HRW
      have okD := getS_ok q h.bytes
      have okD2 := wantS_ok q ks h.bytes
      have okb := h.bytes
      obtain ⟨G, hG⟩ : ∃ G, G = getS bs q := ⟨_, rfl⟩
      obtain ⟨W, hW⟩ : ∃ W, W = wantS bs q ks := ⟨_, rfl⟩
      rw [← hG] at HG HRG okD
      rw [← hW] at HW HRW okD2
      obtain ⟨er, k1, p1, e1, D⟩ := G
      obtain ⟨er2, k2, p2, e2, D2⟩ := W
      simp only at HG HRG okD HW HRW okD2
      have HA1 : Hid (∀ wx (a a' : Option Addr) (c c' : Nat), Sl wx (.slice a D.length c) D → Sl wx (.slice a' D.length c') D → Calls Tryd.prog 22 #[.agg #[.int .i64 k1, .int .i64 p1, .int .u64 e1, .slice a D.length c], .agg #[.int .i64 k1, .int .i64 p1, .int .u64 e1, .slice a' D.length c']] wx fun r w' => r = .returned (.bool true) ∧ Below wx.heap.size wx w') := by
        intro wx a a' c c' h1 h2
        have := alike_any wx k1 p1 k1 p1 e1 e1 a a' D.length D.length c c' D D h1 h2
        rwa [show alikeB k1 p1 e1 D k1 p1 e1 D = true from decide_eq_true ⟨rfl, rfl, rfl, rfl⟩] at this
      have HA2 : Hid (∀ wx (a a' : Option Addr) (c c' : Nat), Sl wx (.slice a D2.length c) D2 → Sl wx (.slice a' D2.length c') D2 → Calls Tryd.prog 22 #[.agg #[.int .i64 k2, .int .i64 p2, .int .u64 e2, .slice a D2.length c], .agg #[.int .i64 k2, .int .i64 p2, .int .u64 e2, .slice a' D2.length c']] wx fun r w' => r = .returned (.bool true) ∧ Below wx.heap.size wx w') := by
        intro wx a a' c c' h1 h2
        have := alike_any wx k2 p2 k2 p2 e2 e2 a a' D2.length D2.length c c' D2 D2 h1 h2
        rwa [show alikeB k2 p2 e2 D2 k2 p2 e2 D2 = true from decide_eq_true ⟨rfl, rfl, rfl, rfl⟩] at this
      have HN1 := hide (fun wx => name_any wx kk)
      have HN2 := hide (fun wx => refName_any wx kk)
      obtain ⟨NM, hNM⟩ : ∃ NM, NM = nameS kk := ⟨_, rfl⟩
      rw [← hNM] at HN1 HN2
      have hza := zeroFrameRun
      clear h hT HK hG hW hNM
      go_enter Tryd.func4, Tryd.ntmps4
      go_wp2_with (first
        | (go_at_call 8; refine (HL.out _ HB0.out).mono ?_; rintro e' w1 ⟨rfl, b1⟩; have HB1 := hide b1; have HCL1 := hide (HCL.out w1 b1); clear HB0 HCL b1 HL)
        | (go_at_call 10; refine HCL1.out.mono ?_; rintro e' w2 ⟨a2, l2, rfl, O2, hb2⟩; have b2 : Below w.heap.size w w2 := HB1.out.trans (hb2.mono HB1.out.size); have HO2 := hide O2; have HB2 := hide b2; have HG2 := hide (HG.out w2 _ b2 (sl_of_own_len O2 okb)); clear HCL1 HG O2 hb2 b2)
        | (go_at_call 18; refine HG2.out.mono ?_; rintro e' w3 ⟨a3, l3, rfl, O3, hb3⟩; have b3 := hb3.alloc hb3.size (.cells #[.int .i64 k1, .int .i64 p1, .int .u64 e1, .slice a3 D.length l3] 25); have HQ3 := hide (Blk.new w3 25 [.int .i64 k1, .int .i64 p1, .int .u64 e1, .slice a3 D.length l3]); have HO3 := hide (own_keep O3 ((Below.refl _ w3).alloc (Nat.le_refl _) (.cells #[.int .i64 k1, .int .i64 p1, .int .u64 e1, .slice a3 D.length l3] 25))); have HB3 := hide b3; have HL3 := hide hb3.size; have HW3 := hide (HW.out _ _ (HB2.out.trans (b3.mono HB2.out.size)) ((sl_of_own_len HO2.out okb).below b3)); clear HG2 HW O3 hb3 b3)
        | (go_at_call 19; refine HW3.out.mono ?_; rintro e' w4 ⟨a4, l4, rfl, O4, hb4⟩; have HQ4 := hide (Blk.new w4 25 [.int .i64 k2, .int .i64 p2, .int .u64 e2, .slice a4 D2.length l4]); have HO4 := hide (own_keep O4 ((Below.refl _ w4).alloc (Nat.le_refl _) (.cells #[.int .i64 k2, .int .i64 p2, .int .u64 e2, .slice a4 D2.length l4] 25))); have HB4 := hide (hb4.alloc hb4.size (.cells #[.int .i64 k2, .int .i64 p2, .int .u64 e2, .slice a4 D2.length l4] 25)); have HL4 := hide hb4.size; clear HW3 O4 hb4))
      obtain ⟨W3, hW3⟩ : ∃ W3, W3 = w3.alloc (.cells #[.int .i64 k1, .int .i64 p1, .int .u64 e1, .slice a3 D.length l3] 25) := ⟨_, rfl⟩
      rw [← hW3] at HQ3 HO3 HB3 HB4 HO4
      obtain ⟨WS, hWS⟩ : ∃ WS, WS = w4.alloc (.cells #[.int .i64 k2, .int .i64 p2, .int .u64 e2, .slice a4 D2.length l4] 25) := ⟨_, rfl⟩
      have hQ4 : Blk WS w4.heap.size 25 [.int .i64 k2, .int .i64 p2, .int .u64 e2, .slice a4 D2.length l4] := by rw [hWS]; exact HQ4.out
      have hO4 : WS.ownsRow W3.heap.size 5 1 (.slice a4 D2.length l4) D2.length (D2.map (Value.int .u8)) := by rw [hWS]; exact HO4.out
      have hB4 : Below W3.heap.size W3 WS := by rw [hWS]; exact HB4.out
      rw [← hWS]
      have hle3 : w2.heap.size ≤ w3.heap.size := HL3.out
      have hleW : w3.heap.size < W3.heap.size := HQ3.out.lt
      have hle4 : W3.heap.size ≤ w4.heap.size := by have := HL4.out; rw [← hW3] at this; exact this
      have hbS : Below w2.heap.size w2 WS := HB3.out.trans (hB4.mono HB3.out.size)
      have hQ3 := HQ3.out.below hB4 HQ3.out.lt
      have hO3 := own_keep HO3.out hB4
      have hO2 := own_keep HO2.out hbS
      have hSlt : ∀ k, (Value.slice a2 bs.length l2).ownBlock = some k → w1.heap.size ≤ k ∧ k < w2.heap.size := fun k hk => HO2.out.lt k hk
      have HBW : Hid (Below w.heap.size w WS) := HB2.out.trans (hbS.mono HB2.out.size)
      have HQ3S := hide hQ3
      have HQ4S := hide hQ4
      have HO3S := hide hO3
      have HO4S := hide hO4
      have HSL := hide hSlt
      have hw1 := HB1.out.size
      have HL3' := hide hle3
      have HLW' := hide hleW
      have HL4' := hide hle4
      have HW1' := hide hw1
      have HHN := hide hn
      have HHM := hide hm
      clear hQ4 hO4 hB4 hQ3 hO3 hbS hW3 hWS HQ3 HO3 HB3 HB4 HO4 HQ4 HO2 HB2 HL3 HL4 hle3 hleW hle4 hw1 hSlt hn hm
      go_loopg [49] bs.length (fun gl i wr => ∃ (j : Nat) (Z : List Int), gl + j = bs.length ∧ i = .int .i64 j ∧ Z.length = bs.length ∧ ByteOk Z ∧ wr.ownsRow w1.heap.size 5 1 (.slice a2 bs.length l2) Z.length (Z.map (Value.int .u8)) ∧ Only (fun k => (Value.slice a2 bs.length l2).ownBlock = some k) WS wr)
      case atStart => exact ⟨0, bs, by omega, rfl, rfl, okb, hO2, Only.refl _ _⟩
      case round =>
        obtain ⟨j, Z, hj, rfl, hZl, hZok, hown, hon⟩ := hrel
        have HOW := hide hown
        have HON := hide hon
        clear hO2
        cases gk with
        | zero =>
          obtain rfl : j = bs.length := by omega
          have bwr : Below w.heap.size w wr := HBW.out.trans (hon.below HBW.out.size (fun k hk hh => by have := (HSL.out k hh).1; have := HW1'.out; omega))
          have q3 := HQ3S.out.only hon (fun hh => by have := (HSL.out _ hh).2; have := HL3'.out; omega)
          have q4 := HQ4S.out.only hon (fun hh => by have := (HSL.out _ hh).2; have := HL3'.out; have := HLW'.out; have := HL4'.out; omega)
          have s3 := sl_of_own_len (ownsRow_only HO3S.out hon (fun k hk hh => by have := (HSL.out k hh).2; have := (HO3S.out.lt k hk).1; omega)) okD
          have s4 := sl_of_own_len (ownsRow_only HO4S.out hon (fun k hk hh => by have := (HSL.out k hh).2; have := (HO4S.out.lt k hk).1; have := HL3'.out; have := HLW'.out; omega)) okD2
          have HRG1 := hide (HRG.out wr bwr)
          have HBR := hide bwr
          have HQ3r := hide q3
          have HQ4r := hide q4
          have HS3r := hide s3
          have HS4r := hide s4
          clear bwr q3 q4 s3 s4 hown hon HRG HQ3S HQ4S HO3S HO4S HOW HON
          go_wp2_with (first
            | (go_at_call 20; refine HRG1.out.mono ?_; rintro e' w5 ⟨a5, l5, rfl, S5, hb5⟩; have b5 := hb5.alloc hb5.size (.cells #[.int .i64 k1, .int .i64 p1, .int .u64 e1, .slice a5 D.length l5] 25); have HQ5 := hide (Blk.new w5 25 [.int .i64 k1, .int .i64 p1, .int .u64 e1, .slice a5 D.length l5]); have HS5 := hide (S5.alloc (.cells #[.int .i64 k1, .int .i64 p1, .int .u64 e1, .slice a5 D.length l5] 25)); have HB5 := hide b5; have HRW5 := hide (HRW.out _ (HBR.out.trans (b5.mono HBR.out.size))); clear HRG1 HRW S5 hb5 b5)
            | (go_at_call 21; refine HRW5.out.mono ?_; rintro e' w6 ⟨a6, l6, rfl, S6, hb6⟩; have b6 := hb6.alloc hb6.size (.cells #[.int .i64 k2, .int .i64 p2, .int .u64 e2, .slice a6 D2.length l6] 25); have b56 := HB5.out.trans (b6.mono HB5.out.size); have HQ6 := hide (Blk.new w6 25 [.int .i64 k2, .int .i64 p2, .int .u64 e2, .slice a6 D2.length l6]); have HS6 := hide (S6.alloc (.cells #[.int .i64 k2, .int .i64 p2, .int .u64 e2, .slice a6 D2.length l6] 25)); have HAL1 := hide (HA1.out _ a3 a5 l3 l5 (HS3r.out.below b56) (HS5.out.below b6)); obtain ⟨c0, c1, c2, c3⟩ := box_cells (HQ3r.out.below b56 HQ3r.out.lt); obtain ⟨d0, d1, d2, d3⟩ := box_cells (HQ5.out.below b6 HQ5.out.lt); have HQ46 := hide (HQ4r.out.below b56 HQ4r.out.lt); have HS46 := hide (HS4r.out.below b56); have HB6 := hide (HBR.out.trans (b56.mono HBR.out.size)); clear HRW5 HA1 S6 hb6 b6 b56 HQ3r HQ4r HS3r HS4r HQ5 HS5 HB5 HBR)
            | (go_at_call 22; refine HAL1.out.mono ?_; rintro e' w7 ⟨rfl, hb7⟩; clear c0 c1 c2 c3 d0 d1 d2 d3; have HAL2 := hide (HA2.out w7 a4 a6 l4 l6 (HS46.out.below hb7) (HS6.out.below hb7)); obtain ⟨c0, c1, c2, c3⟩ := box_cells (HQ46.out.below hb7 HQ46.out.lt); obtain ⟨d0, d1, d2, d3⟩ := box_cells (HQ6.out.below hb7 HQ6.out.lt); have HB7 := hide (HB6.out.trans (hb7.mono HB6.out.size)); clear HAL1 HA2 HQ46 HS46 HQ6 HS6 HB6 hb7)
            | (go_at_call 22; refine HAL2.out.mono ?_; rintro e' w8 ⟨rfl, hb8⟩; clear c0 c1 c2 c3 d0 d1 d2 d3; have HB8 := hide (HB7.out.trans (hb8.mono HB7.out.size)); clear HAL2 HB7 hb8)
            | (go_at_call 23; refine (HN1.out _).mono ?_; rintro e' w9 ⟨rfl, hw⟩; subst w9; clear HN1)
            | (go_at_call 24; refine (HN2.out _).mono ?_; rintro e' w9 ⟨rfl, hw⟩; subst w9; clear HN2))
          go_ret
          exact ⟨rfl, HB8.out⟩
        | succ gl =>
          have hjl : j < bs.length := by omega
          have hji : (j : Int) < (bs.length : Int) := by omega
          have hjZ : j < Z.length := by omega
          rw [hZl] at hown
          obtain ⟨gx, rfl, hgb⟩ := own_at hown (by omega)
          have hxb := hZok.get j
          obtain ⟨x, hx⟩ : ∃ x, x = Z.getD j 0 := ⟨_, rfl⟩
          have hcl : wr.cell? ⟨gx, j, none⟩ = some (.int .u8 x) := by
            rw [hown.cellAt j (by omega), hx, getD_lt _ hjZ, List.getElem?_map, List.getElem?_eq_getElem hjZ]
            rfl
          rw [← hx] at hxb
          obtain ⟨hxy0, hyb⟩ := xor8' x 255 hxb (by omega)
          obtain ⟨y, hy⟩ : ∃ y, y = xorB x ((255 : Nat) : Int) := ⟨_, rfl⟩
          rw [← hy] at hxy0 hyb
          have hxy : bits .xor .u8 x 255 = y := hxy0
          have hfr := hown.frozenAt j
          have hst := (hown.stored j (.int .u8 y)).1
          have hset : (Z.map (Value.int .u8)).set j (.int .u8 y) = (Z.set j y).map (Value.int .u8) := by rw [List.map_set]
          rw [hset] at hst
          have hl2 : (Z.set j y).length = bs.length := by rw [List.length_set]; exact hZl
          have hok2 : ByteOk (Z.set j y) := fun z hz => by
            rcases List.mem_or_eq_of_mem_set hz with h | h
            · exact hZok z h
            · omega
          have HST := hide hst
          have HOY := hide (hon.setCell ⟨gx, j, none⟩ (.int .u8 y) (fun _ => rfl))
          clear hst hset hx hy hown hon hxy0
          go_wp2
          go_roundg gl
          case measure => omega
          case rel => exact ⟨j + 1, Z.set j y, by omega, by go_num, hl2, hok2, by rw [hl2]; exact HST.out, HOY.out⟩

end Go.Proofs.YtlnedhbeciepdaaDoor
