/- The walk of the statement CrcSeals. -/
import Derived.Test.YtaahmpoldpdbjaaDoorCrcRefs
import Derived.Test.YtaahmpoldpdbjaaDoorWPieces
namespace Go.Proofs.YtaahmpoldpdbjaaDoor
open Go.RowKit

theorem equal_same (w : World) (va vb : Value) (xs : List Int) (ha : Sl w va xs) (hb : Sl w vb xs) :
    Calls Tryd.prog 21 #[va, vb] w fun e w' => e = .returned (.bool true) ∧ w' = w := by
  have := equal_any w va vb xs xs ha hb
  rw [decide_eq_true rfl] at this
  exact this

theorem own_form {w : World} {base n : Nat} {e : TypeId} {v : Value} {xs : List Value} (h : w.ownsRow base e 1 v n xs) : ∃ p c, v = .slice p n c ∧ (∀ g, v.ownBlock = some g → base ≤ g ∧ g < w.heap.size) ∧ (0 < n → ∃ g, p = some ⟨g, 0, none⟩ ∧ base ≤ g ∧ g < w.heap.size) := by
  rcases h.2 with ⟨rfl, h0⟩ | ⟨g, c, cur, rfl, hg, hh, _⟩
  · exact ⟨none, 0, by rw [h0], by intro g hg; simp [Value.ownBlock] at hg, by omega⟩
  · have hlt := (Array.getElem?_eq_some_iff.1 hh).1
    exact ⟨_, c, rfl, (by intro k hk; simp [Value.ownBlock] at hk; subst hk; exact ⟨hg, hlt⟩), fun _ => ⟨g, rfl, hg, hlt⟩⟩

theorem own_below {w w' : World} {base n : Nat} {e : TypeId} {v : Value} {xs : List Value} (h : w.ownsRow base e 1 v n xs) (hb : Below w.heap.size w w') : w'.ownsRow base e 1 v n xs := by
  obtain ⟨h1, h2⟩ := h
  refine ⟨h1, ?_⟩
  rcases h2 with h | ⟨g', c, cur, rfl, hg, hh, r⟩
  · exact .inl h
  · exact .inr ⟨g', c, cur, rfl, hg, by rw [hb.block g' (Array.getElem?_eq_some_iff.1 hh).1]; exact hh, r⟩

theorem sl_set {w : World} {v : Value} {zs : List Int} (h : Sl w v zs) (g j : Nat) (x : Value) (ha : ∀ k, v.ownBlock = some k → k ≠ g) : Sl (w.setCell ⟨g, j, none⟩ x) v zs :=
  h.keep fun k hk _ => heap_setCell_other w ⟨g, j, none⟩ k x (ha k hk)

theorem own_set {w : World} {base n : Nat} {e : TypeId} {v : Value} {xs : List Value} (h : w.ownsRow base e 1 v n xs) (g j : Nat) (x : Value) (ha : ∀ k, v.ownBlock = some k → k ≠ g) : (w.setCell ⟨g, j, none⟩ x).ownsRow base e 1 v n xs := by
  obtain ⟨h1, h2⟩ := h
  refine ⟨h1, ?_⟩
  rcases h2 with h | ⟨g', c, cur, rfl, hg, hh, r⟩
  · exact .inl h
  · exact .inr ⟨g', c, cur, rfl, hg, by rw [heap_setCell_other w ⟨g, j, none⟩ g' x (ha g' rfl)]; exact hh, r⟩

theorem flip_ok (x : Int) (hx : 0 ≤ x ∧ x ≤ 255) : ∃ y : Int, bits .xor .u8 x 255 = y ∧ 0 ≤ y ∧ y ≤ 255 := by
  have := u8_xor_nat x.toNat 255 (by omega) (by omega)
  rw [show ((x.toNat : Nat) : Int) = x by omega] at this
  have h2 : x.toNat ^^^ 255 < 2 ^ 8 := Nat.xor_lt_two_pow (by omega) (by omega)
  exact ⟨_, this, by omega, by omega⟩

theorem ByteOk.set {ys : List Int} (h : ByteOk ys) (k : Nat) (y : Int) (hy : 0 ≤ y ∧ y ≤ 255) : ByteOk (ys.set k y) := by
  intro z hz
  rcases List.mem_or_eq_of_mem_set hz with h' | rfl
  · exact h z h'
  · exact hy

set_option maxRecDepth 20000 in
set_option maxHeartbeats 4000000 in
theorem crcSeals_walk (w : World) (v : Value) (zs : List Int) (hS : Sl w v zs) (hT : Tab w) :
    Calls Tryd.prog 5 #[v] w fun e w' => e = .returned (.bool true) ∧ Below w.heap.size w w' := by
  have hb0 : Below w.heap.size w w := Below.refl _ w
  have HL1 := hide (fun wx hb => live_on w hT wx hb)
  obtain ⟨ao, cap, rfl⟩ := sl_form' hS
  by_cases hbig : zs.length ≤ 20000
  · have hbi : ¬ (20000 : Int) < (zs.length : Int) := by omega
    have HS := hide hS
    have HT := hide hT
    have C1 := hide (fun wx (hb : Below w.heap.size w wx) => clone_any wx _ zs (HS.out.below hb) (by omega))
    have C2 := hide (fun wx (hb : Below w.heap.size w wx) => crcSeal_any wx _ zs (HS.out.below hb) (HT.out.below hb) (by omega))
    have C3 := hide (fun wx (hb : Below w.heap.size w wx) => crcOpen_any wx _ zs (HS.out.below hb) (HT.out.below hb) (by omega))
    have C4 := hide (fun wx (hb : Below w.heap.size w wx) => refOpen_any wx _ zs (HS.out.below hb) (by omega))
    have C5 := hide (fun wx (hb : Below w.heap.size w wx) => refSeal_any wx _ zs (HS.out.below hb) (by omega))
    obtain ⟨bq, hbq⟩ : ∃ b, b = sealB zs := ⟨_, rfl⟩
    obtain ⟨X, hX⟩ : ∃ X, X = openB zs := ⟨_, rfl⟩
    have okX : ByteOk X := by
      rw [hX]
      unfold openB
      split
      · exact hS.bytes.drop 4
      · intro z hz; cases hz
    have lX : X.length ≤ 20000 := by
      rw [hX]
      unfold openB
      split
      · simp; omega
      · simp
    rw [← hbq, ← hX] at C3 C4
    have okS := sealS_ok hS.bytes
    have lS := sealS_len zs
    have C6 := fun wx u (hb : Below w.heap.size w wx) (hu : Sl wx u (sealS zs)) => crcOpen_any wx u (sealS zs) hu (HT.out.below hb) (by omega)
    rw [openB_seal, sealB_yes (isSeal_seal zs)] at C6
    have C6' := hide C6
    have okz := hS.bytes
    obtain ⟨T, hTT⟩ : ∃ T, T = sealS zs := ⟨_, rfl⟩
    rw [← hTT] at C2 C5 C6' okS lS
    clear hS hT hbq hX C6 hTT
    go_enter Tryd.func5, Tryd.ntmps5
    go_wp2_with (first
      | (go_at_call 9; refine (HL1.out _ hb0).mono ?_; rintro e w1 ⟨rfl, hb1⟩; clear HL1)
      | (go_at_call 17; refine (C1.out _ hb1).mono ?_; rintro e w2 ⟨uw, rfl, ow, hb2'⟩; obtain ⟨pw, cw, rfl, _, _⟩ := own_form ow; have hb2 := below_then hb1 hb2' (Nat.le_refl _); clear C1)
      | (go_at_call 18; refine (C2.out _ hb2).mono ?_; rintro e w3 ⟨us, rfl, os, hb3'⟩; obtain ⟨ps, cs, rfl, as', gs'⟩ := own_form os; have AS := hide as'; have GS := hide gs'; clear as' gs'; have hb3 := below_then hb2 hb3' (Nat.le_refl _); clear C2)
      | (go_at_call 19; refine (C3.out _ hb3).mono ?_; rintro e w4 ⟨ux, rfl, ox, hb4'⟩; obtain ⟨px, cx, rfl, ax', gx'⟩ := own_form ox; have AX := hide ax'; have GX := hide gx'; clear ax' gx'; have hb4 := below_then hb3 hb4' (Nat.le_refl _); clear C3)
      | (go_at_call 20; refine (C4.out _ hb4).mono ?_; rintro e w5 ⟨uy, rfl, oy, hb5'⟩; have hb5 := below_then hb4 hb5' (Nat.le_refl _); clear C4)
      | (go_at_call 22; refine (C5.out _ hb5).mono ?_; rintro e w6 ⟨ut, rfl, ot, hb6'⟩; have hb6 := below_then hb5 hb6' (Nat.le_refl _); have hS56 := hide (below_then (below_then hb4' hb5' (Nat.le_refl _)) hb6' (Nat.le_refl _)); clear C5)
      | (go_at_call 21; refine (equal_same _ _ ut T ((sl_of_own os okS rfl).below hS56.out) (sl_of_own ot okS rfl)).mono ?_; rintro e w7 ⟨rfl, hw⟩; subst w7; have mark1 := hide trivial)
      | (go_at_call 21; refine (equal_same _ _ uy X ((sl_of_own ox okX rfl).below (below_then hb5' hb6' (Nat.le_refl _))) ((sl_of_own oy okX rfl).below hb6')).mono ?_; rintro e w7 ⟨rfl, hw⟩; subst w7; have mark2 := mark1)
      | (go_at_call 19; refine (C6'.out _ _ hb6 ((sl_of_own os okS rfl).below hS56.out)).mono ?_; rintro e w7 ⟨uz, rfl, oz, hb7'⟩; obtain ⟨pz, cz, rfl, az', _⟩ := own_form oz; have AZ := hide az'; clear az'; have hb7 := below_then hb6 hb7' (Nat.le_refl _); clear C6'))
    have s23 := hb3'.size
    have s34 := hb4'.size
    have s45 := hb5'.size
    have s56 := hb6'.size
    obtain ⟨gs, rfl, gs1, gs2⟩ := GS.out (by omega)
    have os7 : w7.ownsRow w2.heap.size 5 1 (.slice (some ⟨gs, 0, none⟩) (4 + zs.length) cs) (4 + zs.length) (T.map (Value.int .u8)) := own_below os (below_then hS56.out hb7' (Nat.le_refl _))
    have ox7 : w7.ownsRow w3.heap.size 5 1 (.slice px X.length cx) X.length (X.map (Value.int .u8)) := own_below ox (below_then (below_then hb5' hb6' (Nat.le_refl _)) hb7' (Nat.le_refl _))
    have sz7 := sl_of_own oz okz rfl
    have b27 : Below w2.heap.size w2 w7 := below_then (below_then hb3' hS56.out (Nat.le_refl _)) hb7' (Nat.le_refl _)
    have NX : Hid (∀ k, (Value.slice px X.length cx).ownBlock = some k → k ≠ gs) := fun k hk => by have := (AX.out k hk).1; omega
    have NZ : Hid (∀ k, (Value.slice pz zs.length cz).ownBlock = some k → k ≠ gs) := fun k hk => by have := (AZ.out k hk).1; omega
    have NZX : Hid (∀ k, (Value.slice pz zs.length cz).ownBlock = some k → ∀ j, (Value.slice px X.length cx).ownBlock = some j → k ≠ j) := fun k hk j hj => by have := (AZ.out k hk).1; have := (AX.out j hj).2; omega
    have HSW := hide (sl_of_own ow okz rfl)
    have HBW := hide hb2
    have HGX := hide (fun hm => (GX.out hm))
    clear os ox oz ot oy ow AS AX AZ GS GX hb1 hb2' hb3' hb4' hb5' hb6' hb7' hb3 hb4 hb5 hb6 hb7 hS56 mark1 mark2
    go_loopg [58] (4 + zs.length) (fun g i wr => ∃ (k : Nat) (ys : List Int), g + k = 4 + zs.length ∧ i = .int .i64 k ∧ ys.length = 4 + zs.length ∧ ByteOk ys ∧ wr.ownsRow w2.heap.size 5 1 (.slice (some ⟨gs, 0, none⟩) (4 + zs.length) cs) (4 + zs.length) (ys.map (Value.int .u8)) ∧ wr.ownsRow w3.heap.size 5 1 (.slice px X.length cx) X.length (X.map (Value.int .u8)) ∧ Sl wr (.slice pz zs.length cz) zs ∧ Below w2.heap.size w2 wr)
    case atStart => exact ⟨0, T, by omega, rfl, by omega, okS, os7, ox7, sz7, b27⟩
    case round =>
      obtain ⟨k, ys, hk, rfl, hyl, hyo, hos, hox, hz, hbw⟩ := hrel
      have HOS := hide hos
      have HOX := hide hox
      have HZ := hide hz
      have HB := hide hbw
      clear os7 ox7 sz7 b27 hos hox hz hbw
      cases gk with
      | zero =>
        obtain rfl : k = 4 + zs.length := by omega
        clear hyl hyo HOS
        go_wp2
        go_loopg [70] X.length (fun g i wr => ∃ (k : Nat) (ys : List Int), g + k = X.length ∧ i = .int .i64 k ∧ ys.length = X.length ∧ ByteOk ys ∧ wr.ownsRow w3.heap.size 5 1 (.slice px X.length cx) X.length (ys.map (Value.int .u8)) ∧ Sl wr (.slice pz zs.length cz) zs ∧ Below w2.heap.size w2 wr)
        case atStart => exact ⟨0, X, by omega, rfl, rfl, okX, HOX.out, HZ.out, HB.out⟩
        case round =>
          obtain ⟨j, ys, hj, rfl, hyl, hyo, hox, hz, hbw⟩ := hrel
          have HOX := hide hox
          have HZ := hide hz
          have HB := hide hbw
          clear hox hz hbw
          cases gk with
          | zero =>
            obtain rfl : j = X.length := by omega
            have E1 := hide (equal_same wr _ _ zs HZ.out (HS.out.below (below_then HBW.out HB.out (Nat.le_refl _))))
            have E2 := hide (equal_same wr _ _ zs (HS.out.below (below_then HBW.out HB.out (Nat.le_refl _))) (HSW.out.below HB.out))
            go_wp2_with (first
              | (go_at_call 21; refine E1.out.mono ?_; rintro e w8 ⟨rfl, hw⟩; subst w8; clear E1)
              | (go_at_call 21; refine E2.out.mono ?_; rintro e w8 ⟨rfl, hw⟩; subst w8; clear E2))
            go_ret
            exact ⟨rfl, below_then HBW.out HB.out (Nat.le_refl _)⟩
          | succ g =>
            have hjx : j < X.length := by omega
            have hji : (j : Int) < (X.length : Int) := by omega
            obtain ⟨gx, rfl, gx1, gx2⟩ := HGX.out (by omega)
            obtain ⟨x, hx⟩ : ∃ x, x = ys.getD j 0 := ⟨_, rfl⟩
            have hxb := hyo.get j
            rw [← hx] at hxb
            have hcl : wr.cell? ⟨gx, j, none⟩ = some (.int .u8 x) := by
              rw [HOX.out.cellAt j (by omega), hx, getD_lt ys (by omega)]
              simp [show j < ys.length by omega]
            obtain ⟨y, hxy, hyb⟩ := flip_ok x hxb
            have hst := HOX.out.stored j (.int .u8 y)
            have hfr := HOX.out.frozenAt j
            have hO2 := hst.1
            rw [← List.map_set] at hO2
            have HO2 := hide hO2
            have HYO := hide (hyo.set j y hyb)
            have HN : Hid (∀ k, (Value.slice pz zs.length cz).ownBlock = some k → k ≠ gx) := fun k hk => NZX.out k hk gx rfl
            have hge : w2.heap.size ≤ gx := by omega
            have HYL := hide hyl
            clear hst hO2 hx hyl
            go_wp2
            go_roundg g
            case measure => omega
            case rel => exact ⟨j + 1, ys.set j y, by omega, by go_num, by simpa using HYL.out, HYO.out, HO2.out, sl_set HZ.out gx j _ HN.out, HB.out.setCell hge _⟩
      | succ g =>
        have hks : k < 4 + zs.length := by omega
        have hki : (k : Int) < 4 + (zs.length : Int) := by omega
        obtain ⟨x, hx⟩ : ∃ x, x = ys.getD k 0 := ⟨_, rfl⟩
        have hxb := hyo.get k
        rw [← hx] at hxb
        have hcl : wr.cell? ⟨gs, k, none⟩ = some (.int .u8 x) := by
          rw [HOS.out.cellAt k (by omega), hx, getD_lt ys (by omega)]
          simp [show k < ys.length by omega]
        obtain ⟨y, hxy, hyb⟩ := flip_ok x hxb
        have hst := HOS.out.stored k (.int .u8 y)
        have hfr := HOS.out.frozenAt k
        have hO2 := hst.1
        rw [← List.map_set] at hO2
        have HO2 := hide hO2
        have HYO := hide (hyo.set k y hyb)
        have HYL := hide hyl
        clear hst hO2 hx hyl
        go_wp2
        go_roundg g
        case measure => omega
        case rel => exact ⟨k + 1, ys.set k y, by omega, by go_num, by simpa using HYL.out, HYO.out, HO2.out, own_set HOX.out gs k _ NX.out, sl_set HZ.out gs k _ NZ.out, HB.out.setCell gs1 _⟩
  · have hbi : (20000 : Int) < (zs.length : Int) := by omega
    have HL2 := hide (fun wx hb => live_on w hT wx hb)
    clear hT hS
    go_enter Tryd.func5, Tryd.ntmps5
    go_wp2_with (first
      | (go_at_call 9; refine (HL1.out _ hb0).mono ?_; rintro e w1 ⟨rfl, hb1⟩; clear HL1)
      | (go_at_call 9; refine (HL2.out _ hb1).mono ?_; rintro e w2 ⟨rfl, hb2⟩; clear HL2))
    go_ret
    exact ⟨rfl, hb2⟩

end Go.Proofs.YtaahmpoldpdbjaaDoor
