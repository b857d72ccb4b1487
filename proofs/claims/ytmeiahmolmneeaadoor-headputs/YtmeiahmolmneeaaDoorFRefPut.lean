/- Contract: the document's answer: a frame's page (incipitref04.Put). -/
import Derived.Test.YtmeiahmolmneeaaDoorFRef
import Derived.Test.YtmeiahmolmneeaaDoorCrcRefs
namespace Go.Proofs.YtmeiahmolmneeaaDoor
set_option maxRecDepth 20000
open Go.RowKit
set_option linter.unusedVariables false

theorem numBytes8 (e : Nat) : numBytes e 8 = [((e / 72057594037927936 % 256 : Nat) : Int), ((e / 281474976710656 % 256 : Nat) : Int), ((e / 1099511627776 % 256 : Nat) : Int), ((e / 4294967296 % 256 : Nat) : Int), ((e / 16777216 % 256 : Nat) : Int), ((e / 65536 % 256 : Nat) : Int), ((e / 256 % 256 : Nat) : Int), ((e % 256 : Nat) : Int)] := by
  simp [numBytes, Nat.div_div_eq_div_mul]

theorem refPut_bad (w : World) (k p : Int) (e n cap : Nat) (ao : Option Addr) (h : checkS k p n ≠ 0) :
    Calls Tryd.prog 34 #[frV k p e (.slice ao n cap)] w fun r w' => r = .returned (.tuple #[.slice none 0 0, .int .i64 (checkS k p n)]) ∧ Below w.heap.size w w' := by
  have HC := hide (fun wx => refCheck_any wx k p e n cap ao)
  unfold frV at HC ⊢
  obtain ⟨c, hc⟩ : ∃ c, c = checkS k p n := ⟨_, rfl⟩
  rw [← hc] at HC h ⊢
  have hne : (c != 0) = true := by simpa using h
  clear hc
  go_enter Tryd.func34, Tryd.ntmps34
  go_wp2_with (go_at_call 54; refine (HC.out _).mono ?_; rintro e1 w1 ⟨rfl, hb1⟩; have HB1 := hide (after_alloc hb1); clear HC hb1)
  go_ret2
  exact ⟨rfl, HB1.out⟩

/-- one byte behind a row of the call's own, by 'append(b, x)' -/
theorem app_one (w w1 : World) (a : Option Addr) (n c : Nat) (zs : List Int) (x : Int) (hx : 0 ≤ x ∧ x ≤ 255) (hl : zs.length ≤ 100000) (f : Fm) (hb : Bx w w1 f) (ho : w1.ownsRow (w.heap.size + 1) 5 1 (.slice a n c) zs.length (zs.map (Value.int .u8))) :
    ∃ a' c' w2, (Builtin.append_ #[24, 24] 24 #[.slice a n c, .slice (some ⟨w1.heap.size, 0, none⟩) 1 1]).run Tryd.prog (w1.alloc (.cells #[.int .u8 x] 5)) = .ok (.slice a' (zs.length + 1) c') w2 ∧ w2.ownsRow (w.heap.size + 1) 5 1 (.slice a' (zs.length + 1) c') (zs ++ [x]).length ((zs ++ [x]).map (Value.int .u8)) ∧ Bx w w2 f := by
  obtain ⟨i0, hi, hz0, hz1, hz2⟩ := info_parts infoU8
  have hS : Sl (w1.alloc (.cells #[.int .u8 x] 5)) (.slice (some ⟨w1.heap.size, 0, none⟩) 1 1) [x] := by
    have := sl_lit w1 5 [x] (by intro z hz; simp at hz; omega) (by simp [maxLen])
    simpa using this
  have ha := hb.alloc (.cells #[.int .u8 x] 5)
  have ho1 := own_keep ho ((Below.refl _ w1).alloc (Nat.le_refl _) (.cells #[.int .u8 x] 5))
  obtain ⟨v1, w2, hr, ho2, hg, _⟩ := run_append_sl (P := Tryd.prog) _ (w.heap.size + 1) 24 24 5 i0 Tryd.underlying24 hi hz0 hz1 hz2 _ zs.length _ ho1 _ 1 1 [x] hS (by simp; omega) ha.2.lt
  have hlen : zs.length + [x].length = zs.length + 1 := rfl
  rw [hlen] at ho2
  obtain ⟨a', n', c', rfl⟩ : ∃ a n c, v1 = .slice a n c := by
    rcases ho2.2 with ⟨h, _⟩ | ⟨g, cap, cur, h, _⟩
    · exact ⟨_, _, _, h⟩
    · exact ⟨_, _, _, h⟩
  obtain rfl := own_n ho2
  refine ⟨a', c', w2, hr, by rw [List.length_append, List.map_append]; exact ho2, ?_, ?_⟩
  · exact ha.1.grown hg ha.1.size (fun j hj => by have := (ho1.lt j hj).1; omega)
  · exact (hg.block _ ha.2.lt (fun h => by have := (ho1.lt _ h.symm).1; omega)).trans ha.2

/-- bytes behind a row of the call's own, by 'append(b, zs...)' -/
theorem app_sl (w w1 : World) (a : Option Addr) (n c : Nat) (zs ys : List Int) (ao : Option Addr) (m cap : Nat) (hy : Sl w1 (.slice ao m cap) ys) (hl : zs.length + ys.length ≤ 100000) (f : Fm) (hb : Bx w w1 f) (ho : w1.ownsRow (w.heap.size + 1) 5 1 (.slice a n c) zs.length (zs.map (Value.int .u8))) :
    ∃ a' c' w2, (Builtin.append_ #[24, 24] 24 #[.slice a n c, .slice ao m cap]).run Tryd.prog w1 = .ok (.slice a' (zs.length + ys.length) c') w2 ∧ w2.ownsRow (w.heap.size + 1) 5 1 (.slice a' (zs.length + ys.length) c') (zs ++ ys).length ((zs ++ ys).map (Value.int .u8)) ∧ Bx w w2 f := by
  obtain ⟨i0, hi, hz0, hz1, hz2⟩ := info_parts infoU8
  obtain ⟨v1, w2, hr, ho2, hg, _⟩ := run_append_sl (P := Tryd.prog) _ (w.heap.size + 1) 24 24 5 i0 Tryd.underlying24 hi hz0 hz1 hz2 _ zs.length _ ho _ m cap ys hy (by omega) hb.2.lt
  obtain ⟨a', n', c', rfl⟩ : ∃ a n c, v1 = .slice a n c := by
    rcases ho2.2 with ⟨h, _⟩ | ⟨g, cap, cur, h, _⟩
    · exact ⟨_, _, _, h⟩
    · exact ⟨_, _, _, h⟩
  obtain rfl := own_n ho2
  refine ⟨a', c', w2, hr, by rw [List.length_append, List.map_append]; exact ho2, ?_, ?_⟩
  · exact hb.1.grown hg hb.1.size (fun j hj => by have := (ho.lt j hj).1; omega)
  · exact (hg.block _ hb.2.lt (fun h => by have := (ho.lt _ h.symm).1; omega)).trans hb.2

set_option maxRecDepth 20000 in
set_option maxHeartbeats 4000000 in
theorem refPut_ok (w : World) (k p e : Nat) (a : Option Addr) (c : Nat) (zs : List Int) (h : Sl w (.slice a zs.length c) zs) (hk : 1 ≤ k ∧ k ≤ 4) (hp : p ≤ 2047) (he : e < 18446744073709551616) (hz : zs.length ≤ 240) :
    Calls Tryd.prog 34 #[frV k p e (.slice a zs.length c)] w fun r w' => ∃ u, r = .returned (.tuple #[u, .int .i64 0]) ∧ w'.ownsRow w.heap.size 5 1 u 256 ((pageS k p e zs).map (Value.int .u8)) ∧ Below w.heap.size w w' := by
  have HC := hide (fun wx => refCheck_any wx k p e zs.length c a)
  have hc : checkS k p zs.length = 0 := checkS_ok.2 ⟨by omega, by omega, hz⟩
  rw [hc] at HC
  unfold frV at HC ⊢
  have hk1 : (k : Int) % 256 = (k : Int) := by omega
  obtain ⟨P1, hP1⟩ : ∃ P1, P1 = p / 256 := ⟨_, rfl⟩
  obtain ⟨P2, hP2⟩ : ∃ P2, P2 = p % 256 := ⟨_, rfl⟩
  have hp1 : (p : Int) / 256 = (P1 : Int) := by omega
  have hp2 : (p : Int) % 256 = (P2 : Int) := by omega
  have hp1' : (P1 : Int) % 256 = (P1 : Int) := by omega
  have hp2' : (P2 : Int) % 256 = (P2 : Int) := by omega
  have hbP1 : P1 < 256 := by omega
  have hbP2 : P2 < 256 := by omega
  have HNB : Hid ([(k : Int), 0, (P1 : Int), (P2 : Int)] = [(k : Int), 0] ++ numBytes p 2) := by
    show _ = _
    simp only [numBytes, List.nil_append, List.cons_append, List.cons.injEq, and_true, true_and]
    omega
  have HN := hide (Bx.new w ⟨k, p, e, a, zs.length, c⟩)
  simp only at HN
  have HS := hide h
  clear h hc hP1 hP2
  go_enter Tryd.func34, Tryd.ntmps34
  go_wp2_with (go_at_call 54; refine (HC.out _).mono ?_; rintro e1 w1 ⟨rfl, hb1⟩; have b1 := HN.out.below hb1; have HB1 := hide b1; obtain ⟨c0, c1, c2, c3⟩ := b1.cells; clear HC hb1 b1 HN)
  obtain ⟨hd, hhd⟩ : ∃ hd, hd = [(k : Int), 0, (P1 : Int), (P2 : Int)] := ⟨_, rfl⟩
  have hst : (w1.alloc (.cells #[.int .u8 k, .int .u8 0, .int .u8 P1, .int .u8 P2] 5)).ownsRow (w.heap.size + 1) 5 1 (.slice (some ⟨w1.heap.size, 0, none⟩) 4 4) hd.length (hd.map (Value.int .u8)) := by
    rw [hhd]
    exact own_of_le (World.ownsRow_lit (size := 1) (e := 5) w1 #[.int .u8 k, .int .u8 0, .int .u8 P1, .int .u8 P2] 4 (Nat.le_refl _) (by simp [maxLen]) (by simp)) HB1.out.2.lt
  have hl4 : hd.length = 4 := by rw [hhd]; rfl
  have hbx := HB1.out.alloc (.cells #[.int .u8 k, .int .u8 0, .int .u8 P1, .int .u8 P2] 5)
  have HHD := hide hhd
  have HNB8 := hide (numBytes8 e)
  have h8len := numBytes_len 8 e
  obtain ⟨B8, hB8⟩ : ∃ B, B = numBytes e 8 := ⟨_, rfl⟩
  rw [← hB8] at HNB8 h8len
  have HB8 := hide hB8
  obtain ⟨q0, hq0⟩ : ∃ q, q = e / 72057594037927936 % 256 := ⟨_, rfl⟩
  obtain ⟨q1, hq1⟩ : ∃ q, q = e / 281474976710656 % 256 := ⟨_, rfl⟩
  obtain ⟨q2, hq2⟩ : ∃ q, q = e / 1099511627776 % 256 := ⟨_, rfl⟩
  obtain ⟨q3, hq3⟩ : ∃ q, q = e / 4294967296 % 256 := ⟨_, rfl⟩
  obtain ⟨q4, hq4⟩ : ∃ q, q = e / 16777216 % 256 := ⟨_, rfl⟩
  obtain ⟨q5, hq5⟩ : ∃ q, q = e / 65536 % 256 := ⟨_, rfl⟩
  obtain ⟨q6, hq6⟩ : ∃ q, q = e / 256 % 256 := ⟨_, rfl⟩
  obtain ⟨q7, hq7⟩ : ∃ q, q = e % 256 := ⟨_, rfl⟩
  rw [← hq0] at HNB8
  rw [← hq1] at HNB8
  rw [← hq2] at HNB8
  rw [← hq3] at HNB8
  rw [← hq4] at HNB8
  rw [← hq5] at HNB8
  rw [← hq6] at HNB8
  rw [← hq7] at HNB8
  have b0 : q0 < 256 := by omega
  have m0 : (q0 : Int) % 256 = (q0 : Int) := by omega
  have b1 : q1 < 256 := by omega
  have m1 : (q1 : Int) % 256 = (q1 : Int) := by omega
  have b2 : q2 < 256 := by omega
  have m2 : (q2 : Int) % 256 = (q2 : Int) := by omega
  have b3 : q3 < 256 := by omega
  have m3 : (q3 : Int) % 256 = (q3 : Int) := by omega
  have b4 : q4 < 256 := by omega
  have m4 : (q4 : Int) % 256 = (q4 : Int) := by omega
  have b5 : q5 < 256 := by omega
  have m5 : (q5 : Int) % 256 = (q5 : Int) := by omega
  have b6 : q6 < 256 := by omega
  have m6 : (q6 : Int) % 256 = (q6 : Int) := by omega
  have b7 : q7 < 256 := by omega
  have m7 : (q7 : Int) % 256 = (q7 : Int) := by omega
  have d0 : (e : Int) / 72057594037927936 = (q0 : Int) := by omega
  have d1 : (e : Int) / 281474976710656 % 256 = (q1 : Int) := by omega
  have d2 : (e : Int) / 1099511627776 % 256 = (q2 : Int) := by omega
  have d3 : (e : Int) / 4294967296 % 256 = (q3 : Int) := by omega
  have d4 : (e : Int) / 16777216 % 256 = (q4 : Int) := by omega
  have d5 : (e : Int) / 65536 % 256 = (q5 : Int) := by omega
  have d6 : (e : Int) / 256 % 256 = (q6 : Int) := by omega
  have d7 : (e : Int) % 256 = (q7 : Int) := by omega
  clear hp1 hp2 hp1' hp2' hk1 hhd hB8 hq0 hq1 hq2 hq3 hq4 hq5 hq6 hq7
  go_loopg [5, 6] 8 (fun g b i wr => ∃ (j : Nat) (a' : Option Addr) (c' : Nat), g + j = 8 ∧ i = .int .i64 j ∧ b = .slice a' (4 + j) c' ∧ wr.ownsRow (w.heap.size + 1) 5 1 (.slice a' (4 + j) c') (hd ++ B8.take j).length ((hd ++ B8.take j).map (Value.int .u8)) ∧ Bx w wr ⟨(k : Int), (p : Int), e, a, zs.length, c⟩)
  case atStart => exact ⟨0, _, _, rfl, rfl, rfl, by simpa using hst, hbx⟩
  case round =>
    obtain ⟨j, a', c', hj, rfl, rfl, hown, hb⟩ := hrel
    have HO := hide hown
    have HB := hide hb
    clear hst hbx c0 c1 c2 c3 hown HB1
    obtain ⟨c0, c1, c2, c3⟩ := hb.cells
    clear hb
    cases gk with
    | succ g =>
      rcases (by omega : j = 0 ∨ j = 1 ∨ j = 2 ∨ j = 3 ∨ j = 4 ∨ j = 5 ∨ j = 6 ∨ j = 7) with rfl | rfl | rfl | rfl | rfl | rfl | rfl | rfl
      · have hlj : (hd ++ B8.take 0).length = 4 + 0 := by rw [List.length_append, List.length_take, hl4, h8len]; omega
        have htk : hd ++ B8.take 1 = (hd ++ B8.take 0) ++ [(q0 : Int)] := by rw [take_getD B8 (by omega), List.append_assoc, show B8.getD 0 0 = (q0 : Int) by rw [HNB8.out]; rfl]
        obtain ⟨a2, l2, w2, R2, O2, B2⟩ := app_one w wr a' (4 + 0) c' (hd ++ B8.take 0) (q0 : Int) (by omega) (by omega) _ HB.out HO.out
        rw [← htk, hlj] at O2
        rw [hlj] at R2
        have HR2 := hide R2
        have HO2 := hide O2
        have HB2 := hide B2
        clear R2 O2 B2 htk
        go_wp2_with (at_builtin; refine wpList_append_run _ rfl (.tmp 28) (.tmp 37) 24 rfl _ _ rfl rfl _ _ HR2.out ?_)
        go_roundg g
        case measure => omega
        case rel => exact ⟨1, a2, l2, by omega, by go_num, rfl, HO2.out, HB2.out⟩
      · have hlj : (hd ++ B8.take 1).length = 4 + 1 := by rw [List.length_append, List.length_take, hl4, h8len]; omega
        have htk : hd ++ B8.take 2 = (hd ++ B8.take 1) ++ [(q1 : Int)] := by rw [take_getD B8 (by omega), List.append_assoc, show B8.getD 1 0 = (q1 : Int) by rw [HNB8.out]; rfl]
        obtain ⟨a2, l2, w2, R2, O2, B2⟩ := app_one w wr a' (4 + 1) c' (hd ++ B8.take 1) (q1 : Int) (by omega) (by omega) _ HB.out HO.out
        rw [← htk, hlj] at O2
        rw [hlj] at R2
        have HR2 := hide R2
        have HO2 := hide O2
        have HB2 := hide B2
        clear R2 O2 B2 htk
        go_wp2_with (at_builtin; refine wpList_append_run _ rfl (.tmp 28) (.tmp 37) 24 rfl _ _ rfl rfl _ _ HR2.out ?_)
        go_roundg g
        case measure => omega
        case rel => exact ⟨2, a2, l2, by omega, by go_num, rfl, HO2.out, HB2.out⟩
      · have hlj : (hd ++ B8.take 2).length = 4 + 2 := by rw [List.length_append, List.length_take, hl4, h8len]; omega
        have htk : hd ++ B8.take 3 = (hd ++ B8.take 2) ++ [(q2 : Int)] := by rw [take_getD B8 (by omega), List.append_assoc, show B8.getD 2 0 = (q2 : Int) by rw [HNB8.out]; rfl]
        obtain ⟨a2, l2, w2, R2, O2, B2⟩ := app_one w wr a' (4 + 2) c' (hd ++ B8.take 2) (q2 : Int) (by omega) (by omega) _ HB.out HO.out
        rw [← htk, hlj] at O2
        rw [hlj] at R2
        have HR2 := hide R2
        have HO2 := hide O2
        have HB2 := hide B2
        clear R2 O2 B2 htk
        go_wp2_with (at_builtin; refine wpList_append_run _ rfl (.tmp 28) (.tmp 37) 24 rfl _ _ rfl rfl _ _ HR2.out ?_)
        go_roundg g
        case measure => omega
        case rel => exact ⟨3, a2, l2, by omega, by go_num, rfl, HO2.out, HB2.out⟩
      · have hlj : (hd ++ B8.take 3).length = 4 + 3 := by rw [List.length_append, List.length_take, hl4, h8len]; omega
        have htk : hd ++ B8.take 4 = (hd ++ B8.take 3) ++ [(q3 : Int)] := by rw [take_getD B8 (by omega), List.append_assoc, show B8.getD 3 0 = (q3 : Int) by rw [HNB8.out]; rfl]
        obtain ⟨a2, l2, w2, R2, O2, B2⟩ := app_one w wr a' (4 + 3) c' (hd ++ B8.take 3) (q3 : Int) (by omega) (by omega) _ HB.out HO.out
        rw [← htk, hlj] at O2
        rw [hlj] at R2
        have HR2 := hide R2
        have HO2 := hide O2
        have HB2 := hide B2
        clear R2 O2 B2 htk
        go_wp2_with (at_builtin; refine wpList_append_run _ rfl (.tmp 28) (.tmp 37) 24 rfl _ _ rfl rfl _ _ HR2.out ?_)
        go_roundg g
        case measure => omega
        case rel => exact ⟨4, a2, l2, by omega, by go_num, rfl, HO2.out, HB2.out⟩
      · have hlj : (hd ++ B8.take 4).length = 4 + 4 := by rw [List.length_append, List.length_take, hl4, h8len]; omega
        have htk : hd ++ B8.take 5 = (hd ++ B8.take 4) ++ [(q4 : Int)] := by rw [take_getD B8 (by omega), List.append_assoc, show B8.getD 4 0 = (q4 : Int) by rw [HNB8.out]; rfl]
        obtain ⟨a2, l2, w2, R2, O2, B2⟩ := app_one w wr a' (4 + 4) c' (hd ++ B8.take 4) (q4 : Int) (by omega) (by omega) _ HB.out HO.out
        rw [← htk, hlj] at O2
        rw [hlj] at R2
        have HR2 := hide R2
        have HO2 := hide O2
        have HB2 := hide B2
        clear R2 O2 B2 htk
        go_wp2_with (at_builtin; refine wpList_append_run _ rfl (.tmp 28) (.tmp 37) 24 rfl _ _ rfl rfl _ _ HR2.out ?_)
        go_roundg g
        case measure => omega
        case rel => exact ⟨5, a2, l2, by omega, by go_num, rfl, HO2.out, HB2.out⟩
      · have hlj : (hd ++ B8.take 5).length = 4 + 5 := by rw [List.length_append, List.length_take, hl4, h8len]; omega
        have htk : hd ++ B8.take 6 = (hd ++ B8.take 5) ++ [(q5 : Int)] := by rw [take_getD B8 (by omega), List.append_assoc, show B8.getD 5 0 = (q5 : Int) by rw [HNB8.out]; rfl]
        obtain ⟨a2, l2, w2, R2, O2, B2⟩ := app_one w wr a' (4 + 5) c' (hd ++ B8.take 5) (q5 : Int) (by omega) (by omega) _ HB.out HO.out
        rw [← htk, hlj] at O2
        rw [hlj] at R2
        have HR2 := hide R2
        have HO2 := hide O2
        have HB2 := hide B2
        clear R2 O2 B2 htk
        go_wp2_with (at_builtin; refine wpList_append_run _ rfl (.tmp 28) (.tmp 37) 24 rfl _ _ rfl rfl _ _ HR2.out ?_)
        go_roundg g
        case measure => omega
        case rel => exact ⟨6, a2, l2, by omega, by go_num, rfl, HO2.out, HB2.out⟩
      · have hlj : (hd ++ B8.take 6).length = 4 + 6 := by rw [List.length_append, List.length_take, hl4, h8len]; omega
        have htk : hd ++ B8.take 7 = (hd ++ B8.take 6) ++ [(q6 : Int)] := by rw [take_getD B8 (by omega), List.append_assoc, show B8.getD 6 0 = (q6 : Int) by rw [HNB8.out]; rfl]
        obtain ⟨a2, l2, w2, R2, O2, B2⟩ := app_one w wr a' (4 + 6) c' (hd ++ B8.take 6) (q6 : Int) (by omega) (by omega) _ HB.out HO.out
        rw [← htk, hlj] at O2
        rw [hlj] at R2
        have HR2 := hide R2
        have HO2 := hide O2
        have HB2 := hide B2
        clear R2 O2 B2 htk
        go_wp2_with (at_builtin; refine wpList_append_run _ rfl (.tmp 28) (.tmp 37) 24 rfl _ _ rfl rfl _ _ HR2.out ?_)
        go_roundg g
        case measure => omega
        case rel => exact ⟨7, a2, l2, by omega, by go_num, rfl, HO2.out, HB2.out⟩
      · have hlj : (hd ++ B8.take 7).length = 4 + 7 := by rw [List.length_append, List.length_take, hl4, h8len]; omega
        have htk : hd ++ B8.take 8 = (hd ++ B8.take 7) ++ [(q7 : Int)] := by rw [take_getD B8 (by omega), List.append_assoc, show B8.getD 7 0 = (q7 : Int) by rw [HNB8.out]; rfl]
        obtain ⟨a2, l2, w2, R2, O2, B2⟩ := app_one w wr a' (4 + 7) c' (hd ++ B8.take 7) (q7 : Int) (by omega) (by omega) _ HB.out HO.out
        rw [← htk, hlj] at O2
        rw [hlj] at R2
        have HR2 := hide R2
        have HO2 := hide O2
        have HB2 := hide B2
        clear R2 O2 B2 htk
        go_wp2_with (at_builtin; refine wpList_append_run _ rfl (.tmp 28) (.tmp 37) 24 rfl _ _ rfl rfl _ _ HR2.out ?_)
        go_roundg g
        case measure => omega
        case rel => exact ⟨8, a2, l2, by omega, by go_num, rfl, HO2.out, HB2.out⟩
    | zero =>
      obtain rfl : j = 8 := by omega
      have hH : hd ++ B8.take 8 = headS k p e := by
        rw [List.take_of_length_le (by omega), HHD.out, HNB.out, HB8.out]
        rfl
      have ho := HO.out
      rw [hH] at ho
      have hHl := headS_len k p e
      obtain ⟨H, hHH⟩ : ∃ H, H = headS k p e := ⟨_, rfl⟩
      rw [← hHH] at ho hHl
      have HHH := hide hHH
      obtain ⟨a2, l2, w2, R2, O2, B2⟩ := app_sl w wr a' (4 + 8) c' H zs a zs.length c (HS.out.below HB.out.1) (by omega) _ HB.out ho
      rw [hHl] at R2 O2
      have HR2 := hide R2
      have HO2 := hide O2
      have HB2 := hide B2
      clear R2 O2 B2 ho hH hHH HO HB
      go_wp2_with (at_builtin; refine wpList_append_run _ rfl (.tmp 39) (.tmp 41) 24 rfl _ _ rfl rfl _ _ HR2.out ?_)
      clear HR2
      go_loopg [5] (240 - zs.length) (fun g b wr => ∃ (j : Nat) (a' : Option Addr) (c' : Nat), g + j = 240 - zs.length ∧ b = .slice a' (12 + zs.length + j) c' ∧ wr.ownsRow (w.heap.size + 1) 5 1 (.slice a' (12 + zs.length + j) c') (H ++ zs ++ List.replicate j 0).length ((H ++ zs ++ List.replicate j 0).map (Value.int .u8)) ∧ Bx w wr ⟨(k : Int), (p : Int), e, a, zs.length, c⟩)
      case atStart => exact ⟨0, _, _, by omega, rfl, by simpa using HO2.out, HB2.out⟩
      case round =>
        obtain ⟨j, a3, c3', hj, rfl, hown, hb⟩ := hrel
        have hlj : (H ++ zs ++ List.replicate j 0).length = 12 + zs.length + j := by simp [hHl]; omega
        cases gk with
        | zero =>
          have hbody : H ++ zs ++ List.replicate j 0 = bodyS k p e zs := by
            unfold bodyS
            rw [loadS_zero hz, HHH.out, show j = 240 - zs.length by omega, List.append_assoc]
            rfl
          rw [hbody] at hown
          have hn : (12 : Int) + (zs.length : Int) + (j : Int) = 252 := by omega
          have hn2 : 12 + zs.length + j = 252 := by omega
          rw [hn2] at hown ⊢
          rw [bodyS_len] at hown
          have hSb := sl_of_own hown (bodyS_ok (by omega) HS.out.bytes) rfl
          have HSE := hide (refSeal_any wr _ _ hSb (by rw [bodyS_len]; omega))
          have HBb := hide hb
          clear hown hSb hb hbody hn hn2 hj hlj
          go_wp2_with (go_at_call 55; refine HSE.out.mono ?_; rintro e1 w6 ⟨u, rfl, O6, hb6⟩; have HO6 := hide O6; have HB6 := hide (HBb.out.below hb6); have HSZ := hide HBb.out.1.size; clear HSE O6 hb6)
          go_ret2
          refine ⟨_, rfl, ?_, HB6.out.1⟩
          have := own_of_le HO6.out HSZ.out
          rwa [bodyS_len] at this
        | succ g =>
          have hji : (12 : Int) + (zs.length : Int) + (j : Int) < 252 := by omega
          have htk : H ++ zs ++ List.replicate (j + 1) 0 = (H ++ zs ++ List.replicate j 0) ++ [(0 : Int)] := by rw [List.replicate_succ', List.append_assoc (H ++ zs)]
          obtain ⟨a4, l4, w4, R4, O4, B4⟩ := app_one w wr a3 (12 + zs.length + j) c3' (H ++ zs ++ List.replicate j 0) 0 (by omega) (by omega) _ hb hown
          rw [← htk, hlj] at O4
          rw [hlj] at R4
          have HR4 := hide R4
          have HO4 := hide O4
          have HB4 := hide B4
          clear R4 O4 B4 htk hown hb hlj
          go_wp2_with (at_builtin; refine wpList_append_run _ rfl (.tmp 46) (.tmp 47) 24 rfl _ _ rfl rfl _ _ HR4.out ?_)
          go_roundg g
          case measure => omega
          case rel => exact ⟨j + 1, a4, l4, by omega, rfl, HO4.out, HB4.out⟩

end Go.Proofs.YtmeiahmolmneeaaDoor
