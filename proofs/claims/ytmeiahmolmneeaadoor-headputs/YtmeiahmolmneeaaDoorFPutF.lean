/- Contract: a frame's page (frame.Put). -/
import Derived.Test.YtmeiahmolmneeaaDoorFLoad
namespace Go.Proofs.YtmeiahmolmneeaaDoor
set_option maxRecDepth 20000
open Go.RowKit
set_option linter.unusedVariables false

theorem own_of_le {w : World} {base base' n : Nat} {e : TypeId} {v : Value} {xs : List Value} (h : w.ownsRow base e 1 v n xs) (hb : base' ≤ base) : w.ownsRow base' e 1 v n xs := ownsRow_le' h hb

theorem own_keep {w w' : World} {base n : Nat} {e : TypeId} {v : Value} {xs : List Value} (h : w.ownsRow base e 1 v n xs) (hb : Below w.heap.size w w') : w'.ownsRow base e 1 v n xs := ownsRow_only h (Only.of_below (fun _ => False) hb) (fun _ _ h => h)

/-- '[]byte{x, 0}' of the call's own -/
theorem two_sl (w : World) (x : Int) (h0 : 0 ≤ x) (h1 : x ≤ 255) : Sl (w.alloc (.cells #[.int .u8 x, .int .u8 0] 5)) (.slice (some ⟨w.heap.size, 0, none⟩) 2 2) [x, 0] := by
  have := sl_lit w 5 [x, 0] (by intro z hz; simp at hz; omega) (by simp [maxLen])
  simpa using this

theorem put_bad (w : World) (k p : Int) (e n cap : Nat) (ao : Option Addr) (h : checkS k p n ≠ 0) :
    Calls Tryd.prog 33 #[frV k p e (.slice ao n cap)] w fun r w' => r = .returned (.tuple #[.slice none 0 0, .int .i64 (checkS k p n)]) ∧ Below w.heap.size w w' := by
  have HC := hide (fun wx => check_any wx k p e n cap ao)
  unfold frV at HC ⊢
  obtain ⟨c, hc⟩ : ∃ c, c = checkS k p n := ⟨_, rfl⟩
  rw [← hc] at HC h ⊢
  have hne : (c != 0) = true := by simpa using h
  clear hc
  go_enter Tryd.func33, Tryd.ntmps33
  go_wp2_with (go_at_call 50; refine (HC.out _).mono ?_; rintro e1 w1 ⟨rfl, hb1⟩; have HB1 := hide (after_alloc hb1); clear HC hb1)
  go_ret2
  exact ⟨rfl, HB1.out⟩

/-- the cells of a frame that is boxed -/
theorem box_cells {w : World} {b : Nat} {t : TypeId} {x0 x1 x2 x3 : Value} (h : Blk w b t [x0, x1, x2, x3]) :
    w.cell? ⟨b, 0, none⟩ = some x0 ∧ w.cell? ⟨b, 1, none⟩ = some x1 ∧ w.cell? ⟨b, 2, none⟩ = some x2 ∧ w.cell? ⟨b, 3, none⟩ = some x3 :=
  ⟨h.cell 0, h.cell 1, h.cell 2, h.cell 3⟩
theorem sl_blk {w : World} {b : Nat} {t : TypeId} {zs : List Int} {n : Nat} (h : Blk w b t (pc zs)) (hb : ByteOk zs) (hn : zs.length = n) (hm : n ≤ maxLen) : Sl w (.slice (some ⟨b, 0, none⟩) n n) zs := by
  subst hn
  refine ⟨hb, _, _, rfl, Nat.le_refl _, hm, (fun h => by cases h), fun _ => ⟨b, 0, rfl, fun i hi => ?_⟩⟩
  rw [h.cell, Nat.zero_add, getD_lt zs hi]
  simp [pc, hi]

set_option maxRecDepth 20000 in
set_option maxHeartbeats 1000000 in
theorem put_ok (w : World) (k p e : Nat) (v : Value) (zs : List Int) (h : Sl w v zs) (hT : Tab w) (hk : 1 ≤ k ∧ k ≤ 4) (hp : p ≤ 2047) (he : e < 18446744073709551616) (hz : zs.length ≤ 240) :
    Calls Tryd.prog 33 #[frV k p e v] w fun r w' => ∃ u, r = .returned (.tuple #[u, .int .i64 0]) ∧ w'.ownsRow w.heap.size 5 1 u 256 ((pageS k p e zs).map (Value.int .u8)) ∧ Below w.heap.size w w' := by
  obtain ⟨i0, hi, hz0, hz1, hz2⟩ := info_parts infoU8
  obtain ⟨ao, cap, rfl⟩ := sl_form' h
  have HC := hide (fun wx => check_any wx k p e zs.length cap ao)
  have hc : checkS k p zs.length = 0 := checkS_ok.2 ⟨by omega, by omega, hz⟩
  rw [hc] at HC
  unfold frV at HC ⊢
  have hk1 : (k : Int) % 256 = (k : Int) := by omega
  have hp1 : (p : Int) % 65536 = (p : Int) := by omega
  have hb0 : Below w.heap.size w (w.alloc (.cells #[.int .i64 k, .int .i64 p, .int .u64 e, .slice ao zs.length cap] 59)) := (Below.refl _ w).alloc (Nat.le_refl _) _
  have hB0 := Blk.new w 59 [.int .i64 k, .int .i64 p, .int .u64 e, .slice ao zs.length cap]
  obtain ⟨W0, hW0⟩ : ∃ W0, W0 = w.alloc (.cells #[.int .i64 k, .int .i64 p, .int .u64 e, .slice ao zs.length cap] 59) := ⟨_, rfl⟩
  rw [← hW0] at hb0
  have hB0' : Blk W0 w.heap.size 59 [.int .i64 k, .int .i64 p, .int .u64 e, .slice ao zs.length cap] := by rw [hW0]; exact hB0
  have H1 : Hid (∀ w1, Below W0.heap.size W0 w1 → Below w.heap.size w w1 ∧ Blk w1 w.heap.size 59 [.int .i64 k, .int .i64 p, .int .u64 e, .slice ao zs.length cap]) :=
    fun w1 hb => ⟨below_then hb0 hb (Nat.le_refl _), hB0'.below hb hB0'.lt⟩
  have HW0 := hide hW0
  have hza := zeroLoadRun
  -- the chain: each call's new world, what is owned there, and the box
  have HU16 : Hid (∀ w1, Below w.heap.size w w1 → Blk w1 w.heap.size 59 [.int .i64 k, .int .i64 p, .int .u64 e, .slice ao zs.length cap] →
      Calls Tryd.prog 30 #[.slice (some ⟨w1.heap.size, 0, none⟩) 2 2, .int .u16 p] (w1.alloc (.cells #[.int .u8 k, .int .u8 0] 5)) fun r w2 => ∃ a n c, r = .returned (.slice a n c) ∧ Sl w2 (.slice a n c) ([(k : Int), 0] ++ numBytes p 2) ∧ Below w.heap.size w w2 ∧ Blk w2 w.heap.size 59 [.int .i64 k, .int .i64 p, .int .u64 e, .slice ao zs.length cap]) := by
    intro w1 hb hB
    have hs := two_sl w1 k (by omega) (by omega)
    have ha := hb.alloc hb.size (.cells #[.int .u8 k, .int .u8 0] 5)
    refine (packU16_any _ _ _ p hs (by simp) (by omega)).mono ?_
    rintro r w2 ⟨u, rfl, ho, hb2, _⟩
    have hS := sl_of_own_len ho (ByteOk.append' hs.bytes (numBytes_ok 2 p))
    obtain ⟨a, n, c, rfl⟩ := sl_form hS
    refine ⟨a, n, c, rfl, hS, ?_, (hB.alloc _).below hb2 (hB.alloc _).lt⟩
    exact ha.trans (hb2.mono ha.size)
  have HU64 : Hid (∀ w1 a n c, Below w.heap.size w w1 → Blk w1 w.heap.size 59 [.int .i64 k, .int .i64 p, .int .u64 e, .slice ao zs.length cap] → Sl w1 (.slice a n c) ([(k : Int), 0] ++ numBytes p 2) →
      Calls Tryd.prog 51 #[.slice a n c, .int .u64 e] w1 fun r w2 => ∃ a' n' c', r = .returned (.slice a' n' c') ∧ w2.ownsRow w.heap.size 5 1 (.slice a' n' c') 12 ((headS k p e).map (Value.int .u8)) ∧ Below w.heap.size w w2 ∧ Blk w2 w.heap.size 59 [.int .i64 k, .int .i64 p, .int .u64 e, .slice ao zs.length cap]) := by
    intro w1 a n c hb hB hS
    refine (packU64_any _ _ _ e hS (by simp [numBytes_len]) he).mono ?_
    rintro r w2 ⟨u, rfl, ho, hb2, _⟩
    obtain ⟨a', n', c', rfl⟩ := sl_form (sl_of_own_len ho (ByteOk.append' hS.bytes (numBytes_ok 8 e)))
    rw [show ([(k : Int), 0] ++ numBytes p 2 ++ numBytes e 8).length = 12 from headS_len k p e] at ho
    exact ⟨a', n', c', rfl, own_of_le ho hb.size, hb.trans (hb2.mono hb.size), hB.below hb2 hB.lt⟩
  have HLO : Hid (∀ w1 a n c, Below w.heap.size w w1 → w1.ownsRow w.heap.size 5 1 (.slice a n c) 12 ((headS k p e).map (Value.int .u8)) →
      Calls Tryd.prog 52 #[.slice ao zs.length cap, .int .i64 0] w1 fun r w2 => r = .returned (.agg (pc (loadS zs 0)).toArray) ∧ w2.ownsRow w.heap.size 5 1 (.slice a n c) 12 ((headS k p e).map (Value.int .u8)) ∧ Below w.heap.size w w2) := by
    intro w1 a n c hb ho
    refine (loadFrom_any w1 _ zs 0 (h.below hb) (by omega) (by omega)).mono ?_
    rintro r w2 ⟨rfl, hb2⟩
    exact ⟨rfl, own_keep ho hb2, hb.trans (hb2.mono hb.size)⟩
  have HAP : Hid (∀ w1 a n c, Below w.heap.size w w1 → w1.ownsRow w.heap.size 5 1 (.slice a n c) 12 ((headS k p e).map (Value.int .u8)) →
      ∃ a' n' c' w2, (Builtin.append_ #[24, 24] 24 #[.slice a n c, .slice (some ⟨w1.heap.size, 0, none⟩) 240 240]).run Tryd.prog (w1.alloc (.cells (pc (loadS zs 0)).toArray 79)) = .ok (.slice a' n' c') w2 ∧ Sl w2 (.slice a' n' c') (bodyS k p e zs) ∧ Below w.heap.size w w2) := by
    intro w1 a n c hb ho
    have hbl := Blk.new w1 79 (pc (loadS zs 0))
    have hS := sl_blk hbl (loadS_ok h.bytes 0) (loadS_len zs 0) (by simp [maxLen])
    have ha := hb.alloc hb.size (.cells (pc (loadS zs 0)).toArray 79)
    have ho1 : (w1.alloc (.cells (pc (loadS zs 0)).toArray 79)).ownsRow w.heap.size 5 1 (.slice a n c) 12 ((headS k p e).map (Value.int .u8)) := own_keep ho ((Below.refl _ w1).alloc (Nat.le_refl _) _)
    obtain ⟨v1, w2, hr, ho2, hg, _⟩ := run_append_sl (P := Tryd.prog) _ w.heap.size 24 24 5 i0 Tryd.underlying24 hi hz0 hz1 hz2 _ 12 _ ho1 _ 240 240 _ hS (by rw [loadS_len]; omega) ha.size
    have hS2 : Sl w2 v1 (bodyS k p e zs) := sl_of_own ho2 (bodyS_ok (by omega) h.bytes) (by simp [bodyS])
    obtain ⟨a', n', c', rfl⟩ := sl_form hS2
    exact ⟨a', n', c', w2, hr, hS2, ha.grown hg ha.size (fun j hj => (ho1.lt j hj).1)⟩
  have HSE : Hid (∀ w1 a n c, Below w.heap.size w w1 → Sl w1 (.slice a n c) (bodyS k p e zs) →
      Calls Tryd.prog 53 #[.slice a n c] w1 fun r w2 => ∃ a' n' c', r = .returned (.slice a' n' c') ∧ w2.ownsRow w.heap.size 5 1 (.slice a' n' c') 256 ((pageS k p e zs).map (Value.int .u8)) ∧ Below w.heap.size w w2) := by
    intro w1 a n c hb hS
    have hT1 : Tab w1 := hT.below hb
    refine (crcSeal_any w1 _ _ hS hT1 (by rw [bodyS_len]; omega)).mono ?_
    rintro r w2 ⟨u, rfl, ho, hb2⟩
    rw [bodyS_len] at ho
    obtain ⟨a', n', c', rfl⟩ := sl_form (sl_of_own ho (pageS_ok (by omega) h.bytes) rfl)
    exact ⟨a', n', c', rfl, own_of_le ho hb.size, hb.trans (hb2.mono hb.size)⟩
  have hll : (pc (loadS zs 0)).length = 240 := by rw [pc_len, loadS_len]
  have HZ3 : Hid (loadZero.size = (pc (loadS zs 0)).toArray.size) := (Array.size_replicate.trans (by rw [List.size_toArray, hll]) : loadZero.size = _)
  have HZ2 : Hid ((Tryd.prog.info? 79).map (·.size) = some (pc (loadS zs 0)).toArray.size) := by show _ = _; rw [List.size_toArray, hll]; exact sizeLoad
  have HZ4 : Hid ((pc (loadS zs 0)).toArray.all (·.oneCell') = true) := all_oneCell_toArray (pc_one _)
  clear h hT hc hB0 hB0' hb0 hW0 hll hi hz0 hz1 hz2
  go_enter Tryd.func33, Tryd.ntmps33
  go_wp2_with (first
    | (go_at_call 50; refine (HC.out _).mono ?_; rintro e1 w1 ⟨rfl, hb1⟩; rw [← HW0.out] at hb1; obtain ⟨b1, B1⟩ := H1.out w1 hb1; obtain ⟨c0, c1, c2, c3⟩ := box_cells B1; have d1 := (box_cells (B1.alloc (.cells #[.int .u8 k, .int .u8 0] 5))).2.1; have HU := HU16.out w1 b1 B1; have HUU := hide HU; clear HC hb1 H1 HU16 HU B1 b1)
    | (go_at_call 30; refine HUU.out.mono ?_; rintro e1 w2 ⟨a2, n2, l2, rfl, S2, b2, B2⟩; clear c0 c1 c2 c3 d1; obtain ⟨c0, c1, c2, c3⟩ := box_cells B2; have HV := hide (HU64.out w2 a2 n2 l2 b2 B2 S2); clear HUU HU64 S2 b2 B2)
    | (go_at_call 51; refine HV.out.mono ?_; rintro e1 w3 ⟨a3, n3, l3, rfl, O3, b3, B3⟩; clear c0 c1 c2 c3; obtain ⟨c0, c1, c2, c3⟩ := box_cells B3; have HL := hide (HLO.out w3 a3 n3 l3 b3 O3); clear HV HLO O3 b3 B3)
    | (go_at_call 52; refine HL.out.mono ?_; rintro e1 w4 ⟨rfl, O4, b4⟩; clear c0 c1 c2 c3; obtain ⟨a5, n5, l5, w5, R5, S5, b5⟩ := HAP.out w4 a3 n3 l3 b4 O4; have HR5 := hide R5; have HSS := hide (HSE.out w5 a5 n5 l5 b5 S5); clear HL HAP HSE R5 S5 O4 b4 b5)
    | ((with_reducible refine wpList_store_new rfl 79 (.tmp 6) (.tmp 26) rfl loadZero (pc (loadS zs 0)).toArray 79 ?_ ?_ HZ3.out HZ2.out HZ4.out ?_); exact rfl; exact rfl)
    | (at_builtin; refine wpList_append_run _ rfl (.tmp 27) (.tmp 28) 24 rfl _ _ rfl rfl _ _ HR5.out ?_)
    | (go_at_call 53; refine HSS.out.mono ?_; rintro e1 w6 ⟨a6, n6, l6, rfl, O6, b6⟩; clear HSS))
  go_ret2
  exact ⟨_, rfl, O6, b6⟩

end Go.Proofs.YtmeiahmolmneeaaDoor
