/- Contract: package node's Put. -/
import Derived.Test.YtoamdbjailpgdaaNPutL
import Derived.Test.YtoamdbjailpgdaaNPutI
namespace Go.Proofs.Ytoamdbjailpgdaa
set_option maxRecDepth 20000
open Go.RowKit
set_option linter.unusedVariables false
set_option linter.unusedSimpArgs false
set_option maxRecDepth 100000

/-- what Put answers -/
def putK (n : Nd) : Int := if checkN n = 0 then (if n.lf then 3 else 4) else 0
def putB (n : Nd) : List Int := if checkN n = 0 then padN (bytesN n) else []

theorem checkN_zero {n : Nd} : checkN n = 0 ↔ mayN n = true ∧ sizeN n ≤ 240 := by
  unfold checkN
  cases hm : mayN n with
  | false => simp
  | true =>
    by_cases h : sizeN n ≤ 240
    · simp [h]
    · simp [h]

/-- 'copy' of bytes into new bytes, from their first one on -/
theorem splice_pad (zs : List Int) (h : zs.length ≤ 240) : splice (List.replicate 240 (Value.int .u8 0)) 0 (zs.map (Value.int .u8)) = (padN zs).map (Value.int .u8) := by
  unfold splice padN
  rw [List.take_zero, List.nil_append, Nat.zero_add, List.map_append, List.length_map, List.map_replicate, List.drop_replicate]

set_option maxHeartbeats 4000000 in
theorem put_any (w : World) (v : Value) (n : Nd) (h : NdV w v n) :
    Calls Try.prog 18 #[v] w fun e w' => ∃ u, e = .returned (.tuple #[.int .i64 (putK n), u, .int .i64 (checkN n)]) ∧ ownsB w' w.heap.size u (putB n) ∧ Below w.heap.size w w' := by
  have HM : Hid (∀ w1, Below w.heap.size w w1 → Calls Try.prog 12 #[v] w1 fun e w' => e = .returned (.int .i64 (checkN n)) ∧ Below w1.heap.size w1 w') := fun w1 hb => check_any w1 v n (h.below hb)
  obtain ⟨i0, hi, hz0, hz1, hz2⟩ := info_parts infoU8
  have HB : Hid (checkN n = 0 → n.lf = true → ∀ w1, Below w.heap.size w w1 → Calls Try.prog 56 #[v] w1 fun e w' => ∃ u, e = .returned u ∧ ownsB w' w1.heap.size u (bytesN n) ∧ Below w1.heap.size w1 w') := fun hc hl w1 hb => by
    have hm := may_bounds (checkN_zero.1 hc).1
    have := leafBytes_any w1 v n (h.below hb) hm.1 hm.2.2.2.1
    rw [bytesN, if_pos hl]
    exact this
  have HI : Hid (checkN n = 0 → n.lf = false → ∀ w1, Below w.heap.size w w1 → Calls Try.prog 57 #[v] w1 fun e w' => ∃ u, e = .returned u ∧ ownsB w' w1.heap.size u (bytesN n) ∧ Below w1.heap.size w1 w') := fun hc hl w1 hb => by
    have hm := (checkN_zero.1 hc).1
    rw [mayN_in hl] at hm
    have := innerBytes_any w1 v n (h.below hb) hm
    rw [bytesN, if_neg (by rw [hl]; exact Bool.false_ne_true)]
    exact this
  have HLB : Hid (checkN n = 0 → (bytesN n).length ≤ 240 ∧ ByteOk (bytesN n)) := fun hc => by
    obtain ⟨hm, hs⟩ := checkN_zero.1 hc
    obtain ⟨_, _, _, _, _, _, xs, ys, _, _, _, _, _, _, _, hP, hK, _⟩ := h.open
    have hb := may_bounds hm
    refine ⟨by rw [bytesN_len hm]; exact hs, ?_⟩
    unfold bytesN
    split
    · refine lefT_ok n.ps hb.1 (fun p hp => ?_) _
      obtain ⟨i, hi, rfl⟩ := List.getElem_of_mem hp
      obtain ⟨_, _, _, _, h1, h2⟩ := hP.at i hi
      have hpe : n.ps.getD i ([], []) = n.ps[i] := by simp [List.getD, hi]
      rw [hpe] at h1 h2
      have := hb.2.2.2.1 _ (List.getElem_mem hi)
      exact ⟨h1.bytes, h2.bytes, by omega, by omega⟩
    · refine innT_ok n.ks n.cs hb.2.1 (fun p hp => ?_) _
      obtain ⟨i, hi, rfl⟩ := List.getElem_of_mem hp
      obtain ⟨_, _, _, _, h1⟩ := hK.at i hi
      have hpe : n.ks.getD i [] = n.ks[i] := by simp [List.getD, hi]
      rw [hpe] at h1
      exact ⟨h1.bytes, by have := hb.2.2.2.2 _ (List.getElem_mem hi); omega⟩
  have HPK : Hid (putK n = if checkN n = 0 then (if n.lf then 3 else 4) else 0) := rfl
  have HPB : Hid (putB n = if checkN n = 0 then padN (bytesN n) else []) := rfl
  obtain ⟨lf, pa, np, pc, ka, nk, kc, ca, nc, cc, rfl, hlf, -⟩ := nd_open h
  rw [hlf] at HPK HB HI
  generalize checkN n = C at *
  generalize putK n = PK at *
  generalize putB n = PB at *
  generalize bytesN n = L at *
  obtain ⟨w1, hw1, HB1, HBB, z0, z1, z2, z3⟩ := nd_box w lf (.slice pa np pc) (.slice ka nk kc) (.slice ca nc cc)
  have hsz1 : w.heap.size < w1.heap.size := HBB.out.lt
  clear h hlf
  by_cases hC : C = 0
  · have HLB2 := hide (HLB.out hC)
    have HPB2 : Hid (PB = padN L) := by show PB = padN L; rw [HPB.out, if_pos hC]
    subst hC
    obtain ⟨hl1, hl2⟩ := HLB2.out
    cases lf with
    | true =>
      have HBC := hide (HB.out rfl rfl)
      have HPK2 : Hid (PK = 3) := by show PK = 3; rw [HPK.out]; rfl
      clear HB HI HPK HPB HLB
      go_enter Try.func18, Try.ntmps18
      go_wp2_with (first
        | (go_at_call 12; refine (HM.out w1 HB1.out).mono ?_; rintro e w2 ⟨rfl, hb2⟩; have HB2 := hide (HB1.out.trans (hb2.mono HB1.out.size)); have HBB2 := hide (HBB.out.below hb2 HBB.out.lt); clear HM hb2)
        | (at_make; refine wpList_make_full _ rfl _ _ 34 rfl w2.heap.size 5 i0 (.int .u8 0) 1 Try.underlying34 hi hz0 hz1 .i64 .i64 _ _ 240 rfl rfl (by decide) (by decide) (by rw [hz2]; decide) (by unfold maxLen; decide) (Nat.le_refl _) ?_; intro w3 ho3 hg3; rw [madeBytes] at ho3; have G3 := hide (own_heap ho3); have hb3 : Below w2.heap.size w2 w3 := (Below.refl w2.heap.size w2).grown hg3 (Nat.le_refl _) (by intro k hk; cases hk); have HB3 := hide hb3; have HB3' := hide (HB2.out.trans (hb3.mono HB2.out.size)); obtain ⟨y0, y1, y2, y3⟩ := box_ndc (HBB2.out.below hb3 HBB2.out.lt); clear ho3 hg3 hb3)
        | (go_at_call 56; refine (HBC.out w3 HB3'.out).mono ?_; rintro e w4 ⟨u4, rfl, ho4, hb4⟩; obtain ⟨a4, c4, rfl⟩ := own_form' ho4; have HO4 := hide ho4; have HB4 := hide hb4; clear HBC ho4 hb4))
      have hlt3 : w2.heap.size < w3.heap.size := (Array.getElem?_eq_some_iff.1 G3.out).1
      have G4 : w4.heap[w2.heap.size]? = some (.cells (List.replicate 240 (Value.int .u8 0)).toArray 5 (0, 0)) := (HB4.out.block _ hlt3).trans G3.out
      have S4 := sl_of_own_len HO4.out hl2
      obtain ⟨w5, hrun, G5, hg5⟩ := run_copy_sl (P := Try.prog) w4 34 34 3 5 Try.underlying34 sizeU8 (some ⟨w2.heap.size, 0, none⟩) 240 240 w2.heap.size 0 _ G4 a4 L.length c4 L S4 (fun _ => rfl) hl1 (by rw [List.length_replicate]; omega)
      rw [hrun]
      rw [splice_pad L hl1, ← HPB2.out] at G5
      have HG5 := hide G5
      have hw1z := HB1.out.size
      have HB5 : Hid (Below w.heap.size w w5) := (HB3'.out.trans (HB4.out.mono HB3'.out.size)).grown hg5 (Nat.le_trans HB3'.out.size HB4.out.size) (by intro k hk; cases hk; exact HB2.out.size)
      clear G4 G5 hrun hg5 S4
      simp only [Result.andThen]
      rw [Oper.upon_value]
      go_wp2
      go_ret3
      have hPBl : PB.length = 240 := by rw [HPB2.out, padN, List.length_append, List.length_replicate]; omega
      refine ⟨.slice (some ⟨w2.heap.size, 0, none⟩) 240 240, (by rw [HPK2.out]; rfl), ?_, HB5.out⟩
      show World.ownsRow _ _ _ _ _ PB.length _
      rw [hPBl]
      exact heap_own (n := 240) HG5.out HB2.out.size (by rw [List.length_map]; exact hPBl) (by unfold maxLen; decide)
    | false =>
      have HBC := hide (HI.out rfl rfl)
      have HPK2 : Hid (PK = 4) := by show PK = 4; rw [HPK.out]; rfl
      clear HB HI HPK HPB HLB
      go_enter Try.func18, Try.ntmps18
      go_wp2_with (first
        | (go_at_call 12; refine (HM.out w1 HB1.out).mono ?_; rintro e w2 ⟨rfl, hb2⟩; have HB2 := hide (HB1.out.trans (hb2.mono HB1.out.size)); have HBB2 := hide (HBB.out.below hb2 HBB.out.lt); clear HM hb2)
        | (at_make; refine wpList_make_full _ rfl _ _ 34 rfl w2.heap.size 5 i0 (.int .u8 0) 1 Try.underlying34 hi hz0 hz1 .i64 .i64 _ _ 240 rfl rfl (by decide) (by decide) (by rw [hz2]; decide) (by unfold maxLen; decide) (Nat.le_refl _) ?_; intro w3 ho3 hg3; rw [madeBytes] at ho3; have G3 := hide (own_heap ho3); have hb3 : Below w2.heap.size w2 w3 := (Below.refl w2.heap.size w2).grown hg3 (Nat.le_refl _) (by intro k hk; cases hk); have HB3 := hide hb3; have HB3' := hide (HB2.out.trans (hb3.mono HB2.out.size)); obtain ⟨y0, y1, y2, y3⟩ := box_ndc (HBB2.out.below hb3 HBB2.out.lt); clear ho3 hg3 hb3)
        | (go_at_call 57; refine (HBC.out w3 HB3'.out).mono ?_; rintro e w4 ⟨u4, rfl, ho4, hb4⟩; obtain ⟨a4, c4, rfl⟩ := own_form' ho4; have HO4 := hide ho4; have HB4 := hide hb4; clear HBC ho4 hb4))
      have hlt3 : w2.heap.size < w3.heap.size := (Array.getElem?_eq_some_iff.1 G3.out).1
      have G4 : w4.heap[w2.heap.size]? = some (.cells (List.replicate 240 (Value.int .u8 0)).toArray 5 (0, 0)) := (HB4.out.block _ hlt3).trans G3.out
      have S4 := sl_of_own_len HO4.out hl2
      obtain ⟨w5, hrun, G5, hg5⟩ := run_copy_sl (P := Try.prog) w4 34 34 3 5 Try.underlying34 sizeU8 (some ⟨w2.heap.size, 0, none⟩) 240 240 w2.heap.size 0 _ G4 a4 L.length c4 L S4 (fun _ => rfl) hl1 (by rw [List.length_replicate]; omega)
      rw [hrun]
      rw [splice_pad L hl1, ← HPB2.out] at G5
      have HG5 := hide G5
      have hw1z := HB1.out.size
      have HB5 : Hid (Below w.heap.size w w5) := (HB3'.out.trans (HB4.out.mono HB3'.out.size)).grown hg5 (Nat.le_trans HB3'.out.size HB4.out.size) (by intro k hk; cases hk; exact HB2.out.size)
      clear G4 G5 hrun hg5 S4
      simp only [Result.andThen]
      rw [Oper.upon_value]
      go_wp2
      go_ret3
      have hPBl : PB.length = 240 := by rw [HPB2.out, padN, List.length_append, List.length_replicate]; omega
      refine ⟨.slice (some ⟨w2.heap.size, 0, none⟩) 240 240, (by rw [HPK2.out]; rfl), ?_, HB5.out⟩
      show World.ownsRow _ _ _ _ _ PB.length _
      rw [hPBl]
      exact heap_own (n := 240) HG5.out HB2.out.size (by rw [List.length_map]; exact hPBl) (by unfold maxLen; decide)
  · have HPB2 : Hid (PB = []) := by show PB = []; rw [HPB.out, if_neg hC]
    have HPK2 : Hid (PK = 0) := by show PK = 0; rw [HPK.out, if_neg hC]
    clear HB HI HPK HPB HLB
    go_enter Try.func18, Try.ntmps18
    go_wp2_with (go_at_call 12; refine (HM.out w1 HB1.out).mono ?_; rintro e w2 ⟨rfl, hb2⟩; have HB2 := hide (HB1.out.trans (hb2.mono HB1.out.size)); clear HM hb2)
    go_ret3
    refine ⟨.slice none 0 0, (by rw [HPK2.out]; rfl), ?_, HB2.out⟩
    show World.ownsRow _ _ _ _ _ PB.length _
    rw [HPB2.out]
    exact ⟨rfl, .inl ⟨rfl, rfl⟩⟩

end Go.Proofs.Ytoamdbjailpgdaa
