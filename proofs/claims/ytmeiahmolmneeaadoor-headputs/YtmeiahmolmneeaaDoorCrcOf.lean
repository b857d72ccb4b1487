/- Contracts: the sum of parts by the document's answer; the sum of one slice; the chapter's example. -/
import Derived.Test.YtmeiahmolmneeaaDoorCrcSum
import Derived.Lib.SlBytesConst
namespace Go.Proofs.YtmeiahmolmneeaaDoor
set_option maxRecDepth 20000
open Go.RowKit

/-- slices that are laid into a new slice -/
theorem parts_lit (w : World) (e : TypeId) (vs : List Value) (pss : List (List Int)) (hl : vs.length = pss.length) (hm : vs.length ≤ 1000) (h : ∀ i, i < vs.length → Sl w (vs.getD i (.slice none 0 0)) (pss.getD i [])) :
    Parts (w.alloc (.cells vs.toArray e)) (.slice (some ⟨w.heap.size, 0, none⟩) vs.length vs.length) vs pss := by
  have ho := World.ownsRow_lit (size := 1) (e := e) w vs.toArray vs.length (Nat.le_refl _) (by unfold maxLen; omega) (by simp)
  refine ⟨hl, _, _, rfl, Nat.le_refl _, by unfold maxLen; omega, fun i hi => (h i hi).alloc _, fun _ => ⟨_, 0, rfl, fun i hi => ?_⟩⟩
  rw [Nat.zero_add, ho.cellAt i (by omega)]
  simp [List.getD, hi]

theorem parts_one {w : World} {v : Value} {zs : List Int} (h : Sl w v zs) : Parts (w.alloc (.cells #[v] 24)) (.slice (some ⟨w.heap.size, 0, none⟩) 1 1) [v] [zs] :=
  parts_lit w _ [v] [zs] rfl (by simp) (by intro i hi; simp at hi; subst hi; simpa using h)

theorem parts_three {w : World} {v1 v2 v3 : Value} {z1 z2 z3 : List Int} (h1 : Sl w v1 z1) (h2 : Sl w v2 z2) (h3 : Sl w v3 z3) : Parts (w.alloc (.cells #[v1, v2, v3] 24)) (.slice (some ⟨w.heap.size, 0, none⟩) 3 3) [v1, v2, v3] [z1, z2, z3] :=
  parts_lit w _ [v1, v2, v3] [z1, z2, z3] rfl (by simp)
    (by
      intro i hi
      simp at hi
      rcases (by omega : i = 0 ∨ i = 1 ∨ i = 2) with rfl | rfl | rfl
      · simpa using h1
      · simpa using h2
      · simpa using h3)

theorem Parts.below {w w' : World} {v : Value} {vs : List Value} {pss : List (List Int)} (h : Parts w v vs pss) (hb : Below w.heap.size w w') : Parts w' v vs pss := by
  obtain ⟨hl, ao, cap, rfl, h1, h2, h3, h4⟩ := h
  refine ⟨hl, ao, cap, rfl, h1, h2, fun i hi => (h3 i hi).below hb, fun hne => ?_⟩
  obtain ⟨b, off, rfl, hc⟩ := h4 hne
  refine ⟨b, off, rfl, fun i hi => ?_⟩
  have hlt := World.block_lt_of_cell? w _ (hc i hi)
  rw [World.cell?_of_block (w := w) (hb.block b hlt)]
  exact hc i hi

set_option maxHeartbeats 1000000 in
theorem refAdd_any (w : World) (s : Nat) (v : Value) (vs : List Value) (pss : List (List Int)) (hs : s < 4294967296) (h : Parts w v vs pss) :
    Calls Tryd.prog 82 #[.int .u32 s, v] w fun e w' => e = .returned (.int .u32 (addS s pss.flatten : Nat)) ∧ w' = w := by
  obtain ⟨hl, ao, cap, rfl, h1, h2, h3, h4⟩ := h
  unfold maxLen at h2
  have hx := xorN 4294967295 s (by omega) hs
  have hR0 : 4294967295 ^^^ s < 4294967296 := xor_lt32 (by omega) hs
  have HA : Hid (addS s pss.flatten = 4294967295 ^^^ reg (4294967295 ^^^ s) pss.flatten) := rfl
  rw [show ((4294967295 : Nat) : Int) = 4294967295 from rfl] at hx
  obtain ⟨R0, hRR⟩ : ∃ y, y = 4294967295 ^^^ s := ⟨_, rfl⟩
  rw [← hRR] at hx hR0 HA
  clear hRR
  have hsg : IntKind.u32.signed = false := rfl
  have hmx : IntKind.u32.max = 4294967295 := rfl
  have H3 := hide h3
  have H4 := hide h4
  have HL := hide hl
  clear h3 h4 hl
  go_enter Tryd.func82, Tryd.ntmps82
  go_wp2
  go_loopg [5, 6] vs.length (fun g rr i wr => ∃ k r : Nat, g + k = vs.length ∧ r < 4294967296 ∧ r = reg R0 (pss.take k).flatten ∧ rr = .int .u32 (r : Int) ∧ i = .int .i64 k ∧ w = wr)
  case atStart => exact ⟨0, R0, by omega, hR0, rfl, rfl, rfl, rfl⟩
  case round =>
    obtain ⟨k, r, hk, hr, hrr, rfl, rfl, rfl⟩ := hrel
    have HRR := hide hrr
    clear hrr hx
    cases gk with
    | zero =>
      obtain rfl : k = vs.length := by omega
      have hn := xorN 4294967295 r (by omega) hr
      rw [show ((4294967295 : Nat) : Int) = 4294967295 from rfl] at hn
      go_wp2
      go_ret
      refine ⟨ret_int ?_, rfl⟩
      rw [HA.out, HRR.out, List.take_of_length_le (by rw [HL.out]; exact Nat.le_refl _)]
    | succ g =>
      have hkl : k < vs.length := by omega
      have hki : (k : Int) < (vs.length : Int) := by omega
      obtain ⟨b, o, rfl, hc⟩ := H4.out (by intro h; simp [h] at hkl)
      have c1 := hc k hkl
      have hp := H3.out k hkl
      obtain ⟨u, hu⟩ : ∃ u, u = vs.getD k (.slice none 0 0) := ⟨_, rfl⟩
      obtain ⟨ps, hps⟩ : ∃ ps, ps = pss.getD k [] := ⟨_, rfl⟩
      rw [← hu] at c1 hp
      rw [← hps] at hp
      have HPS := hide hps
      clear hc hu hps H4 H3
      obtain ⟨pb, pao, pcap, rfl, q1, q2, q3, q4⟩ := hp
      unfold maxLen at q2
      have Q4 := hide q4
      clear q4 q3
      go_wp2
      go_loopg [5, 7] ps.length (fun g rr i wr => ∃ j x : Nat, g + j = ps.length ∧ x < 4294967296 ∧ x = reg r (ps.take j) ∧ rr = .int .u32 (x : Int) ∧ i = .int .i64 j ∧ w = wr)
      case atStart => exact ⟨0, r, by omega, hr, rfl, rfl, rfl, rfl⟩
      case round =>
        obtain ⟨j, x, hj, hx1, hxx, rfl, rfl, rfl⟩ := hrel
        have HXX := hide hxx
        clear hxx
        cases gk with
        | zero =>
          obtain rfl : j = ps.length := by omega
          go_wp2
          go_roundg g
          case measure => omega
          case rel =>
            refine ⟨k + 1, x, by omega, hx1, ?_, rfl, by go_num, rfl⟩
            rw [HXX.out, List.take_length, HRR.out, flat_take pss (HL.out ▸ hkl), reg_append, HPS.out]
        | succ gi =>
          have hjl : j < ps.length := by omega
          have hji : (j : Int) < (ps.length : Int) := by omega
          obtain ⟨b2, o2, rfl, hc2⟩ := Q4.out (by intro h; simp [h] at hjl)
          have c2 := hc2 j hjl
          obtain ⟨c, hcc⟩ : ∃ c, c = ps.getD j 0 := ⟨_, rfl⟩
          have hcb := pb.get j
          rw [← hcc] at c2 hcb
          have HCC := hide hcc
          clear hc2 hcc
          have HG := goes_any w x c hx1 hcb.1 hcb.2
          have hlt : stpN 8 (x ^^^ c.toNat) < 4294967296 := stpN_lt 8 (xor_lt32 hx1 (by omega))
          obtain ⟨z2, hz2⟩ : ∃ z, z = stpN 8 (x ^^^ c.toNat) := ⟨_, rfl⟩
          rw [← hz2] at HG hlt
          have HZ := hide hz2
          have HGG := hide HG
          clear hz2 HG
          go_wp2_with (go_at_call 87; refine HGG.out.mono ?_; rintro e w1 ⟨rfl, hw⟩; subst w1)
          go_roundg gi
          case measure => omega
          case rel =>
            refine ⟨j + 1, z2, by omega, hlt, ?_, rfl, by go_num, rfl⟩
            rw [HZ.out, take_getD ps hjl, reg_snoc, ← HXX.out, HCC.out]

theorem crcOf_any (w : World) (v : Value) (vs : List Value) (pss : List (List Int)) (hT : Tab w) (h : Parts w v vs pss) :
    Calls Tryd.prog 70 #[v] w fun e w' => e = .returned (.int .u32 (ofS pss.flatten : Nat)) ∧ w' = w := by
  have HA := hide (crcAdd_any w 0 v vs pss (by omega) hT h)
  have hv := h.2
  clear h hT
  obtain ⟨ao, cap, rfl, _⟩ := hv
  go_enter Tryd.func70, Tryd.ntmps70
  go_wp2_with (go_at_call 81; refine HA.out.mono ?_; rintro e w1 ⟨rfl, hw⟩; subst w1)
  go_ret
  exact ⟨rfl, rfl⟩


theorem refOne_any (w : World) (v : Value) (zs : List Int) (h : Sl w v zs) :
    Calls Tryd.prog 71 #[v] w fun e w' => e = .returned (.int .u32 (ofS zs : Nat)) ∧ Below w.heap.size w w' := by
  have HA := hide (refAdd_any _ 0 _ _ _ (by omega) (parts_one h))
  rw [show [zs].flatten = zs by simp] at HA
  obtain ⟨ao, n, cap, rfl⟩ := sl_form h
  clear h
  go_enter Tryd.func71, Tryd.ntmps71
  go_wp2_with (go_at_call 82; refine HA.out.mono ?_; rintro e w1 ⟨rfl, hw⟩; subst w1)
  go_ret
  exact ⟨rfl, (Below.refl _ w).alloc (Nat.le_refl _) _⟩

theorem nine : ofS [49, 50, 51, 52, 53, 54, 55, 56, 57] = 3808858755 := by decide +kernel

theorem sl_mark (w : World) (e : TypeId) (fr : Nat × Nat) (zs : List Int) (hb : ByteOk zs) (hm : zs.length ≤ maxLen) :
    Sl (w.alloc (.cells (zs.map (Value.int .u8)).toArray e fr)) (.slice (some ⟨w.heap.size, 0, none⟩) zs.length zs.length) zs := by
  refine ⟨hb, _, _, rfl, Nat.le_refl _, hm, (fun h => by cases h), fun _ => ⟨_, 0, rfl, fun i hi => ?_⟩⟩
  rw [World.cell?_alloc_mark, Nat.zero_add, getD_lt zs hi]
  simp [hi]


end Go.Proofs.YtmeiahmolmneeaaDoor
