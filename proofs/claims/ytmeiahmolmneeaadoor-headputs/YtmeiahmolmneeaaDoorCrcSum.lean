/- Contracts: the sum of parts, by package crc and by the document's answer. -/
import Derived.Test.YtmeiahmolmneeaaDoorCrcAdd
namespace Go.Proofs.YtmeiahmolmneeaaDoor
set_option maxRecDepth 20000
open Go.RowKit

theorem take_getD (xs : List Int) {j : Nat} (h : j < xs.length) : xs.take (j + 1) = xs.take j ++ [xs.getD j 0] := by
  rw [getD_lt xs h, List.take_succ_eq_append_getElem h]
theorem flat_take (pss : List (List Int)) {k : Nat} (h : k < pss.length) : (pss.take (k + 1)).flatten = (pss.take k).flatten ++ pss.getD k [] := by
  rw [List.take_succ_eq_append_getElem h, List.flatten_append]
  simp [List.getD, h]

/-- what one byte does to the register, by the table -/
theorem byte_facts (w : World) (hT : Tab w) (r : Nat) (c : Int) (hr : r < 4294967296) (h0 : 0 ≤ c) (h1 : c ≤ 255) :
    ∃ y l t z l2 t2 z2 : Nat, bits .xor .u32 (r : Int) c = (y : Int) ∧ y < 4294967296 ∧ bits .and .u32 (y : Int) 15 = (l : Int) ∧ l < 16 ∧ w.cell? ⟨2, l, none⟩ = some (.int .u32 (t : Int)) ∧ bits .xor .u32 ((y : Int) / 16) (t : Int) = (z : Int) ∧ z < 4294967296 ∧
      bits .and .u32 (z : Int) 15 = (l2 : Int) ∧ l2 < 16 ∧ w.cell? ⟨2, l2, none⟩ = some (.int .u32 (t2 : Int)) ∧ bits .xor .u32 ((z : Int) / 16) (t2 : Int) = (z2 : Int) ∧ z2 < 4294967296 ∧ z2 = stpN 8 (r ^^^ c.toNat) := by
  have hx := xorN r c.toNat hr (by omega)
  rw [show ((c.toNat : Nat) : Int) = c by omega] at hx
  have hy : r ^^^ c.toNat < 4294967296 := xor_lt32 hr (by omega)
  obtain ⟨y, hyy⟩ : ∃ y, y = r ^^^ c.toNat := ⟨_, rfl⟩
  rw [← hyy] at hx hy ⊢
  have step : ∀ y : Nat, y < 4294967296 → bits .xor .u32 ((y : Int) / 16) ((stpN 4 (y % 16) : Nat) : Int) = ((stpN 4 y : Nat) : Int) := by
    intro y hy
    have := xorN (y / 16) (stpN 4 (y % 16)) (by omega) (stpN_lt 4 (by omega))
    rw [four] at this
    rw [← this]
    congr 1
  have cell : ∀ y : Nat, w.cell? ⟨2, y % 16, none⟩ = some (.int .u32 ((stpN 4 (y % 16) : Nat) : Int)) := fun y => by rw [hT (y % 16) (by omega), tab_at]
  have hz : stpN 4 y < 4294967296 := stpN_lt 4 hy
  refine ⟨y, y % 16, stpN 4 (y % 16), stpN 4 y, stpN 4 y % 16, stpN 4 (stpN 4 y % 16), stpN 4 (stpN 4 y), hx, hy, and15 y hy, by omega, cell y, step y hy, hz, and15 _ hz, by omega, cell _, step _ hz, stpN_lt 4 hz, ?_⟩
  exact (stpN_add 4 4 y).symm

set_option maxHeartbeats 1000000 in
theorem crcAdd_any (w : World) (s : Nat) (v : Value) (vs : List Value) (pss : List (List Int)) (hs : s < 4294967296) (hT : Tab w) (h : Parts w v vs pss) :
    Calls Tryd.prog 81 #[.int .u32 s, v] w fun e w' => e = .returned (.int .u32 (addS s pss.flatten : Nat)) ∧ w' = w := by
  obtain ⟨hl, ao, cap, rfl, h1, h2, h3, h4⟩ := h
  unfold maxLen at h2
  have hx := xorN 4294967295 s (by omega) hs
  have hR0 : 4294967295 ^^^ s < 4294967296 := xor_lt32 (by omega) hs
  have HA : Hid (addS s pss.flatten = 4294967295 ^^^ reg (4294967295 ^^^ s) pss.flatten) := rfl
  rw [show ((4294967295 : Nat) : Int) = 4294967295 from rfl] at hx
  obtain ⟨R0, hRR⟩ : ∃ y, y = 4294967295 ^^^ s := ⟨_, rfl⟩
  rw [← hRR] at hx hR0 HA
  clear hRR
  have HT : Hid (Tab w) := hT
  have hsg : IntKind.u32.signed = false := rfl
  have hmx : IntKind.u32.max = 4294967295 := rfl
  have H3 := hide h3
  have H4 := hide h4
  clear hT h3 h4
  go_enter Tryd.func81, Tryd.ntmps81
  go_wp2
  go_loopg [5, 14] vs.length (fun g rr i wr => ∃ k r : Nat, g + k = vs.length ∧ r < 4294967296 ∧ r = reg R0 (pss.take k).flatten ∧ rr = .int .u32 (r : Int) ∧ i = .int .i64 k ∧ w = wr)
  case atStart => exact ⟨0, R0, by omega, hR0, rfl, rfl, rfl, rfl⟩
  case round =>
    obtain ⟨k, r, hk, hr, hrr, rfl, rfl, rfl⟩ := hrel
    have HRR := hide hrr
    clear hrr hx
    cases gk with
    | zero =>
      obtain rfl : k = vs.length := by omega
      have hn := xorN 4294967295 r (by omega) hr
      rw [show ((4294967295 : Nat) : Int) = 4294967295 from rfl] at hn
      go_wp2
      go_ret
      refine ⟨ret_int ?_, rfl⟩
      rw [HA.out, HRR.out, List.take_of_length_le (by omega)]
    | succ g =>
      have hkl : k < vs.length := by omega
      have hki : (k : Int) < (vs.length : Int) := by omega
      obtain ⟨b, o, rfl, hc⟩ := H4.out (by intro h; simp [h] at hkl)
      have c1 := hc k hkl
      have hp := H3.out k hkl
      obtain ⟨u, hu⟩ : ∃ u, u = vs.getD k (.slice none 0 0) := ⟨_, rfl⟩
      obtain ⟨ps, hps⟩ : ∃ ps, ps = pss.getD k [] := ⟨_, rfl⟩
      rw [← hu] at c1 hp
      rw [← hps] at hp
      have HPS := hide hps
      clear hc hu hps H4 H3
      obtain ⟨pb, pao, pcap, rfl, q1, q2, q3, q4⟩ := hp
      unfold maxLen at q2
      have Q4 := hide q4
      clear q4 q3
      go_wp2
      go_loopg [5, 20] ps.length (fun g rr i wr => ∃ j x : Nat, g + j = ps.length ∧ x < 4294967296 ∧ x = reg r (ps.take j) ∧ rr = .int .u32 (x : Int) ∧ i = .int .i64 j ∧ w = wr)
      case atStart => exact ⟨0, r, by omega, hr, rfl, rfl, rfl, rfl⟩
      case round =>
        obtain ⟨j, x, hj, hx1, hxx, rfl, rfl, rfl⟩ := hrel
        have HXX := hide hxx
        clear hxx
        cases gk with
        | zero =>
          obtain rfl : j = ps.length := by omega
          go_wp2
          go_roundg g
          case measure => omega
          case rel =>
            refine ⟨k + 1, x, by omega, hx1, ?_, rfl, by go_num, rfl⟩
            rw [HXX.out, List.take_length, HRR.out, flat_take pss (by omega), reg_append, HPS.out]
        | succ gi =>
          have hjl : j < ps.length := by omega
          have hji : (j : Int) < (ps.length : Int) := by omega
          obtain ⟨b2, o2, rfl, hc2⟩ := Q4.out (by intro h; simp [h] at hjl)
          have c2 := hc2 j hjl
          obtain ⟨c, hcc⟩ : ∃ c, c = ps.getD j 0 := ⟨_, rfl⟩
          have hcb := pb.get j
          rw [← hcc] at c2 hcb
          have HCC := hide hcc
          clear hc2 hcc
          obtain ⟨y, l, t, z, l2, t2, z2, e1, e2, e3, e4, e5, e6, e7, e8, e9, e10, e11, e12, e13⟩ := byte_facts w HT.out x c hx1 hcb.1 hcb.2
          have E13 := hide e13
          clear e13
          have e4' : (l : Int) < 16 := by omega
          have e9' : (l2 : Int) < 16 := by omega
          go_wp2
          go_roundg gi
          case measure => omega
          case rel =>
            refine ⟨j + 1, z2, by omega, e12, ?_, rfl, by go_num, rfl⟩
            rw [E13.out, take_getD ps hjl, reg_snoc, ← HXX.out, HCC.out]

end Go.Proofs.YtmeiahmolmneeaaDoor
