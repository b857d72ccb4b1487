/- Contracts: package pack puts a number of two bytes into memory that has room for just these bytes; bytes put behind such bytes. -/
import Derived.Test.YtmeiahmolmneeaaDoorHText
import Derived.Test.YtmeiahmolmneeaaDoorRegionL
namespace Go.Proofs.YtmeiahmolmneeaaDoor
set_option maxRecDepth 20000
open Go.RowKit
set_option linter.unusedVariables false

set_option maxHeartbeats 400000 in
theorem putNumber_cap (w : World) (vb : Value) (zs : List Int) (v n : Nat) (h : Sl w vb zs) (hl : zs.length ≤ 50000) (hv : v < 18446744073709551616) (hn : n ≤ 8) :
    Calls Tryd.prog 48 #[vb, .int .u64 v, .int .i64 n] w fun e w' => e = .returned (.slice (some ⟨w.heap.size, 0, none⟩) (zs.length + n) (zs.length + n)) ∧
      w'.ownsRow w.heap.size 5 1 (.slice (some ⟨w.heap.size, 0, none⟩) (zs.length + n) (zs.length + n)) (zs.length + n) ((zs ++ numBytes v n).map (Value.int .u8)) ∧ Below w.heap.size w w' ∧ w.heap.size < w'.heap.size := by
  have H := h
  obtain ⟨hb, ao, cap, rfl, h1, h2, h3, h4⟩ := h
  obtain ⟨B, hB⟩ : ∃ B, B = w.heap.size := ⟨_, rfl⟩
  have HC := copyWithRoom_any w (.slice ao zs.length cap) zs n H (by omega)
  rw [← hB] at HC
  rw [← hB]
  have HB : Hid (B = w.heap.size) := hB
  have HL := hide (numBytes_len n v)
  clear hB h3 h4 h2
  go_enter Tryd.func48, Tryd.ntmps48
  go_wp2_with (go_at_call 49; refine HC.mono ?_; rintro e w1 ⟨rfl, ho1, hb1, hz1⟩)
  go_loopw [1, 8] (fun vv i wr => ∃ (cur r : Nat) (tail : List Int), cur < 18446744073709551616 ∧ numBytes v n = numBytes cur r ++ tail ∧ vv = .int .u64 cur ∧ i = .int .i64 (((zs.length + r : Nat) : Int) - 1) ∧
      r + tail.length = n ∧ wr.ownsRow B 5 1 (.slice (some ⟨B, 0, none⟩) (zs.length + n) (zs.length + n)) (zs.length + n) ((zs ++ List.replicate r 0 ++ tail).map (Value.int .u8)) ∧ Below B w wr ∧ B < wr.heap.size)
    (fun _ i _ => (intOf i + 1 - zs.length).toNat)
  case atStart => exact ⟨v, n, [], hv, by simp, rfl, by go_num, by simp, by simpa using ho1, hb1, hz1⟩
  case round =>
    obtain ⟨cur, r, tail, hc1, hc2, rfl, rfl, hc3, hown, hbr, hzr⟩ := hrel
    have HC2 := hide hc2
    clear hc2
    by_cases hr : r = 0
    · subst hr
      have HO := hide hown
      clear hown
      go_wp2
      go_ret
      have e1 : zs ++ numBytes v n = zs ++ tail := by rw [HC2.out]; rfl
      refine ⟨rfl, ?_, hbr, hzr⟩
      rw [e1]
      have := HO.out
      rwa [List.replicate_zero, List.append_nil] at this
    · obtain ⟨m, rfl⟩ : ∃ m, r = m + 1 := ⟨r - 1, by omega⟩
      obtain ⟨K, hK⟩ : ∃ K, K = zs.length + m := ⟨_, rfl⟩
      have hKi : (((zs.length + (m + 1) : Nat) : Int) - 1) = (K : Int) := by omega
      have hcell := hown.cellAt K (by omega)
      have hfr := hown.frozenAt K
      have hsome : ∃ q, wr.cell? ⟨B, K, none⟩ = some q := by
        rw [hcell]
        exact ⟨_, List.getElem?_eq_getElem (by simp; omega)⟩
      obtain ⟨q, hq⟩ := hsome
      have hst := hown.stored K (.int .u8 ((cur % 256 : Nat) : Int))
      have HO := hst.1
      rw [hK, set_back, ← hK] at HO
      have HOO := hide HO
      rw [hKi]
      have HK := hide hK
      have hKn : K < zs.length + n := by omega
      have hKz : zs.length ≤ K := by omega
      clear hcell hK hst HO hown hKi
      go_wp2
      go_roundw
      case rel =>
        refine ⟨cur / 256, m, ((cur % 256 : Nat) : Int) :: tail, by omega, ?_, by go_num, by have := HK.out; go_num, by simp; omega, ?_, hbr.setCell (Nat.le_refl _) _, by simpa using hzr⟩
        · rw [HC2.out, numBytes, List.append_assoc]; rfl
        · exact HOO.out
      case measure => simp [intOf]; omega

/-- memory of a call's own that holds just these bytes, with no room behind them -/
def isFull (B : Nat) (zs : List Int) : Value → World → Prop := fun v w => ∃ g, v = .slice (some ⟨g, 0, none⟩) zs.length zs.length ∧ B ≤ g ∧ Blk w g 5 (pc zs)
theorem stable_isFull (B : Nat) (zs : List Int) : Stable (isFull B zs) := fun _ _ _ hb ⟨g, h1, h2, h3⟩ => ⟨g, h1, h2, h3.below hb h3.lt⟩

theorem packU16_full (w : World) (vb : Value) (zs : List Int) (v : Nat) (h : Sl w vb zs) (hl : zs.length ≤ 50000) (hv : v < 65536) :
    Calls Tryd.prog 30 #[vb, .int .u16 v] w fun e w' => ∃ u, e = .returned u ∧ Below w.heap.size w w' ∧ isFull w.heap.size (zs ++ numBytes v 2) u w' := by
  have HC := putNumber_cap w vb zs v 2 h hl (by omega) (by omega)
  obtain ⟨_, ao, cap, rfl, _⟩ := h
  go_enter Tryd.func30, Tryd.ntmps30
  go_wp2_with (go_at_call 48; refine HC.mono ?_; rintro e w1 ⟨rfl, ho1, hb1, hz1⟩)
  go_ret
  have e : (zs ++ numBytes v 2).length = zs.length + 2 := by rw [List.length_append, numBytes_len]
  exact ⟨_, rfl, hb1, w.heap.size, by rw [e]; rfl, Nat.le_refl _, own_heap ho1⟩

/-- bytes behind bytes that have no room -/
theorem run_append_full (w : World) (zs ys : List Int) (g : Nat) (hg : Blk w g 5 (pc zs)) (ao : Option Addr) (m c : Nat) (S : Sl w (.slice ao m c) ys) (hy : 0 < ys.length) (hl : zs.length + ys.length ≤ 100000) :
    ∃ v' w', (Builtin.append_ #[24, 24] 24 #[.slice (some ⟨g, 0, none⟩) zs.length zs.length, .slice ao m c]).run Tryd.prog w = .ok v' w' ∧
      w'.ownsRow w.heap.size 5 1 v' (zs ++ ys).length ((zs ++ ys).map (Value.int .u8)) ∧ Below w.heap.size w w' := by
  obtain ⟨i0, hi, hz0, hz1, hz2⟩ := info_parts infoU8
  have hm : m = ys.length := (sl_cap S).1
  subst hm
  obtain ⟨a, rfl, hsrc⟩ := S.src hy
  have hold : ∀ j v, (pc zs)[j]? = some v → w.cell? ((⟨g, 0, none⟩ : Addr).add j) = some v := by
    intro j v hj
    have e : (⟨g, 0, none⟩ : Addr).add j = ⟨g, 0 + j, none⟩ := by unfold Addr.add; split <;> simp_all
    rw [e, hg.cell, Nat.zero_add]
    exact hj
  have hn : zs.length + ys.length ≤ maxLen := by unfold maxLen; omega
  have hcap : Builtin.nextslicecap (zs.length + ys.length) zs.length * i0.bytes ≤ 281474976710656 := by
    rw [hz2, Nat.mul_one]
    have := nextslicecap_le (need := zs.length + ys.length) (old := zs.length) (by omega)
    omega
  have hrun := run_append_grow (P := Tryd.prog) w 24 24 5 i0 (.int .u8 0) Tryd.underlying24 hi hz0 ⟨g, 0, none⟩ zs.length zs.length (pc zs) (by rw [hz1, pc_len, Nat.mul_one]) hold a ys.length c (ys.map (Value.int .u8)) (by rw [hz1, List.length_map, Nat.mul_one]) hsrc (by omega) (by omega) hcap
  have hlen : (zs ++ ys).length = zs.length + ys.length := List.length_append
  have hge := grownCap_ge w (zs.length + ys.length) zs.length 5
  refine ⟨_, _, hrun, ?_, ?_⟩
  · rw [hlen]
    refine ⟨by rw [List.length_map, hlen, Nat.mul_one], .inr ⟨w.heap.size, _, _, rfl, Nat.le_refl _, heap_alloc_new _ _, hge, grownCap_le_maxLen w _ _ _ hn, ?_, ?_⟩⟩
    · rw [Array.size_append, size_zeroCells]
      simp [pc, Value.cells]
      omega
    · rw [Nat.mul_one]
      simp only [pc, Array.toList_append, List.map_append, List.append_assoc]
      rw [← List.append_assoc]
      exact List.take_left' (by simp)
  · exact ((⟨rfl, rfl, rfl, Nat.le_refl _, fun _ _ => rfl⟩ : Below w.heap.size w w.drew)).alloc (Nat.le_refl _) _

end Go.Proofs.YtmeiahmolmneeaaDoor
