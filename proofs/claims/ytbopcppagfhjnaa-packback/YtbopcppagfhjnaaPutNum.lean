/- Contracts: how package pack puts numbers of two, four and eight bytes behind bytes. -/
import Derived.Test.YtbopcppagfhjnaaPut
namespace Go.Proofs.Ytbopcppagfhjnaa
open Go.RowKit

/-- a number in n bytes, the highest first -/
def numBytes (v : Nat) : Nat → List Int
  | 0 => []
  | n + 1 => numBytes (v / 256) n ++ [((v % 256 : Nat) : Int)]

theorem numBytes_len : ∀ (n v : Nat), (numBytes v n).length = n
  | 0, _ => rfl
  | n + 1, v => by simp [numBytes, numBytes_len n (v / 256)]

theorem numBytes_ok : ∀ (n v : Nat), ByteOk (numBytes v n)
  | 0, _ => by intro z hz; cases hz
  | n + 1, v => by
    intro z hz
    rcases List.mem_append.1 hz with hz | hz
    · exact numBytes_ok n _ z hz
    · simp at hz; omega

theorem set_back (zs tail : List Int) (r : Nat) (x : Int) :
    ((zs ++ List.replicate (r + 1) 0 ++ tail).map (Value.int .u8)).set (zs.length + r) (.int .u8 x) = (zs ++ List.replicate r 0 ++ (x :: tail)).map (Value.int .u8) := by
  have e : List.replicate (r + 1) (0 : Int) = List.replicate r 0 ++ [0] := by rw [List.replicate_succ']
  have hl : ((zs ++ List.replicate r (0 : Int)).map (Value.int .u8)).length = zs.length + r := by simp
  rw [e, ← List.append_assoc, List.append_assoc _ [0] tail, List.map_append, List.set_append_right _ _ (by omega), hl, Nat.sub_self]
  simp

set_option maxHeartbeats 400000 in
theorem putNumber_any (w : World) (vb : Value) (zs : List Int) (v n : Nat) (h : Sl w vb zs) (hl : zs.length ≤ 50000) (hv : v < 18446744073709551616) (hn : n ≤ 8) :
    Calls Try.prog 41 #[vb, .int .u64 v, .int .i64 n] w fun e w' => ∃ u, e = .returned u ∧
      w'.ownsRow w.heap.size 5 1 u (zs ++ numBytes v n).length ((zs ++ numBytes v n).map (Value.int .u8)) ∧ Below w.heap.size w w' ∧ w.heap.size < w'.heap.size := by
  have H := h
  obtain ⟨hb, ao, cap, rfl, h1, h2, h3, h4⟩ := h
  obtain ⟨B, hB⟩ : ∃ B, B = w.heap.size := ⟨_, rfl⟩
  have HC := copyWithRoom_any w (.slice ao zs.length cap) zs n H (by omega)
  rw [← hB] at HC
  rw [← hB]
  have HB : Hid (B = w.heap.size) := hB
  have HL := hide (numBytes_len n v)
  clear hB h3 h4 h2
  go_enter Try.func41, Try.ntmps41
  go_wp2_with (go_at_call 40; refine HC.mono ?_; rintro e w1 ⟨rfl, ho1, hb1, hz1⟩)
  go_loopw [1, 8] (fun vv i wr => ∃ (cur r : Nat) (tail : List Int), cur < 18446744073709551616 ∧ numBytes v n = numBytes cur r ++ tail ∧ vv = .int .u64 cur ∧ i = .int .i64 (((zs.length + r : Nat) : Int) - 1) ∧
      r + tail.length = n ∧ wr.ownsRow B 5 1 (.slice (some ⟨B, 0, none⟩) (zs.length + n) (zs.length + n)) (zs.length + n) ((zs ++ List.replicate r 0 ++ tail).map (Value.int .u8)) ∧ Below B w wr ∧ B < wr.heap.size)
    (fun _ i _ => (intOf i + 1 - zs.length).toNat)
  case atStart => exact ⟨v, n, [], hv, by simp, rfl, by go_num, by simp, by simpa using ho1, hb1, hz1⟩
  case round =>
    obtain ⟨cur, r, tail, hc1, hc2, rfl, rfl, hc3, hown, hbr, hzr⟩ := hrel
    have HC2 := hide hc2
    clear hc2
    by_cases hr : r = 0
    · subst hr
      have HO := hide hown
      clear hown
      go_wp2
      go_ret
      have e1 : zs ++ numBytes v n = zs ++ tail := by rw [HC2.out]; rfl
      have e2 : (zs ++ numBytes v n).length = zs.length + n := by rw [List.length_append, HL.out]
      refine ⟨_, rfl, ?_, hbr, hzr⟩
      rw [e2, e1]
      have := HO.out
      rwa [List.replicate_zero, List.append_nil] at this
    · obtain ⟨m, rfl⟩ : ∃ m, r = m + 1 := ⟨r - 1, by omega⟩
      obtain ⟨K, hK⟩ : ∃ K, K = zs.length + m := ⟨_, rfl⟩
      have hKi : (((zs.length + (m + 1) : Nat) : Int) - 1) = (K : Int) := by omega
      have hcell := hown.cellAt K (by omega)
      have hfr := hown.frozenAt K
      have hsome : ∃ q, wr.cell? ⟨B, K, none⟩ = some q := by
        rw [hcell]
        exact ⟨_, List.getElem?_eq_getElem (by simp; omega)⟩
      obtain ⟨q, hq⟩ := hsome
      have hst := hown.stored K (.int .u8 ((cur % 256 : Nat) : Int))
      have HO := hst.1
      rw [hK, set_back, ← hK] at HO
      have HOO := hide HO
      rw [hKi]
      have HK := hide hK
      have hKn : K < zs.length + n := by omega
      have hKz : zs.length ≤ K := by omega
      clear hcell hK hst HO hown hKi
      go_wp2
      go_roundw
      case rel =>
        refine ⟨cur / 256, m, ((cur % 256 : Nat) : Int) :: tail, by omega, ?_, by go_num, by have := HK.out; go_num, by simp; omega, ?_, hbr.setCell (Nat.le_refl _) _, by simpa using hzr⟩
        · rw [HC2.out, numBytes, List.append_assoc]; rfl
        · exact HOO.out
      case measure => simp [intOf]; omega

theorem packU64_any (w : World) (vb : Value) (zs : List Int) (v : Nat) (h : Sl w vb zs) (hl : zs.length ≤ 50000) (hv : v < 18446744073709551616) :
    Calls Try.prog 15 #[vb, .int .u64 v] w fun e w' => ∃ u, e = .returned u ∧ w'.ownsRow w.heap.size 5 1 u (zs ++ numBytes v 8).length ((zs ++ numBytes v 8).map (Value.int .u8)) ∧ Below w.heap.size w w' ∧ w.heap.size < w'.heap.size := by
  have HC := putNumber_any w vb zs v 8 h hl hv (by omega)
  obtain ⟨_, ao, cap, rfl, _⟩ := h
  go_enter Try.func15, Try.ntmps15
  go_wp2_with (go_at_call 41; refine HC.mono ?_; rintro e w1 ⟨u, rfl, ho1, hb1, hz1⟩)
  go_ret
  exact ⟨u, rfl, ho1, hb1, hz1⟩

theorem packU32_any (w : World) (vb : Value) (zs : List Int) (v : Nat) (h : Sl w vb zs) (hl : zs.length ≤ 50000) (hv : v < 4294967296) :
    Calls Try.prog 14 #[vb, .int .u32 v] w fun e w' => ∃ u, e = .returned u ∧ w'.ownsRow w.heap.size 5 1 u (zs ++ numBytes v 4).length ((zs ++ numBytes v 4).map (Value.int .u8)) ∧ Below w.heap.size w w' ∧ w.heap.size < w'.heap.size := by
  have HC := putNumber_any w vb zs v 4 h hl (by omega) (by omega)
  obtain ⟨_, ao, cap, rfl, _⟩ := h
  go_enter Try.func14, Try.ntmps14
  go_wp2_with (go_at_call 41; refine HC.mono ?_; rintro e w1 ⟨u, rfl, ho1, hb1, hz1⟩)
  go_ret
  exact ⟨u, rfl, ho1, hb1, hz1⟩

theorem packU16_any (w : World) (vb : Value) (zs : List Int) (v : Nat) (h : Sl w vb zs) (hl : zs.length ≤ 50000) (hv : v < 65536) :
    Calls Try.prog 13 #[vb, .int .u16 v] w fun e w' => ∃ u, e = .returned u ∧ w'.ownsRow w.heap.size 5 1 u (zs ++ numBytes v 2).length ((zs ++ numBytes v 2).map (Value.int .u8)) ∧ Below w.heap.size w w' ∧ w.heap.size < w'.heap.size := by
  have HC := putNumber_any w vb zs v 2 h hl (by omega) (by omega)
  obtain ⟨_, ao, cap, rfl, _⟩ := h
  go_enter Try.func13, Try.ntmps13
  go_wp2_with (go_at_call 41; refine HC.mono ?_; rintro e w1 ⟨u, rfl, ho1, hb1, hz1⟩)
  go_ret
  exact ⟨u, rfl, ho1, hb1, hz1⟩

end Go.Proofs.Ytbopcppagfhjnaa
