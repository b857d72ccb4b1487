/- Contracts: the document's answer: numbers and texts as bytes (incipitref01.Number, Var, Text). -/
import Derived.Test.YtbopcppagfhjnaaJoin
import Derived.Test.YtbopcppagfhjnaaPutNum
import Derived.Test.YtbopcppagfhjnaaPutText
import Derived.Test.YtbopcppagfhjnaaLive
namespace Go.Proofs.Ytbopcppagfhjnaa
open Go.RowKit

set_option maxHeartbeats 400000 in
theorem refNumber_any (w : World) (v n : Nat) (hv : v < 18446744073709551616) (hn : n ≤ 8) :
    Calls Try.prog 18 #[.int .u64 v, .int .i64 n] w fun e w' => ∃ u, e = .returned u ∧
      w'.ownsRow w.heap.size 5 1 u (numBytes v n).length ((numBytes v n).map (Value.int .u8)) ∧ Below w.heap.size w w' ∧ w.heap.size < w'.heap.size := by
  obtain ⟨i0, hi, hz0, hz1, hz2⟩ := info_parts infoU8
  obtain ⟨B, hB⟩ : ∃ B, B = w.heap.size := ⟨_, rfl⟩
  have hBB : w.heap.size = B := hB.symm
  rw [← hB]
  have HL := hide (numBytes_len n v)
  clear hB
  go_enter Try.func18, Try.ntmps18
  go_wp2_with (at_make; refine wpList_make_full _ rfl _ _ 22 rfl w.heap.size 5 i0 (.int .u8 0) 1 Try.underlying22 hi hz0 hz1 .i64 .i64 _ _ n rfl rfl rfl rfl (by rw [hz2]; omega) (by unfold maxLen; omega) (Nat.le_refl _) ?_; intro w1 ho1 hg1; rw [madeBytes, hBB] at ho1; have hb1 : Below B w w1 := hBB ▸ (Below.refl w.heap.size w).grown hg1 (Nat.le_refl _) (by intro k hk; cases hk); have HO1 := hide ho1; clear ho1 hg1)
  go_loopw [0, 6] (fun vv i wr => ∃ (cur r : Nat) (tail : List Int), cur < 18446744073709551616 ∧ numBytes v n = numBytes cur r ++ tail ∧ vv = .int .u64 cur ∧ i = .int .i64 ((r : Int) - 1) ∧
      r + tail.length = n ∧ wr.ownsRow B 5 1 (.slice (some ⟨B, 0, none⟩) n n) n (([] ++ List.replicate r 0 ++ tail).map (Value.int .u8)) ∧ Below B w wr)
    (fun _ i _ => (intOf i + 1).toNat)
  case atStart => exact ⟨v, n, [], hv, by simp, rfl, by go_num, by simp, by simpa using HO1.out, hb1⟩
  case round =>
    obtain ⟨cur, r, tail, hc1, hc2, rfl, rfl, hc3, hown, hbr⟩ := hrel
    have HC2 := hide hc2
    clear hc2
    by_cases hr : r = 0
    · subst hr
      have HO := hide hown
      clear hown
      go_wp2
      go_ret
      have e1 : numBytes v n = tail := by rw [HC2.out]; rfl
      have := HO.out
      rw [List.replicate_zero, List.append_nil, List.nil_append] at this
      refine ⟨_, rfl, ?_, hbr, ?_⟩
      · rw [HL.out, e1]; exact this
      · rcases this.2 with ⟨h, _⟩ | ⟨g, cap, cur, h, _, hg, _⟩
        · simp at h
        · simp only [Value.slice.injEq, Option.some.injEq, Addr.mk.injEq, and_true, true_and] at h
          obtain ⟨rfl, rfl⟩ := h
          exact (Array.getElem?_eq_some_iff.1 hg).1
    · obtain ⟨m, rfl⟩ : ∃ m, r = m + 1 := ⟨r - 1, by omega⟩
      have hKi : (((m + 1 : Nat) : Int) - 1) = (m : Int) := by omega
      have hfr := hown.frozenAt m
      obtain ⟨q, hq⟩ := own_some hown m (by omega)
      have hst := hown.stored m (.int .u8 ((cur % 256 : Nat) : Int))
      have HO := hst.1
      have es := set_back [] tail m ((cur % 256 : Nat) : Int)
      rw [List.length_nil, Nat.zero_add] at es
      rw [es] at HO
      have HOO := hide HO
      rw [hKi]
      have hKn : m < n := by omega
      clear hst HO hown hKi es
      go_wp2
      go_roundw
      case rel =>
        refine ⟨cur / 256, m, ((cur % 256 : Nat) : Int) :: tail, by omega, ?_, by go_num, by go_num, by simp; omega, ?_, hbr.setCell (Nat.le_refl _) _⟩
        · rw [HC2.out, numBytes, List.append_assoc]; rfl
        · exact HOO.out
      case measure => simp [intOf]

set_option maxRecDepth 20000 in
set_option maxHeartbeats 1000000 in
theorem refVar_any (w : World) (v : Nat) (hv : v < 4294967296) :
    Calls Try.prog 19 #[.int .u32 v] w fun e w' => ∃ u, e = .returned u ∧
      w'.ownsRow w.heap.size 5 1 u (varBytes v).length ((varBytes v).map (Value.int .u8)) ∧ Below w.heap.size w w' ∧ w.heap.size < w'.heap.size := by
  obtain ⟨i0, hi, hz0, hz1, hz2⟩ := info_parts infoU8
  have hvl := varLen_le5 hv
  have HV : Hid (varLen v = (varBytes v).length) := rfl
  go_enter Try.func19, Try.ntmps19
  go_wp2
  go_loopw [0, 3] (fun vv u wr => ∃ (cur : Nat) (done : List Int), cur < 4294967296 ∧ varBytes v = done ++ varBytes cur ∧ vv = .int .u32 cur ∧
      wr.ownsRow w.heap.size 5 1 u done.length (done.map (Value.int .u8)) ∧ Below w.heap.size w wr ∧ w.heap.size < wr.heap.size)
    (fun vv _ _ => (intOf vv).toNat)
  case atStart => exact ⟨v, [], hv, rfl, rfl, World.ownsRow_made w #[] 0 (Nat.le_refl _) (Nat.zero_le _) rfl, (Below.refl _ _).alloc (Nat.le_refl _) _, by simp⟩
  case round =>
    obtain ⟨cur, done, hc1, hc2, rfl, hown, hbr, hzr⟩ := hrel
    have hdl : done.length ≤ 5 := by have := HV.out; rw [hc2, List.length_append] at this; omega
    have HC2 := hide hc2
    clear hc2
    by_cases hlt : cur < 128
    · obtain ⟨v1, w1, hr1, ho1, hg1, hnn⟩ := run_append_sl (P := Try.prog) (wr.alloc (.cells #[.int .u8 (cur : Int)] 5)) w.heap.size 22 22 5 i0 Try.underlying22 hi hz0 hz1 hz2 u3 done.length (done.map (Value.int .u8)) (hown.alloc _) (some ⟨wr.heap.size, 0, none⟩) 1 1 [(cur : Int)] (lit1 wr cur (by omega)) (by simp; omega) (by simp; omega)
      have HR1 := hide hr1
      have hb1 : Below w.heap.size w w1 := (hbr.alloc (by omega) _).grown hg1 (by simp; omega) (fun k hk => (hown.lt k hk).1)
      have hs1 : wr.heap.size + 1 ≤ w1.heap.size := by simpa using hg1.size
      have HO1 := hide ho1
      clear hr1 hg1 ho1 hown hnn
      go_wp2_with (at_builtin; refine wpList_append_run _ rfl (.tmp 16) (.tmp 19) 22 rfl _ _ rfl rfl _ _ HR1.out ?_)
      go_ret
      refine ⟨_, rfl, ?_, hb1, by omega⟩
      have := HO1.out
      rw [HC2.out, varBytes_lt hlt]
      simpa using this
    · obtain ⟨v1, w1, hr1, ho1, hg1, hnn⟩ := run_append_sl (P := Try.prog) (wr.alloc (.cells #[.int .u8 (128 + (cur : Int) % 128)] 5)) w.heap.size 22 22 5 i0 Try.underlying22 hi hz0 hz1 hz2 u3 done.length (done.map (Value.int .u8)) (hown.alloc _) (some ⟨wr.heap.size, 0, none⟩) 1 1 [128 + (cur : Int) % 128] (lit1 wr _ (by omega)) (by simp; omega) (by simp; omega)
      have HR1 := hide hr1
      have hb1 : Below w.heap.size w w1 := (hbr.alloc (by omega) _).grown hg1 (by simp; omega) (fun k hk => (hown.lt k hk).1)
      have hs1 : wr.heap.size + 1 ≤ w1.heap.size := by simpa using hg1.size
      have HO1 := hide ho1
      clear hr1 hg1 ho1 hown hnn
      go_wp2_with (at_builtin; refine wpList_append_run _ rfl (.tmp 7) (.tmp 12) 22 rfl _ _ rfl rfl _ _ HR1.out ?_)
      go_roundw
      case rel =>
        refine ⟨cur / 128, done ++ [128 + (cur : Int) % 128], by omega, ?_, by go_num, ?_, hb1, by omega⟩
        · rw [HC2.out, varBytes_ge hlt, List.append_assoc]; simp
        · have := HO1.out
          simpa using this
      case measure => simp [intOf]; omega

theorem refText_long (w : World) (vb vt : Value) (zs ts : List Int) (hb : Sl w vb zs) (ht : Sl w vt ts) (hl : 255 < ts.length) :
    Calls Try.prog 12 #[vb, vt] w fun e w' => e = .returned (.tuple #[.slice none 0 0, .int .i64 3]) ∧ w' = w := by
  obtain ⟨_, ao, cap, rfl, _⟩ := hb
  obtain ⟨_, ao', cap', rfl, _⟩ := ht
  have i1 : (255 : Int) < (ts.length : Int) := by omega
  go_enter Try.func12, Try.ntmps12
  go_wp2
  go_ret2
  exact ⟨rfl, rfl⟩

set_option maxHeartbeats 400000 in
theorem refText_ok (w : World) (vb vt : Value) (zs ts : List Int) (hb : Sl w vb zs) (ht : Sl w vt ts) (hz : zs.length ≤ 50000) (hl : ts.length ≤ 255) :
    Calls Try.prog 12 #[vb, vt] w fun e w' => ∃ u, e = .returned (.tuple #[u, .int .i64 0]) ∧ Sl w' u (zs ++ textBytes ts) ∧ Below w.heap.size w w' := by
  have HB := hide hb
  have HT := hide ht
  obtain ⟨bz, ao, cap, rfl, _⟩ := hb
  obtain ⟨bt, ao', cap', rfl, _⟩ := ht
  have i1 : decide ((255 : Int) < (ts.length : Int)) = false := decide_eq_false (by omega)
  have HJ : Hid (ByteOk (zs ++ [(ts.length : Int)])) := by
    intro z hz
    rcases List.mem_append.1 hz with hz | hz
    · exact bz z hz
    · simp at hz; omega
  have HJ2 : Hid (ByteOk (zs ++ textBytes ts)) := by
    intro z hz
    rcases List.mem_append.1 hz with hz | hz
    · exact bz z hz
    · exact textBytes_ok ts bt hl z hz
  have HJA := hide (refJoin_any (w.alloc (.cells #[.int .u8 (ts.length : Int)] 5)) _ _ zs [(ts.length : Int)] (HB.out.alloc _) (lit1 w (ts.length : Int) (by omega)) (by simp; omega))
  go_enter Try.func12, Try.ntmps12
  go_wp2_with (first
    | (go_at_call 10; refine HJA.out.mono ?_; rintro e w1 ⟨u1, rfl, ho1, _, hb1, hz1⟩; have hs1 := sl_of_own_len ho1 HJ.out; have HB1 := after_alloc hb1; clear ho1 hb1 HJA)
    | (go_at_call 10; refine (refJoin_any w1 u1 _ _ ts hs1 (HT.out.below HB1) (by simp; omega)).mono ?_; rintro e w2 ⟨u2, rfl, ho2, _, hb2, hz2⟩))
  go_ret2
  refine ⟨_, rfl, ?_, below_then HB1 hb2 (Nat.le_refl _)⟩
  have e : zs ++ [(ts.length : Int)] ++ ts = zs ++ textBytes ts := by simp [textBytes]
  rw [e] at ho2
  exact sl_of_own_len ho2 HJ2.out

end Go.Proofs.Ytbopcppagfhjnaa
