/- Contract: the document's answer: a short number's bytes (incipitref01.Var). -/
import Derived.Test.YtmjkpgmmfooajaaPoNum
namespace Go.Proofs.Ytmjkpgmmfooajaa
set_option maxRecDepth 20000
open Go.RowKit

theorem lit1 (w : World) (a : Int) (h : 0 ≤ a ∧ a ≤ 255) : Sl (w.alloc (.cells #[.int .u8 a] 5)) (.slice (some ⟨w.heap.size, 0, none⟩) 1 1) [a] :=
  sl_lit w 5 [a] (by intro z hz; simp at hz; omega) (by simp [maxLen])
set_option maxRecDepth 20000 in
set_option maxHeartbeats 1000000 in
theorem refVar_any (w : World) (v : Nat) (hv : v < 4294967296) :
    Calls Try.prog 46 #[.int .u32 v] w fun e w' => ∃ u, e = .returned u ∧
      w'.ownsRow w.heap.size 5 1 u (varBytes v).length ((varBytes v).map (Value.int .u8)) ∧ Below w.heap.size w w' ∧ w.heap.size < w'.heap.size := by
  obtain ⟨i0, hi, hz0, hz1, hz2⟩ := info_parts infoU8
  have hvl := varLen_le5 hv
  have HV : Hid (varLen v = (varBytes v).length) := rfl
  go_enter Try.func46, Try.ntmps46
  go_wp2
  go_loopw [0, 3] (fun vv u wr => ∃ (cur : Nat) (done : List Int), cur < 4294967296 ∧ varBytes v = done ++ varBytes cur ∧ vv = .int .u32 cur ∧
      wr.ownsRow w.heap.size 5 1 u done.length (done.map (Value.int .u8)) ∧ Below w.heap.size w wr ∧ w.heap.size < wr.heap.size)
    (fun vv _ _ => (intOf vv).toNat)
  case atStart => exact ⟨v, [], hv, rfl, rfl, World.ownsRow_made w #[] 0 (Nat.le_refl _) (Nat.zero_le _) rfl, (Below.refl _ _).alloc (Nat.le_refl _) _, by simp⟩
  case round =>
    obtain ⟨cur, done, hc1, hc2, rfl, hown, hbr, hzr⟩ := hrel
    have hdl : done.length ≤ 5 := by have := HV.out; rw [hc2, List.length_append] at this; omega
    have HC2 := hide hc2
    clear hc2
    by_cases hlt : cur < 128
    · obtain ⟨v1, w1, hr1, ho1, hg1, hnn⟩ := run_append_sl (P := Try.prog) (wr.alloc (.cells #[.int .u8 (cur : Int)] 5)) w.heap.size 23 23 5 i0 Try.underlying23 hi hz0 hz1 hz2 u3 done.length (done.map (Value.int .u8)) (hown.alloc _) (some ⟨wr.heap.size, 0, none⟩) 1 1 [(cur : Int)] (lit1 wr cur (by omega)) (by simp; omega) (by simp; omega)
      have HR1 := hide hr1
      have hb1 : Below w.heap.size w w1 := (hbr.alloc (by omega) _).grown hg1 (by simp; omega) (fun k hk => (hown.lt k hk).1)
      have hs1 : wr.heap.size + 1 ≤ w1.heap.size := by simpa using hg1.size
      have HO1 := hide ho1
      clear hr1 hg1 ho1 hown hnn
      go_wp2_with (at_builtin; refine wpList_append_run _ rfl (.tmp 16) (.tmp 19) 23 rfl _ _ rfl rfl _ _ HR1.out ?_)
      go_ret
      refine ⟨_, rfl, ?_, hb1, by omega⟩
      have := HO1.out
      rw [HC2.out, varBytes_lt hlt]
      simpa using this
    · obtain ⟨v1, w1, hr1, ho1, hg1, hnn⟩ := run_append_sl (P := Try.prog) (wr.alloc (.cells #[.int .u8 (128 + (cur : Int) % 128)] 5)) w.heap.size 23 23 5 i0 Try.underlying23 hi hz0 hz1 hz2 u3 done.length (done.map (Value.int .u8)) (hown.alloc _) (some ⟨wr.heap.size, 0, none⟩) 1 1 [128 + (cur : Int) % 128] (lit1 wr _ (by omega)) (by simp; omega) (by simp; omega)
      have HR1 := hide hr1
      have hb1 : Below w.heap.size w w1 := (hbr.alloc (by omega) _).grown hg1 (by simp; omega) (fun k hk => (hown.lt k hk).1)
      have hs1 : wr.heap.size + 1 ≤ w1.heap.size := by simpa using hg1.size
      have HO1 := hide ho1
      clear hr1 hg1 ho1 hown hnn
      go_wp2_with (at_builtin; refine wpList_append_run _ rfl (.tmp 7) (.tmp 12) 23 rfl _ _ rfl rfl _ _ HR1.out ?_)
      go_roundw
      case rel =>
        refine ⟨cur / 128, done ++ [128 + (cur : Int) % 128], by omega, ?_, by go_num, ?_, hb1, by omega⟩
        · rw [HC2.out, varBytes_ge hlt, List.append_assoc]; simp
        · have := HO1.out
          simpa using this
      case measure => simp [intOf]; omega

end Go.Proofs.Ytmjkpgmmfooajaa
