/- Contract: the document's answer: one text behind the other (incipitref01.Join). -/
import Derived.Test.YtmjkpgmmfooajaaOwn
namespace Go.Proofs.Ytmjkpgmmfooajaa
set_option maxRecDepth 20000
open Go.RowKit
set_option maxRecDepth 100000

set_option maxHeartbeats 400000 in
theorem refJoin_any (w : World) (va vb : Value) (xs ys : List Int) (ha : Sl w va xs) (hb : Sl w vb ys) (hl : xs.length + ys.length ≤ 500000) :
    Calls Try.prog 36 #[va, vb] w fun e w' => ∃ u, e = .returned u ∧ w'.ownsRow w.heap.size 5 1 u (xs ++ ys).length ((xs ++ ys).map (Value.int .u8)) ∧ u ≠ .slice none 0 0 ∧ Below w.heap.size w w' ∧ w.heap.size < w'.heap.size := by
  obtain ⟨i0, hi, hz0, hz1, hz2⟩ := info_parts infoU8
  have HA := ha.alloc (.cells #[] 5)
  have HB := hb
  obtain ⟨_, ao, cap, rfl, _⟩ := ha
  obtain ⟨_, ao', cap', rfl, _⟩ := hb
  obtain ⟨v1, w1, hr1, ho1, hg1, hn1⟩ := run_append_sl (P := Try.prog) _ w.heap.size 23 23 5 i0 Try.underlying23 hi hz0 hz1 hz2 _ 0 [] (World.ownsRow_made w #[] 0 (Nat.le_refl _) (Nat.zero_le _) rfl) ao xs.length cap xs HA (by omega) (by simp)
  rw [Nat.zero_add, List.nil_append] at ho1
  have hb0 : Below w.heap.size w (w.alloc (.cells #[] 5)) := (Below.refl _ w).alloc (Nat.le_refl _) _
  have hb1 : Below w.heap.size w w1 := hb0.grown hg1 (by simp) (by intro k hk; cases hk; exact Nat.le_refl _)
  have hs1 : w.heap.size + 1 ≤ w1.heap.size := by simpa using hg1.size
  have HB1 := HB.below hb1
  obtain ⟨v2, w2, hr2, ho2, hg2, hn2⟩ := run_append_sl (P := Try.prog) w1 w.heap.size 23 23 5 i0 Try.underlying23 hi hz0 hz1 hz2 v1 xs.length _ ho1 ao' ys.length cap' ys HB1 (by omega) (by omega)
  have hb2 : Below w.heap.size w w2 := hb1.grown hg2 (by omega) (fun k hk => (ho1.lt k hk).1)
  have HR1 := hide hr1
  have HR2 := hide hr2
  clear hr1 hr2
  go_enter Try.func36, Try.ntmps36
  go_wp2_with (first
    | (at_builtin; refine wpList_append_run _ rfl (.tmp 7) (.tmp 8) 23 rfl _ _ rfl rfl _ _ HR1.out ?_)
    | (at_builtin; refine wpList_append_run _ rfl (.tmp 10) (.tmp 11) 23 rfl _ _ rfl rfl _ _ HR2.out ?_))
  go_ret
  refine ⟨_, rfl, ?_, hn2 (hn1 (by simp)), hb2, by have := hg2.size; omega⟩
  simpa using ho2

end Go.Proofs.Ytmjkpgmmfooajaa
