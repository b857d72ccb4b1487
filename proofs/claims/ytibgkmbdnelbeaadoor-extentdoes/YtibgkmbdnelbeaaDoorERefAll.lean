/- Contract: the document's own set: All. -/
import Derived.Test.YtibgkmbdnelbeaaDoorERef
namespace Go.Proofs.YtibgkmbdnelbeaaDoor
set_option maxRecDepth 20000
open Go.RowKit
set_option linter.unusedVariables false
set_option maxRecDepth 100000

theorem run_append_int2 (w : World) (base : Nat) (v : Value) (zs : List Int) (h : Ints w base v zs) (x : Int) (hl : zs.length + 1 ≤ 1000000) (hb : base ≤ w.heap.size) :
    ∃ v' w', (Builtin.append_ #[37, 37] 37 #[v, .slice (some ⟨w.heap.size, 0, none⟩) 1 1]).run Tryd.prog (w.alloc (.cells #[.int .i64 x] 3)) = .ok v' w' ∧ Ints w' base v' (zs ++ [x]) ∧ Only (fun j => v.ownBlock = some j) w w' := by
  obtain ⟨v', w', hr, h2, h3, _⟩ := run_append_int w base v zs h x hl hb
  exact ⟨v', w', hr, h2, ((Only.refl _ w).alloc _).grown h3 (fun j e _ => e)⟩
theorem pagesF_snoc (f : Nat → Bool) (k : Nat) : ci (pagesF f (k + 1)) = ci (pagesF f k) ++ (if f k = true then [(k : Int)] else []) := by
  rw [pagesF_eq, pagesF_eq, List.range_succ, List.filter_append, List.filter_cons, ci, List.map_append]
  split <;> simp [ci]

set_option maxHeartbeats 1000000 in
theorem refAll_any (w : World) (r g n : Nat) (f : Nat → Bool) (h : RefAt w r g n f) :
    Calls Tryd.prog 35 #[dp r] w fun e w' => ∃ v, e = .returned v ∧ Ints w' w.heap.size v (ci (pagesF f n)) ∧ Below w.heap.size w w' := by
  have hn := h.hi
  have HX := hide h
  clear h
  go_enter Tryd.func35, Tryd.ntmps35
  go_wp2
  go_loopg [3, 4] n (fun gg l iv wr => ∃ k : Nat, gg + k = n ∧ iv = .int .i64 k ∧ Below w.heap.size w wr ∧ w.heap.size ≤ wr.heap.size ∧ Ints wr w.heap.size l (ci (pagesF f k)))
  case atStart =>
    refine ⟨0, rfl, rfl, (Below.refl _ w).alloc (Nat.le_refl _) _, by simp, ?_⟩
    exact ints_lit w [] (by simp [maxLen])
  case round =>
    obtain ⟨k, hk, rfl, hb, hws, ho⟩ := hrel
    have hXr := HX.out.below hb
    have c0 := hXr.c0
    have HB := hide hb
    have hcl : (ci (pagesF f k)).length ≤ k := by rw [ci_length, pagesF_len]; exact cntF_le f k
    cases gk with
    | zero =>
      have hkn : k = n := by omega
      have h1 : ¬ (k : Int) < (n : Int) := by omega
      have HK := hide hkn
      obtain ⟨a2, cap2, rfl⟩ := own_form' ho
      have HO := hide ho
      generalize (ci (pagesF f k)).length = m at *
      clear ho hXr hb hkn
      go_wp2
      go_ret
      rw [← HK.out]
      exact ⟨_, rfl, HO.out, HB.out⟩
    | succ gg =>
      have hki : (k : Int) < (n : Int) := by omega
      have hkn : k < n := by omega
      have cb := hXr.cb k hkn
      have HE := hide (pagesF_snoc f k)
      cases hf : f k with
      | true =>
        rw [hf] at cb HE
        rw [if_pos rfl] at HE
        obtain ⟨v', w', hr, h2, h3'⟩ := run_append_int2 wr w.heap.size _ _ ho (k : Int) (by omega) hws
        rw [← HE.out] at h2
        obtain ⟨a2, cap2, rfl⟩ := own_form' ho
        have HR := hide hr
        have HO2 := hide h2
        have HO3 := hide h3'
        have HOw := hide ho
        generalize (ci (pagesF f k)).length = m at *
        clear hr h2 ho hXr hb h3' hf
        go_wp2_with (at_builtin; (with_reducible refine wpList_append_run _ rfl (.tmp 22) (.tmp 24) 37 rfl _ _ ?_ ?_ _ _ HR.out ?_); exact rfl; exact rfl; clear HR)
        go_roundg gg
        case measure => omega
        case rel => exact ⟨k + 1, by omega, by go_num, HB.out.trans (HO3.out.below hws (fun j hj e => by have := (World.ownsRow.lt HOw.out j e).1; omega)), Nat.le_trans hws HO3.out.size, HO2.out⟩
      | false =>
        rw [hf] at cb HE
        rw [if_neg (by decide), List.append_nil] at HE
        have HO := hide ho
        clear ho hXr hb hf
        go_wp2
        go_roundg gg
        case measure => omega
        case rel => exact ⟨k + 1, by omega, by go_num, HB.out, hws, by rw [HE.out]; exact HO.out⟩

end Go.Proofs.YtibgkmbdnelbeaaDoor
