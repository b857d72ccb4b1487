/- Contracts: bytes.Clone and pack.Read, of bytes of up to a million. -/
import Derived.Test.YtmjkpgmmfooajaaNRd
namespace Go.Proofs.Ytmjkpgmmfooajaa
set_option maxRecDepth 20000
open Go.RowKit
set_option linter.unusedVariables false

theorem cloneM_any (w : World) (v : Value) (zs : List Int) (h : Sl w v zs) (hl : zs.length ≤ 1000000) :
    Calls Try.prog 44 #[v] w fun e w' => ∃ u, e = .returned u ∧ w'.ownsRow w.heap.size 5 1 u zs.length (zs.map (Value.int .u8)) ∧ Below w.heap.size w w' := by
  obtain ⟨i0, hi, hz0, hz1, hz2⟩ := info_parts infoU8
  have HA := h.alloc (.cells #[] 5)
  obtain ⟨_, ao, cap, rfl, hcap, _, hnil, _⟩ := h
  cases ao with
  | none =>
    obtain rfl := hnil rfl
    obtain rfl : zs = [] := List.eq_nil_of_length_eq_zero (by omega)
    have heq := fun wx => Lib.run_eql_slice_nil (P := Try.prog) wx 23 5 none 0 0 0 0 Try.underlying23
    go_enter Try.func44, Try.ntmps44
    go_wp2
    go_ret
    exact ⟨_, rfl, ⟨rfl, .inl ⟨rfl, rfl⟩⟩, Below.refl _ _⟩
  | some x =>
    have heq := fun wx => Lib.run_eql_slice_nil (P := Try.prog) wx 23 5 (some x) zs.length cap 0 0 Try.underlying23
    obtain ⟨v1, w1, hr1, ho1, hg1, hn1⟩ := run_append_sl (P := Try.prog) _ w.heap.size 23 23 5 i0 Try.underlying23 hi hz0 hz1 hz2 _ 0 [] (World.ownsRow_made w #[] 0 (Nat.le_refl _) (Nat.zero_le _) rfl) (some x) zs.length cap zs HA (by omega) (by simp)
    rw [Nat.zero_add, List.nil_append] at ho1
    have hb0 : Below w.heap.size w (w.alloc (.cells #[] 5)) := (Below.refl _ w).alloc (Nat.le_refl _) _
    have hb1 : Below w.heap.size w w1 := hb0.grown hg1 (by simp) (by intro k hk; cases hk; exact Nat.le_refl _)
    have HR1 := hide hr1
    clear hr1 HA
    go_enter Try.func44, Try.ntmps44
    go_wp2_with (at_builtin; refine wpList_append_run _ rfl (.tmp 5) (.tmp 6) 23 rfl _ _ rfl rfl _ _ HR1.out ?_)
    go_ret
    exact ⟨_, rfl, ho1, hb1⟩

set_option maxHeartbeats 400000 in
theorem readM_any (w : World) (v : Value) (zs : List Int) (h : Sl w v zs) (hl : zs.length ≤ 1000000) :
    Calls Try.prog 38 #[v] w fun e w' => ∃ b u, e = .returned (.pointer (some ⟨b, 0, none⟩)) ∧ w.heap.size ≤ b ∧ Rd w' b u zs 0 ∧ Fresh w.heap.size w' u ∧ Below w.heap.size w w' := by
  have HC := cloneM_any w v zs h hl
  have hby := h.bytes
  have HL := hide h
  obtain ⟨_, ao, cap, rfl, _⟩ := h
  go_enter Try.func38, Try.ntmps38
  go_wp2_with (go_at_call 44; refine HC.mono ?_; rintro e w1 ⟨u, rfl, hown, hb⟩; have hf := own_fresh hown; have hs := sl_of_own_len hown hby; have hs' := hide hs; clear hown; obtain ⟨_, ao', cap', rfl, _⟩ := hs)
  go_ret
  have hz := hb.size
  refine ⟨w1.heap.size, .slice ao' zs.length cap', rfl, hz, ⟨heap_alloc_new w1 _, hs'.out.alloc _, fun k hk => ?_⟩, fun k hk => ?_, hb.alloc hz _⟩
  · have := hf k hk
    simp
    omega
  · have := hf k hk
    simp
    omega

end Go.Proofs.Ytmjkpgmmfooajaa
