/- Contract: what a page shows (Read). -/
import Derived.Test.YtoplhehcjgldeaaDPage
namespace Go.Proofs.Ytoplhehcjgldeaa
open Go.RowKit
set_option linter.unusedVariables false

theorem sizePage : (Try.prog.info? 76).map (·.size) = some 256 := by kernel_rfl
theorem zeroPageRun (w : World) : (zeroValue 76).run Try.prog w = .ok (.agg pageZero) w := by kernel_rfl
theorem pageZero_size : pageZero.size = 256 := Array.size_replicate
theorem sizeWrite : (Try.prog.info? 78).map (·.size) = some 257 := by kernel_rfl

theorem zeroInt (w : World) : (zeroValue 3).run Try.prog w = .ok (.int .i64 0) w := by kernel_rfl
theorem keyedInt : Maps.Keyed Try.prog 3 := Maps.int_keyed Try.underlying3
theorem keyInt (p : Nat) (h : p ≤ 1000000) : keyOf Try.prog 3 (.int .i64 p) = some (.int .i64 p) := Maps.keyOf_int_mk Try.underlying3 (WalkArith.wf_i64 (by omega))

/-- facts for an array that is read, and laid into a new block -/
theorem page_facts {r : List Int} (h : PageOk r) : ((Try.prog.info? 76).map (·.size) = some (pc r).length) ∧ ((Try.prog.info? 76).map (·.size) = some (pc r).toArray.size) ∧ pageZero.size = (pc r).toArray.size ∧ (pc r).toArray.all (·.oneCell') = true := by
  have hl : (pc r).length = 256 := by rw [pc_len]; exact h.1
  exact ⟨by rw [hl]; exact sizePage, by rw [List.size_toArray, hl]; exact sizePage, pageZero_size.trans (by rw [List.size_toArray, hl]), all_oneCell_toArray (pc_one r)⟩

set_option maxHeartbeats 1000000 in
theorem read_ok (w : World) (b : Nat) (F : Nat → Prop) (d : Dv) (p : Nat) (h : Dev w b F d) (hp : p < d.st.length) (hon : d.off = false) :
    Calls Try.prog 17 #[dp b, .int .i64 p] w fun e w' => e = .returned (.tuple #[.slice (some ⟨w.heap.size, 0, none⟩) 256 256, .int .i64 0]) ∧ Blk w' w.heap.size 76 (pc (showsD d p)) ∧ Below w.heap.size w w' := by
  obtain ⟨sb, cap, mb, vw, lf, D, h⟩ := h
  have c0 := h.blk.c0
  have c1 := h.blk.c1
  have c2 := h.blk.c2
  have c3 := h.blk.c3
  have hbl := Blk.lt h.blk
  rw [hon] at c3
  have hpi : (p : Int) < (d.st.length : Int) := by omega
  have HM : Hid (Calls Try.prog _ _ w _) := made_any w b _ cap _ c0
  rw [decide_eq_true h.ok.pos] at HM
  have HH := hide (has_yes w b _ cap _ (p : Int) c0 (by omega) hpi)
  have hl := (own_blk h.st).2
  have hm := hl.2.1
  have hfew := h.ok.few
  unfold maxLen at hm
  have hR := own_range h.st (p * 256) (pc (sAt d.st p)) (flatS_get h.ok.st hp)
  obtain ⟨z1, z2, z3, z4⟩ := page_facts (h.ok.row hp)
  have hza := zeroPageRun
  have HX := hide h
  have HR := hide hR
  have HZ1 := hide z1
  have HZ2 := hide z2
  have HZ3 := hide z3
  have HZ4 := hide z4
  have HK := hide (keyInt p (by omega))
  have HMP := hide h.map
  have hsh := h.shown p
  have hhas := hsh.1
  have HSH := hide hsh.2
  clear hR z1 z2 z3 z4 hl hsh
  cases hL : lastIx d.ws p with
  | none =>
    rw [hL] at hhas
    have hhas' : Maps.has D (.int .i64 p) = false := hhas
    have HS : Hid (showsD d p = sAt d.st p) := by show showsD d p = _; unfold showsD; rw [hL]
    clear h hhas hL HSH
    go_enter Try.func17, Try.ntmps17
    go_wp2_with (first
      | ((with_reducible refine wpList_load_mid rfl 76 (.tmp 29) rfl sb (p * 256) ?_ (pc (sAt d.st p)) _ HR.out Try.underlying76 rfl HZ1.out ?_); exact rfl)
      | ((with_reducible refine wpList_store_new rfl 76 (.tmp 6) (.tmp 30) rfl pageZero (pc (sAt d.st p)).toArray 76 ?_ ?_ HZ3.out HZ2.out HZ4.out ?_); exact rfl; exact rfl)
      | (at_lookup; refine wpList_lookup_own_ok_int _ rfl _ _ 48 rfl 3 3 .i64 keyedInt Try.underlying48 Try.underlying3 (zeroInt _) mb _ D rfl (HMP.out.alloc _) _ _ rfl HK.out ?_; intro c hat hwc; clear hat hwc HK)
      | (go_at_call 42; refine HM.out.mono ?_; rintro e w1 ⟨rfl, hw⟩; subst w1; clear HM)
      | (go_at_call 43; refine HH.out.mono ?_; rintro e w1 ⟨rfl, hw⟩; subst w1; clear HH))
    go_ret2
    rw [HS.out]
    exact ⟨rfl, Blk.new w _ _, (Below.refl _ w).alloc (Nat.le_refl _) _⟩
  | some i =>
    rw [hL] at hhas
    have hhas' : Maps.has D (.int .i64 p) = true := hhas
    obtain ⟨hi, hip⟩ := lastIx_lt _ _ _ hL
    have HS : Hid (showsD d p = (wAt d.ws i).2) := by show showsD d p = _; unfold showsD; rw [hL]
    have HA := hide (HSH.out i hL)
    have hii : (i : Int) < (d.ws.length : Int) := by omega
    rcases own_form h.ws with ⟨_, h0⟩ | ⟨g, capw, rfl⟩
    · omega
    have hlw := (own_blk h.ws).2
    have hmw := hlw.2.1
    have hmw1 := hlw.1
    unfold maxLen at hmw
    have hR2 := hide ((World.rangeAt_alloc (own_range h.ws (i * 257 + 1) (pc (wAt d.ws i).2) (flatW_bytes (fun x hx => (h.ok.ws x hx).2) hi)) (.cells (pc (sAt d.st p)).toArray 76)))
    obtain ⟨z1, z2, z3, z4⟩ := page_facts (h.ok.wait hi).2
    have hs2 : (pc (sAt d.st p)).toArray.size = (pc (wAt d.ws i).2).toArray.size := by rw [← HZ3.out, z3]
    have HY1 := hide z1
    have HY2 := hide z2
    have HY3 := hide hs2
    have HY4 := hide z4
    clear h hhas hL HSH z1 z2 z3 z4 hlw hs2 hip
    go_enter Try.func17, Try.ntmps17
    go_wp2_with (first
      | ((with_reducible refine wpList_load_mid rfl 76 (.tmp 29) rfl sb (p * 256) ?_ (pc (sAt d.st p)) _ HR.out Try.underlying76 rfl HZ1.out ?_); exact rfl)
      | ((with_reducible refine wpList_load_mid rfl 76 (.tmp 47) rfl g (i * 257 + 1) ?_ (pc (wAt d.ws i).2) _ hR2.out Try.underlying76 rfl HY1.out ?_); exact rfl)
      | ((with_reducible refine wpList_store_new rfl 76 (.tmp 6) (.tmp 30) rfl pageZero (pc (sAt d.st p)).toArray 76 ?_ ?_ HZ3.out HZ2.out HZ4.out ?_); exact rfl; exact rfl)
      | ((with_reducible refine wpList_store_new rfl 76 (.tmp 6) (.tmp 48) rfl (pc (sAt d.st p)).toArray (pc (wAt d.ws i).2).toArray 76 ?_ ?_ HY3.out HY2.out HY4.out ?_); exact rfl; exact rfl)
      | (at_lookup; refine wpList_lookup_own_ok_int _ rfl _ _ 48 rfl 3 3 .i64 keyedInt Try.underlying48 Try.underlying3 (zeroInt _) mb _ D rfl (HMP.out.alloc _) _ _ rfl HK.out ?_; intro c hat hwc; obtain rfl : c = (i : Int) := (by have := hat.symm.trans HA.out; simpa using this); clear hat hwc HK HA)
      | (go_at_call 42; refine HM.out.mono ?_; rintro e w1 ⟨rfl, hw⟩; subst w1; clear HM)
      | (go_at_call 43; refine HH.out.mono ?_; rintro e w1 ⟨rfl, hw⟩; subst w1; clear HH))
    go_ret2
    rw [HS.out]
    exact ⟨rfl, Blk.new w _ _, (Below.refl _ w).alloc (Nat.le_refl _) _⟩

end Go.Proofs.Ytoplhehcjgldeaa
