/- Contract: package extent's Same. -/
import Derived.Test.YtibgkmbdnelbeaaDoorEFirst
import Derived.Test.YtibgkmbdnelbeaaDoorRegion
import Derived.Test.YtibgkmbdnelbeaaDoorRegionL
namespace Go.Proofs.YtibgkmbdnelbeaaDoor
set_option maxRecDepth 20000
open Go.RowKit
set_option linter.unusedVariables false

theorem exec_eql_agg {P : Program} {o : Oper} {a : Act} {w : World} (t t' : TypeId) (x y : Operand) (ho : o.op = .binOp .eql t x y t') (xs ys : Array Value) (hx : a.eval x = .agg xs) (hy : a.eval y = .agg ys) (hm : P.eqGuardType P.depth t = false) (b : Bool)
    (hr : (binOp .eql t (.agg xs) (.agg ys)).run P w = .ok (.bool b) w) : (execOp a.eval o).run P w = .ok (.value (.bool b)) w := by
  unfold execOp
  simp only [ho, hx, hy, Sem.run_bind, run_eqGuard_agg w .eql t x y xs ys hm, Result.andThen_ok, hr, Sem.run_pure]
theorem guardSet : Tryd.prog.eqGuardType Tryd.prog.depth 54 = false := by kernel_rfl
section
variable (w : World) (b n : Nat) (f : Nat → Bool)
theorem same_any (c m : Nat) (g : Nat → Bool) (h : SetB w b n f) (k : SetB w c m g) : Calls Tryd.prog 26 #[dp b, dp c] w fun e w' => ∃ r : Bool, e = .returned (.bool r) ∧ (r = true ↔ n = m ∧ ∀ p, f p = g p) ∧ Below w.heap.size w w' := by
  have HM1 := made_cell w b n h.c0
  rw [decide_eq_true (show 0 < n from h.lo)] at HM1
  have HM1 := hide HM1
  have HM2 := made_cell w c m k.c0
  rw [decide_eq_true (show 0 < m from k.lo)] at HM2
  have HM2 := hide HM2
  obtain ⟨r, hr, hiff⟩ := run_eql_set n m f g h.out k.out h.hi k.hi
  have HI := hide hiff
  have HRR := hide hr
  have HR1 : Hid (∀ wx, Below w.heap.size w wx → wx.rangeAt b 0 (sc n f)) := fun wx hb => (h.blk.below hb h.lt).range 0 (sc n f) (fun j _ => by rw [Nat.zero_add])
  have HR2 : Hid (∀ wx, Below w.heap.size w wx → wx.rangeAt c 0 (sc m g)) := fun wx hb => (k.blk.below hb k.lt).range 0 (sc m g) (fun j _ => by rw [Nat.zero_add])
  have HZ1 : Hid ((Tryd.prog.info? 54).map (·.size) = some (sc n f).length) := by show _ = _; rw [sc_len]; exact sizeSet
  have HZ2 : Hid ((Tryd.prog.info? 54).map (·.size) = some (sc m g).length) := by show _ = _; rw [sc_len]; exact sizeSet
  clear h k hr hiff
  go_enter Tryd.func26, Tryd.ntmps26
  go_wp2_with (first
    | (go_at_call_of 31 (dp b); refine HM1.out.mono ?_; rintro e w1 ⟨rfl, hw⟩; subst w1; clear HM1)
    | (go_at_call_of 31 (dp c); refine HM2.out.mono ?_; rintro e w1 ⟨rfl, hw⟩; subst w1; clear HM2))
  refine wp_region_facts (FL [isV (.pointer (some ⟨b, 0, none⟩)), isV (.pointer (some ⟨b, 0, none⟩)), isV (.agg (sc n f).toArray), isV (.pointer (some ⟨c, 0, none⟩)), isV (.pointer (some ⟨c, 0, none⟩)), isV (.agg (sc m g).toArray), isV (.bool r), isV (.bool r)]) 25 (by kernel_rfl) (by kernel_rfl) (by kernel_rfl) rfl (FL_stable _ (by repeat (first | exact trivial | refine ⟨stable_isV _, ?_⟩))) ?_ ?_
  · refine ⟨?_, ?_, ?_, ?_, ?_, ?_, ?_, ?_, trivial⟩
    · intro act wx h
      have e0 : act.eval (.tmp 0) = .pointer (some ⟨b, 0, none⟩) := h.old 0 (by kernel_rfl)
      have hbel := h.below
      clear h
      refine gives_by rfl act.eval rfl ?_
      generalize act.eval = ρ at *
      intro hf hc
      go_simp
      exact ⟨Below.refl _ _, rfl⟩
    · intro act wx h
      obtain ⟨v18, e18, f18⟩ := h.val 0 18 (by kernel_rfl)
      obtain rfl : v18 = .pointer (some ⟨b, 0, none⟩) := f18
      have hbel := h.below
      clear h
      refine gives_by rfl act.eval rfl ?_
      generalize act.eval = ρ at *
      intro hf hc
      go_simp
      exact ⟨Below.refl _ _, rfl⟩
    · intro act wx h
      obtain ⟨v19, e19, f19⟩ := h.val 1 19 (by kernel_rfl)
      obtain rfl : v19 = .pointer (some ⟨b, 0, none⟩) := f19
      have hbel := h.below
      clear h
      exact gives_of_run rfl (exec_load_mid 54 (.tmp 19) rfl b 0 e19 (sc n f) _ (HR1.out wx hbel) Tryd.underlying54 rfl HZ1.out) ⟨Below.refl _ _, rfl⟩
    · intro act wx h
      have e1 : act.eval (.tmp 1) = .pointer (some ⟨c, 0, none⟩) := h.old 1 (by kernel_rfl)
      have hbel := h.below
      clear h
      refine gives_by rfl act.eval rfl ?_
      generalize act.eval = ρ at *
      intro hf hc
      go_simp
      exact ⟨Below.refl _ _, rfl⟩
    · intro act wx h
      obtain ⟨v21, e21, f21⟩ := h.val 3 21 (by kernel_rfl)
      obtain rfl : v21 = .pointer (some ⟨c, 0, none⟩) := f21
      have hbel := h.below
      clear h
      refine gives_by rfl act.eval rfl ?_
      generalize act.eval = ρ at *
      intro hf hc
      go_simp
      exact ⟨Below.refl _ _, rfl⟩
    · intro act wx h
      obtain ⟨v22, e22, f22⟩ := h.val 4 22 (by kernel_rfl)
      obtain rfl : v22 = .pointer (some ⟨c, 0, none⟩) := f22
      have hbel := h.below
      clear h
      exact gives_of_run rfl (exec_load_mid 54 (.tmp 22) rfl c 0 e22 (sc m g) _ (HR2.out wx hbel) Tryd.underlying54 rfl HZ2.out) ⟨Below.refl _ _, rfl⟩
    · intro act wx h
      obtain ⟨v20, e20, f20⟩ := h.val 2 20 (by kernel_rfl)
      obtain rfl : v20 = .agg (sc n f).toArray := f20
      obtain ⟨v23, e23, f23⟩ := h.val 5 23 (by kernel_rfl)
      obtain rfl : v23 = .agg (sc m g).toArray := f23
      have hbel := h.below
      clear h
      exact gives_of_run rfl (exec_eql_agg 54 54 (.tmp 20) (.tmp 23) rfl _ _ e20 e23 guardSet _ (HRR.out wx)) ⟨Below.refl _ _, rfl⟩
    · intro act wx h
      obtain ⟨v24, e24, f24⟩ := h.val 6 24 (by kernel_rfl)
      obtain rfl : v24 = .bool r := f24
      have hbel := h.below
      clear h
      refine gives_by rfl act.eval rfl ?_
      generalize act.eval = ρ at *
      intro hf hc
      go_simp
      exact ⟨Below.refl _ _, rfl⟩
  · intro vals w2 hb2 hv
    have hv7 : vals 7 = .bool r := hv 7 4 (by kernel_rfl)
    clear hv
    generalize hact : putAll _ vals 0 _ = act
    have HB2 := hide hb2
    clear hb2
    subst hact
    simp only [putAll, Act.put, List.setIfInBounds_toArray, List.set_cons_zero, List.set_cons_succ, hv7]
    go_wp2
    go_ret
    exact ⟨r, rfl, HI.out, HB2.out⟩
/-- of sets that no call made -/
theorem same_nils : Calls Tryd.prog 26 #[.pointer none, .pointer none] w fun e w' => e = .returned (.bool true) ∧ w' = w := by
  go_enter Tryd.func26, Tryd.ntmps26
  go_wp2_with (go_at_call 31; refine (made_nil w).mono ?_; rintro e w1 ⟨rfl, hw⟩; subst w1)
  go_ret
  exact ⟨rfl, rfl⟩
theorem same_nil (P : Addr) (bp : Bool) (hp : Calls Tryd.prog 31 #[.pointer (some P)] w fun e w' => e = .returned (.bool bp) ∧ w' = w) :
    Calls Tryd.prog 26 #[.pointer (some P), .pointer none] w fun e w' => e = .returned (.bool (!bp)) ∧ w' = w := by
  have HP := hide hp
  clear hp
  cases bp
  · go_enter Tryd.func26, Tryd.ntmps26
    go_wp2_with (first
      | (go_at_call_of 31 (Value.pointer (some P)); refine HP.out.mono ?_; rintro e w1 ⟨rfl, hw⟩; subst w1)
      | (go_at_call_of 31 (Value.pointer none); refine (made_nil w).mono ?_; rintro e w1 ⟨rfl, hw⟩; subst w1))
    go_ret
    exact ⟨rfl, rfl⟩
  · go_enter Tryd.func26, Tryd.ntmps26
    go_wp2_with (first
      | (go_at_call_of 31 (Value.pointer (some P)); refine HP.out.mono ?_; rintro e w1 ⟨rfl, hw⟩; subst w1)
      | (go_at_call_of 31 (Value.pointer none); refine (made_nil w).mono ?_; rintro e w1 ⟨rfl, hw⟩; subst w1))
    go_ret
    exact ⟨rfl, rfl⟩
end

end Go.Proofs.YtibgkmbdnelbeaaDoor
