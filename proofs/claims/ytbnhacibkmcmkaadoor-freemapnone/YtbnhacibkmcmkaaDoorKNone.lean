/- Contracts: a map that no call made. -/
import Derived.Test.YtbnhacibkmcmkaaDoorKLive
namespace Go.Proofs.YtbnhacibkmcmkaaDoor
set_option maxRecDepth 20000
open Go.RowKit Go.Shelf
set_option linter.unusedVariables false
set_option maxRecDepth 100000
attribute [local go_sem] Oper.semAt_some

/-- nil, or a zero struct -/
def UMM (w : World) (pv : Option Addr) : Prop := pv = none ∨ ∃ b, pv = some ⟨b, 0, none⟩ ∧ w.cell? ⟨b, 0, none⟩ = some (.pointer none)
theorem UMM.below {w w' : World} {pv : Option Addr} (h : UMM w pv) (hb : Below w.heap.size w w') : UMM w' pv := by
  rcases h with rfl | ⟨b, rfl, h⟩
  · exact .inl rfl
  · exact .inr ⟨b, rfl, (hb.cell (p := ⟨b, 0, none⟩) (World.block_lt_of_cell? _ _ h)).trans h⟩
theorem UMM.made {w : World} {pv : Option Addr} (h : UMM w pv) : Calls Tryd.prog 52 #[.pointer pv] w fun e w' => e = .returned (.bool false) ∧ w' = w := by
  rcases h with rfl | ⟨b, rfl, h⟩
  · exact mmade_nil w
  · exact mmade_zero w b h
section
variable {w : World} {pv : Option Addr}
theorem UMM.free (h : UMM w pv) (p : Int) : Calls Tryd.prog 25 #[.pointer pv, .int .i64 p] w fun e w' => e = .returned (.int .i64 2) ∧ w' = w := by
  have HM := hide h.made
  go_enter Tryd.func25, Tryd.ntmps25
  go_wp2_with (go_at_call 52; refine HM.out.mono ?_; rintro e w1 ⟨rfl, hw⟩; subst w1; clear HM)
  go_ret
  exact ⟨rfl, rfl⟩
theorem UMM.commit (h : UMM w pv) : Calls Tryd.prog 30 #[.pointer pv] w fun e w' => e = .returned (.int .i64 2) ∧ w' = w := by
  have HM := hide h.made
  go_enter Tryd.func30, Tryd.ntmps30
  go_wp2_with (go_at_call 52; refine HM.out.mono ?_; rintro e w1 ⟨rfl, hw⟩; subst w1; clear HM)
  go_ret
  exact ⟨rfl, rfl⟩
theorem UMM.abort (h : UMM w pv) : Calls Tryd.prog 26 #[.pointer pv] w fun e w' => e = .returned (.int .i64 2) ∧ w' = w := by
  have HM := hide h.made
  go_enter Tryd.func26, Tryd.ntmps26
  go_wp2_with (go_at_call 52; refine HM.out.mono ?_; rintro e w1 ⟨rfl, hw⟩; subst w1; clear HM)
  go_ret
  exact ⟨rfl, rfl⟩
theorem UMM.has (h : UMM w pv) (p : Int) : Calls Tryd.prog 36 #[.pointer pv, .int .i64 p] w fun e w' => e = .returned (.bool false) ∧ w' = w := by
  have HM := hide h.made
  go_enter Tryd.func36, Tryd.ntmps36
  go_wp2_with (go_at_call 52; refine HM.out.mono ?_; rintro e w1 ⟨rfl, hw⟩; subst w1; clear HM)
  go_ret
  exact ⟨rfl, rfl⟩
theorem UMM.mine (h : UMM w pv) (p : Int) : Calls Tryd.prog 37 #[.pointer pv, .int .i64 p] w fun e w' => e = .returned (.bool false) ∧ w' = w := by
  have HM := hide (h.has p)
  go_enter Tryd.func37, Tryd.ntmps37
  go_wp2_with (go_at_call 36; refine HM.out.mono ?_; rintro e w1 ⟨rfl, hw⟩; subst w1; clear HM)
  go_ret
  exact ⟨rfl, rfl⟩
theorem UMM.avail (h : UMM w pv) : Calls Tryd.prog 33 #[.pointer pv] w fun e w' => e = .returned (.int .i64 0) ∧ w' = w := by
  have HM := hide h.made
  go_enter Tryd.func33, Tryd.ntmps33
  go_wp2_with (go_at_call 52; refine HM.out.mono ?_; rintro e w1 ⟨rfl, hw⟩; subst w1; clear HM)
  go_ret
  exact ⟨rfl, rfl⟩
theorem UMM.taken (h : UMM w pv) : Calls Tryd.prog 31 #[.pointer pv] w fun e w' => e = .returned (.slice none 0 0) ∧ w' = w := by
  have HM := hide h.made
  go_enter Tryd.func31, Tryd.ntmps31
  go_wp2_with (go_at_call 52; refine HM.out.mono ?_; rintro e w1 ⟨rfl, hw⟩; subst w1; clear HM)
  go_ret
  exact ⟨rfl, rfl⟩
theorem UMM.clone (h : UMM w pv) : Calls Tryd.prog 23 #[.pointer pv] w fun e w' => e = .returned (.pointer none) ∧ w' = w := by
  have HM := hide h.made
  go_enter Tryd.func23, Tryd.ntmps23
  go_wp2_with (go_at_call 52; refine HM.out.mono ?_; rintro e w1 ⟨rfl, hw⟩; subst w1; clear HM)
  go_ret
  exact ⟨rfl, rfl⟩
theorem UMM.held (h : UMM w pv) : Calls Tryd.prog 32 #[.pointer pv] w fun e w' => e = .returned (.int .i64 0) ∧ Below w.heap.size w w' := by
  have hb : Below w.heap.size w (w.alloc (.cells #[.pointer pv] 37)) := (Below.refl _ w).alloc (Nat.le_refl _) _
  have HM := hide (h.below hb).made
  have HB := hide hb
  clear hb
  refine (callsIn_wide (n := 3)).1 ?_
  refine callsIn_of_wp_marks Tryd.func32 rfl trivial ?_ rfl
  simp only [Tryd.ntmps32, List.size_toArray, List.length_cons, List.length_nil, Nat.reduceAdd, Nat.reduceSub, Array.replicate_succ, Array.replicate_zero, List.push_toArray, List.append_toArray, List.nil_append, List.cons_append]
  gi_wp2_with (first
    | (refine ⟨trivial, ?_⟩; gi_at_call 52; refine (callsIn_wide.2 HM.out).mono ?_; rintro e w1 ⟨rfl, hw⟩; subst w1; clear HM))
  exact ⟨_, results_tmp (t := 2) rfl _ _ _, rfl, HB.out⟩
theorem UMM.run (h : UMM w pv) (K : Int) : Calls Tryd.prog 29 #[.pointer pv, .int .i64 K] w fun e w' => e = .returned (.tuple #[.int .i64 0, .int .i64 2]) ∧ Below w.heap.size w w' := by
  have hb : Below w.heap.size w (w.alloc (.cells #[.int .i64 K] 3)) := (Below.refl _ w).alloc (Nat.le_refl _) _
  have HM := hide (h.below hb).made
  have HB := hide hb
  clear hb
  refine (callsIn_wide (n := 3)).1 ?_
  refine callsIn_of_wp_marks Tryd.func29 rfl trivial ?_ rfl
  simp only [Tryd.ntmps29, List.size_toArray, List.length_cons, List.length_nil, Nat.reduceAdd, Nat.reduceSub, Array.replicate_succ, Array.replicate_zero, List.push_toArray, List.append_toArray, List.nil_append, List.cons_append]
  gi_wp2
  refine wpIn_wide.2 ?_
  apply wp_scope_straight
  refine (wpIn_wide (n := 3)).1 ?_
  gi_wp2_with (first
    | (refine ⟨trivial, ?_⟩; gi_at_call 52; refine (callsIn_wide.2 HM.out).mono ?_; rintro e w1 ⟨rfl, hw⟩; subst w1; clear HM))
  rw [Exit.noGoto_ret]
  exact ⟨_, results_tmp2 (t := 4) (u := 5) rfl _ _ _, rfl, HB.out⟩
theorem UMM.alloc (h : UMM w pv) : Calls Tryd.prog 24 #[.pointer pv] w fun e w' => e = .returned (.tuple #[.int .i64 0, .int .i64 2]) ∧ Below w.heap.size w w' := by
  have HM := hide (h.run 1)
  go_enter Tryd.func24, Tryd.ntmps24
  go_wp2_with (go_at_call 29; refine HM.out.mono ?_; rintro e w1 ⟨rfl, hb⟩; have HB := hide hb; clear HM hb)
  go_ret2
  exact ⟨rfl, HB.out⟩
end
def NoMV (Bs : Nat) (pv : Option Addr) (k : Nat) (W : World) : Prop := k = 0 → W.cell? ⟨Bs, 0, none⟩ = some (.pointer pv) ∧ UMM W pv
theorem mall_iter_none (Bs : Nat) (pv : Option Addr) : Iter2 Tryd.prog 60 #[.pointer (some ⟨Bs, 0, none⟩)] encP [] (NoMV Bs pv) := by
  intro l J Jx hJ hJx hV hY Y W h0
  obtain ⟨hc, hu⟩ := hV Y 0 W h0 rfl
  have hb : Below W.heap.size W (W.alloc (.cells #[.func (.yield l) #[] #[]] 63)) := (Below.refl _ W).alloc (Nat.le_refl _) _
  have hbs := World.block_lt_of_cell? W _ hc
  have HM := hide (hu.below hb).made
  have c1 : (W.alloc (.cells #[.func (.yield l) #[] #[]] 63)).cell? ⟨Bs, 0, none⟩ = some (.pointer pv) := (hb.cell (p := ⟨Bs, 0, none⟩) hbs).trans hc
  have HF := hide (hJ Y 0 W _ h0 (only_of_below hb))
  have hne : ¬ Bs = W.heap.size := by have : Bs < W.heap.size := hbs; omega
  clear hJ hJx hV hY h0 hu hb hbs
  refine callsIn_wide.2 ((callsIn_wide (n := 3)).1 ?_)
  refine callsIn_of_wp_marks Tryd.func60 rfl trivial ?_ rfl
  simp only [Tryd.ntmps60, List.size_toArray, List.length_cons, List.length_nil, Nat.reduceAdd, Nat.reduceSub, Array.replicate_succ, Array.replicate_zero, List.push_toArray, List.append_toArray, List.nil_append, List.cons_append]
  gi_wp2_with (first
    | (refine ⟨trivial, ?_⟩; gi_at_call 52; refine (callsIn_wide.2 HM.out).mono ?_; rintro e w1 ⟨rfl, hw⟩; subst w1; clear HM))
  exact ⟨_, results_none rfl _ _ _, ⟨_, rfl⟩, _, .inl HF.out⟩
theorem UMM.told {w : World} {pv : Option Addr} (h : UMM w pv) (M : Nat) (hM : M ≤ 2000000) : Calls Tryd.prog 34 #[.func (.func 60) #[] #[.pointer (some ⟨w.heap.size, 0, none⟩)], .int .i64 M] (w.alloc (.cells #[.pointer pv] 37)) fun e w' => ∃ ao cap, e = .returned (.slice ao 0 cap) ∧ Below w.heap.size w w' := by
  have hb : Below w.heap.size w (w.alloc (.cells #[.pointer pv] 37)) := (Below.refl _ w).alloc (Nat.le_refl _) _
  refine (told_any _ 60 #[.pointer (some ⟨w.heap.size, 0, none⟩)] [] (NoMV w.heap.size pv) enters_mall (mall_iter_none _ _) (fun k W' ho _ => ⟨((Blk.new w 37 [.pointer pv]).only ho (fun h => h)).cell 0, (h.below hb).below (ho.below (Nat.le_refl _) (fun _ _ h => h))⟩) (by decide) M hM).mono ?_
  rintro e w' ⟨v, rfl, hi, hb2⟩
  obtain ⟨ao, cap, rfl⟩ := hi.shape
  exact ⟨ao, cap, by simp [ci], below_on hb hb2⟩

end Go.Proofs.YtbnhacibkmcmkaaDoor
