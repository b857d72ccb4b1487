/- Contracts: what the calls answer of a cache that no call made. -/
import Derived.Test.YtoplhehcjgldeaaCTold
import Derived.Test.YtoplhehcjgldeaaCLive
namespace Go.Proofs.Ytoplhehcjgldeaa
open Go.RowKit Go.Shelf Go.Sort
set_option linter.unusedVariables false
set_option maxRecDepth 100000
attribute [local go_sem] Oper.semAt_some

/-- no cache, or a zero struct -/
def Nil5 (w : World) (pv : Option Addr) : Prop := pv = none ∨ ∃ c, pv = some ⟨c, 0, none⟩ ∧ Blk w c 53 [.pointer none, .int .i64 0, .map none, .slice none 0 0, .int .i64 0, .int .i64 0]
theorem Nil5.below {w w' : World} {pv : Option Addr} (h : Nil5 w pv) (hb : Below w.heap.size w w') : Nil5 w' pv := by
  rcases h with rfl | ⟨c, rfl, hB⟩
  · exact .inl rfl
  · exact .inr ⟨c, rfl, hB.below hb hB.lt⟩
theorem cmade_not (w : World) (pv : Option Addr) (h : Nil5 w pv) : Calls Try.prog 29 #[.pointer pv] w fun e w' => e = .returned (.bool false) ∧ w' = w := by
  rcases h with rfl | ⟨c, rfl, hB⟩
  · exact cmade_nil w
  · exact cmade_zero w c (hB.cell 0)

theorem cget_not (w : World) (pv : Option Addr) (p : Int) (h : Nil5 w pv) : Calls Try.prog 15 #[.pointer pv, .int .i64 p] w fun e w' => e = .returned (.tuple #[.slice none 0 0, .int .i64 2]) ∧ w' = w := by
  have HM := hide (cmade_not w pv h)
  clear h
  go_enter Try.func15, Try.ntmps15
  go_wp2_with (go_at_call 29; refine HM.out.mono ?_; rintro e w1 ⟨rfl, hw⟩; subst w1; clear HM)
  go_ret2
  exact ⟨rfl, rfl⟩
theorem cput_not (w : World) (pv : Option Addr) (p : Int) (v : Value) (h : Nil5 w pv) : Calls Try.prog 10 #[.pointer pv, .int .i64 p, v] w fun e w' => e = .returned (.int .i64 2) ∧ w' = w := by
  have HM := hide (cmade_not w pv h)
  clear h
  go_enter Try.func10, Try.ntmps10
  go_wp2_with (go_at_call 29; refine HM.out.mono ?_; rintro e w1 ⟨rfl, hw⟩; subst w1; clear HM)
  go_ret
  exact ⟨rfl, rfl⟩
theorem cfind_not (w : World) (pv : Option Addr) (p : Int) (h : Nil5 w pv) : Calls Try.prog 44 #[.pointer pv, .int .i64 p] w fun e w' => e = .returned (.tuple #[.pointer none, .int .i64 2]) ∧ w' = w := by
  have HM := hide (cmade_not w pv h)
  clear h
  go_enter Try.func44, Try.ntmps44
  go_wp2_with (go_at_call 29; refine HM.out.mono ?_; rintro e w1 ⟨rfl, hw⟩; subst w1; clear HM)
  go_ret2
  exact ⟨rfl, rfl⟩
theorem cpin_not (w : World) (pv : Option Addr) (p : Int) (h : Nil5 w pv) : Calls Try.prog 18 #[.pointer pv, .int .i64 p] w fun e w' => e = .returned (.int .i64 2) ∧ w' = w := by
  have HM := hide (cfind_not w pv p h)
  clear h
  go_enter Try.func18, Try.ntmps18
  go_wp2_with (go_at_call 44; refine HM.out.mono ?_; rintro e w1 ⟨rfl, hw⟩; subst w1; clear HM)
  go_ret
  exact ⟨rfl, rfl⟩
theorem cunpin_not (w : World) (pv : Option Addr) (p : Int) (h : Nil5 w pv) : Calls Try.prog 22 #[.pointer pv, .int .i64 p] w fun e w' => e = .returned (.int .i64 2) ∧ w' = w := by
  have HM := hide (cfind_not w pv p h)
  clear h
  go_enter Try.func22, Try.ntmps22
  go_wp2_with (go_at_call 44; refine HM.out.mono ?_; rintro e w1 ⟨rfl, hw⟩; subst w1; clear HM)
  go_ret
  exact ⟨rfl, rfl⟩
theorem cforget_not (w : World) (pv : Option Addr) (p : Int) (h : Nil5 w pv) : Calls Try.prog 21 #[.pointer pv, .int .i64 p] w fun e w' => e = .returned (.int .i64 2) ∧ w' = w := by
  have HM := hide (cfind_not w pv p h)
  clear h
  go_enter Try.func21, Try.ntmps21
  go_wp2_with (go_at_call 44; refine HM.out.mono ?_; rintro e w1 ⟨rfl, hw⟩; subst w1; clear HM)
  go_ret
  exact ⟨rfl, rfl⟩
theorem chas_not (w : World) (pv : Option Addr) (p : Int) (h : Nil5 w pv) : Calls Try.prog 19 #[.pointer pv, .int .i64 p] w fun e w' => e = .returned (.bool false) ∧ w' = w := by
  have HM := hide (cfind_not w pv p h)
  clear h
  go_enter Try.func19, Try.ntmps19
  go_wp2_with (go_at_call 44; refine HM.out.mono ?_; rintro e w1 ⟨rfl, hw⟩; subst w1; clear HM)
  go_ret
  exact ⟨rfl, rfl⟩
theorem cheld_not (w : World) (pv : Option Addr) (h : Nil5 w pv) : Calls Try.prog 20 #[.pointer pv] w fun e w' => e = .returned (.slice none 0 0) ∧ w' = w := by
  have HM := hide (cmade_not w pv h)
  clear h
  go_enter Try.func20, Try.ntmps20
  go_wp2_with (go_at_call 29; refine HM.out.mono ?_; rintro e w1 ⟨rfl, hw⟩; subst w1; clear HM)
  go_ret
  exact ⟨rfl, rfl⟩
theorem ccounts_not (w : World) (pv : Option Addr) (h : Nil5 w pv) : Calls Try.prog 24 #[.pointer pv] w fun e w' => e = .returned (.tuple #[.int .i64 0, .int .i64 0]) ∧ w' = w := by
  have HM := hide (cmade_not w pv h)
  clear h
  go_enter Try.func24, Try.ntmps24
  go_wp2_with (go_at_call 29; refine HM.out.mono ?_; rintro e w1 ⟨rfl, hw⟩; subst w1; clear HM)
  go_ret2
  exact ⟨rfl, rfl⟩
theorem crising_not (w : World) (pv : Option Addr) (h : Nil5 w pv) : Calls Try.prog 49 #[.pointer pv] w fun e w' => e = .returned (.slice none 0 0) ∧ w' = w := by
  have HM := hide (cmade_not w pv h)
  clear h
  go_enter Try.func49, Try.ntmps49
  go_wp2_with (go_at_call 29; refine HM.out.mono ?_; rintro e w1 ⟨rfl, hw⟩; subst w1; clear HM)
  go_ret
  exact ⟨rfl, rfl⟩
theorem cdrop_not (w : World) (pv : Option Addr) (h : Nil5 w pv) : Calls Try.prog 23 #[.pointer pv] w fun e w' => e = .returned (.tuple #[]) ∧ w' = w := by
  have HM := hide (cmade_not w pv h)
  clear h
  go_enter Try.func23, Try.ntmps23
  go_wp2_with (go_at_call 29; refine HM.out.mono ?_; rintro e w1 ⟨rfl, hw⟩; subst w1; clear HM)
  (try simp only [Exit.inBlock, Exit.then]); refine bodyPost_ret (results_none rfl _ _ _) rfl ?_
  exact ⟨rfl, rfl⟩

def NilV (Bc : Nat) (pv : Option Addr) (k : Nat) (W : World) : Prop := W.cell? ⟨Bc, 0, none⟩ = some (.pointer pv) ∧ Nil5 W pv
theorem un_not (Bc : Nat) (pv : Option Addr) : Iter Try.prog 53 #[.pointer (some ⟨Bc, 0, none⟩)] enc1 [] (NilV Bc pv) := by
  intro l J Jx hJ hV hY Y W h0
  obtain ⟨hc, hN⟩ := hV Y 0 W h0
  have HR := hide (crising_not W pv hN)
  have H0 := hide h0
  clear hJ hV hY h0 hN
  refine callsIn_of_wp Try.func53 rfl trivial ?_ rfl
  simp only [Try.ntmps53, List.size_toArray, List.length_cons, List.length_nil, Nat.reduceAdd, Nat.reduceSub, Array.replicate_succ, Array.replicate_zero, List.push_toArray, List.append_toArray, List.nil_append, List.cons_append]
  gi_wp2_with (first
    | (refine ⟨trivial, ?_⟩; gi_at_call 49; refine (callsIn_wide.2 HR.out).mono ?_; rintro e W1 ⟨rfl, hw⟩; subst W1; clear HR))
  gi_loopw [4, 8] (fun pp i wr => i = .int .i64 0 ∧ wr = W) (fun _ i _ => 0)
  case atStart => exact ⟨rfl, rfl⟩
  case round =>
    obtain ⟨rfl, rfl⟩ := hrel
    gi_wp2
    go_end0
    exact ⟨⟨_, rfl⟩, Y, .inl H0.out⟩
theorem cchanged_not (w : World) (pv : Option Addr) (h : Nil5 w pv) : Calls Try.prog 13 #[.pointer pv] w fun e w' => ∃ v, e = .returned v ∧ Ints w' w.heap.size v [] ∧ Below w.heap.size w w' := by
  have hb1 : Below w.heap.size w (w.alloc (.cells #[.pointer pv] 27)) := (Below.refl _ w).alloc (Nat.le_refl _) _
  have h1 := h.below hb1
  have hB := Blk.new w 27 [.pointer pv]
  have HC : Hid (Calls Try.prog 37 #[.func (.func 53) #[] #[.pointer (some ⟨w.heap.size, 0, none⟩)]] (w.alloc (.cells #[.pointer pv] 27)) fun e w' => ∃ v, e = .returned v ∧ Ints w' w.heap.size v [] ∧ Below w.heap.size w w') := by
    refine (collect_any _ 53 #[.pointer (some ⟨w.heap.size, 0, none⟩)] [] (NilV w.heap.size pv) enters_un (un_not _ _) (fun k W' ho => ⟨(hB.only ho (fun h => h)).cell 0, h1.below (ho.below (Nat.le_refl _) (fun _ _ h => h))⟩) (Nat.zero_le _)).mono ?_
    rintro e w' ⟨v, rfl, hi, hb'⟩
    exact ⟨v, rfl, hi.base (by simp), after_alloc hb'⟩
  clear h h1 hb1 hB
  go_enter Try.func13, Try.ntmps13
  go_wp2_with (first
    | (go_at_call 35; refine (unwritten_any w pv).mono ?_; rintro e w1 ⟨rfl, hw⟩; subst w1)
    | (go_at_call 37; refine HC.out.mono ?_; rintro e w2 ⟨v2, rfl, hi2, hb2⟩; have HI2 := hide hi2; have HB2 := hide hb2; clear HC hi2 hb2))
  go_ret
  exact ⟨_, rfl, HI2.out, HB2.out⟩
theorem told_not (w w0 : World) (pv : Option Addr) (h : Nil5 w0 pv) (hw : w = w0.alloc (.cells #[.pointer pv] 27)) : Calls Try.prog 25 #[.func (.func 48) #[] #[.pointer (some ⟨w0.heap.size, 0, none⟩)], .int .i64 9] w fun e w' => ∃ cap ao, e = .returned (.slice ao 0 cap) ∧ Below w.heap.size w w' := by
  subst hw
  have hb1 : Below w0.heap.size w0 (w0.alloc (.cells #[.pointer pv] 27)) := (Below.refl _ w0).alloc (Nat.le_refl _) _
  have h1 := h.below hb1
  have hB := Blk.new w0 27 [.pointer pv]
  refine (told_any _ 48 #[.pointer (some ⟨w0.heap.size, 0, none⟩)] (pairs [] []) (AllV w0.heap.size pv [] []) enters_all (all_iter w0.heap.size pv [] [] (Nat.zero_le _) (Nat.zero_le _) List.Pairwise.nil) ?_ (Nat.zero_le _) 9 (by omega)).mono ?_
  · intro k W' ho _ W2 hb2
    have hbW := ho.below (Nat.le_refl _) (fun _ _ h => h)
    have h2 := (h1.below hbW).below hb2
    have hB2 := (hB.only ho (fun h => h)).below hb2 (hB.only ho (fun h => h)).lt
    refine ⟨hB2.cell 0, ?_, cchanged_not W2 pv h2⟩
    refine (crising_not W2 pv h2).mono ?_
    rintro e w' ⟨rfl, rfl⟩
    exact ⟨_, rfl, Ints.nil _ _, Below.refl _ _⟩
  · rintro e w' ⟨v, rfl, ho, hb⟩
    obtain ⟨ao, cap, rfl⟩ := ho.shape
    exact ⟨cap, ao, rfl, hb⟩

theorem cflush_not (w : World) (pv : Option Addr) (h : Nil5 w pv) : Calls Try.prog 12 #[.pointer pv] w fun e w' => e = .returned (.int .i64 2) ∧ Below w.heap.size w w' := by
  have hb2 : Below w.heap.size w ((w.alloc (.cells #[.pointer pv] 27)).alloc (.cells #[.int .i64 0] 24)) := ((Below.refl _ w).alloc (Nat.le_refl _) _).alloc (by simp) _
  have HM := hide (cmade_not _ pv (h.below hb2))
  have q0 : ((w.alloc (.cells #[.pointer pv] 27)).alloc (.cells #[.int .i64 0] 24)).cell? ⟨w.heap.size, 0, none⟩ = some (.pointer pv) := ((Blk.new w 27 [.pointer pv]).alloc _).cell 0
  have hE := Blk.new (w.alloc (.cells #[.pointer pv] 27)) 24 [.int .i64 0]
  rw [World.size_alloc] at hE
  obtain ⟨w2, hw2⟩ : ∃ w2, ((w.alloc (.cells #[.pointer pv] 27)).alloc (.cells #[.int .i64 0] 24)) = w2 := ⟨_, rfl⟩
  have hE' : Blk w2 (w.heap.size + 1) 24 [.int .i64 0] := by rw [← hw2]; exact hE
  have c1 : w2.cell? ⟨w.heap.size + 1, 0, none⟩ = some (.int .i64 0) := hE'.cell 0
  have f1 := hE'.frozen 0
  have hE2 := hE'.set 0 (.int .i64 2)
  have hc : (w2.setCell ⟨w.heap.size + 1, 0, none⟩ (.int .i64 2)).cell? ⟨w.heap.size + 1, 0, none⟩ = some (.int .i64 2) := hE2.cell 0
  have hbb : Below w.heap.size w (w2.setCell ⟨w.heap.size + 1, 0, none⟩ (.int .i64 2)) := by
    refine (hw2 ▸ hb2 : Below w.heap.size w w2).trans (((Only.refl (· = w.heap.size + 1) w2).setCell ⟨w.heap.size + 1, 0, none⟩ _ (fun _ => rfl)).below (by rw [← hw2]; simp; omega) (fun j hj e => by omega))
  rw [hw2] at HM q0
  clear h hb2 hE hE' hE2
  refine (callsIn_wide (n := 3)).1 ?_
  refine callsIn_of_wp_marks Try.func12 rfl trivial ?_ rfl
  simp only [Try.ntmps12, List.size_toArray, List.length_cons, List.length_nil, Nat.reduceAdd, Nat.reduceSub, Array.replicate_succ, Array.replicate_zero, List.push_toArray, List.append_toArray, List.nil_append, List.cons_append]
  gi_wp2_with (first
    | (rw [hw2]; clear hw2)
    | (refine ⟨trivial, ?_⟩; gi_at_call 29; refine (callsIn_wide.2 HM.out).mono ?_; rintro e w1 ⟨rfl, hw⟩; subst w1; clear HM))
  exact ⟨.int .i64 2, by simp [results, Try.f12, go_sem, hc], rfl, hbb⟩

theorem pages_not5 (w : World) (pv : Value) (h : pv = .pointer none ∨ ∃ b cap ao, pv = dp b ∧ w.cell? ⟨b, 0, none⟩ = some (.slice ao 0 cap)) : Calls Try.prog 27 #[pv] w fun e w' => e = .returned (.int .i64 0) ∧ w' = w := by
  have HM : Hid (Calls Try.prog 42 #[pv] w fun e w' => e = .returned (.bool false) ∧ w' = w) := by
    rcases h with rfl | ⟨b, cap, ao, rfl, c0⟩
    · exact made_nil w
    · exact made_any w b 0 cap ao c0
  clear h
  go_enter Try.func27, Try.ntmps27
  go_wp2_with (go_at_call 42; refine HM.out.mono ?_; rintro e w1 ⟨rfl, hw⟩; subst w1; clear HM)
  go_ret
  exact ⟨rfl, rfl⟩
theorem cnew_not (w : World) (pv : Value) (n : Int) (h : pv = .pointer none ∨ ∃ b cap ao, pv = dp b ∧ w.cell? ⟨b, 0, none⟩ = some (.slice ao 0 cap)) : Calls Try.prog 8 #[pv, .int .i64 n] w fun e w' => e = .returned (.tuple #[.pointer none, .int .i64 2]) ∧ w' = w := by
  have HP := hide (pages_not5 w pv h)
  clear h
  go_enter Try.func8, Try.ntmps8
  go_wp2_with (go_at_call 27; refine HP.out.mono ?_; rintro e w1 ⟨rfl, hw⟩; subst w1; clear HP)
  go_ret2
  exact ⟨rfl, rfl⟩

end Go.Proofs.Ytoplhehcjgldeaa
