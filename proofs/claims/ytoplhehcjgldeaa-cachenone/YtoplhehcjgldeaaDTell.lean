/- Contracts: what a device tells: Image, Waits, Pages, Ops, On; what is refused; Arm, Calm. -/
import Derived.Test.YtoplhehcjgldeaaDWrite
namespace Go.Proofs.Ytoplhehcjgldeaa
open Go.RowKit
set_option linter.unusedVariables false

theorem made_dev (w : World) (b : Nat) (F : Nat → Prop) (d : Dv) (h : Dev w b F d) : Calls Try.prog 42 #[dp b] w fun e w' => e = .returned (.bool true) ∧ w' = w := by
  obtain ⟨sb, cap, mb, vw, lf, D, h⟩ := h
  have := made_any w b _ cap _ h.blk.c0
  rw [decide_eq_true h.ok.pos] at this
  exact this
theorem has_dev_yes (w : World) (b : Nat) (F : Nat → Prop) (d : Dv) (h : Dev w b F d) (p : Int) (hp : 0 ≤ p ∧ p < d.st.length) : Calls Try.prog 43 #[dp b, .int .i64 p] w fun e w' => e = .returned (.bool true) ∧ w' = w := by
  obtain ⟨sb, cap, mb, vw, lf, D, h⟩ := h
  exact has_yes w b _ cap _ p h.blk.c0 hp.1 hp.2
theorem has_dev_no (w : World) (b : Nat) (F : Nat → Prop) (d : Dv) (h : Dev w b F d) (p : Int) (hp : ¬ (0 ≤ p ∧ p < d.st.length)) : Calls Try.prog 43 #[dp b, .int .i64 p] w fun e w' => e = .returned (.bool false) ∧ w' = w := by
  obtain ⟨sb, cap, mb, vw, lf, D, h⟩ := h
  exact has_no w b _ cap _ p h.blk.c0 hp

theorem pages_any (w : World) (b : Nat) (F : Nat → Prop) (d : Dv) (h : Dev w b F d) : Calls Try.prog 27 #[dp b] w fun e w' => e = .returned (.int .i64 d.st.length) ∧ w' = w := by
  have HM := hide (made_dev w b F d h)
  obtain ⟨sb, cap, mb, vw, lf, D, h⟩ := h
  have c0 := h.blk.c0
  clear h
  go_enter Try.func27, Try.ntmps27
  go_wp2_with (go_at_call 42; refine HM.out.mono ?_; rintro e w1 ⟨rfl, hw⟩; subst w1; clear HM)
  go_ret
  exact ⟨rfl, rfl⟩
theorem read_arg (w : World) (b : Nat) (F : Nat → Prop) (d : Dv) (p : Int) (h : Dev w b F d) (hp : ¬ (0 ≤ p ∧ p < d.st.length)) :
    Calls Try.prog 17 #[dp b, .int .i64 p] w fun e w' => e = .returned (.tuple #[.slice none 0 0, .int .i64 1]) ∧ w' = w := by
  have HM := hide (made_dev w b F d h)
  have HH := hide (has_dev_no w b F d h p hp)
  clear h hp
  go_enter Try.func17, Try.ntmps17
  go_wp2_with (first
    | (go_at_call 42; refine HM.out.mono ?_; rintro e w1 ⟨rfl, hw⟩; subst w1; clear HM)
    | (go_at_call 43; refine HH.out.mono ?_; rintro e w1 ⟨rfl, hw⟩; subst w1; clear HH))
  go_ret2
  exact ⟨rfl, rfl⟩
theorem read_off (w : World) (b : Nat) (F : Nat → Prop) (d : Dv) (p : Int) (h : Dev w b F d) (hp : 0 ≤ p ∧ p < d.st.length) (hoff : d.off = true) :
    Calls Try.prog 17 #[dp b, .int .i64 p] w fun e w' => e = .returned (.tuple #[.slice none 0 0, .int .i64 5]) ∧ w' = w := by
  have HM := hide (made_dev w b F d h)
  have HH := hide (has_dev_yes w b F d h p hp)
  obtain ⟨sb, cap, mb, vw, lf, D, h⟩ := h
  have c3 := h.blk.c3
  rw [hoff] at c3
  clear h hp
  go_enter Try.func17, Try.ntmps17
  go_wp2_with (first
    | (go_at_call 42; refine HM.out.mono ?_; rintro e w1 ⟨rfl, hw⟩; subst w1; clear HM)
    | (go_at_call 43; refine HH.out.mono ?_; rintro e w1 ⟨rfl, hw⟩; subst w1; clear HH))
  go_ret2
  exact ⟨rfl, rfl⟩
theorem write_arg (w : World) (b : Nat) (F : Nat → Prop) (d : Dv) (p : Int) (v : Value) (zs : List Int) (h : Dev w b F d) (hS : Sl w v zs) (hp : ¬ ((0 ≤ p ∧ p < d.st.length) ∧ zs.length = 256)) :
    Calls Try.prog 54 #[dp b, .int .i64 p, v] w fun e w' => e = .returned (.int .i64 1) ∧ w' = w := by
  have HM := hide (made_dev w b F d h)
  obtain ⟨ao, cp, rfl⟩ := sl_form' hS
  by_cases h1 : 0 ≤ p ∧ p < d.st.length
  · have HH := hide (has_dev_yes w b F d h p h1)
    have hne : ((zs.length : Int) == 256) = false := by
      have : ¬ zs.length = 256 := fun e => hp ⟨h1, e⟩
      simp; omega
    clear h hp h1 hS
    go_enter Try.func54, Try.ntmps54
    go_wp2_with (first
      | (go_at_call 42; refine HM.out.mono ?_; rintro e w1 ⟨rfl, hw⟩; subst w1; clear HM)
      | (go_at_call 43; refine HH.out.mono ?_; rintro e w1 ⟨rfl, hw⟩; subst w1; clear HH))
    go_ret
    exact ⟨rfl, rfl⟩
  · have HH := hide (has_dev_no w b F d h p h1)
    clear h hp h1 hS
    go_enter Try.func54, Try.ntmps54
    go_wp2_with (first
      | (go_at_call 42; refine HM.out.mono ?_; rintro e w1 ⟨rfl, hw⟩; subst w1; clear HM)
      | (go_at_call 43; refine HH.out.mono ?_; rintro e w1 ⟨rfl, hw⟩; subst w1; clear HH))
    go_ret
    exact ⟨rfl, rfl⟩
theorem write_off (w : World) (b : Nat) (F : Nat → Prop) (d : Dv) (p : Int) (v : Value) (zs : List Int) (h : Dev w b F d) (hS : Sl w v zs) (hp : 0 ≤ p ∧ p < d.st.length) (hzl : zs.length = 256) (hoff : d.off = true) :
    Calls Try.prog 54 #[dp b, .int .i64 p, v] w fun e w' => e = .returned (.int .i64 5) ∧ w' = w := by
  have HM := hide (made_dev w b F d h)
  obtain ⟨ao, cp, rfl⟩ := sl_form' hS
  have HH := hide (has_dev_yes w b F d h p hp)
  obtain ⟨sb, cap, mb, vw, lf, D, h⟩ := h
  have c3 := h.blk.c3
  rw [hoff] at c3
  rw [hzl]
  clear h hp hS
  go_enter Try.func54, Try.ntmps54
  go_wp2_with (first
    | (go_at_call 42; refine HM.out.mono ?_; rintro e w1 ⟨rfl, hw⟩; subst w1; clear HM)
    | (go_at_call 43; refine HH.out.mono ?_; rintro e w1 ⟨rfl, hw⟩; subst w1; clear HH))
  go_ret
  exact ⟨rfl, rfl⟩

def imgS (st : List (List Int)) : List Int := st.flatten
theorem imgS_len {st : List (List Int)} (h : ∀ r ∈ st, PageOk r) : (imgS st).length = st.length * 256 := flat_len st (fun r hr => (h r hr).1)
theorem imgS_ok {st : List (List Int)} (h : ∀ r ∈ st, PageOk r) : ByteOk (imgS st) := fun z hz => by
  obtain ⟨r, hr, hz⟩ := List.mem_flatten.1 hz
  exact (h r hr).2 z hz
theorem imgS_take (st : List (List Int)) {k : Nat} (h : k < st.length) : imgS (st.take (k + 1)) = imgS (st.take k) ++ sAt st k := by
  unfold imgS
  rw [List.take_succ_eq_append_getElem h, List.flatten_append, sAt_lt h]
  simp

theorem DevAt.struct {w w' : World} {b : Nat} {F : Nat → Prop} {d d' : Dv} {sb cap mb : Nat} {vw : Value} {lf lf' : Int} {D : DataW Unit} (h : DevAt w b F d sb cap mb vw lf D) (e1 : d'.st = d.st) (e2 : d'.ws = d.ws) (ok : DvOk d')
    (hB : DiskB w' b (.slice (some ⟨sb, 0, none⟩) d.st.length cap) vw (.map (some mb)) (!d'.off) d'.left.isSome lf' d'.done) (hlf : ∀ n : Nat, d'.left = some n → lf' = n) (ho : Only (· = b) w w') : Dev w' b F d' := by
  refine ⟨sb, cap, mb, vw, lf', D, ok, by rw [e1]; exact hB, hlf, ?_, ?_, ?_, by rw [e2]; exact h.shown, h.fb, h.fs, h.fm, h.fw⟩
  · rw [e1]; exact ownsRow_only h.st ho (fun k hk => by simp [Value.ownBlock] at hk; subst hk; exact h.sb_ne)
  · rw [e2]; exact ownsRow_only h.ws ho (fun k hk => (h.wb_ne k hk).1)
  · rw [e2]; exact ownsMap_only h.map ho h.mb_ne.1
end Go.Proofs.Ytoplhehcjgldeaa
