/- Contracts: what a device tells: Image, Waits, Pages, Ops, On; what is refused; Arm, Calm. -/
import Derived.Test.YtofpngmabjpfhaaDSync
namespace Go.Proofs.Ytofpngmabjpfhaa
open Go.RowKit
set_option linter.unusedVariables false

theorem made_dev (w : World) (b : Nat) (F : Nat → Prop) (d : Dv) (h : Dev w b F d) : Calls Try.prog 39 #[dp b] w fun e w' => e = .returned (.bool true) ∧ w' = w := by
  obtain ⟨sb, cap, mb, vw, lf, D, h⟩ := h
  have := made_any w b _ cap _ h.blk.c0
  rw [decide_eq_true h.ok.pos] at this
  exact this
theorem has_dev_yes (w : World) (b : Nat) (F : Nat → Prop) (d : Dv) (h : Dev w b F d) (p : Int) (hp : 0 ≤ p ∧ p < d.st.length) : Calls Try.prog 43 #[dp b, .int .i64 p] w fun e w' => e = .returned (.bool true) ∧ w' = w := by
  obtain ⟨sb, cap, mb, vw, lf, D, h⟩ := h
  exact has_yes w b _ cap _ p h.blk.c0 hp.1 hp.2
theorem has_dev_no (w : World) (b : Nat) (F : Nat → Prop) (d : Dv) (h : Dev w b F d) (p : Int) (hp : ¬ (0 ≤ p ∧ p < d.st.length)) : Calls Try.prog 43 #[dp b, .int .i64 p] w fun e w' => e = .returned (.bool false) ∧ w' = w := by
  obtain ⟨sb, cap, mb, vw, lf, D, h⟩ := h
  exact has_no w b _ cap _ p h.blk.c0 hp

theorem waits_any (w : World) (b : Nat) (F : Nat → Prop) (d : Dv) (h : Dev w b F d) : Calls Try.prog 24 #[dp b] w fun e w' => e = .returned (.int .i64 d.ws.length) ∧ w' = w := by
  have HM := hide (made_dev w b F d h)
  obtain ⟨sb, cap, mb, vw, lf, D, h⟩ := h
  obtain ⟨aw, cw, rfl⟩ := own_form' h.ws
  have c1 := h.blk.c1
  clear h
  go_enter Try.func24, Try.ntmps24
  go_wp2_with (go_at_call 39; refine HM.out.mono ?_; rintro e w1 ⟨rfl, hw⟩; subst w1; clear HM)
  go_ret
  exact ⟨rfl, rfl⟩
theorem pages_any (w : World) (b : Nat) (F : Nat → Prop) (d : Dv) (h : Dev w b F d) : Calls Try.prog 29 #[dp b] w fun e w' => e = .returned (.int .i64 d.st.length) ∧ w' = w := by
  have HM := hide (made_dev w b F d h)
  obtain ⟨sb, cap, mb, vw, lf, D, h⟩ := h
  have c0 := h.blk.c0
  clear h
  go_enter Try.func29, Try.ntmps29
  go_wp2_with (go_at_call 39; refine HM.out.mono ?_; rintro e w1 ⟨rfl, hw⟩; subst w1; clear HM)
  go_ret
  exact ⟨rfl, rfl⟩
theorem ops_any (w : World) (b : Nat) (F : Nat → Prop) (d : Dv) (h : Dev w b F d) : Calls Try.prog 30 #[dp b] w fun e w' => e = .returned (.int .i64 d.done) ∧ w' = w := by
  have HM := hide (made_dev w b F d h)
  obtain ⟨sb, cap, mb, vw, lf, D, h⟩ := h
  have c6 := h.blk.c6
  clear h
  go_enter Try.func30, Try.ntmps30
  go_wp2_with (go_at_call 39; refine HM.out.mono ?_; rintro e w1 ⟨rfl, hw⟩; subst w1; clear HM)
  go_ret
  exact ⟨rfl, rfl⟩
theorem on_any (w : World) (b : Nat) (F : Nat → Prop) (d : Dv) (h : Dev w b F d) : Calls Try.prog 28 #[dp b] w fun e w' => e = .returned (.bool (!d.off)) ∧ w' = w := by
  have HM := hide (made_dev w b F d h)
  obtain ⟨sb, cap, mb, vw, lf, D, h⟩ := h
  have c3 := h.blk.c3
  clear h
  go_enter Try.func28, Try.ntmps28
  go_wp2_with (go_at_call 39; refine HM.out.mono ?_; rintro e w1 ⟨rfl, hw⟩; subst w1; clear HM)
  go_ret
  exact ⟨rfl, rfl⟩

theorem read_arg (w : World) (b : Nat) (F : Nat → Prop) (d : Dv) (p : Int) (h : Dev w b F d) (hp : ¬ (0 ≤ p ∧ p < d.st.length)) :
    Calls Try.prog 23 #[dp b, .int .i64 p] w fun e w' => e = .returned (.tuple #[.slice none 0 0, .int .i64 1]) ∧ w' = w := by
  have HM := hide (made_dev w b F d h)
  have HH := hide (has_dev_no w b F d h p hp)
  clear h hp
  go_enter Try.func23, Try.ntmps23
  go_wp2_with (first
    | (go_at_call 39; refine HM.out.mono ?_; rintro e w1 ⟨rfl, hw⟩; subst w1; clear HM)
    | (go_at_call 43; refine HH.out.mono ?_; rintro e w1 ⟨rfl, hw⟩; subst w1; clear HH))
  go_ret2
  exact ⟨rfl, rfl⟩
theorem read_off (w : World) (b : Nat) (F : Nat → Prop) (d : Dv) (p : Int) (h : Dev w b F d) (hp : 0 ≤ p ∧ p < d.st.length) (hoff : d.off = true) :
    Calls Try.prog 23 #[dp b, .int .i64 p] w fun e w' => e = .returned (.tuple #[.slice none 0 0, .int .i64 5]) ∧ w' = w := by
  have HM := hide (made_dev w b F d h)
  have HH := hide (has_dev_yes w b F d h p hp)
  obtain ⟨sb, cap, mb, vw, lf, D, h⟩ := h
  have c3 := h.blk.c3
  rw [hoff] at c3
  clear h hp
  go_enter Try.func23, Try.ntmps23
  go_wp2_with (first
    | (go_at_call 39; refine HM.out.mono ?_; rintro e w1 ⟨rfl, hw⟩; subst w1; clear HM)
    | (go_at_call 43; refine HH.out.mono ?_; rintro e w1 ⟨rfl, hw⟩; subst w1; clear HH))
  go_ret2
  exact ⟨rfl, rfl⟩
theorem write_arg (w : World) (b : Nat) (F : Nat → Prop) (d : Dv) (p : Int) (v : Value) (zs : List Int) (h : Dev w b F d) (hS : Sl w v zs) (hp : ¬ ((0 ≤ p ∧ p < d.st.length) ∧ zs.length = 256)) :
    Calls Try.prog 15 #[dp b, .int .i64 p, v] w fun e w' => e = .returned (.int .i64 1) ∧ w' = w := by
  have HM := hide (made_dev w b F d h)
  obtain ⟨ao, cp, rfl⟩ := sl_form' hS
  by_cases h1 : 0 ≤ p ∧ p < d.st.length
  · have HH := hide (has_dev_yes w b F d h p h1)
    have hne : ((zs.length : Int) == 256) = false := by
      have : ¬ zs.length = 256 := fun e => hp ⟨h1, e⟩
      simp; omega
    clear h hp h1 hS
    go_enter Try.func15, Try.ntmps15
    go_wp2_with (first
      | (go_at_call 39; refine HM.out.mono ?_; rintro e w1 ⟨rfl, hw⟩; subst w1; clear HM)
      | (go_at_call 43; refine HH.out.mono ?_; rintro e w1 ⟨rfl, hw⟩; subst w1; clear HH))
    go_ret
    exact ⟨rfl, rfl⟩
  · have HH := hide (has_dev_no w b F d h p h1)
    clear h hp h1 hS
    go_enter Try.func15, Try.ntmps15
    go_wp2_with (first
      | (go_at_call 39; refine HM.out.mono ?_; rintro e w1 ⟨rfl, hw⟩; subst w1; clear HM)
      | (go_at_call 43; refine HH.out.mono ?_; rintro e w1 ⟨rfl, hw⟩; subst w1; clear HH))
    go_ret
    exact ⟨rfl, rfl⟩
theorem write_off (w : World) (b : Nat) (F : Nat → Prop) (d : Dv) (p : Int) (v : Value) (zs : List Int) (h : Dev w b F d) (hS : Sl w v zs) (hp : 0 ≤ p ∧ p < d.st.length) (hzl : zs.length = 256) (hoff : d.off = true) :
    Calls Try.prog 15 #[dp b, .int .i64 p, v] w fun e w' => e = .returned (.int .i64 5) ∧ w' = w := by
  have HM := hide (made_dev w b F d h)
  obtain ⟨ao, cp, rfl⟩ := sl_form' hS
  have HH := hide (has_dev_yes w b F d h p hp)
  obtain ⟨sb, cap, mb, vw, lf, D, h⟩ := h
  have c3 := h.blk.c3
  rw [hoff] at c3
  rw [hzl]
  clear h hp hS
  go_enter Try.func15, Try.ntmps15
  go_wp2_with (first
    | (go_at_call 39; refine HM.out.mono ?_; rintro e w1 ⟨rfl, hw⟩; subst w1; clear HM)
    | (go_at_call 43; refine HH.out.mono ?_; rintro e w1 ⟨rfl, hw⟩; subst w1; clear HH))
  go_ret
  exact ⟨rfl, rfl⟩

def imgS (st : List (List Int)) : List Int := st.flatten
theorem imgS_len {st : List (List Int)} (h : ∀ r ∈ st, PageOk r) : (imgS st).length = st.length * 256 := flat_len st (fun r hr => (h r hr).1)
theorem imgS_ok {st : List (List Int)} (h : ∀ r ∈ st, PageOk r) : ByteOk (imgS st) := fun z hz => by
  obtain ⟨r, hr, hz⟩ := List.mem_flatten.1 hz
  exact (h r hr).2 z hz
theorem imgS_take (st : List (List Int)) {k : Nat} (h : k < st.length) : imgS (st.take (k + 1)) = imgS (st.take k) ++ sAt st k := by
  unfold imgS
  rw [List.take_succ_eq_append_getElem h, List.flatten_append, sAt_lt h]
  simp

set_option maxHeartbeats 1000000 in
theorem image_any (w : World) (b : Nat) (F : Nat → Prop) (d : Dv) (h : Dev w b F d) :
    Calls Try.prog 19 #[dp b] w fun e w' => ∃ u, e = .returned u ∧ w'.ownsRow w.heap.size 5 1 u (d.st.length * 256) (pc (imgS d.st)) ∧ Below w.heap.size w w' := by
  obtain ⟨i0, hi, hz0, hz1, hz2⟩ := info_parts infoU8
  have HM := hide (made_dev w b F d h)
  obtain ⟨sb, cap, mb, vw, lf, D, h⟩ := h
  have c0 := h.blk.c0
  have hfew := h.ok.few
  have hbl := Blk.lt h.blk
  have hm : ((d.st.length : Int)) * 256 = ((d.st.length * 256 : Nat) : Int) := by omega
  have HX := hide h
  have hlen := own_len h.st
  have hmax : maxLen = 9223372036854775807 := rfl
  rw [hmax] at hlen
  clear h hmax
  obtain ⟨N, hN⟩ : ∃ N, N = d.st.length * 256 := ⟨_, rfl⟩
  rw [← hN] at hm
  have hNle : N ≤ 524288 := by omega
  have HN := hide hN
  clear hN
  go_enter Try.func19, Try.ntmps19
  go_wp2_with (first
    | (go_at_call 39; refine HM.out.mono ?_; rintro e w1 ⟨rfl, hw⟩; subst w1; clear HM)
    | (at_make; refine wpList_make_own _ rfl _ _ 33 rfl w.heap.size 5 i0 (.int .u8 0) 1 Try.underlying33 hi hz0 hz1 _ _ _ N rfl rfl rfl (by rw [hz2]; omega) (by unfold maxLen; omega) (Nat.le_refl _) ?_; intro w1 hown hg; have c0 := (hg.cell c0 (by simp)); have HO := hide hown; have HG := hide hg; clear hown hg))
  go_loopg [3, 20] d.st.length (fun g im i wr => ∃ k : Nat, g + k = d.st.length ∧ i = .int .i64 k ∧ wr.ownsRow w.heap.size 5 1 im (k * 256) (pc (imgS (d.st.take k))) ∧ Below w.heap.size w wr)
  case atStart =>
    refine ⟨0, by omega, rfl, ?_, (Below.refl _ w).grown HG.out (Nat.le_refl _) (fun k hk => by cases hk)⟩
    rw [Nat.zero_mul]
    exact HO.out
  case round =>
    obtain ⟨k, hk, rfl, hown, hb⟩ := hrel
    have hbs := hb.size
    cases gk with
    | zero =>
      obtain rfl : k = d.st.length := by omega
      rw [List.take_length] at hown
      have HOW := hide hown
      clear hown
      go_wp2
      go_ret
      exact ⟨_, rfl, HOW.out, hb⟩
    | succ g =>
      have hkl : k < d.st.length := by omega
      have hki : (k : Int) < (d.st.length : Int) := by omega
      have hX := HX.out
      have c0r := (hb.cell (p := ⟨b, 0, none⟩) (Blk.lt hX.blk)).trans hX.blk.c0
      have hst := ownsRow_only hX.st (Only.of_below (fun _ => False) hb) (fun _ _ h => h)
      have hR := own_range hst (k * 256) (pc (sAt d.st k)) (flatS_get hX.ok.st hkl)
      have hrow := hX.ok.row hkl
      have hS := sl_of_range (cap := 256) hR hrow.2 (by rw [hrow.1]; omega) (by unfold maxLen; omega)
      obtain ⟨im, cim, rfl⟩ := own_form' hown
      obtain ⟨v1, w1, hr1, ho1, hg1, _⟩ := run_append_sl (P := Try.prog) wr w.heap.size 33 33 5 i0 Try.underlying33 hi hz0 hz1 hz2 _ _ _ hown _ _ _ _ hS (by rw [hrow.1]; omega) hbs
      have hb1 : Below w.heap.size w w1 := hb.grown hg1 hbs (fun j hj => (hown.lt j hj).1)
      have e1 : pc (imgS (d.st.take k)) ++ (sAt d.st k).map (Value.int .u8) = pc (imgS (d.st.take (k + 1))) := by
        rw [imgS_take d.st hkl]; simp [pc]
      rw [e1, hrow.1, show k * 256 + 256 = (k + 1) * 256 by omega] at ho1
      rw [hrow.1] at hr1
      have HR1 := hide hr1
      have HO1 := hide ho1
      have HB1 := hide hb1
      clear hX hst hR hrow hS hr1 ho1 hb1 e1 hg1 hown hb
      go_wp2_with (at_builtin; refine wpList_append_run _ rfl (.tmp 23) (.tmp 30) 33 rfl _ _ rfl rfl _ _ HR1.out ?_)
      go_roundg g
      case measure => omega
      case rel => exact ⟨k + 1, by omega, by go_num, HO1.out, HB1.out⟩

/-- Arm: so many are left -/
theorem arm_bad (w : World) (b : Nat) (F : Nat → Prop) (d : Dv) (n : Int) (h : Dev w b F d) (hn : n < 0) :
    Calls Try.prog 25 #[dp b, .int .i64 n] w fun e w' => e = .returned (.int .i64 1) ∧ w' = w := by
  have HM := hide (made_dev w b F d h)
  clear h
  go_enter Try.func25, Try.ntmps25
  go_wp2_with (go_at_call 39; refine HM.out.mono ?_; rintro e w1 ⟨rfl, hw⟩; subst w1; clear HM)
  go_ret
  exact ⟨rfl, rfl⟩
theorem arm_off (w : World) (b : Nat) (F : Nat → Prop) (d : Dv) (n : Int) (h : Dev w b F d) (hn : ¬ n < 0) (hoff : d.off = true) :
    Calls Try.prog 25 #[dp b, .int .i64 n] w fun e w' => e = .returned (.int .i64 5) ∧ w' = w := by
  have HM := hide (made_dev w b F d h)
  obtain ⟨sb, cap, mb, vw, lf, D, h⟩ := h
  have c3 := h.blk.c3
  rw [hoff] at c3
  clear h
  go_enter Try.func25, Try.ntmps25
  go_wp2_with (go_at_call 39; refine HM.out.mono ?_; rintro e w1 ⟨rfl, hw⟩; subst w1; clear HM)
  go_ret
  exact ⟨rfl, rfl⟩
theorem DevAt.struct {w w' : World} {b : Nat} {F : Nat → Prop} {d d' : Dv} {sb cap mb : Nat} {vw : Value} {lf lf' : Int} {D : DataW Unit} (h : DevAt w b F d sb cap mb vw lf D) (e1 : d'.st = d.st) (e2 : d'.ws = d.ws) (ok : DvOk d')
    (hB : DiskB w' b (.slice (some ⟨sb, 0, none⟩) d.st.length cap) vw (.map (some mb)) (!d'.off) d'.left.isSome lf' d'.done) (hlf : ∀ n : Nat, d'.left = some n → lf' = n) (ho : Only (· = b) w w') : Dev w' b F d' := by
  refine ⟨sb, cap, mb, vw, lf', D, ok, by rw [e1]; exact hB, hlf, ?_, ?_, ?_, by rw [e2]; exact h.shown, h.fb, h.fs, h.fm, h.fw⟩
  · rw [e1]; exact ownsRow_only h.st ho (fun k hk => by simp [Value.ownBlock] at hk; subst hk; exact h.sb_ne)
  · rw [e2]; exact ownsRow_only h.ws ho (fun k hk => (h.wb_ne k hk).1)
  · rw [e2]; exact ownsMap_only h.map ho h.mb_ne.1
theorem arm_ok (w : World) (b : Nat) (F : Nat → Prop) (d : Dv) (n : Nat) (h : Dev w b F d) (hn : n ≤ 9223372036854775807) (hon : d.off = false) :
    Calls Try.prog 25 #[dp b, .int .i64 n] w fun e w' => e = .returned (.int .i64 0) ∧ Dev w' b F { d with left := some n } ∧ Only F w w' := by
  have HM := hide (made_dev w b F d h)
  obtain ⟨sb, cap, mb, vw, lf, D, h⟩ := h
  have c3 := h.blk.c3
  have c4 := h.blk.c4
  have c5 := h.blk.c5
  have f4 := Blk.frozen h.blk 4
  have f5 := Blk.frozen h.blk 5
  rw [hon] at c3
  have hni : ¬ (n : Int) < 0 := by omega
  have HX := hide h
  clear h
  go_enter Try.func25, Try.ntmps25
  go_wp2_with (go_at_call 39; refine HM.out.mono ?_; rintro e w1 ⟨rfl, hw⟩; subst w1; clear HM)
  go_ret
  have ho := only_set2 w b 4 5 (.bool true) (.int .i64 n)
  have hX := HX.out
  refine ⟨rfl, hX.struct (d' := { d with left := some n }) (lf' := n) rfl rfl ⟨hX.ok.pos, hX.ok.few, hX.ok.st, hX.ok.ws, fun m hm => by simp at hm; omega⟩ ((Blk.set hX.blk 4 _).set 5 _) (fun m hm => by simp at hm; omega) ho, ho.mono (fun k _ e => by rw [e]; exact hX.fb)⟩
theorem calm_off (w : World) (b : Nat) (F : Nat → Prop) (d : Dv) (h : Dev w b F d) (hoff : d.off = true) :
    Calls Try.prog 26 #[dp b] w fun e w' => e = .returned (.int .i64 5) ∧ w' = w := by
  have HP := powered_dev w b F d h
  rw [hoff] at HP
  have HP := hide HP
  clear h
  go_enter Try.func26, Try.ntmps26
  go_wp2_with (go_at_call 47; refine HP.out.mono ?_; rintro e w1 ⟨rfl, hw⟩; subst w1; clear HP)
  go_ret
  exact ⟨rfl, rfl⟩
theorem calm_ok (w : World) (b : Nat) (F : Nat → Prop) (d : Dv) (h : Dev w b F d) (hon : d.off = false) :
    Calls Try.prog 26 #[dp b] w fun e w' => e = .returned (.int .i64 0) ∧ Dev w' b F { d with left := none } ∧ Only F w w' := by
  have HP := powered_dev w b F d h
  rw [hon] at HP
  have HP := hide HP
  obtain ⟨sb, cap, mb, vw, lf, D, h⟩ := h
  have HD := hide (disarm_any w b _ _ _ _ _ _ _ h.blk)
  have HX := hide h
  clear h
  go_enter Try.func26, Try.ntmps26
  go_wp2_with (first
    | (go_at_call 47; refine HP.out.mono ?_; rintro e w1 ⟨rfl, hw⟩; subst w1; clear HP)
    | (go_at_call 49; refine HD.out.mono ?_; rintro e w2 ⟨rfl, hB, ho⟩; clear HD))
  go_ret
  have hX := HX.out
  exact ⟨rfl, hX.struct (d' := { d with left := none }) (lf' := 0) rfl rfl ⟨hX.ok.pos, hX.ok.few, hX.ok.st, hX.ok.ws, fun m hm => by simp at hm⟩ hB (fun m hm => by simp at hm) ho, ho.mono (fun k _ e => by rw [e]; exact hX.fb)⟩

end Go.Proofs.Ytofpngmabjpfhaa
