/- The document's own map (incipitref08.Map): Commit, Abort, Of. -/
import Derived.Test.YtbnhacibkmcmkaaDoorKRefM
import Derived.Test.YtbnhacibkmcmkaaDoorKRead
namespace Go.Proofs.YtbnhacibkmcmkaaDoor
set_option maxRecDepth 20000
open Go.RowKit
set_option linter.unusedVariables false
set_option maxRecDepth 100000

/-- the first k codes turned by F -/
def mixC (F : Int → Int) (c : Nat → Int) (k : Nat) : Nat → Int := fun p => if p < k then F (c p) else c p
theorem mixC_zero (F : Int → Int) (c : Nat → Int) : mixC F c 0 = c := by funext p; simp [mixC]
theorem mixC_at (F : Int → Int) (c : Nat → Int) (k : Nat) : mixC F c k k = c k := by simp [mixC]
theorem mixC_step (F : Int → Int) (c : Nat → Int) (k : Nat) : upd (mixC F c k) k (F (c k)) = mixC F c (k + 1) := by
  funext p
  unfold upd mixC
  by_cases h : p = k
  · subst h; simp
  · rw [if_neg h]
    by_cases h2 : p < k
    · rw [if_pos h2, if_pos (by omega)]
    · rw [if_neg h2, if_neg (by omega)]
theorem mixC_same (F : Int → Int) (c : Nat → Int) (k : Nat) (h : F (c k) = c k) : mixC F c (k + 1) = mixC F c k := by
  funext p
  unfold mixC
  by_cases hp : p = k
  · subst hp; simp [h]
  · by_cases h2 : p < k
    · rw [if_pos h2, if_pos (by omega)]
    · rw [if_neg h2, if_neg (by omega)]
def comC (x : Int) : Int := if x = 2 then 1 else if x = 3 then 0 else x
def aboC (x : Int) : Int := if x = 2 then 0 else if x = 3 then 1 else x

theorem refCommitM_any (w : World) (B r q n : Nat) (c : Nat → Int) (h : RefM w B r q n c) : Calls Tryd.prog 47 #[dp r] w fun e w' => e = .returned (.tuple #[]) ∧ RefM w' B r q n (fun p => comC (c p)) ∧ Only (· = q) w w' := by
  have HX := hide h
  have hn := h.hi
  clear h
  go_enter Tryd.func47, Tryd.ntmps47
  go_wp2
  go_loopg [2] n (fun gg kv wr => ∃ k : Nat, gg + k = n ∧ kv = .int .i64 k ∧ RefM wr B r q n (mixC comC c k) ∧ Only (· = q) w wr)
  case atStart => exact ⟨0, rfl, rfl, by rw [mixC_zero]; exact HX.out, Only.refl _ _⟩
  case round =>
    obtain ⟨k, hk, rfl, hr, ho⟩ := hrel
    have HR := hide hr
    have HO := hide ho
    have c0 := hr.c0
    cases gk with
    | zero =>
      obtain rfl : k = n := by omega
      have h3 : ¬ (k : Int) < (k : Int) := by omega
      clear hr ho HX
      go_wp2
      go_end0
      exact ⟨rfl, HR.out.congr (fun p hp => by rw [mixC, if_pos hp]), HO.out⟩
    | succ gg =>
      have h3 : (k : Int) < (n : Int) := by omega
      have hkn : k < n := by omega
      have cp := hr.cp k hkn
      have fp : wr.frozen? ⟨q, k, none⟩ = false := hr.row.frozen _
      have HST := mixC_step comC c k
      have HSM := mixC_same comC c k
      rw [mixC_at] at cp
      obtain ⟨x, hx⟩ : ∃ x, c k = x := ⟨_, rfl⟩
      rw [hx] at cp HST HSM
      clear hr ho hx HX
      by_cases hx2 : x = 2
      · subst hx2
        have HST := hide HST
        clear HSM
        go_wp2
        go_roundg gg
        case measure => omega
        case rel => exact ⟨k + 1, by omega, by go_num, by rw [← HST.out]; exact HR.out.set k 1, only_trans HO.out (only_set q k _)⟩
      · by_cases hx3 : x = 3
        · subst hx3
          have HST := hide HST
          clear HSM
          go_wp2
          go_roundg gg
          case measure => omega
          case rel => exact ⟨k + 1, by omega, by go_num, by rw [← HST.out]; exact HR.out.set k 0, only_trans HO.out (only_set q k _)⟩
        · have HSM := hide (HSM (by rw [comC, if_neg hx2, if_neg hx3]))
          clear HST
          go_wp2
          go_roundg gg
          case measure => omega
          case rel => exact ⟨k + 1, by omega, by go_num, by rw [HSM.out]; exact HR.out, HO.out⟩

theorem refAbortM_any (w : World) (B r q n : Nat) (c : Nat → Int) (h : RefM w B r q n c) : Calls Tryd.prog 48 #[dp r] w fun e w' => e = .returned (.tuple #[]) ∧ RefM w' B r q n (fun p => aboC (c p)) ∧ Only (· = q) w w' := by
  have HX := hide h
  have hn := h.hi
  clear h
  go_enter Tryd.func48, Tryd.ntmps48
  go_wp2
  go_loopg [2] n (fun gg kv wr => ∃ k : Nat, gg + k = n ∧ kv = .int .i64 k ∧ RefM wr B r q n (mixC aboC c k) ∧ Only (· = q) w wr)
  case atStart => exact ⟨0, rfl, rfl, by rw [mixC_zero]; exact HX.out, Only.refl _ _⟩
  case round =>
    obtain ⟨k, hk, rfl, hr, ho⟩ := hrel
    have HR := hide hr
    have HO := hide ho
    have c0 := hr.c0
    cases gk with
    | zero =>
      obtain rfl : k = n := by omega
      have h3 : ¬ (k : Int) < (k : Int) := by omega
      clear hr ho HX
      go_wp2
      go_end0
      exact ⟨rfl, HR.out.congr (fun p hp => by rw [mixC, if_pos hp]), HO.out⟩
    | succ gg =>
      have h3 : (k : Int) < (n : Int) := by omega
      have hkn : k < n := by omega
      have cp := hr.cp k hkn
      have fp : wr.frozen? ⟨q, k, none⟩ = false := hr.row.frozen _
      have HST := mixC_step aboC c k
      have HSM := mixC_same aboC c k
      rw [mixC_at] at cp
      obtain ⟨x, hx⟩ : ∃ x, c k = x := ⟨_, rfl⟩
      rw [hx] at cp HST HSM
      clear hr ho hx HX
      by_cases hx2 : x = 2
      · subst hx2
        have HST := hide HST
        clear HSM
        go_wp2
        go_roundg gg
        case measure => omega
        case rel => exact ⟨k + 1, by omega, by go_num, by rw [← HST.out]; exact HR.out.set k 0, only_trans HO.out (only_set q k _)⟩
      · by_cases hx3 : x = 3
        · subst hx3
          have HST := hide HST
          clear HSM
          go_wp2
          go_roundg gg
          case measure => omega
          case rel => exact ⟨k + 1, by omega, by go_num, by rw [← HST.out]; exact HR.out.set k 1, only_trans HO.out (only_set q k _)⟩
        · have HSM := hide (HSM (by rw [aboC, if_neg hx2, if_neg hx3]))
          clear HST
          go_wp2
          go_roundg gg
          case measure => omega
          case rel => exact ⟨k + 1, by omega, by go_num, by rw [HSM.out]; exact HR.out, HO.out⟩

/-- the pages that are a or b -/
def ofL (c : Nat → Int) (a b : Int) (k : Nat) : List Nat := (List.range k).filter (fun p => decide (c p = a) || decide (c p = b))
theorem ofL_len (c : Nat → Int) (a b : Int) (k : Nat) : (ofL c a b k).length ≤ k := by
  have := List.length_filter_le (fun p => decide (c p = a) || decide (c p = b)) (List.range k)
  rw [List.length_range] at this
  exact this
theorem ofL_yes (c : Nat → Int) (a b : Int) (k : Nat) (h : c k = a ∨ c k = b) : ci (ofL c a b (k + 1)) = ci (ofL c a b k) ++ [(k : Int)] := by
  unfold ofL ci
  rw [List.range_succ, List.filter_append, List.map_append]
  rcases h with h | h <;> simp [h]
theorem ofL_no (c : Nat → Int) (a b : Int) (k : Nat) (h1 : c k ≠ a) (h2 : c k ≠ b) : ofL c a b (k + 1) = ofL c a b k := by
  unfold ofL
  rw [List.range_succ, List.filter_append]
  simp [h1, h2]
set_option maxHeartbeats 1000000 in
theorem refOfM_any (w : World) (B r q n : Nat) (c : Nat → Int) (a b : Int) (h : RefM w B r q n c) : Calls Tryd.prog 49 #[dp r, .int .i64 a, .int .i64 b] w fun e w' => ∃ v, e = .returned v ∧ Ints w' w.heap.size v (ci (ofL c a b n)) ∧ Below w.heap.size w w' := by
  have HX := hide h
  have hn := h.hi
  clear h
  go_enter Tryd.func49, Tryd.ntmps49
  go_wp2
  go_loopg [7, 8] n (fun gg tv kv wr => ∃ k : Nat, gg + k = n ∧ kv = .int .i64 k ∧ RdI w tv (ci (ofL c a b k)) wr)
  case atStart => exact ⟨0, by omega, rfl, ⟨Ints.nil _ _, Below.refl _ _⟩⟩
  case round =>
    obtain ⟨k, hk, rfl, hrd⟩ := hrel
    have HRD := hide hrd
    have hr := HX.out.below hrd.below
    have c0 := hr.c0
    have hlen : (ci (ofL c a b k)).length + 1 ≤ 1000000 := by rw [ci_length]; have := ofL_len c a b k; omega
    obtain ⟨aot, capt, hut⟩ := hrd.ints.shape
    obtain ⟨nt, hnt⟩ : ∃ nt, (ci (ofL c a b k)).length = nt := ⟨_, rfl⟩
    rw [hnt] at hut
    subst hut
    cases gk with
    | zero =>
      obtain rfl : k = n := by omega
      have h3 : ¬ (k : Int) < (k : Int) := by omega
      clear hr hrd hlen hnt
      go_wp2
      go_ret
      exact ⟨_, rfl, HRD.out.ints, HRD.out.below⟩
    | succ gg =>
      have h3 : (k : Int) < (n : Int) := by omega
      have hkn : k < n := by omega
      have cp := hr.cp k hkn
      have HY := ofL_yes c a b k
      have HN := ofL_no c a b k
      obtain ⟨v', w', hrun, hi', ho'⟩ := run_append_int2 wr w.heap.size _ _ hrd.ints (k : Int) hlen hrd.below.size
      have HNX : Hid (c k = a ∨ c k = b → RdI w v' (ci (ofL c a b (k + 1))) w') := fun hh => by
        refine ⟨by rw [HY hh]; exact hi', hrd.below.trans (ho'.below hrd.below.size (fun j hj e => by have := (hrd.ints.lt j e).1; omega))⟩
      have HRR := hide hrun
      have HMX : Hid (c k ≠ a → c k ≠ b → RdI w (.slice aot nt capt) (ci (ofL c a b (k + 1))) wr) := fun h1 h2 => by rw [HN h1 h2]; exact hrd
      clear hr hrd hlen HY HN hrun hi' ho' HRD hnt
      obtain ⟨x, hx⟩ : ∃ x, c k = x := ⟨_, rfl⟩
      rw [hx] at cp HNX HMX
      clear hx HX
      by_cases hxa : x = a
      · subst hxa
        have HN2 := hide (HNX.out (.inl rfl))
        clear HNX HMX
        go_wp2_with (at_builtin; (with_reducible refine wpList_append_run _ rfl (.tmp 38) (.tmp 40) 22 rfl _ _ ?_ ?_ _ _ HRR.out ?_); exact rfl; exact rfl; clear HRR)
        go_roundg gg
        case measure => omega
        case rel => exact ⟨k + 1, by omega, by go_num, HN2.out⟩
      · by_cases hxb : x = b
        · subst hxb
          have HN2 := hide (HNX.out (.inr rfl))
          clear HNX HMX
          go_wp2_with (at_builtin; (with_reducible refine wpList_append_run _ rfl (.tmp 38) (.tmp 40) 22 rfl _ _ ?_ ?_ _ _ HRR.out ?_); exact rfl; exact rfl; clear HRR)
          go_roundg gg
          case measure => omega
          case rel => exact ⟨k + 1, by omega, by go_num, HN2.out⟩
        · have HN2 := hide (HMX.out hxa hxb)
          have ea : (x == a) = false := by simpa using hxa
          have eb : (x == b) = false := by simpa using hxb
          clear HNX HMX HRR
          go_wp2
          go_roundg gg
          case measure => omega
          case rel => exact ⟨k + 1, by omega, by go_num, HN2.out⟩

end Go.Proofs.YtbnhacibkmcmkaaDoor
