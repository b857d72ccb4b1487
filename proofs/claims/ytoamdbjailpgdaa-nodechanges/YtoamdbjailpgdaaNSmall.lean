/- Contracts: package node's small questions: isKey, isVal, isChild, isKeyBehind, isPlace. -/
import Derived.Test.YtoamdbjailpgdaaNRow
namespace Go.Proofs.Ytoamdbjailpgdaa
set_option maxRecDepth 20000
open Go.RowKit
set_option linter.unusedVariables false
set_option linter.unusedSimpArgs false

theorem isKey_any (w : World) (v : Value) (k : List Int) (h : Sl w v k) :
    Calls Try.prog 71 #[v] w fun e w' => e = .returned (.bool (keyB k)) ∧ w' = w := by
  obtain ⟨ao, cap, rfl⟩ := sl_form' h
  obtain ⟨n, hn⟩ : ∃ n, k.length = n := ⟨_, rfl⟩
  have HK : Hid (keyB k = (decide (0 < n) && decide (n ≤ 25))) := by rw [← hn]; exact rfl
  rw [hn]
  clear hn h
  by_cases h0 : 0 < n
  · have i0 : (0 : Int) < (n : Int) := by omega
    by_cases h1 : n ≤ 25
    · have i1 : (n : Int) ≤ 25 := by omega
      go_enter Try.func71, Try.ntmps71
      go_wp2
      go_ret
      exact ⟨ret_bool (by rw [HK.out]; simp [h0, h1]), rfl⟩
    · have i1 : ¬ (n : Int) ≤ 25 := by omega
      go_enter Try.func71, Try.ntmps71
      go_wp2
      go_ret
      exact ⟨ret_bool (by rw [HK.out]; simp [h0, h1]), rfl⟩
  · obtain rfl : n = 0 := by omega
    go_enter Try.func71, Try.ntmps71
    go_wp2
    go_ret
    exact ⟨ret_bool (by rw [HK.out]; rfl), rfl⟩

theorem isVal_any (w : World) (v : Value) (k : List Int) (h : Sl w v k) :
    Calls Try.prog 72 #[v] w fun e w' => e = .returned (.bool (valB k)) ∧ w' = w := by
  obtain ⟨ao, cap, rfl⟩ := sl_form' h
  obtain ⟨n, hn⟩ : ∃ n, k.length = n := ⟨_, rfl⟩
  have HK : Hid (valB k = decide (n ≤ 24)) := by rw [← hn]; exact rfl
  rw [hn]
  clear hn h
  by_cases h1 : n ≤ 24
  · have i1 : (n : Int) ≤ 24 := by omega
    go_enter Try.func72, Try.ntmps72
    go_wp2
    go_ret
    exact ⟨ret_bool (by rw [HK.out]; simp [h1]), rfl⟩
  · have i1 : ¬ (n : Int) ≤ 24 := by omega
    go_enter Try.func72, Try.ntmps72
    go_wp2
    go_ret
    exact ⟨ret_bool (by rw [HK.out]; simp [h1]), rfl⟩

theorem isChild_any (w : World) (c : Int) :
    Calls Try.prog 77 #[.int .i64 c] w fun e w' => e = .returned (.bool (kidB c)) ∧ w' = w := by
  by_cases h0 : 2 ≤ c
  · by_cases h1 : c < 2048
    · go_enter Try.func77, Try.ntmps77
      go_wp2
      go_ret
      exact ⟨ret_bool (by simp [kidB, h0, h1]), rfl⟩
    · go_enter Try.func77, Try.ntmps77
      go_wp2
      go_ret
      exact ⟨ret_bool (by simp [kidB, h0, h1]), rfl⟩
  · go_enter Try.func77, Try.ntmps77
    go_wp2
    go_ret
    exact ⟨ret_bool (by rw [kidB, decide_eq_false (show ¬ 2 ≤ c by omega)]; rfl), rfl⟩

theorem isKeyBehind_any (w : World) (va vl : Value) (k l : List Int) (ha : Sl w va k) (hl : Sl w vl l) :
    Calls Try.prog 91 #[va, vl] w fun e w' => e = .returned (.bool (behB l k)) ∧ w' = w := by
  have HK := hide (isKey_any w va k ha)
  have HC := hide (packCompare_any w vl va l k hl ha)
  obtain ⟨ao, cap, rfl⟩ := sl_form' ha
  obtain ⟨ao', cap', rfl⟩ := sl_form' hl
  have HB : Hid (behB l k = (keyB k && decide (cmp l k < 0))) := rfl
  obtain ⟨b, hb⟩ : ∃ b, keyB k = b := ⟨_, rfl⟩
  obtain ⟨c, hc⟩ : ∃ c, cmp l k = c := ⟨_, rfl⟩
  rw [hb] at HK HB
  rw [hc] at HC HB
  generalize behB l k = B at HB ⊢
  clear hb hc ha hl
  cases b with
  | false =>
    go_enter Try.func91, Try.ntmps91
    go_wp2_with (go_at_call 71; refine HK.out.mono ?_; rintro e w1 ⟨rfl, hw⟩; subst w1; clear HK)
    go_ret
    exact ⟨ret_bool (by rw [HB.out]; rfl), rfl⟩
  | true =>
    by_cases h : c < 0
    · go_enter Try.func91, Try.ntmps91
      go_wp2_with (first | (go_at_call 71; refine HK.out.mono ?_; rintro e w1 ⟨rfl, hw⟩; subst w1; clear HK) | (go_at_call 65; refine HC.out.mono ?_; rintro e w1 ⟨rfl, hw⟩; subst w1; clear HC))
      go_ret
      exact ⟨ret_bool (by rw [HB.out]; simp [h]), rfl⟩
    · go_enter Try.func91, Try.ntmps91
      go_wp2_with (first | (go_at_call 71; refine HK.out.mono ?_; rintro e w1 ⟨rfl, hw⟩; subst w1; clear HK) | (go_at_call 65; refine HC.out.mono ?_; rintro e w1 ⟨rfl, hw⟩; subst w1; clear HC))
      go_ret
      exact ⟨ret_bool (by rw [HB.out]; simp [h]), rfl⟩

end Go.Proofs.Ytoamdbjailpgdaa
