/- Contracts: package list's Check and checkAll; slices.Clone at uint32. -/
import Derived.Test.YtfihnmdhclnhgaaLsCol
import Derived.BigQuiet
namespace Go.Proofs.Ytfihnmdhclnhgaa
set_option maxRecDepth 20000
open Go.RowKit
set_option linter.unusedVariables false
set_option linter.unusedSimpArgs false
set_option maxRecDepth 100000

/-- it rises, each once -/
def riseB : List Int → Bool
  | x :: y :: l => decide (x < y) && riseB (y :: l)
  | _ => true
theorem rise_short {xs : List Int} (h : xs.length ≤ 1) : riseB xs = true := by
  match xs, h with
  | [], _ => rfl
  | [_], _ => rfl
theorem rise_step (xs : List Int) (k : Nat) (h : k + 1 < xs.length) : riseB (xs.drop k) = (decide (xs.getD k 0 < xs.getD (k + 1) 0) && riseB (xs.drop (k + 1))) := by
  rw [List.drop_eq_getElem_cons (show k < xs.length by omega), List.drop_eq_getElem_cons h, getD_lt xs (show k < xs.length by omega), getD_lt xs h]
  rfl
def riseE (xs : List Int) : Int := if riseB xs = true then 0 else 160

set_option maxHeartbeats 1000000 in
theorem checkU_any (w : World) (v : Value) (zs : List Int) (h : Ul w v zs) : Calls Try.prog 18 #[v] w fun e w' => e = .returned (.int .i64 (riseE zs)) ∧ Below w.heap.size w w' := by
  obtain ⟨ao, cap, rfl, h1, h2⟩ := h.shape
  have HU := hide h
  obtain ⟨n, hn⟩ : ∃ n, zs.length = n := ⟨_, rfl⟩
  have HN := hide hn
  rw [hn] at HU h1 ⊢
  have HE : Hid (∀ b, riseB zs = b → riseE zs = if b = true then 0 else 160) := fun b hb => by rw [← hb]; rfl
  generalize riseE zs = E at *
  clear h hn
  go_enter Try.func18, Try.ntmps18
  go_wp2
  go_loopg [3] n (fun g l3 wr => ∃ (i k : Nat), i = k + 1 ∧ g = n - k ∧ l3 = .int .i64 (i : Int) ∧ riseB zs = riseB (zs.drop k) ∧ ∃ q, wr = w.drewN q)
  case atStart => exact ⟨1, 0, rfl, rfl, rfl, by rw [List.drop_zero], 0, rfl⟩
  case round =>
    obtain ⟨i, k, hik, hg, rfl, hr, q, rfl⟩ := hrel
    have HR := hide hr
    have HIK := hide hik
    have HG := hide hg
    clear hr hg
    by_cases hi : i < n
    · obtain ⟨b, off, rfl, c1⟩ := HU.out.at i (by have := HN.out; omega)
      obtain ⟨b2, off2, he, c2⟩ := HU.out.at k (by have := HN.out; omega)
      obtain ⟨rfl, rfl⟩ : b = b2 ∧ off = off2 := by simpa using he
      obtain ⟨x, hx⟩ : ∃ x, zs.getD i 0 = x := ⟨_, rfl⟩
      obtain ⟨y, hy⟩ : ∃ y, zs.getD k 0 = y := ⟨_, rfl⟩
      have HS : Hid (riseB (zs.drop k) = (decide (y < x) && riseB (zs.drop i))) := by
        have := rise_step zs k (by have := HN.out; omega)
        rw [← hik, hx, hy] at this
        exact this
      rw [hx] at c1
      rw [hy] at c2
      have hii : (i : Int) < (n : Int) := by omega
      have hkk : (k : Int) < (n : Int) := by omega
      have hw1 : IntKind.i64.wrap ((i : Int) - 1) = (k : Int) := by rw [IntWalk.i64_in _ (by omega)]; omega
      have hw2 : IntKind.i64.wrap ((i : Int) + 1) = (i : Int) + 1 := IntWalk.i64_in _ (by omega)
      clear he hx hy hik
      by_cases hxy : x ≤ y
      · have HF : Hid (riseB zs = false) := by
          show _ = _
          rw [HR.out, HS.out, decide_eq_false (by omega)]
          rfl
        clear HS
        go_wp2
        go_quiet (fail)
        go_wp2
        go_ret
        exact ⟨ret_int (by rw [HE.out false HF.out]; rfl), by repeat (first | exact Below.refl _ _ | refine below_drewN ?_ _)⟩
      · have HS2 : Hid (riseB zs = riseB (zs.drop i)) := by
          show _ = _
          rw [HR.out, HS.out, decide_eq_true (by omega)]
          rfl
        clear HS
        go_wp2
        go_quiet (fail)
        go_wp2
        go_roundg (n - i)
        case measure => have := HIK.out; have := HG.out; omega
        case rel => exact ⟨i + 1, i, rfl, rfl, by go_num, HS2.out, _, rfl⟩
    · have hii : ¬ (i : Int) < (n : Int) := by omega
      have HF : Hid (riseB zs = true) := by
        show _ = _
        rw [HR.out]
        exact rise_short (by rw [List.length_drop, HN.out]; have := HIK.out; omega)
      clear hik
      go_wp2
      go_ret
      exact ⟨ret_int (by rw [HE.out true HF.out]; rfl), by repeat (first | exact Below.refl _ _ | refine below_drewN ?_ _)⟩

/-- lists of documents that are read -/
def Uls (w : World) (v : Value) (us : List Value) (ls : List (List Int)) : Prop :=
  us.length = ls.length ∧ ∃ ao cap, v = .slice ao ls.length cap ∧ ls.length ≤ cap ∧ cap ≤ maxLen ∧ (∀ i, i < ls.length → Ul w (us.getD i nilS) (ls.getD i [])) ∧ (ls ≠ [] → ∃ b off, ao = some ⟨b, off, none⟩ ∧ ∀ i, i < ls.length → w.cell? ⟨b, off + i, none⟩ = some (us.getD i nilS))
theorem Uls.below {w w' : World} {v : Value} {us : List Value} {ls : List (List Int)} (h : Uls w v us ls) (hb : Below w.heap.size w w') : Uls w' v us ls := by
  obtain ⟨hl, ao, cap, rfl, h1, h2, h3, h4⟩ := h
  refine ⟨hl, ao, cap, rfl, h1, h2, fun i hi => (h3 i hi).below hb, fun hne => ?_⟩
  obtain ⟨b, off, rfl, hc⟩ := h4 hne
  exact ⟨b, off, rfl, fun i hi => cell_belowL hb (hc i hi)⟩
theorem Uls.shape {w : World} {v : Value} {us : List Value} {ls : List (List Int)} (h : Uls w v us ls) : ∃ ao cap, v = .slice ao ls.length cap ∧ ls.length ≤ cap ∧ cap ≤ 9223372036854775807 := by
  obtain ⟨_, ao, cap, rfl, h1, h2, _⟩ := h
  exact ⟨ao, cap, rfl, h1, h2⟩
theorem Uls.at {w : World} {ao : Option Addr} {n cap : Nat} {us : List Value} {ls : List (List Int)} (h : Uls w (.slice ao n cap) us ls) (i : Nat) (hi : i < ls.length) : ∃ b off, ao = some ⟨b, off, none⟩ ∧ w.cell? ⟨b, off + i, none⟩ = some (us.getD i nilS) ∧ Ul w (us.getD i nilS) (ls.getD i []) := by
  obtain ⟨_, ao', cap', he, h1, h2, h3, h4⟩ := h
  simp only [Value.slice.injEq] at he
  obtain ⟨rfl, rfl, rfl⟩ := he
  obtain ⟨b, off, rfl, hc⟩ := h4 (by intro e; simp [e] at hi)
  exact ⟨b, off, rfl, hc i hi, h3 i hi⟩
def risesE (ls : List (List Int)) : Int := if ls.all riseB = true then 0 else 160
theorem all_step {α : Type} (ls : List α) (f : α → Bool) (d : α) (k : Nat) (h : k < ls.length) : (ls.drop k).all f = (f (ls.getD k d) && (ls.drop (k + 1)).all f) := by
  rw [List.drop_eq_getElem_cons h, List.all_cons]
  simp [List.getD, h]

set_option maxHeartbeats 1000000 in
theorem checkAll_any (w : World) (v : Value) (us : List Value) (ls : List (List Int)) (h : Uls w v us ls) : Calls Try.prog 36 #[v] w fun e w' => e = .returned (.int .i64 (risesE ls)) ∧ Below w.heap.size w w' := by
  obtain ⟨ao, cap, rfl, h1, h2⟩ := h.shape
  have HU := hide h
  obtain ⟨n, hn⟩ : ∃ n, ls.length = n := ⟨_, rfl⟩
  have HN := hide hn
  rw [hn] at HU h1 ⊢
  have HE : Hid (∀ b, ls.all riseB = b → risesE ls = if b = true then 0 else 160) := fun b hb => by rw [← hb]; rfl
  generalize risesE ls = E at *
  clear h hn
  go_enter Try.func36, Try.ntmps36
  go_wp2
  go_loopg [8] n (fun g i wr => ∃ k : Nat, g + k = n ∧ i = .int .i64 (k : Int) ∧ ls.all riseB = (ls.drop k).all riseB ∧ Below w.heap.size w wr)
  case atStart => exact ⟨0, by omega, rfl, by rw [List.drop_zero], Below.refl _ _⟩
  case round =>
    obtain ⟨k, hg, rfl, hr, hb⟩ := hrel
    have HR := hide hr
    have HB := hide hb
    clear hr hb
    by_cases hk : k < n
    · obtain ⟨b, off, rfl, c1, hu⟩ := (HU.out.below HB.out).at k (by have := HN.out; omega)
      have HS := hide (all_step ls riseB [] k (by have := HN.out; omega))
      obtain ⟨ua, uc, hus, _, _⟩ := hu.shape
      have HC := hide (checkU_any wr _ _ hu)
      generalize ls.getD k [] = x at *
      rw [hus] at c1 HC
      have hkk : (k : Int) < (n : Int) := by omega
      clear hu hus
      cases hx : riseB x with
      | false =>
        have HF : Hid (ls.all riseB = false) := by
          show _ = _
          rw [HR.out, HS.out, hx]
          rfl
        have he : riseE x = 160 := by unfold riseE; rw [hx]; rfl
        rw [he] at HC
        clear HS hx he
        go_wp2_with (go_at_call 18; refine HC.out.mono ?_; rintro e w1 ⟨rfl, hb⟩; have HB1 := hide hb; clear HC hb)
        go_ret
        exact ⟨ret_int (by rw [HE.out false HF.out]; rfl), HB.out.trans (HB1.out.mono HB.out.size)⟩
      | true =>
        have HF : Hid (ls.all riseB = (ls.drop (k + 1)).all riseB) := by
          show _ = _
          rw [HR.out, HS.out, hx, Bool.true_and]
        have he : riseE x = 0 := by unfold riseE; rw [hx]; rfl
        rw [he] at HC
        clear HS hx he
        go_wp2_with (go_at_call 18; refine HC.out.mono ?_; rintro e w1 ⟨rfl, hb⟩; have HB1 := hide hb; clear HC hb)
        go_roundg (gk - 1)
        case measure => omega
        case rel => exact ⟨k + 1, by omega, by go_num, HF.out, HB.out.trans (HB1.out.mono HB.out.size)⟩
    · obtain rfl : k = n := by omega
      have HF : Hid (ls.all riseB = true) := by
        show _ = _
        rw [HR.out, List.drop_of_length_le (by have := HN.out; omega)]
        rfl
      go_wp2
      go_ret
      exact ⟨ret_int (by rw [HE.out true HF.out]; rfl), HB.out⟩

theorem run_eq_nilU (a : Option Addr) (n c : Nat) (w : World) : (binOp .eql 23 (.slice a n c) (.slice none 0 0)).run Try.prog w = .ok (.bool a.isNone) w := by
  cases a <;> kernel_rfl
set_option maxHeartbeats 1000000 in
theorem cloneU_any (w : World) (v : Value) (zs : List Int) (h : Ul w v zs) (hl : zs.length ≤ 1000000) :
    Calls Try.prog 11 #[v] w fun e w' => ∃ u, e = .returned u ∧ Un w' w.heap.size u zs ∧ Below w.heap.size w w' := by
  obtain ⟨ao, cap, rfl, h1, h2⟩ := h.shape
  have HS := hide h
  cases ao with
  | none =>
    have hx : zs = [] := by
      cases zs with
      | nil => rfl
      | cons x t =>
        obtain ⟨b, off, he, _⟩ := h.at 0 (by simp)
        cases he
    subst hx
    have hq := run_eq_nilU none 0 cap w
    clear h
    simp only [List.length_nil]
    go_enter Try.func11, Try.ntmps11
    go_wp2
    go_ret
    exact ⟨_, rfl, Un.nil _ _, Below.refl _ w⟩
  | some a =>
    obtain ⟨i0, hi, hz, hs, hby⟩ := info_parts infoU32
    obtain ⟨W1, hW1⟩ : ∃ W1, w.alloc (.cells #[] 27) = W1 := ⟨_, rfl⟩
    have hb1 : Below w.heap.size w W1 := by rw [← hW1]; exact (Below.refl _ w).alloc (Nat.le_refl _) _
    have ho1 : W1.ownsRow w.heap.size 27 1 (.slice (some ⟨w.heap.size, 0, none⟩) 0 0) 0 [] := by
      rw [← hW1]
      exact ⟨rfl, .inr ⟨w.heap.size, 0, #[], rfl, Nat.le_refl _, heap_alloc_new w _, Nat.le_refl _, by simp [maxLen], by simp, rfl⟩⟩
    have hS1 := h.below hb1
    have hsrc : ∀ j u, (uv zs)[j]? = some u → W1.cell? (a.add j) = some u := fun j u hj => by
      have hjl : j < zs.length := by have := (List.getElem?_eq_some_iff.1 hj).1; simpa using this
      obtain ⟨b, off, he, hx⟩ := hS1.at j hjl
      obtain rfl : a = ⟨b, off, none⟩ := by simpa using he
      rw [Addr.add_mid, hx, ← hj]
      simp [List.getD, hjl]
    obtain ⟨v', w2, hr, h1', h2', _, _⟩ := run_append_own_at (P := Try.prog) W1 w.heap.size 23 23 27 i0 _ 1 4 Try.underlying23 hi hz hs hby rfl (by decide) _ 0 [] ho1 a zs.length cap (uv zs) (by simp) hsrc (by
        intro u hu
        obtain ⟨x, _, rfl⟩ := List.mem_map.1 hu
        rfl) (by unfold maxLen; omega) (by omega) hb1.size
    have hq := run_eq_nilU (some a) zs.length cap w
    have HR := hide hr
    have HO : Hid (Un w2 w.heap.size v' zs) := by
      show w2.ownsRow _ _ _ _ _ _
      simpa using h1'
    have HB : Hid (Below w.heap.size w w2) := hb1.trans (((Only.refl _ W1).grown (S := fun q => q = w.heap.size) h2' (fun q e _ => by have := Option.some.inj e; simp only at this; exact this.symm)).below hb1.size (fun j hj e => by omega))
    clear hr h1' h2' ho1 h hS1 hsrc hb1 hi hz hs hby
    go_enter Try.func11, Try.ntmps11
    go_wp2_with (at_builtin; (with_reducible refine wpList_append_run _ rfl (.tmp 5) (.tmp 6) 23 rfl _ _ ?_ ?_ _ _ HR.out ?_); exact rfl; exact rfl; clear HR)
    go_ret
    exact ⟨_, rfl, HO.out, HB.out⟩

end Go.Proofs.Ytfihnmdhclnhgaa
