/- The walk of the statement PackBetween: a text begins with another just if it lies from that one on, and ahead of what stands behind all that begin so. -/
import Derived.Test.YtbopcppagfhjnaaAfter
import Derived.Test.YtbopcppagfhjnaaPre
import Derived.Test.YtbopcppagfhjnaaLive
namespace Go.Proofs.Ytbopcppagfhjnaa
open Go.RowKit

theorem strip_cons (b : Int) (bs : List Int) : ∀ n, strip (b :: bs) (n + 1) = if strip bs n = 0 then (if b = 255 then 0 else 1) else strip bs n + 1
  | 0 => by simp [strip]
  | n + 1 => by
    have ih := strip_cons b bs n
    rw [strip]
    rw [ih]
    have e : (b :: bs).getD (n + 1) 0 = bs.getD n 0 := by simp
    rw [e]
    rw [show strip bs (n + 1) = if bs.getD n 0 = 255 then strip bs n else n + 1 from rfl]
    by_cases h : bs.getD n 0 = 255
    · rw [if_pos h, if_pos h]
    · rw [if_neg h, if_neg h, if_neg (by omega)]

theorem stripped_cons (b : Int) (bs : List Int) : stripped (b :: bs) = if stripped bs = 0 then (if b = 255 then 0 else 1) else stripped bs + 1 := strip_cons b bs bs.length

theorem afterB_cons0 (b : Int) (bs : List Int) (h : stripped bs = 0) (hb : b ≠ 255) : afterB (b :: bs) = [b + 1] := by
  unfold afterB; rw [stripped_cons, if_pos h, if_neg hb]; simp
theorem afterB_cons1 (b : Int) (bs : List Int) (h : stripped bs ≠ 0) : afterB (b :: bs) = b :: afterB bs := by
  unfold afterB; rw [stripped_cons, if_neg h]
  obtain ⟨m, hm⟩ : ∃ m, stripped bs = m + 1 := ⟨stripped bs - 1, by omega⟩
  rw [hm]; simp

theorem cmp_nil_right (xs : List Int) : 0 ≤ cmp xs [] := by cases xs <;> simp [cmp]

theorem between : ∀ (ys xs : List Int), ByteOk xs → ByteOk ys → ((ys.length ≤ xs.length ∧ pre xs ys = ys.length) ↔ (0 ≤ cmp xs ys ∧ (stripped ys = 0 ∨ cmp xs (afterB ys) < 0)))
  | [], xs, _, _ => by
    have h1 := cmp_nil_right xs
    have h2 : pre xs [] = 0 := by cases xs <;> rfl
    have h3 : stripped [] = 0 := rfl
    simp [h1, h2, h3]
  | b :: bs, [], _, _ => by simp [cmp]
  | b :: bs, a :: as', hx, hy => by
    have ih := between bs as' (fun z hz => hx z (List.mem_cons_of_mem _ hz)) (fun z hz => hy z (List.mem_cons_of_mem _ hz))
    have ha := hx a (List.mem_cons_self ..)
    have hb := hy b (List.mem_cons_self ..)
    by_cases hlt : a < b
    · have e : pre (a :: as') (b :: bs) = 0 := by simp [pre]; omega
      rw [e]
      simp [cmp, hlt]
    · by_cases hgt : b < a
      · have e : pre (a :: as') (b :: bs) = 0 := by simp [pre]; omega
        have e2 : ¬ (stripped (b :: bs) = 0 ∨ cmp (a :: as') (afterB (b :: bs)) < 0) := by
          rw [stripped_cons]
          by_cases h0 : stripped bs = 0
          · rw [if_pos h0, if_neg (by omega), afterB_cons0 b bs h0 (by omega)]
            intro h
            rcases h with h | h
            · cases h
            · have := cmp_nil_right as'
              simp only [cmp] at h
              split at h
              · omega
              · split at h <;> omega
          · rw [if_neg h0, afterB_cons1 b bs h0]
            intro h
            rcases h with h | h
            · omega
            · simp only [cmp, if_neg hlt, if_pos hgt] at h
              omega
        rw [e]
        simp only [e2, and_false, iff_false]
        simp
      · obtain rfl : a = b := by omega
        have e : pre (a :: as') (a :: bs) = pre as' bs + 1 := by simp [pre]
        have ec : ∀ t, cmp (a :: as') (a :: t) = cmp as' t := fun t => by simp [cmp]
        rw [e, ec]
        have el : ((a :: bs).length ≤ (a :: as').length ∧ pre as' bs + 1 = (a :: bs).length) ↔ (bs.length ≤ as'.length ∧ pre as' bs = bs.length) := by simp
        rw [el, ih, stripped_cons]
        by_cases h0 : stripped bs = 0
        · rw [if_pos h0]
          by_cases h255 : a = 255
          · simp [h0, h255]
          · rw [if_neg h255, afterB_cons0 a bs h0 h255]
            have : cmp (a :: as') [a + 1] = -1 := by simp [cmp]; omega
            rw [this]
            simp [h0]
        · rw [if_neg h0, afterB_cons1 a bs h0, ec]
          simp [h0]

/-- what stands behind, with its answer: is there any? -/
def afterL (zs : List Int) : List Int := if stripped zs = 0 then [] else afterB zs
def afterF (zs : List Int) : Bool := !(stripped zs == 0)

theorem packAfter_any (w : World) (v : Value) (zs : List Int) (h : Sl w v zs) (hl : zs.length ≤ 50000) :
    Calls Try.prog 28 #[v] w fun e w' => ∃ u, e = .returned (.tuple #[u, .bool (afterF zs)]) ∧ Sl w' u (afterL zs) ∧ Below w.heap.size w w' := by
  by_cases h0 : stripped zs = 0
  · refine (packAfter_no w v zs h h0).mono ?_
    rintro e w' ⟨rfl, hw⟩
    subst w'
    refine ⟨.slice none 0 0, by simp [afterF, h0], ?_, Below.refl _ _⟩
    rw [afterL, if_pos h0]; exact Sl.nil w
  · refine (packAfter_yes w v zs h hl (by omega)).mono ?_
    rintro e w' ⟨u, rfl, ho, hb⟩
    refine ⟨u, by simp [afterF, h0], ?_, hb⟩
    rw [afterL, if_neg h0]; exact sl_of_own_len ho (afterB_ok zs h.bytes (by omega))

theorem betweenB (xs ys : List Int) (hx : ByteOk xs) (hy : ByteOk ys) :
    (decide (ys.length ≤ xs.length) && ((pre xs ys : Int) == (ys.length : Int))) = (decide (0 ≤ cmp xs ys) && (!(afterF ys) || decide (cmp xs (afterL ys) < 0))) := by
  have h := between ys xs hx hy
  rw [Bool.eq_iff_iff]
  unfold afterF afterL
  by_cases h0 : stripped ys = 0
  · simp only [h0, true_or, and_true] at h
    simp [h0, ← h]; omega
  · simp only [h0, false_or] at h
    simp [h0, ← h]; omega

set_option maxHeartbeats 1000000 in
theorem packBetween_walk (w : World) (va vb : Value) (xs ys : List Int) (ha : Sl w va xs) (hb : Sl w vb ys) :
    Calls Try.prog 8 #[va, vb] w fun e w' => e = .returned (.bool true) ∧ Below w.heap.size w w' := by
  have HA := hide ha
  have HB := hide hb
  have key := betweenB xs ys ha.bytes hb.bytes
  obtain ⟨_, aoa, capa, rfl, _⟩ := ha
  obtain ⟨_, aob, capb, rfl, _⟩ := hb
  by_cases big : 2000 < xs.length ∨ 2000 < ys.length
  · have KEY := hide key
    clear key
    by_cases b1 : 2000 < xs.length
    · have i1 : (2000 : Int) < (xs.length : Int) := by omega
      go_enter Try.func8, Try.ntmps8
      go_wp2_with (first
        | (go_at_call 9; refine (live_any w).mono ?_; rintro e w1 ⟨rfl, hb1⟩)
        | (go_at_call 9; refine (live_any w1).mono ?_; rintro e w2 ⟨rfl, hb2⟩))
      go_ret
      exact ⟨rfl, below_then hb1 hb2 (Nat.le_refl _)⟩
    · have i1 : decide ((2000 : Int) < (xs.length : Int)) = false := decide_eq_false (by omega)
      have i2 : (2000 : Int) < (ys.length : Int) := by omega
      go_enter Try.func8, Try.ntmps8
      go_wp2_with (first
        | (go_at_call 9; refine (live_any w).mono ?_; rintro e w1 ⟨rfl, hb1⟩)
        | (go_at_call 9; refine (live_any w1).mono ?_; rintro e w2 ⟨rfl, hb2⟩))
      go_ret
      exact ⟨rfl, below_then hb1 hb2 (Nat.le_refl _)⟩
  · have i1 : decide ((2000 : Int) < (xs.length : Int)) = false := decide_eq_false (by omega)
    have i2 : decide ((2000 : Int) < (ys.length : Int)) = false := decide_eq_false (by omega)
    have HAF : ∀ w1, Below w.heap.size w w1 → Calls Try.prog 28 #[.slice aob ys.length capb] w1 fun e w' => ∃ u, e = .returned (.tuple #[u, .bool (afterF ys)]) ∧ Sl w' u (afterL ys) ∧ Below w1.heap.size w1 w' := fun w1 h => packAfter_any w1 _ ys (HB.out.below h) (by omega)
    obtain ⟨f, hf⟩ : ∃ f, f = afterF ys := ⟨_, rfl⟩
    obtain ⟨p, hp⟩ : ∃ p, p = pre xs ys := ⟨_, rfl⟩
    obtain ⟨c, hc⟩ : ∃ c, c = cmp xs ys := ⟨_, rfl⟩
    obtain ⟨c2, hc2⟩ : ∃ c2, c2 = cmp xs (afterL ys) := ⟨_, rfl⟩
    rw [← hf, ← hp, ← hc, ← hc2] at key
    rw [← hf] at HAF
    have HAF' := hide HAF
    have HP := hide hp
    have HC := hide hc
    have HC2 := hide hc2
    have KEY := hide key
    clear hf hp hc hc2 HAF key
    have d1 : (ys.length ≤ xs.length) ∨ decide (ys.length ≤ xs.length) = false := by
      by_cases h : ys.length ≤ xs.length
      · exact .inl h
      · exact .inr (decide_eq_false h)
    have d2 : 0 ≤ c ∨ decide (0 ≤ c) = false := by
      by_cases h : 0 ≤ c
      · exact .inl h
      · exact .inr (decide_eq_false h)
    rcases d1 with i3 | i3 <;> rcases d2 with i4 | i4 <;> cases f
    all_goals
      go_enter Try.func8, Try.ntmps8
      go_wp2_with (first
        | (go_at_call 9; refine (live_any w).mono ?_; rintro e w1 ⟨rfl, hb1⟩)
        | (go_at_call 28; refine (HAF'.out w1 hb1).mono ?_; rintro e w2 ⟨u, rfl, hu, hb2⟩; have HB2 := below_then hb1 hb2 (Nat.le_refl _); clear hb1 hb2; have HA2 := HA.out.below HB2; have HY2 := HB.out.below HB2)
        | (go_at_call 32; refine (packPrefix_any w2 _ _ xs ys HA2 HY2).mono ?_; rw [← HP.out]; rintro e w3 ⟨rfl, hb3⟩; have HA3 := HA2.below hb3; have HY3 := HY2.below hb3; have hu3 := hu.below hb3; have HB3 := below_then HB2 hb3 (Nat.le_refl _))
        | (go_at_call 30; refine (packCompare_any w3 _ _ xs ys HA3 HY3).mono ?_; rw [← HC.out]; rintro e w4 ⟨rfl, hw⟩; subst w4)
        | (go_at_call 30; refine (packCompare_any w2 _ _ xs ys HA2 HY2).mono ?_; rw [← HC.out]; rintro e w4 ⟨rfl, hw⟩; subst w4)
        | (go_at_call 30; refine (packCompare_any w3 _ _ xs (afterL ys) HA3 hu3).mono ?_; rw [← HC2.out]; rintro e w4 ⟨rfl, hw⟩; subst w4)
        | (go_at_call 30; refine (packCompare_any w2 _ _ xs (afterL ys) HA2 hu).mono ?_; rw [← HC2.out]; rintro e w4 ⟨rfl, hw⟩; subst w4))
      go_ret
      refine ⟨ret_bool ?_, by first | exact HB3 | exact HB2⟩
      have k := KEY.out
      clear KEY HAF' HA HB HP HC HC2
      first
        | (simp [i3, i4] at k ⊢; done)
        | (simp [i3, i4] at k ⊢; omega)
        | (simp [i3, i4] at k ⊢; rw [Bool.eq_iff_iff] at k ⊢; simp at k ⊢; omega)
        | (simp [i3, i4] at k ⊢; exact k)

end Go.Proofs.Ytbopcppagfhjnaa
