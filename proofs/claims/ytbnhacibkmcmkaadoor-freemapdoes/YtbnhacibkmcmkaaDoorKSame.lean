/- Contract: the law's own same; what the codes of a map tell. -/
import Derived.Test.YtbnhacibkmcmkaaDoorKRefR
import Derived.Test.YtbnhacibkmcmkaaDoorKSl
import Derived.Test.YtbnhacibkmcmkaaDoorKActs
import Derived.Test.YtbnhacibkmcmkaaDoorKClone
namespace Go.Proofs.YtbnhacibkmcmkaaDoor
set_option maxRecDepth 20000
open Go.RowKit
set_option linter.unusedVariables false
set_option maxRecDepth 100000

section
variable {n : Nat} {f g : Nat → Bool}
theorem code_has (hf : ∀ p, n ≤ p → f p = false) (p : Int) : hasC n (codeP f g) p = hasI f p := by
  rw [hasC, hasI]
  by_cases h0 : 0 ≤ p
  · by_cases h1 : p < n
    · rw [decide_eq_true (show 0 ≤ p ∧ p < n from ⟨h0, h1⟩), decide_eq_true h0, codeP]
      cases f p.toNat <;> cases g p.toNat <;> rfl
    · rw [decide_eq_false (fun h => h1 h.2), hf _ (by omega)]; simp
  · rw [decide_eq_false (fun h => h0 h.1), decide_eq_false h0]; rfl
theorem code_mine (hf : ∀ p, n ≤ p → f p = false) (p : Int) : mineC n (codeP f g) p = (hasI f p && !hasI g p) := by
  rw [mineC, hasI, hasI]
  by_cases h0 : 0 ≤ p
  · by_cases h1 : p < n
    · rw [decide_eq_true (show 0 ≤ p ∧ p < n from ⟨h0, h1⟩), decide_eq_true h0, codeP]
      cases f p.toNat <;> cases g p.toNat <;> rfl
    · rw [decide_eq_false (fun h => h1 h.2), hf _ (by omega)]; simp
  · rw [decide_eq_false (fun h => h0 h.1), decide_eq_false h0]; rfl
theorem code_free (hf : ∀ p, n ≤ p → f p = false) (p : Int) (q : Nat) : freeC n (codeP f g) p q = codeP (dropF f p) g q := by
  rw [freeC, code_has hf]
  cases hh : hasI f p with
  | false =>
    rw [if_neg (by simp)]
    rw [codeP, codeP, dropF]
    by_cases hq : (q : Int) = p
    · subst hq
      rw [hasI] at hh
      simp at hh
      simp [hh]
    · simp [hq]
  | true =>
    rw [if_pos rfl]
    rw [hasI, Bool.and_eq_true, decide_eq_true_eq] at hh
    rw [upd]
    by_cases hq : q = p.toNat
    · subst hq
      rw [if_pos rfl, codeP, codeP, dropF, hh.2]
      have e : ((p.toNat : Nat) : Int) = p := by omega
      rw [e]
      cases g p.toNat <;> simp
    · have e : ¬ (q : Int) = p := by omega
      rw [if_neg hq, codeP, codeP, dropF]
      simp [e]
theorem code_commit (p : Nat) : comC (codeP f g p) = codeP f f p := by
  unfold comC codeP
  cases f p <;> cases g p <;> rfl
theorem code_abort (p : Nat) : aboC (codeP f g p) = codeP g g p := by
  unfold aboC codeP
  cases f p <;> cases g p <;> rfl
theorem of_free : ofL (codeP f g) 0 0 n = pagesF (frF n f g) n := by
  rw [ofL, pagesF_eq]
  apply List.filter_congr
  intro p hp
  have hp' : p < n := by simpa using hp
  rw [frF_eq, decide_eq_true hp', codeP]
  cases f p <;> cases g p <;> rfl
theorem of_taken : ofL (codeP f g) 1 2 n = pagesF f n := by
  rw [ofL, pagesF_eq]
  apply List.filter_congr
  intro p hp
  rw [codeP]
  cases f p <;> cases g p <;> rfl
theorem of_held : ofL (codeP f g) 3 3 n = pagesF (heF f g) n := by
  rw [ofL, pagesF_eq]
  apply List.filter_congr
  intro p hp
  rw [heF, codeP]
  cases f p <;> cases g p <;> rfl
end

theorem ofSl {w' : World} {base : Nat} {v : Value} {xs : List Nat} {L : Nat} (h : Ints w' base v (ci xs)) (hL : xs.length = L) : ∃ ao cap, v = .slice ao L cap ∧ Is w' (.slice ao L cap) (ci xs) := by
  have hii := h.is
  obtain ⟨ao, cap, hv⟩ := h.shape
  rw [ci_length, hL] at hv
  exact ⟨ao, cap, hv, by rw [← hv]; exact hii⟩

set_option maxHeartbeats 4000000 in
theorem same_any (w : World) (B b r q n : Nat) (f g : Nat → Bool) (h : MapE w B b n f g) (hr : RefM w B r q n (codeP f g)) : Calls Tryd.prog 22 #[dp b, dp r] w fun e w' => e = .returned (.bool true) ∧ Below w.heap.size w w' := by
  have hn := hr.hi
  have hout := h.out
  have HM := hide h
  have HR := hide hr
  obtain ⟨L0, hL0⟩ : ∃ L0, cntF (frF n f g) n = L0 := ⟨_, rfl⟩
  obtain ⟨L1, hL1⟩ : ∃ L1, cntF f n = L1 := ⟨_, rfl⟩
  obtain ⟨L3, hL3⟩ : ∃ L3, cntF (heF f g) n = L3 := ⟨_, rfl⟩
  have hp0 : (pagesF (frF n f g) n).length = L0 := by rw [pagesF_len, hL0]
  have hp1 : (pagesF f n).length = L1 := by rw [pagesF_len, hL1]
  have hp3 : (pagesF (heF f g) n).length = L3 := by rw [pagesF_len, hL3]
  have hl0 : L0 ≤ 2048 := by rw [← hp0]; have := pagesF_le (frF n f g) n; omega
  have hl3 : L3 ≤ 2048 := by rw [← hp3]; have := pagesF_le (heF f g) n; omega
  have H0 : Hid (Calls Tryd.prog 49 #[dp r, .int .i64 0, .int .i64 0] w fun e w' => ∃ ao cap, e = .returned (.slice ao L0 cap) ∧ Is w' (.slice ao L0 cap) (ci (pagesF (frF n f g) n)) ∧ Below w.heap.size w w') := by
    refine (refOfM_any w B r q n _ 0 0 hr).mono ?_
    rintro e w' ⟨v, rfl, hi, hb⟩
    rw [of_free] at hi
    obtain ⟨ao, cap, rfl, hii⟩ := ofSl hi hp0
    exact ⟨ao, cap, rfl, hii, hb⟩
  have H1 : Hid (∀ W, Below w.heap.size w W → Calls Tryd.prog 49 #[dp r, .int .i64 1, .int .i64 2] W fun e w' => ∃ ao cap, e = .returned (.slice ao L1 cap) ∧ Is w' (.slice ao L1 cap) (ci (pagesF f n)) ∧ Below W.heap.size W w') := fun W hb => by
    refine (refOfM_any W B r q n _ 1 2 (hr.below hb)).mono ?_
    rintro e w' ⟨v, rfl, hi, hb⟩
    rw [of_taken] at hi
    obtain ⟨ao, cap, rfl, hii⟩ := ofSl hi hp1
    exact ⟨ao, cap, rfl, hii, hb⟩
  have H3 : Hid (∀ W, Below w.heap.size w W → Calls Tryd.prog 49 #[dp r, .int .i64 3, .int .i64 3] W fun e w' => ∃ ao cap, e = .returned (.slice ao L3 cap) ∧ Below W.heap.size W w') := fun W hb => by
    refine (refOfM_any W B r q n _ 3 3 (hr.below hb)).mono ?_
    rintro e w' ⟨v, rfl, hi, hb⟩
    rw [of_held] at hi
    obtain ⟨ao, cap, rfl, hii⟩ := ofSl hi hp3
    exact ⟨ao, cap, rfl, hb⟩
  have HT : Hid (∀ W, Below w.heap.size w W → Calls Tryd.prog 31 #[dp b] W fun e w' => ∃ ao cap, e = .returned (.slice ao L1 cap) ∧ Is w' (.slice ao L1 cap) (ci (pagesF f n)) ∧ Below W.heap.size W w') := fun W hb => by
    refine (mtaken_any W B b n f g (h.below hb)).mono ?_
    rintro e w' ⟨v, rfl, hi, hb⟩
    obtain ⟨ao, cap, rfl, hii⟩ := ofSl hi hp1
    exact ⟨ao, cap, rfl, hii, hb⟩
  have HE : Hid (∀ W va vb zs, Is W va zs → Is W vb zs → Calls Tryd.prog 17 #[va, vb] W fun e w' => e = .returned (.bool true) ∧ Below W.heap.size W w') := fun W va vb zs ha hb => by
    refine (sEqual_any W va vb zs zs ha hb).mono ?_
    rintro e w' ⟨rfl, q, rfl⟩
    exact ⟨by simp, belowN W q⟩
  have HAV : Hid (∀ W, Below w.heap.size w W → Calls Tryd.prog 33 #[dp b] W fun e w' => e = .returned (.int .i64 (L0 : Int)) ∧ Below W.heap.size W w') := fun W hb => by
    have := mavail_any W B b n f g (h.below hb)
    rw [hL0] at this
    exact this
  have HHE : Hid (∀ W, Below w.heap.size w W → Calls Tryd.prog 32 #[dp b] W fun e w' => e = .returned (.int .i64 (L3 : Int)) ∧ Below W.heap.size W w') := fun W hb => by
    have := mheld_any W B b n f g (h.below hb)
    rw [hL3] at this
    exact this
  have HAL := hide (fun W => mall_any W (some ⟨b, 0, none⟩))
  have HTO : ∀ (M : Nat), M ≤ 2000000 → ∀ W, Below w.heap.size w W → Calls Tryd.prog 34 #[.func (.func 60) #[] #[.pointer (some ⟨W.heap.size, 0, none⟩)], .int .i64 M] (W.alloc (.cells #[dp b] 37)) fun e w' => ∃ ao cap, e = .returned (.slice ao (min M L0) cap) ∧ Is w' (.slice ao (min M L0) cap) (ci ((pagesF (frF n f g) n).take M)) ∧ Below W.heap.size W w' := fun M hM W hbw => by
    have hb : Below W.heap.size W (W.alloc (.cells #[dp b] 37)) := (Below.refl _ W).alloc (Nat.le_refl _) _
    have hpl := pagesF_le (frF n f g) n
    refine (told_any _ 60 #[.pointer (some ⟨W.heap.size, 0, none⟩)] (pagesF (frF n f g) n) (MapV W.heap.size b n f g) enters_mall (mall_iter _ b n f g) (fun k W' ho => mapV_of ((h.below hbw).below hb) (ho.below (Nat.le_refl _) (fun _ _ h => h)) ((Blk.new W 37 [dp b]).only ho (fun h => h)) k) (by omega) M hM).mono ?_
    rintro e w' ⟨v, rfl, hi, hb2⟩
    obtain ⟨ao, cap, rfl, hii⟩ := ofSl (L := min M L0) hi (by rw [List.length_take, hp0])
    exact ⟨ao, cap, rfl, hii, below_on hb hb2⟩
  have HT1 : Hid (∀ W, Below w.heap.size w W → Calls Tryd.prog 34 #[.func (.func 60) #[] #[.pointer (some ⟨W.heap.size, 0, none⟩)], .int .i64 1048576] (W.alloc (.cells #[dp b] 37)) fun e w' => ∃ ao cap, e = .returned (.slice ao L0 cap) ∧ Is w' (.slice ao L0 cap) (ci (pagesF (frF n f g) n)) ∧ Below W.heap.size W w') := fun W hb => by
    have := HTO 1048576 (by decide) W hb
    rw [show min 1048576 L0 = L0 by omega, List.take_of_length_le (by omega)] at this
    exact this
  obtain ⟨M2, hM2⟩ : ∃ M2, min 2 L0 = M2 := ⟨_, rfl⟩
  have HT2 : Hid (∀ W, Below w.heap.size w W → Calls Tryd.prog 34 #[.func (.func 60) #[] #[.pointer (some ⟨W.heap.size, 0, none⟩)], .int .i64 2] (W.alloc (.cells #[dp b] 37)) fun e w' => ∃ ao cap, e = .returned (.slice ao M2 cap) ∧ Below W.heap.size W w') := fun W hb => by
    refine (HTO 2 (by decide) W hb).mono ?_
    rintro e w' ⟨ao, cap, rfl, _, hb2⟩
    rw [hM2]
    exact ⟨ao, cap, rfl, hb2⟩
  have hmin : ∀ (ts : Array TypeId) (t : TypeId) (wx : World), (Builtin.min_ ts t #[.int .i64 2, .int .i64 (L0 : Int)]).run Tryd.prog wx = .ok (.int .i64 (M2 : Int)) wx := run_min80 2 L0 M2 hM2
  obtain ⟨m, hm⟩ : ∃ m, min n 40 = m := ⟨_, rfl⟩
  have hmin2 : ∀ (ts : Array TypeId) (t : TypeId) (wx : World), (Builtin.min_ ts t #[.int .i64 (n : Int), .int .i64 40]).run Tryd.prog wx = .ok (.int .i64 (m : Int)) wx := run_min80 n 40 m hm
  have hm40 : m ≤ 40 := by omega
  have HHA : Hid (∀ p W, Below w.heap.size w W → Calls Tryd.prog 36 #[dp b, .int .i64 p] W fun e w' => e = .returned (.bool (hasI f p)) ∧ Below W.heap.size W w') := fun p W hb => by
    refine (mhas_any W B b n f g p (h.below hb)).mono ?_
    rintro e w' ⟨rfl, q, rfl⟩
    exact ⟨rfl, belowN W q⟩
  have HMI : Hid (∀ p W, Below w.heap.size w W → Calls Tryd.prog 37 #[dp b, .int .i64 p] W fun e w' => e = .returned (.bool (hasI f p && !hasI g p)) ∧ Below W.heap.size W w') := fun p W hb => by
    refine (mmine_any W B b n f g p (h.below hb)).mono ?_
    rintro e w' ⟨rfl, q, rfl⟩
    exact ⟨rfl, belowN W q⟩
  have HRH : Hid (∀ p W, Below w.heap.size w W → Calls Tryd.prog 50 #[dp r, .int .i64 p] W fun e w' => e = .returned (.bool (hasI f p)) ∧ w' = W) := fun p W hb => by
    have := refHasM_any W B r q n _ p (hr.below hb)
    rw [code_has hout.1] at this
    exact this
  have HRM : Hid (∀ p W, Below w.heap.size w W → Calls Tryd.prog 51 #[dp r, .int .i64 p] W fun e w' => e = .returned (.bool (hasI f p && !hasI g p)) ∧ w' = W) := fun p W hb => by
    have := refMineM_any W B r q n _ p (hr.below hb)
    rw [code_mine hout.1] at this
    exact this
  have HRX := hide hr
  have HB0 := hide (Below.refl w.heap.size w)
  clear h hr hout HTO hL0 hL1 hL3 hp0 hp1 hp3 hM2 hm HM HR
  go_enter Tryd.func22, Tryd.ntmps22
  go_wp2_with (first
    | (go_at_call 49; refine H0.out.mono ?_; rintro e w1 ⟨ao0, cap0, rfl, hi, hb⟩; have HB1 := hide hb; have HI0 := hide hi; clear hb hi H0)
    | (go_at_call 31; refine (HT.out w1 HB1.out).mono ?_; rintro e w2 ⟨ao1, cap1, rfl, hi, hb⟩; have HB2 := hide (below_on HB1.out hb); have HI02 := hide (HI0.out.below hb); have HI1 := hide hi; clear hb hi HT HI0)
    | (go_at_call 49; refine (H1.out w2 HB2.out).mono ?_; rintro e w3 ⟨ao2, cap2, rfl, hi, hb⟩; have HB3 := hide (below_on HB2.out hb); have HI03 := hide (HI02.out.below hb); have HI13 := hide (HI1.out.below hb); have HI2 := hide hi; clear hb hi H1 HI02 HI1)
    | (go_at_call 17; refine (HE.out w3 _ _ _ HI13.out HI2.out).mono ?_; rintro e w4 ⟨rfl, hb⟩; have HB4 := hide (below_on HB3.out hb); have HI04 := hide (HI03.out.below hb); clear hb HI13 HI2 HI03)
    | (go_at_call 33; refine (HAV.out w4 HB4.out).mono ?_; rintro e w5 ⟨rfl, hb⟩; have HB5 := hide (below_on HB4.out hb); have HI05 := hide (HI04.out.below hb); clear hb HAV HI04)
    | (go_at_call 32; refine (HHE.out w5 HB5.out).mono ?_; rintro e w6 ⟨rfl, hb⟩; have HB6 := hide (below_on HB5.out hb); have HI06 := hide (HI05.out.below hb); clear hb HHE HI05)
    | (go_at_call 49; refine (H3.out w6 HB6.out).mono ?_; rintro e w7 ⟨ao3, cap3, rfl, hb⟩; have HB7 := hide (below_on HB6.out hb); have HI07 := hide (HI06.out.below hb); clear hb H3 HI06)
    | (go_at_call 35; refine (HAL.out w7).mono ?_; rintro e w8 ⟨rfl, hw⟩; subst w8)
    | (go_at_call 34; refine (HT1.out w7 HB7.out).mono ?_; rintro e w9 ⟨ao9, cap9, rfl, hi, hb⟩; have HB9 := hide (below_on HB7.out hb); have HI09 := hide (HI07.out.below hb); have HI9 := hide hi; clear hb hi HT1 HI07)
    | (go_at_call 17; refine (HE.out w9 _ _ _ HI9.out HI09.out).mono ?_; rintro e w10 ⟨rfl, hb⟩; have HB10 := hide (below_on HB9.out hb); clear hb HI9 HI09 HE)
    | (go_at_call 35; refine (HAL.out w10).mono ?_; rintro e w11 ⟨rfl, hw⟩; subst w11)
    | (go_at_call 34; refine (HT2.out w10 HB10.out).mono ?_; rintro e w12 ⟨ao12, cap12, rfl, hb⟩; have HB12 := hide (below_on HB10.out hb); clear hb HT2))
  clear hmin
  have HB := hide HB12.out
  clear HB0 HB1 HB2 HB3 HB4 HB5 HB6 HB7 HB9 HB10 HB12 HAL
  go_loopg [6] (m + 2) (fun gg kv wr => ∃ p : Int, (gg : Int) + p = m + 1 ∧ kv = .int .i64 p ∧ -1 ≤ p ∧ Below w.heap.size w wr)
  case atStart => exact ⟨-1, by omega, rfl, by omega, HB.out⟩
  case round =>
    obtain ⟨p, hp, rfl, hp1, hb⟩ := hrel
    have HBR := hide hb
    have c0 := (HRX.out.below hb).c0
    clear HB
    cases gk with
    | zero =>
      have h3 : ¬ p ≤ (m : Int) := by omega
      clear hb
      go_wp2
      go_ret
      exact ⟨rfl, HBR.out⟩
    | succ gg =>
      have h3 : p ≤ (m : Int) := by omega
      have hX1 := hide (HHA.out p)
      have hX2 := hide (HRH.out p)
      have hX3 := hide (HMI.out p)
      have hX4 := hide (HRM.out p)
      generalize hasI f p = ha at hX1 hX2 hX3 hX4
      generalize hasI g p = hg at hX3 hX4
      generalize (ha && !hg) = mi at hX3 hX4
      clear hb HHA HRH HMI HRM
      cases ha <;> cases mi
      all_goals
        go_wp2_with (first
          | (go_at_call 36; refine (hX1.out wr HBR.out).mono ?_; rintro e W1 ⟨rfl, hb⟩; have HW1 := hide (below_on HBR.out hb); clear hb hX1)
          | (go_at_call 50; refine (hX2.out W1 HW1.out).mono ?_; rintro e W2 ⟨rfl, hw⟩; subst W2; clear hX2)
          | (go_at_call 37; refine (hX3.out W1 HW1.out).mono ?_; rintro e W3 ⟨rfl, hb⟩; have HW3 := hide (below_on HW1.out hb); clear hb hX3)
          | (go_at_call 51; refine (hX4.out W3 HW3.out).mono ?_; rintro e W4 ⟨rfl, hw⟩; subst W4; clear hX4))
        go_roundg gg
        case measure => omega
        case rel => exact ⟨p + 1, by omega, by go_num, by omega, HW3.out⟩

end Go.Proofs.YtbnhacibkmcmkaaDoor
