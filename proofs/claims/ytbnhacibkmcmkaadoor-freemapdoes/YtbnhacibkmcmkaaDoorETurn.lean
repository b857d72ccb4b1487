/- Contracts: package extent's turn, Add, Drop. -/
import Derived.Test.YtbnhacibkmcmkaaDoorESame
namespace Go.Proofs.YtbnhacibkmcmkaaDoor
set_option maxRecDepth 20000
open Go.RowKit
set_option linter.unusedVariables false

theorem sc_set (n : Nat) (f : Nat → Bool) (p : Nat) (hp : p < 2048) : (sc n f).set (1 + p / 64) (.int .u64 (word (flip f p) (p / 64) : Nat)) = sc n (flip f p) := by
  rw [Nat.add_comm]
  unfold sc
  rw [List.set_cons_succ]
  congr 1
  apply List.ext_getElem?
  intro i
  by_cases hi : i < 32
  · rw [List.getElem?_set]
    by_cases he : p / 64 = i
    · subst he
      simp [hi]
    · rw [if_neg he]
      simp [hi, word_flip_other f p i (fun h => he h.symm)]
  · rw [List.getElem?_eq_none (by simp; omega), List.getElem?_eq_none (by simp; omega)]
section
variable (w : World) (b n : Nat) (f : Nat → Bool)
set_option maxHeartbeats 1000000 in
theorem turn_any (p : Nat) (hp : p < n) (h : SetB w b n f) : Calls Tryd.prog 64 #[dp b, .int .i64 p] w fun e w' => e = .returned (.tuple #[]) ∧ SetB w' b n (flip f p) ∧ Only (· = b) w w' := by
  have hn := h.hi
  obtain ⟨I, hI⟩ : ∃ I, p / 64 = I := ⟨_, rfl⟩
  have hII : (p : Int) / 64 = (I : Int) := by omega
  have hlt : (I : Int) < 32 := by omega
  have hlt' : I < 32 := by omega
  have hIw := wrap_i64_in I (by omega)
  have HCW : Hid (∀ wx, Only (fun _ => False) w wx → wx.cell? ⟨b, 1 + I, none⟩ = some (.int .u64 (word f I : Nat)) ∧ wx.frozen? ⟨b, 1 + I, none⟩ = false) := fun wx ho => ⟨(h.only ho (fun h => h)).cw I hlt', ((h.only ho (fun h => h)).blk).frozen _⟩
  have hA := u64_xor_nat (word f I) (2 ^ (p % 64)) (word_lt _ _) (two_pow_lt64 (Nat.mod_lt _ (by decide)))
  have hf := word_flip f p
  rw [hI] at hf
  rw [hf] at hA
  have HB := hide (fun wx => bitOf_any wx p)
  have hset := sc_set n f p (by omega)
  rw [hI] at hset
  obtain ⟨X, hX⟩ : ∃ X, word (flip f p) I = X := ⟨_, rfl⟩
  rw [hX] at hA hset
  obtain ⟨K, hK⟩ : ∃ K, word f I = K := ⟨_, rfl⟩
  obtain ⟨Bt, hBt⟩ : ∃ K, 2 ^ (p % 64) = K := ⟨_, rfl⟩
  rw [hK] at HCW hA
  rw [hBt] at HB hA
  have HX := hide h
  have HSET := hide hset
  clear h hI hf hset hX hK hBt
  go_enter Tryd.func64, Tryd.ntmps64
  go_wp2
  refine wp_region_only (fun _ => False) [isV (.pointer (some ⟨b, 0, none⟩)), isV (.int .i64 (p : Int)), isV (.int .i64 (I : Int)), isV (.pointer (some ⟨b, 0, none⟩)), isV (.pointer (some ⟨b, 1, none⟩)), isV (.pointer (some ⟨b, 1 + I, none⟩)), isV (.int .u64 (K : Int)), isV (.int .i64 (p : Int)), isV (.int .u64 (Bt : Int)), isV (.int .u64 (X : Int)), isV (.pointer (some ⟨b, 0, none⟩)), isV (.pointer (some ⟨b, 1, none⟩)), isV (.pointer (some ⟨b, 1 + I, none⟩))] 99 17 13 (by kernel_rfl) (by kernel_rfl) (by kernel_rfl) (by kernel_rfl) rfl ?_ ?_ ?_
  · repeat (first | exact trivial | refine allStL_isV ?_)
  · refine ⟨?_, ?_, ?_, ?_, ?_, ?_, ?_, ?_, ?_, ?_, ?_, ?_, ?_, trivial⟩
    · intro act wx h
      have e0 : act.eval (.tmp 0) = .pointer (some ⟨b, 0, none⟩) := h.old 0 (by kernel_rfl)
      have hrel := h.rel
      clear h
      refine gives_by rfl act.eval rfl ?_
      generalize act.eval = ρ at *
      intro hf hc
      go_simp
      exact ⟨relM_quiet (by decide) (Only.refl _ _), rfl⟩
    · intro act wx h
      have e1 : act.eval (.tmp 1) = .int .i64 (p : Int) := h.old 1 (by kernel_rfl)
      have hrel := h.rel
      clear h
      refine gives_by rfl act.eval rfl ?_
      generalize act.eval = ρ at *
      intro hf hc
      go_simp
      exact ⟨relM_quiet (by decide) (Only.refl _ _), rfl⟩
    · intro act wx h
      obtain ⟨v5, e5, f5⟩ := h.val 1 5 (by kernel_rfl)
      obtain rfl : v5 = .int .i64 (p : Int) := f5
      have hrel := h.rel
      clear h
      refine gives_by rfl act.eval rfl ?_
      generalize act.eval = ρ at *
      intro hf hc
      go_simp
      exact ⟨relM_quiet (by decide) (Only.refl _ _), rfl⟩
    · intro act wx h
      obtain ⟨v4, e4, f4⟩ := h.val 0 4 (by kernel_rfl)
      obtain rfl : v4 = .pointer (some ⟨b, 0, none⟩) := f4
      have hrel := h.rel
      clear h
      refine gives_by rfl act.eval rfl ?_
      generalize act.eval = ρ at *
      intro hf hc
      go_simp
      exact ⟨relM_quiet (by decide) (Only.refl _ _), rfl⟩
    · intro act wx h
      obtain ⟨v7, e7, f7⟩ := h.val 3 7 (by kernel_rfl)
      obtain rfl : v7 = .pointer (some ⟨b, 0, none⟩) := f7
      have hrel := h.rel
      clear h
      refine gives_by rfl act.eval rfl ?_
      generalize act.eval = ρ at *
      intro hf hc
      go_simp
      exact ⟨relM_quiet (by decide) (Only.refl _ _), rfl⟩
    · intro act wx h
      obtain ⟨v8, e8, f8⟩ := h.val 4 8 (by kernel_rfl)
      obtain rfl : v8 = .pointer (some ⟨b, 1, none⟩) := f8
      obtain ⟨v6, e6, f6⟩ := h.val 2 6 (by kernel_rfl)
      obtain rfl : v6 = .int .i64 (I : Int) := f6
      have hrel := h.rel
      clear h
      refine gives_by rfl act.eval rfl ?_
      generalize act.eval = ρ at *
      intro hf hc
      go_simp
      exact ⟨relM_quiet (by decide) (Only.refl _ _), rfl⟩
    · intro act wx h
      obtain ⟨v9, e9, f9⟩ := h.val 5 9 (by kernel_rfl)
      obtain rfl : v9 = .pointer (some ⟨b, 1 + I, none⟩) := f9
      have hrel := h.rel
      clear h
      have cx := (HCW.out wx hrel).1
      refine gives_by rfl act.eval rfl ?_
      generalize act.eval = ρ at *
      intro hf hc
      go_simp
      exact ⟨relM_quiet (by decide) (Only.refl _ _), rfl⟩
    · intro act wx h
      have e1 : act.eval (.tmp 1) = .int .i64 (p : Int) := h.old 1 (by kernel_rfl)
      have hrel := h.rel
      clear h
      refine gives_by rfl act.eval rfl ?_
      generalize act.eval = ρ at *
      intro hf hc
      go_simp
      exact ⟨relM_quiet (by decide) (Only.refl _ _), rfl⟩
    · intro act wx h
      obtain ⟨v11, e11, f11⟩ := h.val 7 11 (by kernel_rfl)
      obtain rfl : v11 = .int .i64 (p : Int) := f11
      have hrel := h.rel
      clear h
      refine gives_by rfl act.eval rfl ?_
      generalize act.eval = ρ at *
      intro hf hc
      go_simp
      refine (HB.out wx).mono ?_
      rintro e wy ⟨rfl, hw⟩
      subst wy
      exact ⟨_, rfl, relM_quiet (by decide) (Only.refl _ _), rfl⟩
    · intro act wx h
      obtain ⟨v10, e10, f10⟩ := h.val 6 10 (by kernel_rfl)
      obtain rfl : v10 = .int .u64 (K : Int) := f10
      obtain ⟨v12, e12, f12⟩ := h.val 8 12 (by kernel_rfl)
      obtain rfl : v12 = .int .u64 (Bt : Int) := f12
      have hrel := h.rel
      clear h
      refine gives_by rfl act.eval rfl ?_
      generalize act.eval = ρ at *
      intro hf hc
      go_simp
      exact ⟨relM_quiet (by decide) (Only.refl _ _), rfl⟩
    · intro act wx h
      obtain ⟨v4, e4, f4⟩ := h.val 0 4 (by kernel_rfl)
      obtain rfl : v4 = .pointer (some ⟨b, 0, none⟩) := f4
      have hrel := h.rel
      clear h
      refine gives_by rfl act.eval rfl ?_
      generalize act.eval = ρ at *
      intro hf hc
      go_simp
      exact ⟨relM_quiet (by decide) (Only.refl _ _), rfl⟩
    · intro act wx h
      obtain ⟨v14, e14, f14⟩ := h.val 10 14 (by kernel_rfl)
      obtain rfl : v14 = .pointer (some ⟨b, 0, none⟩) := f14
      have hrel := h.rel
      clear h
      refine gives_by rfl act.eval rfl ?_
      generalize act.eval = ρ at *
      intro hf hc
      go_simp
      exact ⟨relM_quiet (by decide) (Only.refl _ _), rfl⟩
    · intro act wx h
      obtain ⟨v15, e15, f15⟩ := h.val 11 15 (by kernel_rfl)
      obtain rfl : v15 = .pointer (some ⟨b, 1, none⟩) := f15
      obtain ⟨v6, e6, f6⟩ := h.val 2 6 (by kernel_rfl)
      obtain rfl : v6 = .int .i64 (I : Int) := f6
      have hrel := h.rel
      clear h
      refine gives_by rfl act.eval rfl ?_
      generalize act.eval = ρ at *
      intro hf hc
      go_simp
      exact ⟨relM_quiet (by decide) (Only.refl _ _), rfl⟩
  · intro oL hoL vals w3 ho3 hv
    simp only [List.getElem?_toArray, List.getElem?_cons_succ, List.getElem?_cons_zero, Option.some.injEq] at hoL
    subst hoL
    have hv9 : vals 9 = .int .u64 (X : Int) := hv 9 13 (by decide) (by kernel_rfl)
    have hv12 : vals 12 = .pointer (some ⟨b, 1 + I, none⟩) := hv 12 16 (by decide) (by kernel_rfl)
    clear hv
    generalize hact : putAll _ vals 0 _ = act
    have k1 := (HCW.out w3 ho3).1
    have k2 := (HCW.out w3 ho3).2
    subst hact
    simp only [List.dropLast, putAll, Act.put, List.setIfInBounds_toArray, List.set_cons_zero, List.set_cons_succ, hv9, hv12]
    refine gives_of_skip rfl (w' := w3.setCell ⟨b, 1 + I, none⟩ (.int .u64 (X : Int))) (by go_simp) ?_
    have hX := HX.out
    have hB := Blk.set ((hX.only ho3 (fun h => h)).blk) (1 + I) (.int .u64 (X : Int))
    rw [HSET.out] at hB
    have hS : SetB (w3.setCell ⟨b, 1 + I, none⟩ (.int .u64 (X : Int))) b n (flip f p) := ⟨hB, hX.lo, hX.hi, fun q hq => by rw [flip, if_neg (by omega)]; exact hX.out q hq⟩
    have hO : Only (· = b) w (w3.setCell ⟨b, 1 + I, none⟩ (.int .u64 (X : Int))) := (ho3.mono (fun _ _ h => h.elim)).setCell _ _ (fun _ => rfl)
    have HS := hide hS
    have HO := hide hO
    clear k1 k2 hB hS hO hX
    go_wp2
    go_end0
    exact ⟨rfl, HS.out, HO.out⟩

/-- what an act answers, and leaves -/
def addE (n : Nat) (f : Nat → Bool) (p : Int) : Int := if 0 ≤ p ∧ p < n then (if f p.toNat then 70 else 0) else 1
def addF (n : Nat) (f : Nat → Bool) (p : Int) : Nat → Bool := fun q => f q || decide ((q : Int) = p ∧ q < n)
def dropE (n : Nat) (f : Nat → Bool) (p : Int) : Int := if 0 ≤ p ∧ p < n then (if f p.toNat then 0 else 4) else 1
def dropF (f : Nat → Bool) (p : Int) : Nat → Bool := fun q => f q && !decide ((q : Int) = p)
theorem only_drewN (S : Nat → Prop) (w : World) (m : Nat) : Only S w (w.drewN m) := (Only.refl S w).drewN m

theorem add_any (p : Int) (h : SetB w b n f) : Calls Tryd.prog 42 #[dp b, .int .i64 p] w fun e w' => e = .returned (.int .i64 (addE n f p)) ∧ SetB w' b n (addF n f p) ∧ Only (· = b) w w' := by
  have HM := made_cell w b n h.c0
  rw [decide_eq_true (show 0 < n from h.lo)] at HM
  have HM := hide HM
  have HE := exists_any w b n p h.c0
  have HX := hide h
  by_cases hp : 0 ≤ p ∧ p < n
  · rw [decide_eq_true hp] at HE
    have HE := hide HE
    obtain ⟨q, rfl⟩ : ∃ q : Nat, p = q := ⟨p.toNat, by omega⟩
    have hqn : q < n := by omega
    have HH := has_any w b n f (q : Int) h
    rw [show hasI f (q : Int) = f q by simp [hasI]] at HH
    have he : addE n f q = if f q then 70 else 0 := by rw [addE, if_pos hp]; simp
    rw [he]
    cases hf : f q with
    | true =>
      rw [hf] at HH
      rw [if_pos rfl]
      have HH := hide HH
      have HR : Hid (SetB w b n (addF n f q)) := by
        have e : addF n f q = f := by
          funext r
          simp only [addF]
          by_cases hr : r = q
          · subst hr; simp [hf]
          · simp [show ¬ ((r : Int) = (q : Int)) by omega]
        show SetB _ _ _ _
        rw [e]; exact h
      clear h hp he
      go_enter Tryd.func42, Tryd.ntmps42
      go_wp2_with (first
        | (go_at_call 62; refine HM.out.mono ?_; rintro e w1 ⟨rfl, hw⟩; subst w1; clear HM)
        | (go_at_call 63; refine HE.out.mono ?_; rintro e w1 ⟨rfl, hw⟩; subst w1; clear HE)
        | (go_at_call 57; refine HH.out.mono ?_; rintro e w1 ⟨rfl, m, hw⟩; subst w1; clear HH))
      go_ret
      exact ⟨rfl, HR.out.only (only_drewN (fun _ => False) w m) (fun h => h), only_drewN _ w m⟩
    | false =>
      rw [hf] at HH
      rw [if_neg (by decide)]
      have HH := hide HH
      have HT : Hid (∀ m, Calls Tryd.prog 64 #[dp b, .int .i64 q] (w.drewN m) fun e w' => e = .returned (.tuple #[]) ∧ SetB w' b n (flip f q) ∧ Only (· = b) (w.drewN m) w') := fun m => turn_any (w.drewN m) b n f q hqn (h.only (only_drewN (fun _ => False) w m) (fun h => h))
      have HR : Hid (addF n f q = flip f q) := by
        show _ = _
        funext r
        simp only [addF, flip]
        by_cases hr : r = q
        · subst hr; simp [hf, hqn]
        · simp [show ¬ ((r : Int) = (q : Int)) by omega, hr]
      clear h hp he
      go_enter Tryd.func42, Tryd.ntmps42
      go_wp2_with (first
        | (go_at_call 62; refine HM.out.mono ?_; rintro e w1 ⟨rfl, hw⟩; subst w1; clear HM)
        | (go_at_call 63; refine HE.out.mono ?_; rintro e w1 ⟨rfl, hw⟩; subst w1; clear HE)
        | (go_at_call 57; refine HH.out.mono ?_; rintro e w1 ⟨rfl, m, hw⟩; subst w1; clear HH)
        | (go_at_call 64; refine (HT.out m).mono ?_; rintro e w2 ⟨rfl, hs2, ho2⟩; have HS2 := hide hs2; have HO2 := hide ho2; clear HT hs2 ho2))
      go_ret
      exact ⟨rfl, by rw [HR.out]; exact HS2.out, (only_drewN _ w m).trans HO2.out (fun _ _ h => h)⟩
  · rw [decide_eq_false hp] at HE
    have HE := hide HE
    have he : addE n f p = 1 := by rw [addE, if_neg hp]
    rw [he]
    have HR : Hid (SetB w b n (addF n f p)) := by
      have e : addF n f p = f := by
        funext r
        simp only [addF]
        rw [show decide ((r : Int) = p ∧ r < n) = false from decide_eq_false (by omega)]
        simp
      show SetB _ _ _ _
      rw [e]; exact h
    clear h hp he
    go_enter Tryd.func42, Tryd.ntmps42
    go_wp2_with (first
      | (go_at_call 62; refine HM.out.mono ?_; rintro e w1 ⟨rfl, hw⟩; subst w1; clear HM)
      | (go_at_call 63; refine HE.out.mono ?_; rintro e w1 ⟨rfl, hw⟩; subst w1; clear HE))
    go_ret
    exact ⟨rfl, HR.out, Only.refl _ _⟩
theorem drop_any (p : Int) (h : SetB w b n f) : Calls Tryd.prog 53 #[dp b, .int .i64 p] w fun e w' => e = .returned (.int .i64 (dropE n f p)) ∧ SetB w' b n (dropF f p) ∧ Only (· = b) w w' := by
  have HM := made_cell w b n h.c0
  rw [decide_eq_true (show 0 < n from h.lo)] at HM
  have HM := hide HM
  have HE := exists_any w b n p h.c0
  have HX := hide h
  by_cases hp : 0 ≤ p ∧ p < n
  · rw [decide_eq_true hp] at HE
    have HE := hide HE
    obtain ⟨q, rfl⟩ : ∃ q : Nat, p = q := ⟨p.toNat, by omega⟩
    have hqn : q < n := by omega
    have HH := has_any w b n f (q : Int) h
    rw [show hasI f (q : Int) = f q by simp [hasI]] at HH
    have he : dropE n f q = if f q then 0 else 4 := by rw [dropE, if_pos hp]; simp
    rw [he]
    cases hf : f q with
    | false =>
      rw [hf] at HH
      rw [if_neg (by decide)]
      have HH := hide HH
      have HR : Hid (SetB w b n (dropF f q)) := by
        have e : dropF f q = f := by
          funext r
          simp only [dropF]
          by_cases hr : r = q
          · subst hr; simp [hf]
          · simp [show ¬ ((r : Int) = (q : Int)) by omega]
        show SetB _ _ _ _
        rw [e]; exact h
      clear h hp he
      go_enter Tryd.func53, Tryd.ntmps53
      go_wp2_with (first
        | (go_at_call 62; refine HM.out.mono ?_; rintro e w1 ⟨rfl, hw⟩; subst w1; clear HM)
        | (go_at_call 63; refine HE.out.mono ?_; rintro e w1 ⟨rfl, hw⟩; subst w1; clear HE)
        | (go_at_call 57; refine HH.out.mono ?_; rintro e w1 ⟨rfl, m, hw⟩; subst w1; clear HH))
      go_ret
      exact ⟨rfl, HR.out.only (only_drewN (fun _ => False) w m) (fun h => h), only_drewN _ w m⟩
    | true =>
      rw [hf] at HH
      rw [if_pos rfl]
      have HH := hide HH
      have HT : Hid (∀ m, Calls Tryd.prog 64 #[dp b, .int .i64 q] (w.drewN m) fun e w' => e = .returned (.tuple #[]) ∧ SetB w' b n (flip f q) ∧ Only (· = b) (w.drewN m) w') := fun m => turn_any (w.drewN m) b n f q hqn (h.only (only_drewN (fun _ => False) w m) (fun h => h))
      have HR : Hid (dropF f q = flip f q) := by
        show _ = _
        funext r
        simp only [dropF, flip]
        by_cases hr : r = q
        · subst hr; simp [hf]
        · simp [show ¬ ((r : Int) = (q : Int)) by omega, hr]
      clear h hp he
      go_enter Tryd.func53, Tryd.ntmps53
      go_wp2_with (first
        | (go_at_call 62; refine HM.out.mono ?_; rintro e w1 ⟨rfl, hw⟩; subst w1; clear HM)
        | (go_at_call 63; refine HE.out.mono ?_; rintro e w1 ⟨rfl, hw⟩; subst w1; clear HE)
        | (go_at_call 57; refine HH.out.mono ?_; rintro e w1 ⟨rfl, m, hw⟩; subst w1; clear HH)
        | (go_at_call 64; refine (HT.out m).mono ?_; rintro e w2 ⟨rfl, hs2, ho2⟩; have HS2 := hide hs2; have HO2 := hide ho2; clear HT hs2 ho2))
      go_ret
      exact ⟨rfl, by rw [HR.out]; exact HS2.out, (only_drewN _ w m).trans HO2.out (fun _ _ h => h)⟩
  · rw [decide_eq_false hp] at HE
    have HE := hide HE
    have he : dropE n f p = 1 := by rw [dropE, if_neg hp]
    rw [he]
    have HR : Hid (SetB w b n (dropF f p)) := by
      have e : dropF f p = f := by
        funext r
        simp only [dropF]
        by_cases hr : (r : Int) = p
        · rw [h.out r (by omega)]; simp
        · simp [hr]
      show SetB _ _ _ _
      rw [e]; exact h
    clear h hp he
    go_enter Tryd.func53, Tryd.ntmps53
    go_wp2_with (first
      | (go_at_call 62; refine HM.out.mono ?_; rintro e w1 ⟨rfl, hw⟩; subst w1; clear HM)
      | (go_at_call 63; refine HE.out.mono ?_; rintro e w1 ⟨rfl, hw⟩; subst w1; clear HE))
    go_ret
    exact ⟨rfl, HR.out, Only.refl _ _⟩
end

end Go.Proofs.YtbnhacibkmcmkaaDoor
