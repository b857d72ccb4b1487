/- One contract for all outcomes of each act, of both devices. -/
import Derived.Test.YtofpngmabjpfhaaDSame
namespace Go.Proofs.Ytofpngmabjpfhaa
open Go.RowKit
set_option linter.unusedVariables false

def writeR (d : Dv) (p : Int) (zs : List Int) : Int × Dv := if (0 ≤ p ∧ p < d.st.length) ∧ zs.length = 256 then (if d.off = true then (5, d) else (spendE d, writeD d p.toNat zs)) else (1, d)
def syncR (d : Dv) : Int × Dv := if d.off = true then (5, d) else (spendE d, syncD d)
def armR (d : Dv) (n : Int) : Int × Dv := if n < 0 then (1, d) else if d.off = true then (5, d) else (0, { d with left := some n.toNat })
def calmR (d : Dv) : Int × Dv := if d.off = true then (5, d) else (0, { d with left := none })
def loadR (d : Dv) (zs : List Int) : Int × Dv := if zs.length = d.st.length * 256 then (0, loadD d zs) else (1, d)

section
variable (w : World) (b r : Nat) (F G : Nat → Prop) (d : Dv)
theorem stay_dev (h : Dev w b F d) : Dev w b (fun k => F k ∨ w.heap.size ≤ k) d := h.mono (fun _ _ h => .inl h)
theorem stay_ref (h : Ref w r G d) : Ref w r (fun k => G k ∨ w.heap.size ≤ k) d := h.mono (fun _ _ h => .inl h)

theorem write_all (p : Int) (v : Value) (zs : List Int) (h : Dev w b F d) (hS : Sl w v zs) (hwl : d.ws.length < 1000000) (hdl : d.done < 1000000000) :
    Calls Try.prog 15 #[dp b, .int .i64 p, v] w fun e w' => e = .returned (.int .i64 (writeR d p zs).1) ∧ Dev w' b (fun k => F k ∨ w.heap.size ≤ k) (writeR d p zs).2 ∧ Only F w w' := by
  unfold writeR
  by_cases h1 : (0 ≤ p ∧ p < d.st.length) ∧ zs.length = 256
  · rw [if_pos h1]
    by_cases h2 : d.off = true
    · rw [if_pos h2]
      refine (write_off w b F d p v zs h hS h1.1 h1.2 h2).mono ?_
      rintro e w' ⟨rfl, rfl⟩
      exact ⟨rfl, stay_dev _ b F d h, Only.refl _ _⟩
    · rw [if_neg h2]
      obtain ⟨P, rfl⟩ : ∃ P : Nat, p = (P : Int) := ⟨p.toNat, by omega⟩
      exact write_ok w b F d P v zs h (by omega) (by simpa using h2) hS h1.2 hwl hdl
  · rw [if_neg h1]
    refine (write_arg w b F d p v zs h hS h1).mono ?_
    rintro e w' ⟨rfl, rfl⟩
    exact ⟨rfl, stay_dev _ b F d h, Only.refl _ _⟩
theorem refWrite_all (p : Int) (v : Value) (zs : List Int) (h : Ref w r G d) (hS : Sl w v zs) (hv : zs ≠ [] → ∀ k, v.ownBlock = some k → ¬ G k) (hwl : d.ws.length < 1000000) (hdl : d.done < 1000000000) :
    Calls Try.prog 31 #[dp r, .int .i64 p, v] w fun e w' => e = .returned (.int .i64 (writeR d p zs).1) ∧ Ref w' r (fun k => G k ∨ w.heap.size ≤ k) (writeR d p zs).2 ∧ Only G w w' := by
  unfold writeR
  by_cases h1 : (0 ≤ p ∧ p < d.st.length) ∧ zs.length = 256
  · rw [if_pos h1]
    by_cases h2 : d.off = true
    · rw [if_pos h2]
      refine (refWrite_off w r G d p v zs h hS h1.1 h1.2 h2).mono ?_
      rintro e w' ⟨rfl, rfl⟩
      exact ⟨rfl, stay_ref _ r G d h, Only.refl _ _⟩
    · rw [if_neg h2]
      obtain ⟨P, rfl⟩ : ∃ P : Nat, p = (P : Int) := ⟨p.toNat, by omega⟩
      exact refWrite_ok w r G d P v zs h (by omega) (by simpa using h2) hS (hv (by intro e; rw [e] at h1; simp at h1)) h1.2 hwl hdl
  · rw [if_neg h1]
    refine (refWrite_arg w r G d p v zs h hS h1).mono ?_
    rintro e w' ⟨rfl, rfl⟩
    exact ⟨rfl, stay_ref _ r G d h, Only.refl _ _⟩
theorem spendE_live (hl : d.left ≠ some 0) : spendE d = 0 := by
  unfold spendE
  split
  · rename_i h; exact absurd h hl
  · rfl
theorem spendE_dark (hl : d.left = some 0) : spendE d = 5 := by unfold spendE; rw [hl]; rfl
theorem sync_all (h : Dev w b F d) (hdl : d.done < 1000000000) :
    Calls Try.prog 22 #[dp b] w fun e w' => e = .returned (.int .i64 (syncR d).1) ∧ Dev w' b F (syncR d).2 ∧ Only F w w' := by
  unfold syncR
  by_cases h2 : d.off = true
  · rw [if_pos h2]
    refine (sync_off w b F d h h2).mono ?_
    rintro e w' ⟨rfl, rfl⟩
    exact ⟨rfl, h, Only.refl _ _⟩
  · rw [if_neg h2]
    have h2' : d.off = false := by simpa using h2
    by_cases hl : d.left = some 0
    · rw [spendE_dark d hl]; exact sync_dark w b F d h h2' hl hdl
    · rw [spendE_live d hl]; exact sync_live w b F d h h2' hl hdl
theorem refSync_all (h : Ref w r G d) (hdl : d.done < 1000000000) :
    Calls Try.prog 32 #[dp r] w fun e w' => e = .returned (.int .i64 (syncR d).1) ∧ Ref w' r G (syncR d).2 ∧ Only G w w' := by
  unfold syncR
  by_cases h2 : d.off = true
  · rw [if_pos h2]
    refine (refSync_off w r G d h h2).mono ?_
    rintro e w' ⟨rfl, rfl⟩
    exact ⟨rfl, h, Only.refl _ _⟩
  · rw [if_neg h2]
    have h2' : d.off = false := by simpa using h2
    by_cases hl : d.left = some 0
    · rw [spendE_dark d hl]; exact refSync_dark w r G d h h2' hl hdl
    · rw [spendE_live d hl]; exact refSync_live w r G d h h2' hl hdl
theorem arm_all (n : Int) (h : Dev w b F d) (hn : n ≤ 9223372036854775807) :
    Calls Try.prog 25 #[dp b, .int .i64 n] w fun e w' => e = .returned (.int .i64 (armR d n).1) ∧ Dev w' b F (armR d n).2 ∧ Only F w w' := by
  unfold armR
  by_cases h1 : n < 0
  · rw [if_pos h1]
    refine (arm_bad w b F d n h h1).mono ?_
    rintro e w' ⟨rfl, rfl⟩
    exact ⟨rfl, h, Only.refl _ _⟩
  · rw [if_neg h1]
    by_cases h2 : d.off = true
    · rw [if_pos h2]
      refine (arm_off w b F d n h h1 h2).mono ?_
      rintro e w' ⟨rfl, rfl⟩
      exact ⟨rfl, h, Only.refl _ _⟩
    · rw [if_neg h2]
      obtain ⟨N, rfl⟩ : ∃ N : Nat, n = (N : Int) := ⟨n.toNat, by omega⟩
      exact arm_ok w b F d N h (by omega) (by simpa using h2)
theorem refArm_all (n : Int) (h : Ref w r G d) (hn : n ≤ 9223372036854775807) :
    Calls Try.prog 33 #[dp r, .int .i64 n] w fun e w' => e = .returned (.int .i64 (armR d n).1) ∧ Ref w' r G (armR d n).2 ∧ Only G w w' := by
  have hrG : G r := by obtain ⟨_, _, _, _, h⟩ := h; exact h.fr
  unfold armR
  by_cases h1 : n < 0
  · rw [if_pos h1]
    refine (refArm_bad w r n h1).mono ?_
    rintro e w' ⟨rfl, rfl⟩
    exact ⟨rfl, h, Only.refl _ _⟩
  · rw [if_neg h1]
    by_cases h2 : d.off = true
    · rw [if_pos h2]
      refine (refArm_off w r G d n h h1 h2).mono ?_
      rintro e w' ⟨rfl, rfl⟩
      exact ⟨rfl, h, Only.refl _ _⟩
    · rw [if_neg h2]
      obtain ⟨N, rfl⟩ : ∃ N : Nat, n = (N : Int) := ⟨n.toNat, by omega⟩
      refine (refArm_ok w r G d N h (by omega) (by simpa using h2)).mono ?_
      rintro e w' ⟨rfl, h3, h4⟩
      exact ⟨rfl, h3, h4.mono (fun k _ e => by rw [e]; exact hrG)⟩
theorem calm_all (h : Dev w b F d) :
    Calls Try.prog 26 #[dp b] w fun e w' => e = .returned (.int .i64 (calmR d).1) ∧ Dev w' b F (calmR d).2 ∧ Only F w w' := by
  unfold calmR
  by_cases h2 : d.off = true
  · rw [if_pos h2]
    refine (calm_off w b F d h h2).mono ?_
    rintro e w' ⟨rfl, rfl⟩
    exact ⟨rfl, h, Only.refl _ _⟩
  · rw [if_neg h2]
    exact calm_ok w b F d h (by simpa using h2)
theorem refCalm_all (h : Ref w r G d) :
    Calls Try.prog 34 #[dp r] w fun e w' => e = .returned (.int .i64 (calmR d).1) ∧ Ref w' r G (calmR d).2 ∧ Only G w w' := by
  have hrG : G r := by obtain ⟨_, _, _, _, h⟩ := h; exact h.fr
  unfold calmR
  by_cases h2 : d.off = true
  · rw [if_pos h2]
    refine (refCalm_off w r G d h h2).mono ?_
    rintro e w' ⟨rfl, rfl⟩
    exact ⟨rfl, h, Only.refl _ _⟩
  · rw [if_neg h2]
    refine (refCalm_ok w r G d h (by simpa using h2)).mono ?_
    rintro e w' ⟨rfl, h3, h4⟩
    exact ⟨rfl, h3, h4.mono (fun k _ e => by rw [e]; exact hrG)⟩
theorem load_all (v : Value) (zs : List Int) (h : Dev w b F d) (hS : Sl w v zs) (hv : ∀ k, v.ownBlock = some k → ¬ F k) :
    Calls Try.prog 27 #[dp b, v] w fun e w' => e = .returned (.int .i64 (loadR d zs).1) ∧ Dev w' b F (loadR d zs).2 ∧ Only F w w' := by
  unfold loadR
  by_cases h2 : zs.length = d.st.length * 256
  · rw [if_pos h2]; exact load_ok w b F d v zs h hS h2 hv
  · rw [if_neg h2]
    refine (load_arg w b F d v zs h hS h2).mono ?_
    rintro e w' ⟨rfl, rfl⟩
    exact ⟨rfl, h, Only.refl _ _⟩
theorem refLoad_all (v : Value) (zs : List Int) (h : Ref w r G d) (hS : Sl w v zs) (hv : ∀ k, v.ownBlock = some k → ¬ G k) :
    Calls Try.prog 37 #[dp r, v] w fun e w' => e = .returned (.int .i64 (loadR d zs).1) ∧ Ref w' r (fun k => G k ∨ w.heap.size ≤ k) (loadR d zs).2 ∧ Only G w w' := by
  unfold loadR
  by_cases h2 : zs.length = d.st.length * 256
  · rw [if_pos h2]; exact refLoad_ok w r G d v zs h hS h2 hv
  · rw [if_neg h2]
    refine (refLoad_arg w r G d v zs h hS h2).mono ?_
    rintro e w' ⟨rfl, rfl⟩
    exact ⟨rfl, stay_ref _ r G d h, Only.refl _ _⟩
end

/-! ### how much an act adds -/
def Sized (n c : Nat) (d : Dv) : Prop := d.st.length = n ∧ d.ws.length ≤ c ∧ d.done ≤ c
theorem Sized.mono {n c c' : Nat} {d : Dv} (h : Sized n c d) (hc : c ≤ c') : Sized n c' d := ⟨h.1, by have := h.2.1; omega, by have := h.2.2; omega⟩
theorem sized_spend {n c : Nat} {d : Dv} (h1 : d.st.length = n) (h2 : d.ws.length ≤ c + 1) (h3 : d.done ≤ c) : Sized n (c + 1) (spendD d) := by
  unfold spendD
  split
  · exact ⟨h1, h2, by show d.done ≤ c + 1; omega⟩
  · exact ⟨h1, h2, by show d.done + 1 ≤ c + 1; omega⟩
  · exact ⟨h1, h2, by show d.done + 1 ≤ c + 1; omega⟩
theorem sized_write {n c : Nat} {d : Dv} (h : Sized n c d) (p : Int) (zs : List Int) : Sized n (c + 1) (writeR d p zs).2 := by
  unfold writeR
  split
  · split
    · exact h.mono (by omega)
    · exact sized_spend (d := { d with ws := d.ws ++ [(p.toNat, zs)] }) h.1 (by simp; exact h.2.1) h.2.2
  · exact h.mono (by omega)
theorem sized_sync {n c : Nat} {d : Dv} (h : Sized n c d) : Sized n (c + 1) (syncR d).2 := by
  unfold syncR
  split
  · exact h.mono (by omega)
  · show Sized n (c + 1) (syncD d)
    unfold syncD
    split
    · exact h.mono (by omega)
    · exact ⟨by show (syncK _ _ _).length = n; rw [syncK_len]; exact h.1, Nat.zero_le _, by have := h.2.2; show d.done + 1 ≤ c + 1; omega⟩
    · exact ⟨by show (syncK _ _ _).length = n; rw [syncK_len]; exact h.1, Nat.zero_le _, by have := h.2.2; show d.done + 1 ≤ c + 1; omega⟩
theorem sized_arm {n c : Nat} {d : Dv} (h : Sized n c d) (m : Int) : Sized n (c + 1) (armR d m).2 := by
  unfold armR
  split
  · exact h.mono (by omega)
  · split
    · exact h.mono (by omega)
    · exact Sized.mono (d := { d with left := some m.toNat }) h (by omega)
theorem sized_calm {n c : Nat} {d : Dv} (h : Sized n c d) : Sized n (c + 1) (calmR d).2 := by
  unfold calmR
  split
  · exact h.mono (by omega)
  · exact Sized.mono (d := { d with left := none }) h (by omega)
theorem sized_crash {n c : Nat} {d : Dv} (h : Sized n c d) (pk : List Int) : Sized n (c + 1) (crashD d pk) := ⟨by show (crashK _ _ _ _).length = n; rw [crashK_len]; exact h.1, Nat.zero_le _, by have := h.2.2; show d.done ≤ c + 1; omega⟩
theorem sized_load {n c : Nat} {d : Dv} (h : Sized n c d) (zs : List Int) : Sized n (c + 1) (loadR d zs).2 := by
  unfold loadR
  split
  · exact ⟨by show (loadK _ _ _).length = n; rw [loadK_len]; exact h.1, Nat.zero_le _, by have := h.2.2; show d.done ≤ c + 1; omega⟩
  · exact h.mono (by omega)

end Go.Proofs.Ytofpngmabjpfhaa
