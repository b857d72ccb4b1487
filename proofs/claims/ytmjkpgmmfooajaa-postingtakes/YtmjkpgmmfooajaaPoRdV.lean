/- Contract: a short number is taken of package pack's reader. -/
import Derived.Test.YtmjkpgmmfooajaaPoShort
namespace Go.Proofs.Ytmjkpgmmfooajaa
set_option maxRecDepth 20000
open Go.RowKit

theorem shortAux_le : ∀ (zs : List Int) (i acc : Nat), (shortAux i acc zs).2.1 = 0 ∨ (i < (shortAux i acc zs).2.1 ∧ (shortAux i acc zs).2.1 ≤ i + zs.length)
  | [], _, _ => .inl rfl
  | c :: cs, i, acc => by
    simp only [shortAux]
    split
    · exact .inl rfl
    · split
      · exact .inr ⟨by simp, by simp⟩
      · have := shortAux_le cs (i + 1) (acc + (c.toNat % 128) * 128 ^ i)
        simp only [List.length_cons]
        omega

theorem short_le (zs : List Int) : (short zs).2.1 ≤ zs.length := by
  have := shortAux_le zs 0 0
  unfold short
  omega

set_option maxHeartbeats 400000 in
theorem readerVar_ok (w : World) (b : Nat) (u : Value) (zs : List Int) (h : Rd w b u zs 0) :
    Calls Try.prog 49 #[.pointer (some ⟨b, 0, none⟩)] w fun e w' => e = .returned (.int .u32 (short zs).1) ∧ w.grownBy w' (some b) ∧ ∃ u', Rd w' b u' (zs.drop (short zs).2.1) (short zs).2.2 ∧ ∀ k, u'.ownBlock = some k → u.ownBlock = some k := by
  have HR := hide h
  have HE := err_any w b u zs 0 h
  have HS := shortNumber_any w u zs h.2.1
  have hle := short_le zs
  obtain ⟨c0, c1, c2, hfr⟩ := h.cells
  obtain ⟨hg, ⟨hb, ao, cap, rfl, h1, h2, h3, h4⟩, hne⟩ := h
  unfold maxLen at h2
  obtain ⟨⟨N, n, er⟩, hS⟩ : ∃ s, s = short zs := ⟨_, rfl⟩
  rw [← hS] at HS hle ⊢
  have HSS := hide hS
  simp only at HS hle ⊢
  have f1 := hfr 1
  have f2 := hfr 2
  clear hS hfr h4
  go_enter Try.func49, Try.ntmps49
  go_wp2_with (first
    | (go_at_call 50; refine HE.mono ?_; rintro e w1 ⟨rfl, hw⟩; subst w1)
    | (go_at_call 55; refine HS.mono ?_; rintro e w1 ⟨rfl, hw⟩; subst w1))
  · go_ret
    refine ⟨rfl, grown_set (grown_set (grownBy_refl w _) _ _) _ _, _, ⟨heap_set2 (heap_set1 hg _) _, ?_, fun k hk => ?_⟩, fun k hk => by cases ao <;> exact hk⟩
    · refine Sl.grown (w := w) (row := some b) (sl_cut0 n HR.out.2.1 hle ‹_›) (grown_set (grown_set (grownBy_refl w _) _ _) _ _) ?_
      cases ao with
      | none => exact .inl rfl
      | some a => exact .inr fun e => (hne a.block rfl).1 (by simpa [Value.ownBlock] using e)
    · have := hne k (by cases ao <;> exact hk)
      simpa using this
  · go_ret
    refine ⟨rfl, grown_set (grown_set (grownBy_refl w _) _ _) _ _, _, ⟨heap_set2 (heap_set1 hg _) _, ?_, fun k hk => ?_⟩, fun k hk => own_cut _ _ _ _ _ _ _ hk⟩
    · refine Sl.grown (w := w) (row := some b) (sl_cut n HR.out.2.1 hle) (grown_set (grown_set (grownBy_refl w _) _ _) _ _) (.inr fun e => ?_)
      exact (hne b (own_cut _ _ _ _ _ _ _ e)).1 rfl
    · have := hne k (own_cut _ _ _ _ _ _ _ hk)
      simpa using this

theorem left_any (w : World) (b : Nat) (u : Value) (zs : List Int) (er : Int) (h : Rd w b u zs er) :
    Calls Try.prog 40 #[.pointer (some ⟨b, 0, none⟩)] w fun e w' => e = .returned (.int .i64 zs.length) ∧ w' = w := by
  obtain ⟨c0, c1, c2, _⟩ := h.cells
  obtain ⟨_, ⟨_, ao, cap, rfl, _⟩, _⟩ := h
  go_enter Try.func40, Try.ntmps40
  go_wp2
  go_ret
  exact ⟨rfl, rfl⟩

def varS (zs : List Int) (er : Int) : Nat × List Int × Int := if er ≠ 0 then (0, zs, er) else ((short zs).1, zs.drop (short zs).2.1, (short zs).2.2)

theorem readerVar_any (w : World) (b : Nat) (u : Value) (zs : List Int) (er : Int) (h : Rd w b u zs er) :
    Calls Try.prog 49 #[.pointer (some ⟨b, 0, none⟩)] w fun e w' => e = .returned (.int .u32 (varS zs er).1) ∧ w.grownBy w' (some b) ∧ ∃ u', Rd w' b u' (varS zs er).2.1 (varS zs er).2.2 ∧ ∀ k, u'.ownBlock = some k → u.ownBlock = some k := by
  by_cases e0 : er = 0
  · subst e0
    have : varS zs 0 = ((short zs).1, zs.drop (short zs).2.1, (short zs).2.2) := by simp [varS]
    rw [this]
    exact readerVar_ok w b u zs h
  · have es : varS zs er = (0, zs, er) := by simp [varS, e0]
    rw [es]
    have HE := err_any w b u zs er h
    have e1 : (er == 0) = false := by simpa using e0
    have HR := hide h
    clear h
    go_enter Try.func49, Try.ntmps49
    go_wp2_with (go_at_call 50; refine HE.mono ?_; rintro e w1 ⟨rfl, hw⟩; subst w1)
    go_ret
    exact ⟨rfl, grownBy_refl _ _, u, HR.out, fun _ h => h⟩

end Go.Proofs.Ytmjkpgmmfooajaa
