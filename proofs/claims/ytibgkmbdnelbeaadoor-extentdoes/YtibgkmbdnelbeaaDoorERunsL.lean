/- The runs of a set of one page more. No program. -/
import Derived.Test.YtibgkmbdnelbeaaDoorELists
namespace Go.Proofs.YtibgkmbdnelbeaaDoor
set_option maxRecDepth 20000
open Go.RowKit
set_option linter.unusedVariables false

theorem fstN_of_some {f : Nat → Bool} {n p q : Nat} (h1 : p ≤ q) (h2 : q < n) (h3 : f q = true) (h4 : ∀ r, p ≤ r → r < q → f r = false) : fstN f n p = some q := by
  cases h : fstN f n p with
  | none => have := fstN_none h q h1 h2; rw [h3] at this; cases this
  | some q' =>
    obtain ⟨k1, k2, k3, k4⟩ := fstN_some h
    rcases Nat.lt_trichotomy q q' with h | h | h
    · rw [k4 q h1 h] at h3; cases h3
    · rw [h]
    · rw [h4 q' k1 h] at k3; cases k3
theorem fstN_of_none {f : Nat → Bool} {n p : Nat} (h : ∀ q, p ≤ q → q < n → f q = false) : fstN f n p = none := by
  cases h' : fstN f n p with
  | none => rfl
  | some q' =>
    obtain ⟨k1, k2, k3, k4⟩ := fstN_some h'
    rw [h q' k1 k2] at k3; cases k3
theorem endN_of {f : Nat → Bool} {n q e : Nat} (h1 : q < e) (h2 : e ≤ n) (h3 : ∀ r, q ≤ r → r < e → f r = true) (h4 : e < n → f e = false) : endN f n q = e := by
  obtain ⟨k1, k2, k3, k4⟩ := endN_spec (f := f) (n := n) (q := q) (by omega) (h3 q (Nat.le_refl _) h1)
  rcases Nat.lt_trichotomy (endN f n q) e with h | h | h
  · have := h3 _ (Nat.le_of_lt k1) h
    rw [k4 (by omega)] at this; cases this
  · exact h
  · have := k3 e (Nat.le_of_lt h1) h
    rw [h4 (by omega)] at this; cases this
theorem rl_same {f : Nat → Bool} {n : Nat} (hf : f n = false) : ∀ (u p : Nat), p ≤ n → rl f (n + 1) u p = rl f n u p
  | 0, p, _ => rfl
  | u + 1, p, hp => by
    cases hq : fstN f n p with
    | none =>
      rw [rl_none hq, rl_none (fstN_of_none (fun q h1 h2 => by
        by_cases h : q = n
        · rw [h]; exact hf
        · exact fstN_none hq q h1 (by omega)))]
    | some q =>
      obtain ⟨h1, h2, h3, h4⟩ := fstN_some hq
      obtain ⟨e1, e2, e3, e4⟩ := endN_spec h2 h3
      have hE : endN f (n + 1) q = endN f n q := endN_of e1 (by omega) e3 (fun h => by
        by_cases he : endN f n q = n
        · rw [he]; exact hf
        · exact e4 (by omega))
      rw [rl_some hq, rl_some (fstN_of_some h1 (by omega) h3 h4), hE, rl_same hf u _ e2]
theorem rl_new {f : Nat → Bool} {n : Nat} (hf : f n = true) : ∀ (u p : Nat), p ≤ n → n + 1 < u + p → (p = n ∨ f (n - 1) = false) → rl f (n + 1) u p = rl f n u p ++ [(n, 1)]
  | 0, p, h1, h2, _ => by omega
  | u + 1, p, hp, hu, hb => by
    cases hq : fstN f n p with
    | none =>
      have h := fstN_none hq
      have hE : endN f (n + 1) n = n + 1 := endN_of (by omega) (Nat.le_refl _) (fun r h1 h2 => by rw [show r = n by omega]; exact hf) (fun h => by omega)
      rw [rl_none hq, rl_some (fstN_of_some hp (by omega) hf (fun r h1 h2 => h r h1 h2)), hE, rl_past (Nat.le_refl _), show n + 1 - n = 1 by omega]
      rfl
    | some q =>
      obtain ⟨h1, h2, h3, h4⟩ := fstN_some hq
      obtain ⟨e1, e2, e3, e4⟩ := endN_spec h2 h3
      have hlt : endN f n q < n := by
        rcases Nat.lt_or_ge (endN f n q) n with h | h
        · exact h
        · rcases hb with hb | hb
          · omega
          · have := e3 (n - 1) (by omega) (by omega)
            rw [hb] at this; cases this
      have hE : endN f (n + 1) q = endN f n q := endN_of e1 (by omega) e3 (fun h => e4 hlt)
      rw [rl_some hq, rl_some (fstN_of_some h1 (by omega) h3 h4), hE, rl_new hf u _ e2 (by omega) (.inr (by
        rcases hb with hb | hb
        · omega
        · exact hb))]
      rfl
theorem rl_more {f : Nat → Bool} {n : Nat} (hf : f n = true) (hb : f (n - 1) = true) : ∀ (u p : Nat), p < n → n + 1 < u + p → ∃ L0 x, rl f n u p = L0 ++ [x] ∧ rl f (n + 1) u p = L0 ++ [(x.1, x.2 + 1)]
  | 0, p, h1, h2 => by omega
  | u + 1, p, hp, hu => by
    cases hq : fstN f n p with
    | none =>
      have := fstN_none hq (n - 1) (by omega) (by omega)
      rw [hb] at this; cases this
    | some q =>
      obtain ⟨h1, h2, h3, h4⟩ := fstN_some hq
      obtain ⟨e1, e2, e3, e4⟩ := endN_spec h2 h3
      rcases Nat.lt_or_ge (endN f n q) n with hlt | hge
      · have hE : endN f (n + 1) q = endN f n q := endN_of e1 (by omega) e3 (fun h => e4 hlt)
        obtain ⟨L0, x, k1, k2⟩ := rl_more hf hb u (endN f n q) hlt (by omega)
        refine ⟨(q, endN f n q - q) :: L0, x, ?_, ?_⟩
        · rw [rl_some hq, k1]; rfl
        · rw [rl_some (fstN_of_some h1 (by omega) h3 h4), hE, k2]; rfl
      · have he : endN f n q = n := by omega
        have hE : endN f (n + 1) q = n + 1 := endN_of (by omega) (Nat.le_refl _) (fun r k1 k2 => by
          by_cases h : r = n
          · rw [h]; exact hf
          · exact e3 r k1 (by omega)) (fun h => by omega)
        refine ⟨[], (q, n - q), ?_, ?_⟩
        · rw [rl_some hq, he, rl_past (Nat.le_refl _)]; rfl
        · rw [rl_some (fstN_of_some h1 (by omega) h3 h4), hE, rl_past (Nat.le_refl _), show n + 1 - q = n - q + 1 by omega]; rfl
theorem rl_fuel {f : Nat → Bool} {n : Nat} : ∀ (u u' p : Nat), n < u + p → n < u' + p → rl f n u p = rl f n u' p
  | 0, u', p, h, _ => (rl_past (by omega) _).trans (rl_past (by omega) _).symm
  | u + 1, 0, p, _, h => (rl_past (by omega) _).trans (rl_past (by omega) _).symm
  | u + 1, u' + 1, p, h, h' => by
    cases hq : fstN f n p with
    | none => rw [rl_none hq, rl_none hq]
    | some q =>
      obtain ⟨h1, h2, h3, h4⟩ := fstN_some hq
      obtain ⟨e1, e2, e3, e4⟩ := endN_spec h2 h3
      rw [rl_some hq, rl_some hq, rl_fuel u u' _ (by omega) (by omega)]
theorem runsF_same {f : Nat → Bool} {n : Nat} (hf : f n = false) : runsF f (n + 1) = runsF f n := by
  rw [runsF, rl_same hf _ _ (Nat.zero_le _)]
  exact rl_fuel _ _ _ (by omega) (by omega)
theorem runsF_new {f : Nat → Bool} {n : Nat} (hf : f n = true) (h : n = 0 ∨ f (n - 1) = false) : runsF f (n + 1) = runsF f n ++ [(n, 1)] := by
  rw [runsF, rl_new hf _ _ (Nat.zero_le _) (by omega) (by rcases h with h | h; exact .inl h.symm; exact .inr h)]
  congr 1
  exact rl_fuel _ _ _ (by omega) (by omega)
theorem runsF_more {f : Nat → Bool} {n : Nat} (hf : f n = true) (hb : f (n - 1) = true) (hn : 0 < n) : ∃ L0 x, runsF f n = L0 ++ [x] ∧ runsF f (n + 1) = L0 ++ [(x.1, x.2 + 1)] := by
  obtain ⟨L0, x, h1, h2⟩ := rl_more hf hb (n + 1 + 1) 0 hn (by omega)
  exact ⟨L0, x, (rl_fuel _ _ _ (by omega) (by omega)).trans h1, h2⟩

end Go.Proofs.YtibgkmbdnelbeaaDoor
