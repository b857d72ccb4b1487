/- Runes of bytes in two pieces (pure). -/
import Derived.Test.YtimmfnjkknbofaaDoorFDec
namespace Go.Proofs.YtimmfnjkknbofaaDoor
set_option maxRecDepth 20000
open Go.RowKit
set_option linter.unusedVariables false
set_option linter.unusedSimpArgs false
set_option maxRecDepth 100000

theorem rnL_fuel : ∀ (f g p : Nat) (b : List Int), b.length ≤ f → b.length ≤ g → rnL f p b = rnL g p b
  | 0, g, p, b, h, _ => by
    obtain rfl : b = [] := List.eq_nil_of_length_eq_zero (by omega)
    rw [rnL_nil, rnL_nil]
  | f + 1, g, p, b, h1, h2 => by
    by_cases hb : b = []
    · subst hb; rw [rnL_nil, rnL_nil]
    · have hl := List.length_pos_iff.2 hb
      obtain ⟨g, rfl⟩ : ∃ g', g = g' + 1 := ⟨g - 1, by omega⟩
      have hp := decN_pos b hb
      rw [rnL_on f p hb, rnL_on g p hb, rnL_fuel f g _ _ (by simp; omega) (by simp; omega)]
def shiftM (q : Nat) (x : Nat × Nat) : Nat × Nat := (q + x.1, x.2)
theorem rnL_shift (q : Nat) : ∀ (f p : Nat) (b : List Int), rnL f (q + p) b = (rnL f p b).map (shiftM q)
  | 0, p, b => rfl
  | f + 1, p, b => by
    by_cases hb : b = []
    · subst hb; rw [rnL_nil, rnL_nil]; rfl
    · rw [rnL_on f _ hb, rnL_on f _ hb, List.map_cons, Nat.add_assoc, rnL_shift q f]
      rfl
/-- no byte from 128 to 191 ahead -/
def noOn (b : List Int) : Prop := ∀ z, b.head? = some z → ¬ (128 ≤ z ∧ z ≤ 191)
theorem rnL_app (b : List Int) (hb : ByteOk b) (hc : noOn b) : ∀ (f p : Nat) (a : List Int), ByteOk a → a.length + b.length ≤ f → rnL f p (a ++ b) = rnL a.length p a ++ rnL b.length (p + a.length) b
  | 0, p, a, _, hf => by
    obtain rfl : a = [] := List.eq_nil_of_length_eq_zero (by omega)
    obtain rfl : b = [] := List.eq_nil_of_length_eq_zero (by omega)
    rfl
  | f + 1, p, a, ha, hf => by
    by_cases hn : a = []
    · subst hn
      rw [List.nil_append, rnL_nil, List.nil_append, List.length_nil, Nat.add_zero]
      exact rnL_fuel _ _ _ _ (by simp at hf; omega) (Nat.le_refl _)
    · have hl := List.length_pos_iff.2 hn
      have hd := dec_app ha hb hn hc
      have hw : (decN a).2 ≤ a.length := by
        rcases dec_is ha hn with ⟨r, _, h2, h3⟩ | ⟨h3, _⟩
        · rw [h3]; exact h2.length_le
        · rw [h3]; exact hl
      have hp := decN_pos a hn
      obtain ⟨g, hg⟩ : ∃ g, a.length = g + 1 := ⟨a.length - 1, by omega⟩
      rw [rnL_on f p (by simp [hn]), hd, List.drop_append_of_le_length hw, rnL_app b hb hc f _ _ (ha.drop _) (by simp; omega)]
      rw [hg, rnL_on g p hn, List.cons_append]
      congr 1
      rw [rnL_fuel g (a.drop (decN a).2).length _ _ (by simp; omega) (Nat.le_refl _)]
      congr 2
      simp
      omega
theorem runes_app {a b : List Int} (ha : ByteOk a) (hb : ByteOk b) (hc : noOn b) : runesN (a ++ b) = runesN a ++ (runesN b).map (shiftM a.length) := by
  unfold runesN
  rw [rnL_app b hb hc _ 0 a ha (by simp), Nat.zero_add]
  congr 1
  have := rnL_shift a.length b.length 0 b
  rwa [Nat.add_zero] at this

theorem rnL_at : ∀ (f p : Nat) (b : List Int), ByteOk b → b.length ≤ f → ∀ x ∈ rnL f p b, x.1 < p + b.length
  | 0, p, b, _, h => by intro x hx; simp [rnL] at hx
  | f + 1, p, b, hb, h => by
    by_cases hn : b = []
    · subst hn; intro x hx; rw [rnL_nil] at hx; cases hx
    · have hl := List.length_pos_iff.2 hn
      have hw : (decN b).2 ≤ b.length := by
        rcases dec_is hb hn with ⟨r, _, h2, h3⟩ | ⟨h3, _⟩
        · rw [h3]; exact h2.length_le
        · rw [h3]; exact hl
      have hp := decN_pos b hn
      rw [rnL_on f p hn]
      intro x hx
      rcases List.mem_cons.1 hx with rfl | hx
      · simp; omega
      · have := rnL_at f _ _ (hb.drop _) (by simp; omega) x hx
        simp at this
        omega
theorem runesN_at {b : List Int} (hb : ByteOk b) : ∀ x ∈ runesN b, x.1 < b.length := fun x hx => by
  have := rnL_at _ 0 b hb (Nat.le_refl _) x hx
  omega

theorem sl_len {w : World} {ao : Option Addr} {n cap : Nat} {zs : List Int} (h : Sl w (.slice ao n cap) zs) : n = zs.length := by
  obtain ⟨_, ao', cap', he, _⟩ := h
  simp at he
  exact he.2.1

end Go.Proofs.YtimmfnjkknbofaaDoor
