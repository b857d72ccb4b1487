/- Runes of bytes in two pieces (pure); what marks tells of Runes; two rows of bytes concatenated. -/
import Derived.Test.YtfpphepjkpofiaaDoorFdLive
import Derived.Test.YtfpphepjkpofiaaDoorFDec
import Derived.Test.YtfpphepjkpofiaaDoorFEqM
import Derived.Test.YtfpphepjkpofiaaDoorFCat
namespace Go.Proofs.YtfpphepjkpofiaaDoor
set_option maxRecDepth 20000
open Go.RowKit
set_option linter.unusedVariables false
set_option linter.unusedSimpArgs false
set_option maxRecDepth 100000

theorem rnL_fuel : ∀ (f g p : Nat) (b : List Int), b.length ≤ f → b.length ≤ g → rnL f p b = rnL g p b
  | 0, g, p, b, h, _ => by
    obtain rfl : b = [] := List.eq_nil_of_length_eq_zero (by omega)
    rw [rnL_nil, rnL_nil]
  | f + 1, g, p, b, h1, h2 => by
    by_cases hb : b = []
    · subst hb; rw [rnL_nil, rnL_nil]
    · have hl := List.length_pos_iff.2 hb
      obtain ⟨g, rfl⟩ : ∃ g', g = g' + 1 := ⟨g - 1, by omega⟩
      have hp := decN_pos b hb
      rw [rnL_on f p hb, rnL_on g p hb, rnL_fuel f g _ _ (by simp; omega) (by simp; omega)]
def shiftM (q : Nat) (x : Nat × Nat) : Nat × Nat := (q + x.1, x.2)
theorem rnL_shift (q : Nat) : ∀ (f p : Nat) (b : List Int), rnL f (q + p) b = (rnL f p b).map (shiftM q)
  | 0, p, b => rfl
  | f + 1, p, b => by
    by_cases hb : b = []
    · subst hb; rw [rnL_nil, rnL_nil]; rfl
    · rw [rnL_on f _ hb, rnL_on f _ hb, List.map_cons, Nat.add_assoc, rnL_shift q f]
      rfl
/-- no byte from 128 to 191 ahead -/
def noOn (b : List Int) : Prop := ∀ z, b.head? = some z → ¬ (128 ≤ z ∧ z ≤ 191)
theorem rnL_app (b : List Int) (hb : ByteOk b) (hc : noOn b) : ∀ (f p : Nat) (a : List Int), ByteOk a → a.length + b.length ≤ f → rnL f p (a ++ b) = rnL a.length p a ++ rnL b.length (p + a.length) b
  | 0, p, a, _, hf => by
    obtain rfl : a = [] := List.eq_nil_of_length_eq_zero (by omega)
    obtain rfl : b = [] := List.eq_nil_of_length_eq_zero (by omega)
    rfl
  | f + 1, p, a, ha, hf => by
    by_cases hn : a = []
    · subst hn
      rw [List.nil_append, rnL_nil, List.nil_append, List.length_nil, Nat.add_zero]
      exact rnL_fuel _ _ _ _ (by simp at hf; omega) (Nat.le_refl _)
    · have hl := List.length_pos_iff.2 hn
      have hd := dec_app ha hb hn hc
      have hw : (decN a).2 ≤ a.length := by
        rcases dec_is ha hn with ⟨r, _, h2, h3⟩ | ⟨h3, _⟩
        · rw [h3]; exact h2.length_le
        · rw [h3]; exact hl
      have hp := decN_pos a hn
      obtain ⟨g, hg⟩ : ∃ g, a.length = g + 1 := ⟨a.length - 1, by omega⟩
      rw [rnL_on f p (by simp [hn]), hd, List.drop_append_of_le_length hw, rnL_app b hb hc f _ _ (ha.drop _) (by simp; omega)]
      rw [hg, rnL_on g p hn, List.cons_append]
      congr 1
      rw [rnL_fuel g (a.drop (decN a).2).length _ _ (by simp; omega) (Nat.le_refl _)]
      congr 2
      simp
      omega
theorem runes_app {a b : List Int} (ha : ByteOk a) (hb : ByteOk b) (hc : noOn b) : runesN (a ++ b) = runesN a ++ (runesN b).map (shiftM a.length) := by
  unfold runesN
  rw [rnL_app b hb hc _ 0 a ha (by simp), Nat.zero_add]
  congr 1
  have := rnL_shift a.length b.length 0 b
  rwa [Nat.add_zero] at this

theorem rnL_at : ∀ (f p : Nat) (b : List Int), ByteOk b → b.length ≤ f → ∀ x ∈ rnL f p b, x.1 < p + b.length
  | 0, p, b, _, h => by intro x hx; simp [rnL] at hx
  | f + 1, p, b, hb, h => by
    by_cases hn : b = []
    · subst hn; intro x hx; rw [rnL_nil] at hx; cases hx
    · have hl := List.length_pos_iff.2 hn
      have hw : (decN b).2 ≤ b.length := by
        rcases dec_is hb hn with ⟨r, _, h2, h3⟩ | ⟨h3, _⟩
        · rw [h3]; exact h2.length_le
        · rw [h3]; exact hl
      have hp := decN_pos b hn
      rw [rnL_on f p hn]
      intro x hx
      rcases List.mem_cons.1 hx with rfl | hx
      · simp; omega
      · have := rnL_at f _ _ (hb.drop _) (by simp; omega) x hx
        simp at this
        omega
theorem runesN_at {b : List Int} (hb : ByteOk b) : ∀ x ∈ runesN b, x.1 < b.length := fun x hx => by
  have := rnL_at _ 0 b hb (Nat.le_refl _) x hx
  omega

/-- what marks tells of Runes -/
theorem marksR_any (w : World) (g : Nat) (zs : List Int) (hB : Blk w g 9 [.string (strOfNums zs)]) (hl : zs.length ≤ 100000) (M : Nat) (hM : M ≤ 2000000) :
    Calls Tryd.prog 11 #[.func (.func 32) #[] #[.pointer (some ⟨g, 0, none⟩)], .int .i64 M] w fun e w' => ∃ v, e = .returned v ∧ Marks w' w.heap.size v ((runesN zs).take M) ∧ Below w.heap.size w w' :=
  marks_any w 32 _ (runesN zs) (RnV g (strOfNums zs)) enters_runes (runes_iter g zs (by omega)) (fun k W' ho => (hB.only ho (fun h => h)).cell 0) (by have := runesN_len zs; omega) M hM
theorem sl_len {w : World} {ao : Option Addr} {n cap : Nat} {zs : List Int} (h : Sl w (.slice ao n cap) zs) : n = zs.length := by
  obtain ⟨_, ao', cap', he, _⟩ := h
  simp at he
  exact he.2.1
theorem Marks.below {w w' : World} {base : Nat} {v : Value} {xs : List (Nat × Nat)} (h : Marks w base v xs) (hb : Below w.heap.size w w') : Marks w' base v xs := h.only (Only.of_below (fun _ => False) hb) (fun _ _ h => h)
/-- the runes of bytes, as marks tells them -/
theorem runesMarks (w : World) (v : Value) (zs : List Int) (h : Sl w v zs) (hl : zs.length ≤ 100000) :
    Calls Tryd.prog 12 #[v] w fun e w' => ∃ g, e = .returned (.func (.func 32) #[] #[.pointer (some ⟨g, 0, none⟩)]) ∧ Below w.heap.size w w' ∧
      ∀ W M, M ≤ 2000000 → Below w'.heap.size w' W → Calls Tryd.prog 11 #[.func (.func 32) #[] #[.pointer (some ⟨g, 0, none⟩)], .int .i64 (M : Nat)] W fun e w2 => ∃ u, e = .returned u ∧ Marks w2 W.heap.size u ((runesN zs).take M) ∧ Below W.heap.size W w2 := by
  refine (runes_any w v zs h).mono ?_
  rintro e w' ⟨rfl, rfl⟩
  exact ⟨_, rfl, (Below.refl _ w).alloc (Nat.le_refl _) _, fun W M hM hb => marksR_any W _ zs ((Blk.new w _ _).below hb (by simp)) hl M hM⟩

/-- Runes of bytes, and what marks tells of them -/
def Told (w : World) (v : Value) (R : List (Nat × Nat)) : Prop :=
  Calls Tryd.prog 12 #[v] w fun e w' => ∃ g, e = .returned (.func (.func 32) #[] #[.pointer (some ⟨g, 0, none⟩)]) ∧ Below w.heap.size w w' ∧
      Calls Tryd.prog 11 #[.func (.func 32) #[] #[.pointer (some ⟨g, 0, none⟩)], .int .i64 1048576] w' fun e w2 => ∃ u, e = .returned u ∧ Marks w2 w'.heap.size u R ∧ Below w'.heap.size w' w2
theorem told_of (w : World) (v : Value) (zs : List Int) (h : Sl w v zs) (hl : zs.length ≤ 100000) : Told w v (runesN zs) := by
  refine (runesMarks w v zs h hl).mono ?_
  rintro e w' ⟨g, rfl, hb, hm⟩
  refine ⟨g, rfl, hb, (hm w' 1048576 (by omega) (Below.refl _ w')).mono ?_⟩
  rintro e w2 ⟨u, rfl, hu, hb2⟩
  rw [List.take_of_length_le (by have := runesN_len zs; omega)] at hu
  exact ⟨u, rfl, hu, hb2⟩
theorem concat2_any (w W : World) (va vb : Value) (xa xb : List Int) (ha : Sl w va xa) (hb : Sl w vb xb) (la : xa.length ≤ 1500) (lb : xb.length ≤ 1500) (hw : Below w.heap.size w W) :
    Calls Tryd.prog 30 #[.slice (some ⟨W.heap.size, 0, none⟩) 2 2] (W.alloc (.cells #[va, vb] 22)) fun e w' => ∃ u, e = .returned u ∧ Sl w' u (xa ++ xb) ∧ Below w.heap.size w w' ∧ Below W.heap.size W w' := by
  have hbl : Below W.heap.size W (W.alloc (.cells #[va, vb] 22)) := (Below.refl _ W).alloc (Nat.le_refl _) _
  have r1 := (RowR.of_sl (ha.below hw) (by omega)).below hbl
  have r2 := (RowR.of_sl (hb.below hw) (by omega)).below hbl
  refine (concatB_any _ W.heap.size [va, vb] [xa.map (Value.int .u8), xb.map (Value.int .u8)] rfl (by simp) (Blk.new W _ _) (fun i hi => ?_)).mono ?_
  · rcases (show i = 0 ∨ i = 1 by simp at hi; omega) with rfl | rfl
    · exact r1
    · exact r2
  · rintro e w' ⟨a, N, c, rfl, ho, hb2⟩
    have hok : ByteOk (xa ++ xb) := ByteOk.append' ha.1 hb.1
    have hN : N = (xa ++ xb).length := by
      have := ho.1
      simp at this
      simp
      omega
    subst hN
    refine ⟨_, rfl, ?_, ?_⟩
    · exact sl_of_own ho hok (by simp)
    · exact ⟨(hw.alloc hw.size _).trans (hb2.mono (by have := hw.size; simp; omega)), hbl.trans (hb2.mono (by simp))⟩


end Go.Proofs.YtfpphepjkpofiaaDoor
