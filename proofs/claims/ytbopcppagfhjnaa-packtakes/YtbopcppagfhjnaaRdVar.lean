/- Contract: a short number is taken of package pack's reader. -/
import Derived.Test.YtbopcppagfhjnaaShort
namespace Go.Proofs.Ytbopcppagfhjnaa
open Go.RowKit

theorem shortAux_le : ∀ (zs : List Int) (i acc : Nat), (shortAux i acc zs).2.1 = 0 ∨ (i < (shortAux i acc zs).2.1 ∧ (shortAux i acc zs).2.1 ≤ i + zs.length)
  | [], _, _ => .inl rfl
  | c :: cs, i, acc => by
    simp only [shortAux]
    split
    · exact .inl rfl
    · split
      · exact .inr ⟨by simp, by simp⟩
      · have := shortAux_le cs (i + 1) (acc + (c.toNat % 128) * 128 ^ i)
        simp only [List.length_cons]
        omega

theorem short_le (zs : List Int) : (short zs).2.1 ≤ zs.length := by
  have := shortAux_le zs 0 0
  unfold short
  omega

theorem grownBy_refl (w : World) (r : Option Nat) : w.grownBy w r := ⟨rfl, rfl, rfl, Nat.le_refl _, fun _ _ _ => rfl⟩

theorem heap_set1 {w : World} {b : Nat} {t x y : Value} {T : TypeId} (h : w.heap[b]? = some (.cells #[t, x, y] T (0, 0))) (x' : Value) : (w.setCell ⟨b, 1, none⟩ x').heap[b]? = some (.cells #[t, x', y] T (0, 0)) := by
  rw [heap_setCell_same w b 1 _ T x' h]; rfl
theorem heap_set2 {w : World} {b : Nat} {t x y : Value} {T : TypeId} (h : w.heap[b]? = some (.cells #[t, x, y] T (0, 0))) (y' : Value) : (w.setCell ⟨b, 2, none⟩ y').heap[b]? = some (.cells #[t, x, y'] T (0, 0)) := by
  rw [heap_setCell_same w b 2 _ T y' h]; rfl
theorem grown_set {w w' : World} {b : Nat} (h : w.grownBy w' (some b)) (j : Nat) (x : Value) : w.grownBy (w'.setCell ⟨b, j, none⟩ x) (some b) :=
  ⟨h.os, h.tape, h.output, by simpa using h.size, fun k hk hne => (heap_setCell_other w' ⟨b, j, none⟩ k x (fun e => hne (by simp [e]))).trans (h.block k hk hne)⟩

theorem ByteOk.drop {zs : List Int} (h : ByteOk zs) (n : Nat) : ByteOk (zs.drop n) := fun z hz => h z (List.mem_of_mem_drop hz)
theorem ByteOk.append' {xs ys : List Int} (h1 : ByteOk xs) (h2 : ByteOk ys) : ByteOk (xs ++ ys) := fun z hz => (List.mem_append.1 hz).elim (h1 z) (h2 z)
theorem ByteOk.take {zs : List Int} (h : ByteOk zs) (n : Nat) : ByteOk (zs.take n) := fun z hz => h z (List.mem_of_mem_take hz)

theorem getD_drop (zs : List Int) (n i : Nat) : (zs.drop n).getD i 0 = zs.getD (n + i) 0 := by simp [List.getD]
theorem getD_take (zs : List Int) (n i : Nat) (h : i < n) : (zs.take n).getD i 0 = zs.getD i 0 := by simp [List.getD, h]

/-- what is cut off ahead -/
theorem sl_cut0 {w : World} {ao : Option Addr} {zs : List Int} {cap : Nat} (n : Nat) (h : Sl w (.slice ao zs.length cap) zs) (hn : n ≤ zs.length) (hc : cap = n) : Sl w (.slice ao (zs.length - n) 0) (zs.drop n) := by
  obtain ⟨hb, ao', cap', he, h1, h2, h3, h4⟩ := h
  simp only [Value.slice.injEq, true_and] at he
  obtain ⟨rfl, rfl⟩ := he
  have e : zs.drop n = [] := List.drop_eq_nil_of_le (by omega)
  rw [e]
  exact ⟨(by intro z hz; cases hz), ao, 0, (by simp; omega), Nat.le_refl _, by simp [maxLen], fun _ => rfl, fun h => absurd rfl h⟩

theorem sl_cut {w : World} {ao : Option Addr} {zs : List Int} {cap : Nat} (n : Nat) (h : Sl w (.slice ao zs.length cap) zs) (hn : n ≤ zs.length) : Sl w (.slice (Option.map (fun x => x.add n) ao) (zs.length - n) (cap - n)) (zs.drop n) := by
  obtain ⟨hb, ao', cap', he, h1, h2, h3, h4⟩ := h
  simp only [Value.slice.injEq, true_and] at he
  obtain ⟨rfl, rfl⟩ := he
  refine ⟨hb.drop n, Option.map (fun x => x.add n) ao, cap - n, (by rw [List.length_drop]), (by simp; omega), (by omega), fun h => ?_, fun hz => ?_⟩
  · have : ao = none := by cases ao with | none => rfl | some a => simp at h
    have := h3 this
    omega
  · have hz' : n < zs.length := by
      apply Nat.lt_of_not_le; intro hle; exact hz (List.drop_eq_nil_of_le hle)
    obtain ⟨b, off, rfl, hc⟩ := h4 (by intro h; simp [h] at hz')
    refine ⟨b, off + n, (by simp [Addr.add]), fun i hi => ?_⟩
    rw [getD_drop, ← hc (n + i) (by simp at hi; omega), Nat.add_assoc]

theorem own_cut (ao : Option Addr) (n l c l' c' k : Nat) (h : (Value.slice (Option.map (fun x => x.add n) ao) l c).ownBlock = some k) : (Value.slice ao l' c').ownBlock = some k := by
  cases ao with
  | none => simp [Value.ownBlock] at h
  | some a => simp [Value.ownBlock, Addr.add] at h ⊢; split at h <;> simpa using h

set_option maxHeartbeats 400000 in
theorem readerVar_ok (w : World) (b : Nat) (u : Value) (zs : List Int) (h : Rd w b u zs 0) :
    Calls Try.prog 34 #[.pointer (some ⟨b, 0, none⟩)] w fun e w' => e = .returned (.int .u32 (short zs).1) ∧ w.grownBy w' (some b) ∧ ∃ u', Rd w' b u' (zs.drop (short zs).2.1) (short zs).2.2 := by
  have HR := hide h
  have HE := err_any w b u zs 0 h
  have HS := shortNumber_any w u zs h.2.1
  have hle := short_le zs
  obtain ⟨c0, c1, c2, hfr⟩ := h.cells
  obtain ⟨hg, ⟨hb, ao, cap, rfl, h1, h2, h3, h4⟩, hne⟩ := h
  unfold maxLen at h2
  obtain ⟨⟨N, n, er⟩, hS⟩ : ∃ s, s = short zs := ⟨_, rfl⟩
  rw [← hS] at HS hle ⊢
  have HSS := hide hS
  simp only at HS hle ⊢
  have f1 := hfr 1
  have f2 := hfr 2
  clear hS hfr h4
  go_enter Try.func34, Try.ntmps34
  go_wp2_with (first
    | (go_at_call 25; refine HE.mono ?_; rintro e w1 ⟨rfl, hw⟩; subst w1)
    | (go_at_call 51; refine HS.mono ?_; rintro e w1 ⟨rfl, hw⟩; subst w1))
  · go_ret
    refine ⟨rfl, grown_set (grown_set (grownBy_refl w _) _ _) _ _, _, heap_set2 (heap_set1 hg _) _, ?_, fun k hk => ?_⟩
    · refine Sl.grown (w := w) (row := some b) (sl_cut0 n HR.out.2.1 hle ‹_›) (grown_set (grown_set (grownBy_refl w _) _ _) _ _) ?_
      cases ao with
      | none => exact .inl rfl
      | some a => exact .inr fun e => (hne a.block rfl).1 (by simpa [Value.ownBlock] using e)
    · have := hne k (by cases ao <;> exact hk)
      simpa using this
  · go_ret
    refine ⟨rfl, grown_set (grown_set (grownBy_refl w _) _ _) _ _, _, heap_set2 (heap_set1 hg _) _, ?_, fun k hk => ?_⟩
    · refine Sl.grown (w := w) (row := some b) (sl_cut n HR.out.2.1 hle) (grown_set (grown_set (grownBy_refl w _) _ _) _ _) (.inr fun e => ?_)
      exact (hne b (own_cut _ _ _ _ _ _ _ e)).1 rfl
    · have := hne k (own_cut _ _ _ _ _ _ _ hk)
      simpa using this

end Go.Proofs.Ytbopcppagfhjnaa
