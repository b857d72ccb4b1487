/- A cache over a device that never fails: Flush, Sync. No package's function. -/
import Derived.Test.YtoplhehcjgldeaaCView
import Derived.Test.YtoplhehcjgldeaaCFlush
import Derived.Test.YtoplhehcjgldeaaDSync
namespace Go.Proofs.Ytoplhehcjgldeaa
open Go.RowKit
set_option linter.unusedVariables false

theorem syn_shows {st : List (List Int)} {ws : List (Nat × List Int)} (hw : ∀ x ∈ ws, x.1 < st.length) (p : Nat) : ∀ k, k ≤ ws.length → sAt (syncK st ws k) p = match lastIx (ws.take k) p with
    | some i => (wAt ws i).2
    | none => sAt st p
  | 0, _ => by simp [syncK, lastIx]
  | k + 1, hk => by
    have hkl : k < ws.length := by omega
    have ih := syn_shows hw p k (by omega)
    rw [syncK, List.take_succ_eq_append_getElem hkl, lastIx_snoc]
    have hlen : (ws.take k).length = k := by simp; omega
    rw [hlen]
    by_cases hp : ws[k].1 = p
    · rw [if_pos hp]
      simp only
      unfold sAt
      rw [wAt_lt hkl, hp]
      have : p < (syncK st ws k).length := by rw [syncK_len, ← hp]; exact hw _ (List.getElem_mem hkl)
      simp [List.getD, this]
    · rw [if_neg hp, ← ih]
      unfold sAt
      rw [wAt_lt hkl]
      simp only [List.getD, List.getElem?_set]
      rw [if_neg hp]
theorem syn_showsD {d : Dv} (h : DvOk d) (p : Nat) : sAt (syncK d.st d.ws d.ws.length) p = showsD d p := by
  rw [syn_shows (fun x hx => (h.ws x hx).1) p _ (Nat.le_refl _), List.take_length]
  rfl

section
variable {p k n : Nat} {f : Nat → List Int} {ch : Ch} {d : Dv}

theorem kv_sync (h : Kv p k n f ch d) (ok : DvOk d) : Kv p (k + 1) n f ch (syncD d) := by
  have e : syncD d = ⟨syncK d.st d.ws d.ws.length, [], d.off, none, d.done + 1⟩ := by unfold syncD; rw [h.calm.left]
  have hs : ∀ q, showsD (syncD d) q = showsD d q := fun q => by
    rw [← syn_showsD ok q, e]
    rfl
  refine ⟨⟨by rw [e]; exact h.calm.off, by rw [e], by rw [e]; show (syncK _ _ _).length = n; rw [syncK_len]; exact h.calm.st⟩, ⟨Nat.le_succ_of_le h.few.hits, Nat.le_succ_of_le h.few.misses, fun y hy => Nat.le_succ_of_le (h.few.pins y hy), by rw [e]; exact Nat.zero_le _, by rw [e]; exact Nat.succ_le_succ h.few.done⟩, h.pin, h.un, fun y hy hch => by rw [hs]; exact h.clean y hy hch, fun q hq => ?_⟩
  have := h.view q hq
  unfold viewC at this ⊢
  rw [hs]
  exact this

/-- one page is written -/
theorem kv_clean (h : Kv p k n f ch d) (ok : ChOk n ch) {x : Hd} (hx : x ∈ ch.l) : Kv p (k + 1) n f { ch with l := updC ch.l x.p (fun y => { y with ch := false }) } (writeQ d x.p x.bs).2 := by
  have hm : ∀ y ∈ updC ch.l x.p (fun y => { y with ch := false }), ∃ z ∈ ch.l, y.p = z.p ∧ y.bs = z.bs ∧ y.pins = z.pins ∧ y.ch = if z.p = x.p then false else z.ch := by
    intro y hy
    obtain ⟨z, hz, e⟩ := mem_updC hy
    refine ⟨z, hz, ?_⟩
    by_cases hzx : z.p = x.p
    · rw [if_pos hzx] at e ⊢
      subst e
      exact ⟨rfl, rfl, rfl, rfl⟩
    · rw [if_neg hzx] at e ⊢
      subst e
      exact ⟨rfl, rfl, rfl, rfl⟩
  refine ⟨calm_write h.calm _ _, few_write h.few x.p x.bs rfl rfl (fun y hy => ?_), fun q hq => ?_, fun y hy hp => ?_, fun y hy hch => ?_, fun q hq => ?_⟩
  · obtain ⟨z, hz, e1, e2, e3, e4⟩ := hm y hy
    rw [e3]; exact h.few.pins z hz
  · obtain ⟨z, hz, e1, e2⟩ := h.pin q hq
    by_cases hzx : z.p = x.p
    · exact ⟨{ z with ch := false }, List.mem_map.2 ⟨z, hz, if_pos hzx⟩, e1, e2⟩
    · exact ⟨z, List.mem_map.2 ⟨z, hz, if_neg hzx⟩, e1, e2⟩
  · obtain ⟨z, hz, e1, e2, e3, e4⟩ := hm y hy
    rw [e3]; exact h.un z hz (by omega)
  · obtain ⟨z, hz, e1, e2, e3, e4⟩ := hm y hy
    rw [shows_q h.calm, e1, e2]
    by_cases hzx : z.p = x.p
    · obtain rfl := nodup_inj ok.nodup hz hx hzx
      rw [if_pos rfl]
    · rw [if_neg (fun e => hzx e.symm)]
      rw [if_neg hzx] at e4
      exact h.clean z hz (by rw [← e4]; exact hch)
  · have hv := h.view q hq
    unfold viewC at hv ⊢
    simp only
    rw [findC_updC ch.l x.p (fun y => { y with ch := false }) (fun _ => rfl)]
    cases hf : findC ch.l (q : Int) with
    | none =>
      rw [hf] at hv
      simp only [Option.map_none] at hv ⊢
      rw [shows_q h.calm, if_neg (fun e => by subst e; rw [findC_mem ok.nodup hx] at hf; cases hf)]
      exact hv
    | some y =>
      rw [hf] at hv
      simp only [Option.map_some] at hv ⊢
      split
      · exact hv
      · exact hv

theorem kv_flushR : ∀ (ps : List Int) (k : Nat) (ch : Ch) (d : Dv), Kv p k n f ch d → ChOk n ch → (∀ q ∈ ps, ∃ x ∈ ch.l, (x.p : Int) = q) → (flushR ps ch d).1 = 0 ∧ Kv p (k + ps.length) n f (flushR ps ch d).2.1 (flushR ps ch d).2.2 ∧ (flushR ps ch d).2.1.size = ch.size ∧ (∀ y ∈ (flushR ps ch d).2.1.l, y.ch = true → (y.p : Int) ∉ ps ∧ ∃ z ∈ ch.l, z.p = y.p ∧ z.ch = true)
  | [], k, ch, d, h, ok, _ => ⟨rfl, h, rfl, fun y hy hc => ⟨by simp, y, hy, rfl, hc⟩⟩
  | q :: r, k, ch, d, h, ok, hq => by
    obtain ⟨x, hx, rfl⟩ := hq q (List.mem_cons_self ..)
    have e : flushR ((x.p : Int) :: r) ch d = flushR r { ch with l := updC ch.l x.p (fun y => { y with ch := false }) } (writeQ d x.p x.bs).2 := by
      rw [flushR, findC_mem ok.nodup hx]
      simp only
      rw [if_pos (calm_q h.calm _ _).1]
    rw [e]
    have ok' := ok_upd ok x.p (fun y => { y with ch := false }) (fun _ => rfl) (fun y hy => (ok.pages y hy).2)
    obtain ⟨i1, i2, i3, i4⟩ := kv_flushR r (k + 1) _ _ (kv_clean h ok hx) ok' (fun q' hq' => by
      obtain ⟨z, hz, e⟩ := hq q' (List.mem_cons_of_mem _ hq')
      by_cases hzx : z.p = x.p
      · exact ⟨{ z with ch := false }, List.mem_map.2 ⟨z, hz, if_pos hzx⟩, e⟩
      · exact ⟨z, List.mem_map.2 ⟨z, hz, if_neg hzx⟩, e⟩)
    refine ⟨i1, by rw [List.length_cons]; exact i2.mono (by omega), i3, fun y hy hc => ?_⟩
    obtain ⟨j1, z, hz, e1, e2⟩ := i4 y hy hc
    obtain ⟨z', hz', e3⟩ := mem_updC hz
    by_cases hzx : z'.p = x.p
    · rw [if_pos hzx] at e3
      rw [e3] at e2
      cases e2
    · rw [if_neg hzx] at e3
      subst e3
      refine ⟨fun hm => ?_, z, hz', e1, e2⟩
      rcases List.mem_cons.1 hm with hm | hm
      · omega
      · exact j1 hm

theorem changedC_none {l : List Hd} (h : ∀ y ∈ l, y.ch = false) : changedC l = [] := by
  unfold changedC
  rw [List.filter_eq_nil_iff]
  intro q _
  unfold chgF
  cases hf : findC l q with
  | none => simp
  | some y => simp [h y (findC_some hf).1]
theorem kv_flush (h : Kv p k n f ch d) (ok : ChOk n ch) : (flushC ch d).1 = 0 ∧ Kv p (k + 64) n f (flushC ch d).2.1 (flushC ch d).2.2 ∧ (flushC ch d).2.1.size = ch.size ∧ (∀ y ∈ (flushC ch d).2.1.l, y.ch = false) := by
  obtain ⟨i1, i2, i3, i4⟩ := kv_flushR (changedC ch.l) k ch d h ok (fun q hq => mem_changedC hq)
  have hl : (changedC ch.l).length ≤ 64 := by have := changedC_len ch.l; have := ok.few; have := ok.hi; omega
  refine ⟨i1, i2.mono (by omega), i3, fun y hy => ?_⟩
  cases hc : y.ch with
  | false => rfl
  | true =>
    obtain ⟨j1, z, hz, e1, e2⟩ := i4 y hy hc
    exfalso
    apply j1
    rw [← e1]
    refine List.mem_filter.2 ⟨List.mem_mergeSort.2 (mem_ordC.2 ⟨z, hz, rfl⟩), ?_⟩
    rw [chgF_mem ok.nodup hz]
    exact e2
/-- behind a Flush the device shows all -/
theorem kv_shows (h : Kv p k n f ch d) (hc : ∀ y ∈ ch.l, y.ch = false) (q : Nat) (hq : q < n) : showsD d q = f q := by
  have hv := h.view q hq
  unfold viewC at hv
  cases hf : findC ch.l (q : Int) with
  | none => rw [hf] at hv; exact hv
  | some y =>
    rw [hf] at hv
    simp only at hv
    obtain ⟨hy, hyp⟩ := findC_some hf
    have : y.p = q := by omega
    rw [← hv, ← this]
    exact h.clean y hy (hc y hy)
end

end Go.Proofs.Ytoplhehcjgldeaa
