/- A cache over a device that never fails: what each page tells (its view), through room, Get, Put; pages that are pinned. No package's function. -/
import Derived.Test.YtoplhehcjgldeaaCNew
namespace Go.Proofs.Ytoplhehcjgldeaa
open Go.RowKit
set_option linter.unusedVariables false

theorem shows_spend (d : Dv) (q : Nat) : showsD (spendD d) q = showsD d q := by
  unfold spendD
  split <;> rfl
theorem shows_more (d : Dv) (p : Nat) (zs : List Int) (q : Nat) : showsD { d with ws := d.ws ++ [(p, zs)] } q = if p = q then zs else showsD d q := by
  unfold showsD
  simp only [lastIx_snoc]
  by_cases h : p = q
  · simp [h, wAt, List.getD]
  · simp only [h, if_false]
    cases hl : lastIx d.ws q with
    | none => rfl
    | some i =>
      have hi := (lastIx_lt _ _ _ hl).1
      simp only [wAt, List.getD, List.getElem?_append_left hi]

structure Calm5 (n : Nat) (d : Dv) : Prop where
  off : d.off = false
  left : d.left = none
  st : d.st.length = n
theorem calm_q {n : Nat} {d : Dv} (h : Calm5 n d) (p : Nat) (zs : List Int) : (writeQ d p zs).1 = 0 ∧ (writeQ d p zs).2 = { d with ws := d.ws ++ [(p, zs)], done := d.done + 1 } := by
  unfold writeQ spendE spendD
  simp [h.off, h.left]
theorem calm_write {n : Nat} {d : Dv} (h : Calm5 n d) (p : Nat) (zs : List Int) : Calm5 n (writeQ d p zs).2 := by
  rw [(calm_q h p zs).2]
  exact ⟨h.off, h.left, h.st⟩
theorem shows_q {n : Nat} {d : Dv} (h : Calm5 n d) (p : Nat) (zs : List Int) (q : Nat) : showsD (writeQ d p zs).2 q = if p = q then zs else showsD d q := by
  rw [(calm_q h p zs).2]
  exact shows_more d p zs q

/-- what Get tells of a page -/
def viewC (ch : Ch) (d : Dv) (q : Nat) : List Int := match findC ch.l q with
  | some h => h.bs
  | none => showsD d q

structure Kv (p k n : Nat) (f : Nat → List Int) (ch : Ch) (d : Dv) : Prop where
  calm : Calm5 n d
  few : Few k ch d
  pin : ∀ q, q < p → ∃ h ∈ ch.l, h.p = q ∧ h.pins = 1
  un : ∀ h ∈ ch.l, p ≤ h.p → h.pins = 0
  clean : ∀ h ∈ ch.l, h.ch = false → showsD d h.p = h.bs
  view : ∀ q, q < n → viewC ch d q = f q

theorem Kv.mono {p k k' n : Nat} {f : Nat → List Int} {ch : Ch} {d : Dv} (h : Kv p k n f ch d) (hk : k ≤ k') : Kv p k' n f ch d := ⟨h.calm, h.few.mono hk, h.pin, h.un, h.clean, h.view⟩

theorem len_below : ∀ (p : Nat) (L : List Nat), L.Nodup → (∀ x ∈ L, x < p) → L.length ≤ p
  | 0, L, _, h => by
    cases L with
    | nil => simp
    | cons x r => exact absurd (h x (List.mem_cons_self ..)) (by omega)
  | p + 1, L, hn, h => by
    have h1 := len_below p (L.erase p) (hn.erase p) (fun x hx => by
      have h2 := h x (List.mem_of_mem_erase hx)
      have h3 : x ≠ p := fun e => by subst e; exact (List.Nodup.not_mem_erase hn) hx
      omega)
    have h2 := List.length_erase (a := p) (l := L)
    split at h2 <;> omega

section
variable {p k n : Nat} {f : Nat → List Int} {ch : Ch} {d : Dv}

theorem kv_goes (h : Kv p k n f ch d) (ok : ChOk n ch) (hp : p < ch.size) (hl : ¬ ch.l.length < ch.size) : ∃ x, goesC ch.l = some x ∧ x ∈ ch.l ∧ p ≤ x.p := by
  cases hg : goesC ch.l with
  | none =>
    exfalso
    have hall := goesC_none hg
    have := len_below p (ch.l.map (·.p)) ok.nodup (fun y hy => by
      obtain ⟨x, hx, rfl⟩ := List.mem_map.1 hy
      apply Nat.lt_of_not_le
      intro hle
      exact hall x hx (h.un x hx hle))
    simp at this
    omega
  | some x =>
    obtain ⟨h1, h2⟩ := goesC_some hg
    refine ⟨x, rfl, h1, Nat.le_of_not_lt (fun hlt => ?_)⟩
    obtain ⟨y, hy, he, hpi⟩ := h.pin x.p hlt
    have := nodup_inj ok.nodup hy h1 he
    subst this
    omega

theorem kv_less (h : Kv p k n f ch d) (ok : ChOk n ch) {x : Hd} (hx : x ∈ ch.l) (hpx : p ≤ x.p) {d' : Dv} (hc : Calm5 n d') (hw : d'.ws.length ≤ k + 1) (hdn : d'.done ≤ k + 1) (hs : ∀ q, showsD d' q = if x.p = q then x.bs else showsD d q) : Kv p (k + 1) n f { ch with l := lessC ch.l x.p } d' := by
  refine ⟨hc, ⟨Nat.le_succ_of_le h.few.hits, Nat.le_succ_of_le h.few.misses, fun y hy => Nat.le_succ_of_le (h.few.pins y (mem_lessC.1 hy).1), hw, hdn⟩, fun q hq => ?_, fun y hy => h.un y (mem_lessC.1 hy).1, fun y hy hch => ?_, fun q hq => ?_⟩
  · obtain ⟨y, hy, he, hpi⟩ := h.pin q hq
    exact ⟨y, mem_lessC.2 ⟨hy, by omega⟩, he, hpi⟩
  · have hy' := mem_lessC.1 hy
    rw [hs, if_neg (fun e => hy'.2 e.symm)]
    exact h.clean y hy'.1 hch
  · have hv := h.view q hq
    unfold viewC at hv ⊢
    by_cases hqx : (q : Int) = x.p
    · have hqx' : q = x.p := by omega
      subst hqx'
      rw [findC_mem ok.nodup hx] at hv
      simp only at hv ⊢
      rw [findC_lessC_same]
      simp only
      rw [hs, if_pos rfl]
      exact hv
    · simp only
      rw [findC_lessC_other hqx]
      cases hf : findC ch.l (q : Int) with
      | none =>
        rw [hf] at hv
        simp only at hv ⊢
        rw [hs, if_neg (by omega)]
        exact hv
      | some y => rw [hf] at hv; exact hv

theorem kv_room (h : Kv p k n f ch d) (ok : ChOk n ch) (hp : p < ch.size) : (roomC ch d).1 = 0 ∧ Kv p (k + 1) n f (roomC ch d).2.1 (roomC ch d).2.2 := by
  unfold roomC
  by_cases hl : ch.l.length < ch.size
  · rw [if_pos hl]
    exact ⟨rfl, h.mono (by omega)⟩
  · rw [if_neg hl]
    obtain ⟨x, hg, hx, hpx⟩ := kv_goes h ok hp hl
    rw [hg]
    simp only
    cases hch : x.ch with
    | true =>
      obtain ⟨e1, e2⟩ := calm_q h.calm x.p x.bs
      rw [if_pos rfl, if_pos e1]
      refine ⟨rfl, kv_less h ok hx hpx (calm_write h.calm _ _) ?_ ?_ (shows_q h.calm x.p x.bs)⟩
      · rw [e2]; simp; exact h.few.ws
      · rw [e2]; have := h.few.done; show d.done + 1 ≤ k + 1; omega
    | false =>
      rw [if_neg (by decide)]
      refine ⟨rfl, kv_less h ok hx hpx h.calm (Nat.le_succ_of_le h.few.ws) (Nat.le_succ_of_le h.few.done) (fun q => ?_)⟩
      by_cases hq : x.p = q
      · rw [if_pos hq, ← hq]; exact h.clean x hx hch
      · rw [if_neg hq]

theorem kv_count (h : Kv p k n f ch d) (a b : Nat) (ha : a ≤ k + 1) (hb : b ≤ k + 1) : Kv p (k + 1) n f { ch with hits := a, misses := b } d :=
  ⟨h.calm, ⟨ha, hb, fun y hy => Nat.le_succ_of_le (h.few.pins y hy), Nat.le_succ_of_le h.few.ws, Nat.le_succ_of_le h.few.done⟩, h.pin, h.un, h.clean, h.view⟩

/-- a page that was held is used, perhaps with other bytes -/
theorem kv_use (h : Kv p k n f ch d) (ok : ChOk n ch) {x y : Hd} (hx : x ∈ ch.l) (hp : y.p = x.p) (hpi : y.pins = x.pins) (hcl : y.ch = false → showsD d y.p = y.bs) (g : Nat → List Int) (hg : ∀ q, q < n → g q = if q = x.p then y.bs else f q) (a : Nat) (ha : a ≤ k + 1) : Kv p (k + 1) n g { ch with l := useC ch.l y, hits := a } d := by
  have hm : ∀ z, z ∈ useC ch.l y → z = y ∨ (z ∈ ch.l ∧ z.p ≠ x.p) := fun z hz => by rw [mem_useC, hp] at hz; exact hz
  refine ⟨h.calm, ⟨ha, Nat.le_succ_of_le h.few.misses, fun z hz => ?_, Nat.le_succ_of_le h.few.ws, Nat.le_succ_of_le h.few.done⟩, fun q hq => ?_, fun z hz hpz => ?_, fun z hz hch => ?_, fun q hq => ?_⟩
  · rcases hm z hz with rfl | ⟨hz, _⟩
    · rw [hpi]; exact Nat.le_succ_of_le (h.few.pins x hx)
    · exact Nat.le_succ_of_le (h.few.pins z hz)
  · obtain ⟨z, hz, he, hpz⟩ := h.pin q hq
    by_cases hzx : z.p = x.p
    · have := nodup_inj ok.nodup hz hx hzx
      subst this
      exact ⟨y, mem_useC.2 (.inl rfl), by rw [hp]; exact he, by rw [hpi]; exact hpz⟩
    · exact ⟨z, mem_useC.2 (.inr ⟨hz, by rw [hp]; exact hzx⟩), he, hpz⟩
  · rcases hm z hz with rfl | ⟨hz, _⟩
    · rw [hpi]; exact h.un x hx (by omega)
    · exact h.un z hz hpz
  · rcases hm z hz with rfl | ⟨hz, _⟩
    · exact hcl hch
    · exact h.clean z hz hch
  · unfold viewC
    simp only
    rw [hg q hq]
    by_cases hqx : q = x.p
    · rw [if_pos hqx, hqx, ← hp, findC_useC_same]
    · rw [if_neg hqx, findC_useC_other _ _ (by omega)]
      exact h.view q hq
/-- a page that was not held is held -/
theorem kv_new (h : Kv p k n f ch d) {y : Hd} (hn : findC ch.l y.p = none) (hpy : p ≤ y.p) (hpi : y.pins = 0) (hcl : y.ch = false → showsD d y.p = y.bs) (g : Nat → List Int) (hg : ∀ q, q < n → g q = if q = y.p then y.bs else f q) : Kv p k n g { ch with l := y :: ch.l } d := by
  refine ⟨h.calm, ⟨h.few.hits, h.few.misses, fun z hz => ?_, h.few.ws, h.few.done⟩, fun q hq => ?_, fun z hz hpz => ?_, fun z hz hch => ?_, fun q hq => ?_⟩
  · rcases List.mem_cons.1 hz with rfl | hz
    · rw [hpi]; exact Nat.zero_le _
    · exact h.few.pins z hz
  · obtain ⟨z, hz, he, hpz⟩ := h.pin q hq
    exact ⟨z, List.mem_cons_of_mem _ hz, he, hpz⟩
  · rcases List.mem_cons.1 hz with rfl | hz
    · exact hpi
    · exact h.un z hz hpz
  · rcases List.mem_cons.1 hz with rfl | hz
    · exact hcl hch
    · exact h.clean z hz hch
  · unfold viewC
    simp only
    rw [hg q hq, ← useC_new hn]
    by_cases hqx : q = y.p
    · rw [if_pos hqx, hqx, findC_useC_same]
    · rw [if_neg hqx, findC_useC_other _ _ (by omega)]
      exact h.view q hq

theorem kv_get (h : Kv p k n f ch d) (ok : ChOk n ch) (hp : p < ch.size) (q : Nat) (hq : q < n) : (getC ch d q).1 = 0 ∧ (getC ch d q).2.1 = f q ∧ Kv p (k + 2) n f (getC ch d q).2.2.1 (getC ch d q).2.2.2 ∧ (∃ x ∈ (getC ch d q).2.2.1.l, x.p = q) ∧ (getC ch d q).2.2.1.size = ch.size := by
  have hqd : (0 : Int) ≤ (q : Int) ∧ (q : Int) < d.st.length := by rw [h.calm.st]; omega
  have hv := h.view q hq
  unfold viewC at hv
  unfold getC
  rw [if_pos hqd]
  simp only [Int.toNat_natCast]
  cases hf : findC ch.l (q : Int) with
  | some x =>
    rw [hf] at hv
    simp only at hv ⊢
    obtain ⟨hx, hxp⟩ := findC_some hf
    have hxq : x.p = q := by omega
    refine ⟨by trivial, hv, (kv_use h ok hx rfl rfl (h.clean x hx) f (fun r hr => ?_) (ch.hits + 1) (by have := h.few.hits; omega)).mono (by omega), ⟨x, mem_useC.2 (.inl rfl), hxq⟩, by trivial⟩
    by_cases hr2 : r = x.p
    · rw [if_pos hr2, hr2, hxq, hv]
    · rw [if_neg hr2]
  | none =>
    rw [hf] at hv
    simp only at hv ⊢
    have hpq : p ≤ q := Nat.le_of_not_lt (fun hlt => by
      obtain ⟨y, hy, he, _⟩ := h.pin q hlt
      exact findC_none hf y hy (by omega))
    obtain ⟨r1, r2⟩ := kv_room (kv_count h ch.hits (ch.misses + 1) (by have := h.few.hits; omega) (by have := h.few.misses; omega)) (ch := { ch with misses := ch.misses + 1 }) ⟨ok.lo, ok.hi, ok.few, ok.nodup, ok.pages⟩ hp
    have r3 := roomC_find (c := { ch with misses := ch.misses + 1 }) (d := d) hf
    have r4 := (roomC_size { ch with misses := ch.misses + 1 } d).1
    have hv2 := r2.view q hq
    unfold viewC at hv2
    rw [r3] at hv2
    simp only at hv2
    rw [if_pos r1, if_neg (by rw [r2.calm.off]; decide)]
    refine ⟨by trivial, hv2, kv_new r2 (y := ⟨q, _, false, 0⟩) r3 hpq rfl (fun _ => rfl) f (fun r hr => ?_), ⟨_, List.mem_cons_self .., rfl⟩, r4⟩
    by_cases hr2 : r = q
    · rw [if_pos hr2, hr2]; exact hv2.symm
    · rw [if_neg hr2]
theorem kv_put (h : Kv p k n f ch d) (ok : ChOk n ch) (hp : p < ch.size) (q : Nat) (hq : q < n) (hpq : p ≤ q) (zs : List Int) (hz : zs.length = 256) (g : Nat → List Int) (hg : ∀ r, r < n → g r = if r = q then zs else f r) : (putC ch d q zs).1 = 0 ∧ Kv p (k + 2) n g (putC ch d q zs).2.1 (putC ch d q zs).2.2 ∧ (∃ x ∈ (putC ch d q zs).2.1.l, x.p = q) ∧ (putC ch d q zs).2.1.size = ch.size := by
  have hqd : ((0 : Int) ≤ (q : Int) ∧ (q : Int) < d.st.length) ∧ zs.length = 256 := ⟨by rw [h.calm.st]; omega, hz⟩
  unfold putC
  rw [if_pos hqd]
  simp only [Int.toNat_natCast]
  cases hf : findC ch.l (q : Int) with
  | some x =>
    simp only
    obtain ⟨hx, hxp⟩ := findC_some hf
    have hxq : x.p = q := by omega
    refine ⟨by trivial, (kv_use h ok (y := { x with bs := zs, ch := true }) hx rfl rfl (fun e => by cases e) g (fun r hr => ?_) (ch.hits + 1) (by have := h.few.hits; omega)).mono (by omega), ⟨_, mem_useC.2 (.inl rfl), hxq⟩, by trivial⟩
    rw [hxq]; exact hg r hr
  | none =>
    simp only
    obtain ⟨r1, r2⟩ := kv_room (kv_count h ch.hits (ch.misses + 1) (by have := h.few.hits; omega) (by have := h.few.misses; omega)) (ch := { ch with misses := ch.misses + 1 }) ⟨ok.lo, ok.hi, ok.few, ok.nodup, ok.pages⟩ hp
    have r3 := roomC_find (c := { ch with misses := ch.misses + 1 }) (d := d) hf
    have r4 := (roomC_size { ch with misses := ch.misses + 1 } d).1
    rw [if_pos r1]
    exact ⟨by trivial, kv_new r2 (y := ⟨q, zs, true, 0⟩) r3 hpq rfl (fun e => by cases e) g hg, ⟨_, List.mem_cons_self .., rfl⟩, r4⟩
end

end Go.Proofs.Ytoplhehcjgldeaa
