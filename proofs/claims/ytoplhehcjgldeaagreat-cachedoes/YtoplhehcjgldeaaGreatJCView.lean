/- A cache over a device that never fails: what each page tells (its view), through room, Get, Put; pages that are pinned. No package's function. -/
import Derived.Test.YtoplhehcjgldeaaGreatJRCmp
import Derived.WalkKit
import Derived.ProofKit
import Derived.ChangeSlices
import Derived.Deep.Slices
import Derived.ChangeOld
import Derived.OpenShut
import Derived.Below
namespace Go.Proofs.YtoplhehcjgldeaaGreat
open Go.RowKit
set_option linter.unusedVariables false

theorem shows_spend (d : Dv) (q : Nat) : showsD (spendD d) q = showsD d q := by
  unfold spendD
  split <;> rfl
theorem shows_more (d : Dv) (p : Nat) (zs : List Int) (q : Nat) : showsD { d with ws := d.ws ++ [(p, zs)] } q = if p = q then zs else showsD d q := by
  unfold showsD
  simp only [lastIx_snoc]
  by_cases h : p = q
  · simp [h, wAt, List.getD]
  · simp only [h, if_false]
    cases hl : lastIx d.ws q with
    | none => rfl
    | some i =>
      have hi := (lastIx_lt _ _ _ hl).1
      simp only [wAt, List.getD, List.getElem?_append_left hi]

structure Calm5 (n : Nat) (d : Dv) : Prop where
  off : d.off = false
  left : d.left = none
  st : d.st.length = n
theorem calm_q {n : Nat} {d : Dv} (h : Calm5 n d) (p : Nat) (zs : List Int) : (writeQ d p zs).1 = 0 ∧ (writeQ d p zs).2 = { d with ws := d.ws ++ [(p, zs)], done := d.done + 1 } := by
  unfold writeQ spendE spendD
  simp [h.off, h.left]
theorem calm_write {n : Nat} {d : Dv} (h : Calm5 n d) (p : Nat) (zs : List Int) : Calm5 n (writeQ d p zs).2 := by
  rw [(calm_q h p zs).2]
  exact ⟨h.off, h.left, h.st⟩
theorem shows_q {n : Nat} {d : Dv} (h : Calm5 n d) (p : Nat) (zs : List Int) (q : Nat) : showsD (writeQ d p zs).2 q = if p = q then zs else showsD d q := by
  rw [(calm_q h p zs).2]
  exact shows_more d p zs q

/-- what Get tells of a page -/
def viewC (ch : Ch) (d : Dv) (q : Nat) : List Int := match findC ch.l q with
  | some h => h.bs
  | none => showsD d q

structure Kv (p k n : Nat) (f : Nat → List Int) (ch : Ch) (d : Dv) : Prop where
  calm : Calm5 n d
  few : Few k ch d
  pin : ∀ q, q < p → ∃ h ∈ ch.l, h.p = q ∧ h.pins = 1
  un : ∀ h ∈ ch.l, p ≤ h.p → h.pins = 0
  clean : ∀ h ∈ ch.l, h.ch = false → showsD d h.p = h.bs
  view : ∀ q, q < n → viewC ch d q = f q

theorem Kv.mono {p k k' n : Nat} {f : Nat → List Int} {ch : Ch} {d : Dv} (h : Kv p k n f ch d) (hk : k ≤ k') : Kv p k' n f ch d := ⟨h.calm, h.few.mono hk, h.pin, h.un, h.clean, h.view⟩

theorem len_below : ∀ (p : Nat) (L : List Nat), L.Nodup → (∀ x ∈ L, x < p) → L.length ≤ p
  | 0, L, _, h => by
    cases L with
    | nil => simp
    | cons x r => exact absurd (h x (List.mem_cons_self ..)) (by omega)
  | p + 1, L, hn, h => by
    have h1 := len_below p (L.erase p) (hn.erase p) (fun x hx => by
      have h2 := h x (List.mem_of_mem_erase hx)
      have h3 : x ≠ p := fun e => by subst e; exact (List.Nodup.not_mem_erase hn) hx
      omega)
    have h2 := List.length_erase (a := p) (l := L)
    split at h2 <;> omega

section
variable {p k n : Nat} {f : Nat → List Int} {ch : Ch} {d : Dv}

theorem kv_goes (h : Kv p k n f ch d) (ok : ChOk n ch) (hp : p < ch.size) (hl : ¬ ch.l.length < ch.size) : ∃ x, goesC ch.l = some x ∧ x ∈ ch.l ∧ p ≤ x.p := by
  cases hg : goesC ch.l with
  | none =>
    exfalso
    have hall := goesC_none hg
    have := len_below p (ch.l.map (·.p)) ok.nodup (fun y hy => by
      obtain ⟨x, hx, rfl⟩ := List.mem_map.1 hy
      apply Nat.lt_of_not_le
      intro hle
      exact hall x hx (h.un x hx hle))
    simp at this
    omega
  | some x =>
    obtain ⟨h1, h2⟩ := goesC_some hg
    refine ⟨x, rfl, h1, Nat.le_of_not_lt (fun hlt => ?_)⟩
    obtain ⟨y, hy, he, hpi⟩ := h.pin x.p hlt
    have := nodup_inj ok.nodup hy h1 he
    subst this
    omega

theorem kv_less (h : Kv p k n f ch d) (ok : ChOk n ch) {x : Hd} (hx : x ∈ ch.l) (hpx : p ≤ x.p) {d' : Dv} (hc : Calm5 n d') (hw : d'.ws.length ≤ k + 1) (hdn : d'.done ≤ k + 1) (hs : ∀ q, showsD d' q = if x.p = q then x.bs else showsD d q) : Kv p (k + 1) n f { ch with l := lessC ch.l x.p } d' := by
  refine ⟨hc, ⟨Nat.le_succ_of_le h.few.hits, Nat.le_succ_of_le h.few.misses, fun y hy => Nat.le_succ_of_le (h.few.pins y (mem_lessC.1 hy).1), hw, hdn⟩, fun q hq => ?_, fun y hy => h.un y (mem_lessC.1 hy).1, fun y hy hch => ?_, fun q hq => ?_⟩
  · obtain ⟨y, hy, he, hpi⟩ := h.pin q hq
    exact ⟨y, mem_lessC.2 ⟨hy, by omega⟩, he, hpi⟩
  · have hy' := mem_lessC.1 hy
    rw [hs, if_neg (fun e => hy'.2 e.symm)]
    exact h.clean y hy'.1 hch
  · have hv := h.view q hq
    unfold viewC at hv ⊢
    by_cases hqx : (q : Int) = x.p
    · have hqx' : q = x.p := by omega
      subst hqx'
      rw [findC_mem ok.nodup hx] at hv
      simp only at hv ⊢
      rw [findC_lessC_same]
      simp only
      rw [hs, if_pos rfl]
      exact hv
    · simp only
      rw [findC_lessC_other hqx]
      cases hf : findC ch.l (q : Int) with
      | none =>
        rw [hf] at hv
        simp only at hv ⊢
        rw [hs, if_neg (by omega)]
        exact hv
      | some y => rw [hf] at hv; exact hv

theorem kv_room (h : Kv p k n f ch d) (ok : ChOk n ch) (hp : p < ch.size) : (roomC ch d).1 = 0 ∧ Kv p (k + 1) n f (roomC ch d).2.1 (roomC ch d).2.2 := by
  unfold roomC
  by_cases hl : ch.l.length < ch.size
  · rw [if_pos hl]
    exact ⟨rfl, h.mono (by omega)⟩
  · rw [if_neg hl]
    obtain ⟨x, hg, hx, hpx⟩ := kv_goes h ok hp hl
    rw [hg]
    simp only
    cases hch : x.ch with
    | true =>
      obtain ⟨e1, e2⟩ := calm_q h.calm x.p x.bs
      rw [if_pos rfl, if_pos e1]
      refine ⟨rfl, kv_less h ok hx hpx (calm_write h.calm _ _) ?_ ?_ (shows_q h.calm x.p x.bs)⟩
      · rw [e2]; simp; exact h.few.ws
      · rw [e2]; have := h.few.done; show d.done + 1 ≤ k + 1; omega
    | false =>
      rw [if_neg (by decide)]
      refine ⟨rfl, kv_less h ok hx hpx h.calm (Nat.le_succ_of_le h.few.ws) (Nat.le_succ_of_le h.few.done) (fun q => ?_)⟩
      by_cases hq : x.p = q
      · rw [if_pos hq, ← hq]; exact h.clean x hx hch
      · rw [if_neg hq]

theorem kv_count (h : Kv p k n f ch d) (a b : Nat) (ha : a ≤ k + 1) (hb : b ≤ k + 1) : Kv p (k + 1) n f { ch with hits := a, misses := b } d :=
  ⟨h.calm, ⟨ha, hb, fun y hy => Nat.le_succ_of_le (h.few.pins y hy), Nat.le_succ_of_le h.few.ws, Nat.le_succ_of_le h.few.done⟩, h.pin, h.un, h.clean, h.view⟩

/-- a page that was held is used, perhaps with other bytes -/
theorem kv_use (h : Kv p k n f ch d) (ok : ChOk n ch) {x y : Hd} (hx : x ∈ ch.l) (hp : y.p = x.p) (hpi : y.pins = x.pins) (hcl : y.ch = false → showsD d y.p = y.bs) (g : Nat → List Int) (hg : ∀ q, q < n → g q = if q = x.p then y.bs else f q) (a : Nat) (ha : a ≤ k + 1) : Kv p (k + 1) n g { ch with l := useC ch.l y, hits := a } d := by
  have hm : ∀ z, z ∈ useC ch.l y → z = y ∨ (z ∈ ch.l ∧ z.p ≠ x.p) := fun z hz => by rw [mem_useC, hp] at hz; exact hz
  refine ⟨h.calm, ⟨ha, Nat.le_succ_of_le h.few.misses, fun z hz => ?_, Nat.le_succ_of_le h.few.ws, Nat.le_succ_of_le h.few.done⟩, fun q hq => ?_, fun z hz hpz => ?_, fun z hz hch => ?_, fun q hq => ?_⟩
  · rcases hm z hz with rfl | ⟨hz, _⟩
    · rw [hpi]; exact Nat.le_succ_of_le (h.few.pins x hx)
    · exact Nat.le_succ_of_le (h.few.pins z hz)
  · obtain ⟨z, hz, he, hpz⟩ := h.pin q hq
    by_cases hzx : z.p = x.p
    · have := nodup_inj ok.nodup hz hx hzx
      subst this
      exact ⟨y, mem_useC.2 (.inl rfl), by rw [hp]; exact he, by rw [hpi]; exact hpz⟩
    · exact ⟨z, mem_useC.2 (.inr ⟨hz, by rw [hp]; exact hzx⟩), he, hpz⟩
  · rcases hm z hz with rfl | ⟨hz, _⟩
    · rw [hpi]; exact h.un x hx (by omega)
    · exact h.un z hz hpz
  · rcases hm z hz with rfl | ⟨hz, _⟩
    · exact hcl hch
    · exact h.clean z hz hch
  · unfold viewC
    simp only
    rw [hg q hq]
    by_cases hqx : q = x.p
    · rw [if_pos hqx, hqx, ← hp, findC_useC_same]
    · rw [if_neg hqx, findC_useC_other _ _ (by omega)]
      exact h.view q hq
/-- a page that was not held is held -/
theorem kv_new (h : Kv p k n f ch d) {y : Hd} (hn : findC ch.l y.p = none) (hpy : p ≤ y.p) (hpi : y.pins = 0) (hcl : y.ch = false → showsD d y.p = y.bs) (g : Nat → List Int) (hg : ∀ q, q < n → g q = if q = y.p then y.bs else f q) : Kv p k n g { ch with l := y :: ch.l } d := by
  refine ⟨h.calm, ⟨h.few.hits, h.few.misses, fun z hz => ?_, h.few.ws, h.few.done⟩, fun q hq => ?_, fun z hz hpz => ?_, fun z hz hch => ?_, fun q hq => ?_⟩
  · rcases List.mem_cons.1 hz with rfl | hz
    · rw [hpi]; exact Nat.zero_le _
    · exact h.few.pins z hz
  · obtain ⟨z, hz, he, hpz⟩ := h.pin q hq
    exact ⟨z, List.mem_cons_of_mem _ hz, he, hpz⟩
  · rcases List.mem_cons.1 hz with rfl | hz
    · exact hpi
    · exact h.un z hz hpz
  · rcases List.mem_cons.1 hz with rfl | hz
    · exact hcl hch
    · exact h.clean z hz hch
  · unfold viewC
    simp only
    rw [hg q hq, ← useC_new hn]
    by_cases hqx : q = y.p
    · rw [if_pos hqx, hqx, findC_useC_same]
    · rw [if_neg hqx, findC_useC_other _ _ (by omega)]
      exact h.view q hq

theorem kv_get (h : Kv p k n f ch d) (ok : ChOk n ch) (hp : p < ch.size) (q : Nat) (hq : q < n) : (getC ch d q).1 = 0 ∧ (getC ch d q).2.1 = f q ∧ Kv p (k + 2) n f (getC ch d q).2.2.1 (getC ch d q).2.2.2 ∧ (∃ x ∈ (getC ch d q).2.2.1.l, x.p = q) ∧ (getC ch d q).2.2.1.size = ch.size := by
  have hqd : (0 : Int) ≤ (q : Int) ∧ (q : Int) < d.st.length := by rw [h.calm.st]; omega
  have hv := h.view q hq
  unfold viewC at hv
  unfold getC
  rw [if_pos hqd]
  simp only [Int.toNat_natCast]
  cases hf : findC ch.l (q : Int) with
  | some x =>
    rw [hf] at hv
    simp only at hv ⊢
    obtain ⟨hx, hxp⟩ := findC_some hf
    have hxq : x.p = q := by omega
    refine ⟨by trivial, hv, (kv_use h ok hx rfl rfl (h.clean x hx) f (fun r hr => ?_) (ch.hits + 1) (by have := h.few.hits; omega)).mono (by omega), ⟨x, mem_useC.2 (.inl rfl), hxq⟩, by trivial⟩
    by_cases hr2 : r = x.p
    · rw [if_pos hr2, hr2, hxq, hv]
    · rw [if_neg hr2]
  | none =>
    rw [hf] at hv
    simp only at hv ⊢
    have hpq : p ≤ q := Nat.le_of_not_lt (fun hlt => by
      obtain ⟨y, hy, he, _⟩ := h.pin q hlt
      exact findC_none hf y hy (by omega))
    obtain ⟨r1, r2⟩ := kv_room (kv_count h ch.hits (ch.misses + 1) (by have := h.few.hits; omega) (by have := h.few.misses; omega)) (ch := { ch with misses := ch.misses + 1 }) ⟨ok.lo, ok.hi, ok.few, ok.nodup, ok.pages⟩ hp
    have r3 := roomC_find (c := { ch with misses := ch.misses + 1 }) (d := d) hf
    have r4 := (roomC_size { ch with misses := ch.misses + 1 } d).1
    have hv2 := r2.view q hq
    unfold viewC at hv2
    rw [r3] at hv2
    simp only at hv2
    rw [if_pos r1, if_neg (by rw [r2.calm.off]; decide)]
    refine ⟨by trivial, hv2, kv_new r2 (y := ⟨q, _, false, 0⟩) r3 hpq rfl (fun _ => rfl) f (fun r hr => ?_), ⟨_, List.mem_cons_self .., rfl⟩, r4⟩
    by_cases hr2 : r = q
    · rw [if_pos hr2, hr2]; exact hv2.symm
    · rw [if_neg hr2]
theorem kv_put (h : Kv p k n f ch d) (ok : ChOk n ch) (hp : p < ch.size) (q : Nat) (hq : q < n) (hpq : p ≤ q) (zs : List Int) (hz : zs.length = 256) (g : Nat → List Int) (hg : ∀ r, r < n → g r = if r = q then zs else f r) : (putC ch d q zs).1 = 0 ∧ Kv p (k + 2) n g (putC ch d q zs).2.1 (putC ch d q zs).2.2 ∧ (∃ x ∈ (putC ch d q zs).2.1.l, x.p = q) ∧ (putC ch d q zs).2.1.size = ch.size := by
  have hqd : ((0 : Int) ≤ (q : Int) ∧ (q : Int) < d.st.length) ∧ zs.length = 256 := ⟨by rw [h.calm.st]; omega, hz⟩
  unfold putC
  rw [if_pos hqd]
  simp only [Int.toNat_natCast]
  cases hf : findC ch.l (q : Int) with
  | some x =>
    simp only
    obtain ⟨hx, hxp⟩ := findC_some hf
    have hxq : x.p = q := by omega
    refine ⟨by trivial, (kv_use h ok (y := { x with bs := zs, ch := true }) hx rfl rfl (fun e => by cases e) g (fun r hr => ?_) (ch.hits + 1) (by have := h.few.hits; omega)).mono (by omega), ⟨_, mem_useC.2 (.inl rfl), hxq⟩, by trivial⟩
    rw [hxq]; exact hg r hr
  | none =>
    simp only
    obtain ⟨r1, r2⟩ := kv_room (kv_count h ch.hits (ch.misses + 1) (by have := h.few.hits; omega) (by have := h.few.misses; omega)) (ch := { ch with misses := ch.misses + 1 }) ⟨ok.lo, ok.hi, ok.few, ok.nodup, ok.pages⟩ hp
    have r3 := roomC_find (c := { ch with misses := ch.misses + 1 }) (d := d) hf
    have r4 := (roomC_size { ch with misses := ch.misses + 1 } d).1
    rw [if_pos r1]
    exact ⟨by trivial, kv_new r2 (y := ⟨q, zs, true, 0⟩) r3 hpq rfl (fun e => by cases e) g hg, ⟨_, List.mem_cons_self .., rfl⟩, r4⟩
end

end Go.Proofs.YtoplhehcjgldeaaGreat
/- Contract: does a changed page go, and is it written? (incipitlaw05.live) -/
namespace Go.Proofs.YtoplhehcjgldeaaGreat
open Go.RowKit
set_option linter.unusedVariables false
set_option maxRecDepth 100000

section
variable (w0 w w1 : World) (S X : Nat → Prop) (c b : Nat) (ch : Ch) (d : Dv)
theorem put_pg (k : Nat) (hk : k < 900000) (h : Duos w0 S X w c b ch d) (hf : Few k ch d) (hb : Below w.heap.size w w1) (g : Nat) (z : Int) (h0 : 0 ≤ z) (h1 : z ≤ 255) (hg : w.heap.size ≤ g) (hB : Blk w1 g 5 (pc (pg z))) (p : Int) :
    Calls Tryz.prog 16 #[dp c, .int .i64 p, .slice (some ⟨g, 0, none⟩) 256 256] w1 fun e w' => e = .returned (.int .i64 (putC ch d p (pg z)).1) ∧ Duos w0 S X w' c b (putC ch d p (pg z)).2.1 (putC ch d p (pg z)).2.2 ∧ Turn w0 S X w1 w' := by
  refine (put_any w0 w1 S _ c b ch d k hk (h.grow hb) hf p _ (pg z) (blk_sl hB (pg_ok h0 h1)) (fun j hj => ?_)).mono ?_
  · simp [Value.ownBlock] at hj
    subst hj
    exact .inr ⟨hg, hB.lt⟩
  · rintro e w' ⟨rfl, h2, h3⟩
    exact ⟨rfl, h2.less (fun _ h => .inl h), h3.mono (fun k _ h => ⟨h.1, fun hx => h.2 (.inl hx)⟩)⟩
theorem getC_err {ch : Ch} {d : Dv} {p : Int} (h : (getC ch d p).1 ≠ 0) : (getC ch d p).2.1 = [] := by
  unfold getC at h ⊢
  split
  · rename_i hp
    rw [if_pos hp] at h
    split
    · rename_i x hx
      rw [hx] at h
      exact absurd rfl h
    · rename_i hx
      rw [hx] at h
      simp only at h
      split
      · rename_i he
        rw [if_pos he] at h
        split
        · rfl
        · rename_i ho
          rw [if_neg ho] at h
          exact absurd rfl h
      · rfl
  · rfl
theorem get_sl (k : Nat) (hk : k < 900000) (h : Duos w0 S X w c b ch d) (hf : Few k ch d) (p : Int) :
    Calls Tryz.prog 18 #[dp c, .int .i64 p] w fun e w' => ∃ v, e = .returned (.tuple #[v, .int .i64 (getC ch d p).1]) ∧ Sl w' v (getC ch d p).2.1 ∧ Duos w0 S X w' c b (getC ch d p).2.2.1 (getC ch d p).2.2.2 ∧ Turn w0 S X w w' := by
  refine (get_any w0 w S X c b ch d k hk h hf p).mono ?_
  rintro e w' ⟨v, rfl, hh, ht⟩
  refine ⟨v, rfl, ?_, ?_, ht⟩
  · rcases hh with ⟨_, g, rfl, hz, hB, _⟩ | ⟨he, rfl, _⟩
    · exact blk_sl hB hz
    · rw [getC_err he]; exact Sl.nil _
  · rcases hh with ⟨_, g, rfl, hz, hB, _, hd⟩ | ⟨he, rfl, hd⟩
    · exact hd.less (fun _ h => .inl h)
    · exact hd
end

def liveP : Hd := ⟨0, pg 7, true, 0⟩
def liveQ : Hd := ⟨1, pg 8, true, 0⟩
def liveE : Dv := spendD { newD 8 with ws := (newD 8).ws ++ [(0, pg 7)] }
def liveR : Hd := ⟨2, showsD liveE 2, false, 0⟩
theorem pg_len (z : Int) : (pg z).length = 256 := pageS_len _
theorem newD_len : (newD 8).st.length = 8 := List.length_replicate
theorem live_1 : putC (newC 2) (newD 8) 0 (pg 7) = (0, ⟨2, [liveP], 0, 1⟩, newD 8) := by
  unfold putC
  rw [if_pos ⟨⟨by decide, by rw [newD_len]; decide⟩, pg_len 7⟩]
  rfl
theorem live_2 : putC ⟨2, [liveP], 0, 1⟩ (newD 8) 1 (pg 8) = (0, ⟨2, [liveQ, liveP], 0, 2⟩, newD 8) := by
  unfold putC
  rw [if_pos ⟨⟨by decide, by rw [newD_len]; decide⟩, pg_len 8⟩]
  rfl
theorem live_3 : getC ⟨2, [liveQ, liveP], 0, 2⟩ (newD 8) 2 = (0, showsD liveE 2, ⟨2, [liveR, liveQ], 0, 3⟩, liveE) := by
  unfold getC
  rw [if_pos ⟨by decide, by rw [newD_len]; decide⟩]
  rfl
theorem live_4 : showsD liveE 0 = pg 7 := rfl
theorem live_few {ch : Ch} (d : Dv) (h1 : ch.hits ≤ 3) (h2 : ch.misses ≤ 3) (h3 : ∀ h ∈ ch.l, h.pins ≤ 3) (h4 : d.ws.length ≤ 3) (h5 : d.done ≤ 3) : Few 3 ch d := ⟨h1, h2, h3, h4, h5⟩

theorem ints_lit (w : World) (zs : List Int) (hm : zs.length ≤ maxLen) : Ints (w.alloc (.cells (iv zs).toArray 3)) w.heap.size (.slice (some ⟨w.heap.size, 0, none⟩) zs.length zs.length) zs := World.ownsRow_lit (size := 1) w _ zs.length (Nat.le_refl _) hm (by simp)

set_option maxHeartbeats 2000000 in
theorem live5_any (w : World) : Calls Tryz.prog 5 #[] w fun e w' => e = .returned (.bool true) ∧ Below w.heap.size w w' := by
  have HN := hide (new_ok w 8 (by omega) (by omega))
  have HC : Hid (∀ (w1 : World) (b : Nat), Dev w1 b (fun k => w.heap.size ≤ k) (newD 8) → Below w.heap.size w w1 → Calls Tryz.prog 7 #[dp b, .int .i64 2] w1 fun e w' => ∃ c, e = .returned (.tuple #[dp c, .int .i64 0]) ∧ Duos w (fun _ => False) (fun _ => False) w' c b (newC 2) (newD 8) ∧ Below w1.heap.size w1 w') := fun w1 b hd hb => cnew_ok w w1 (fun _ => False) (fun _ => False) b _ (newD 8) hd (fun k hk => ⟨.inr hk, fun h => h⟩) (fun _ h => h.elim) (Only.of_below _ hb) 2 (by omega) (by omega)
  have HF1 : Hid (Few 3 (newC 2) (newD 8)) := live_few _ (by decide) (by decide) (fun _ h => by cases h) (by decide) (by decide)
  have HF2 : Hid (Few 3 ⟨2, [liveP], 0, 1⟩ (newD 8)) := live_few _ (by decide) (by decide) (fun x h => by simp at h; subst h; decide) (by decide) (by decide)
  have HF3 : Hid (Few 3 ⟨2, [liveQ, liveP], 0, 2⟩ (newD 8)) := live_few _ (by decide) (by decide) (fun x h => by simp at h; rcases h with rfl | rfl <;> decide) (by decide) (by decide)
  have HG7 := hide (fun wx : World => page5_any wx 7 (by decide) (by decide))
  have HG8 := hide (fun wx : World => page5_any wx 8 (by decide) (by decide))
  have HL : Hid (∀ wx : World, Ints (wx.alloc (.cells #[.int .i64 2, .int .i64 1] 3)) wx.heap.size (.slice (some ⟨wx.heap.size, 0, none⟩) 2 2) [2, 1]) := fun wx => ints_lit wx [2, 1] (by simp [maxLen])
  go_enter Tryz.func5, Tryz.ntmps5
  go_wp2_with (first
    | (go_at_call 4; refine HN.out.mono ?_; rintro e w1 ⟨b, rfl, hd1, hb1⟩; have HD1 := hide hd1; have HB1 := hide hb1; clear HN hd1 hb1)
    | (go_at_call 7; refine (HC.out w1 b HD1.out HB1.out).mono ?_; rintro e w2 ⟨c, rfl, hd2, hb2⟩; have HD2 := hide hd2; clear HC HD1 HB1 hd2 hb2)
    | (go_at_call 17; refine (HG7.out w2).mono ?_; rintro e w3 ⟨g3, rfl, hp3, hg3, hb3⟩; have HP3 := hide (put_pg w w2 w3 (fun _ => False) (fun _ => False) c b (newC 2) (newD 8) 3 (by omega) HD2.out HF1.out hb3 g3 7 (by decide) (by decide) hg3 hp3 0); rw [live_1] at HP3; clear HF1 hp3 hg3 hb3 HD2)
    | (go_at_call 16; refine HP3.out.mono ?_; rintro e w4 ⟨rfl, hd4, ht4⟩; have HD4 := hide hd4; clear HP3 hd4 ht4)
    | (go_at_call 17; refine (HG8.out w4).mono ?_; rintro e w5 ⟨g5, rfl, hp5, hg5, hb5⟩; have HP5 := hide (put_pg w w4 w5 (fun _ => False) (fun _ => False) c b _ (newD 8) 3 (by omega) HD4.out HF2.out hb5 g5 8 (by decide) (by decide) hg5 hp5 1); rw [live_2] at HP5; clear HF2 hp5 hg5 hb5 HD4 HG8)
    | (go_at_call 16; refine HP5.out.mono ?_; rintro e w6 ⟨rfl, hd6, ht6⟩; have HP6 := hide (get_sl w w6 (fun _ => False) (fun _ => False) c b _ (newD 8) 3 (by omega) hd6 HF3.out 2); rw [live_3] at HP6; clear HP5 hd6 ht6 HF3)
    | (go_at_call 18; refine HP6.out.mono ?_; rintro e w7 ⟨v7, rfl, hs7, hd7, ht7⟩; obtain ⟨G7, hg7⟩ := duos_dev w w7 _ _ c b _ _ hd7; have HR7 := hide (read_ok w7 b G7 liveE 0 hg7 (by decide) rfl); rw [live_4] at HR7; have HD7 := hide hd7; clear HP6 hs7 hd7 ht7 hg7)
    | (go_at_call 13; refine HR7.out.mono ?_; rintro e w8 ⟨rfl, hp8, hb8⟩; have HQ8 := hide hp8; have HD8 := hide (HD7.out.below hb8); clear HR7 HD7 hp8 hb8)
    | (go_at_call 17; refine (HG7.out w8).mono ?_; rintro e w9 ⟨g9, rfl, hp9, hg9, hb9⟩; have HQ9 := hide hp9; have HQ89 := hide (HQ8.out.below hb9 HQ8.out.lt); have HD9 := hide (HD8.out.below hb9); clear HG7 HD8 HQ8 hp9 hb9 hg9)
    | (go_at_call 15; refine (refSame_any w9 _ _ (pg 7) (pg 7) (blk_sl HQ89.out (pg_ok (by decide) (by decide))) (blk_sl HQ9.out (pg_ok (by decide) (by decide)))).mono ?_; rw [decide_eq_true rfl]; rintro e w10 ⟨rfl, hb10⟩; have HD10 := hide (HD9.out.below hb10); clear HQ89 HQ9 HD9 hb10)
    | (go_at_call 20; refine (held_any w w10 (fun _ => False) (fun _ => False) c b _ _ HD10.out).mono ?_; rintro e w11 ⟨v11, rfl, hi11, hb11⟩; have HI11 := hide hi11; have HD11 := hide (HD10.out.below hb11); clear HD10 hi11 hb11)
    | (go_at_call 19; refine (refInts_any _ _ _ v11 _ [2, 1] [2, 1] (HI11.out.below ((Below.refl _ w11).alloc (Nat.le_refl _) _)) (HL.out w11)).mono ?_; rw [decide_eq_true rfl]; rintro e w12 ⟨rfl, hb12⟩; have HD12 := hide ((HD11.out.below ((Below.refl _ w11).alloc (Nat.le_refl _) _)).below hb12); clear HI11 HD11 hb12))
  go_ret
  exact ⟨rfl, HD12.out.only.below (Nat.le_refl _) (fun _ _ h => h)⟩

end Go.Proofs.YtoplhehcjgldeaaGreat
/- A script of acts that is read (incipitlaw05.Op). -/
namespace Go.Proofs.YtoplhehcjgldeaaGreat
open Go.RowKit
set_option linter.unusedVariables false

structure Oc where
  dO : Int
  p : Int
  c : Int
  n : Int
def ocNil : Oc := ⟨0, 0, 0, 0⟩
def ocAt (os : List Oc) (i : Nat) : Oc := os.getD i ocNil
theorem ocAt_lt {os : List Oc} {i : Nat} (h : i < os.length) : ocAt os i = os[i] := by simp [ocAt, List.getD, h]
def occ (o : Oc) : List Value := [.int .i64 o.dO, .int .i64 o.p, .int .u8 o.c, .int .i64 o.n]
structure OcOk (o : Oc) : Prop where
  hd : Wf o.dO
  hp : Wf o.p
  c0 : 0 ≤ o.c
  c1 : o.c ≤ 255
  hn : Wf o.n
def Scr (w : World) (v : Value) (os : List Oc) : Prop :=
  (∀ o ∈ os, OcOk o) ∧ ∃ ao cap, v = .slice ao os.length cap ∧ os.length ≤ cap ∧ cap ≤ maxLen ∧ (os ≠ [] → ∃ g off, ao = some ⟨g, off, none⟩ ∧ g < w.heap.size ∧ ∀ i, i < os.length → w.rangeAt g (off + i * 4) (occ (ocAt os i)))

theorem rg_below {w w' : World} {B g o : Nat} {cs : List Value} (h : w.rangeAt g o cs) (hb : Below B w w') (hg : g < B) : w'.rangeAt g o cs := fun j v hj => (hb.cell (p := ⟨g, o + j, none⟩) hg).trans (h j v hj)
theorem Scr.below {w w' : World} {v : Value} {os : List Oc} (h : Scr w v os) (hb : Below w.heap.size w w') : Scr w' v os := by
  obtain ⟨h1, ao, cap, hv, h2, h3, h4⟩ := h
  refine ⟨h1, ao, cap, hv, h2, h3, fun hne => ?_⟩
  obtain ⟨g, off, ha, hg, hr⟩ := h4 hne
  exact ⟨g, off, ha, Nat.lt_of_lt_of_le hg hb.size, fun i hi => rg_below (hr i hi) hb hg⟩
theorem Scr.form {w : World} {v : Value} {os : List Oc} (h : Scr w v os) : ∃ ao cap, v = .slice ao os.length cap ∧ os.length ≤ cap ∧ cap ≤ 9223372036854775807 := by
  obtain ⟨_, ao, cap, hv, h2, h3, _⟩ := h
  exact ⟨ao, cap, hv, h2, h3⟩
theorem Scr.op {w : World} {v : Value} {os : List Oc} (h : Scr w v os) {i : Nat} (hi : i < os.length) : OcOk (ocAt os i) := by rw [ocAt_lt hi]; exact h.1 _ (List.getElem_mem hi)
theorem Scr.at {w : World} {ao : Option Addr} {n cap : Nat} {os : List Oc} (h : Scr w (.slice ao n cap) os) {i : Nat} (hi : i < os.length) : ∃ g off, ao = some ⟨g, off, none⟩ ∧ g < w.heap.size ∧ w.rangeAt g (off + i * 4) (occ (ocAt os i)) := by
  obtain ⟨_, ao', cap', he, _, _, h4⟩ := h
  simp only [Value.slice.injEq] at he
  obtain ⟨rfl, _, _⟩ := he
  obtain ⟨g, off, ha, hg, hr⟩ := h4 (by intro e; simp [e] at hi)
  exact ⟨g, off, ha, hg, hr i hi⟩

theorem occ_len (o : Oc) : (occ o).length = 4 := rfl
theorem sizeOc : (Tryz.prog.info? 38).map (·.size) = some 4 := by kernel_rfl
def ocZero : Array Value := #[.int .i64 0, .int .i64 0, .int .u8 0, .int .i64 0]
theorem ocZero_size : ocZero.size = 4 := rfl
theorem zeroOcRun (w : World) : (zeroValue 38).run Tryz.prog w = .ok (.agg ocZero) w := by kernel_rfl
theorem oc_facts (o : Oc) : ((Tryz.prog.info? 38).map (·.size) = some (occ o).length) ∧ ((Tryz.prog.info? 38).map (·.size) = some (occ o).toArray.size) ∧ ocZero.size = (occ o).toArray.size ∧ (occ o).toArray.all (·.oneCell') = true := by
  refine ⟨sizeOc, sizeOc, rfl, all_oneCell_toArray (fun v hv => ?_)⟩
  simp only [occ, List.mem_cons, List.mem_nil_iff, or_false] at hv
  rcases hv with rfl | rfl | rfl | rfl <;> rfl

end Go.Proofs.YtoplhehcjgldeaaGreat
/- How what comes in is opened: a slice of bytes, a script of acts. -/
namespace Go.Proofs.YtoplhehcjgldeaaGreat
open Go.ChangeShapes Go.WideShapes Go.ChangeAt Go.RowKit
set_option linter.unusedVariables false
set_option maxRecDepth 100000

theorem cellsU8 : Tryz.prog.cellsOf 5 = 1 := by kernel_rfl
theorem cellsInt : Tryz.prog.cellsOf 3 = 1 := by kernel_rfl
theorem cellsOc : Tryz.prog.cellsOf 38 = 4 := by kernel_rfl

theorem trod_sl {H : Type} {enc : TypeId × Value → H} {W : World} {fuel : Nat} {cs : List Value} {x : DataW H × List MemPlace}
    (h : DataW.trod enc Tryz.prog W 0 (fun _ => true) true fuel 46 cs = some x) : ∃ v zs, cs = [v] ∧ Sl W v zs := by
  rcases open_ints Tryz.underlying46 Tryz.underlying5 cellsU8 h with ⟨hcs, _⟩ | ⟨a, len, cap, zs, hcs, _, hl, hm, hz, _, hc, hwf⟩
  · exact ⟨_, [], hcs, Sl.nil W⟩
  · rw [if_pos rfl] at hz
    have hlen : (zs.take len).length = len := by simp; omega
    refine ⟨_, zs.take len, hcs, fun z hz => bounds_u8 (hwf z (List.mem_of_mem_take hz)), some a, cap, by rw [hlen], by omega, hm, (fun h => by cases h), fun hne => ?_⟩
    have h0 : 0 < len := by
      have := List.length_pos_iff.2 hne
      omega
    obtain ⟨b, off, spot⟩ := a
    have hc0 := hc 0 (by omega)
    have hspot : spot = none := by simpa [Addr.add] using World.cell?_spot hc0
    subst hspot
    refine ⟨b, off, rfl, fun i hi => ?_⟩
    have e : (⟨b, off, none⟩ : Addr).add i = ⟨b, off + i, none⟩ := by unfold Addr.add; split <;> simp_all
    rw [← e, hc i (by omega), getD_take zs len i (by omega)]

theorem trod_struct4 {H : Type} {enc : TypeId × Value → H} {P : Program} {w : World} {base : Nat} {spare : Nat → Bool} {held : Bool} {t : TypeId} {f0 f1 f2 f3 : Field} {fuel : Nat} {cs : List Value} {x : DataW H × List MemPlace} (ht : P.underlying t = some (.struct #[f0, f1, f2, f3])) (h : DataW.trod enc P w base spare held fuel t cs = some x) :
    ∃ y0 y1 y2 y3 n, DataW.trod enc P w base spare held n f0.type ((cs.drop f0.offset).take (P.cellsOf f0.type)) = some y0 ∧ DataW.trod enc P w base spare held n f1.type ((cs.drop f1.offset).take (P.cellsOf f1.type)) = some y1 ∧
      DataW.trod enc P w base spare held n f2.type ((cs.drop f2.offset).take (P.cellsOf f2.type)) = some y2 ∧ DataW.trod enc P w base spare held n f3.type ((cs.drop f3.offset).take (P.cellsOf f3.type)) = some y3 := by
  obtain ⟨xs, n, _, rfl, hl, hlen, hf⟩ := DataW.trod_struct ht h
  match xs, hlen with
  | [y0, y1, y2, y3], _ => exact ⟨y0, y1, y2, y3, n, by simpa using hf 0 f0 rfl, by simpa using hf 1 f1 rfl, by simpa using hf 2 f2 rfl, by simpa using hf 3 f3 rfl⟩

theorem trod_scr {H : Type} {enc : TypeId × Value → H} {W : World} {fuel : Nat} {cs : List Value} {x : DataW H × List MemPlace}
    (h : DataW.trod enc Tryz.prog W 0 (fun _ => true) true fuel 22 cs = some x) : ∃ v os, cs = [v] ∧ Scr W v os := by
  rcases Go.Deep.open_slice Tryz.underlying22 h with ⟨hcs, _⟩ | ⟨a, len, cap, m, n, D, Pl, hcs, _, hl, hm, hmm, _, hel⟩
  · exact ⟨_, [], hcs, (fun o ho => by cases ho), none, 0, rfl, Nat.le_refl _, by simp [maxLen], fun h => absurd rfl h⟩
  · have each : ∀ i, i < len → ∃ o : Oc, OcOk o ∧ ∀ j v, (occ o)[j]? = some v → W.cell? ((a.add (i * 4)).add j) = some v := by
      intro i hi
      obtain ⟨cs', hc, ht⟩ := hel i (by rw [hmm]; split <;> omega)
      rw [cellsOc] at hc
      obtain ⟨_, hlen, hcell⟩ := World.cells?_some hc
      obtain ⟨y0, y1, y2, y3, n', t0, t1, t2, t3⟩ := trod_struct4 Tryz.underlying38 ht
      match cs', hlen with
      | [p0, p1, p2, p3], _ =>
        rw [cellsInt] at t0 t1 t3
        rw [cellsU8] at t2
        obtain ⟨x0, h0, _, w0⟩ := DataW.trod_int Tryz.underlying3 t0
        obtain ⟨x1, h1, _, w1⟩ := DataW.trod_int Tryz.underlying3 t1
        obtain ⟨x2, h2, _, w2⟩ := DataW.trod_int Tryz.underlying5 t2
        obtain ⟨x3, h3, _, w3⟩ := DataW.trod_int Tryz.underlying3 t3
        simp at h0 h1 h2 h3
        subst h0 h1 h2 h3
        refine ⟨⟨x0, x1, x2, x3⟩, ⟨w0, w1, (bounds_u8 w2).1, (bounds_u8 w2).2, w3⟩, fun j v hj => ?_⟩
        have hj4 : j < 4 := (List.getElem?_eq_some_iff.1 hj).1
        rw [hcell j hj4]
        exact hj
    haveI : Inhabited Oc := ⟨ocNil⟩
    obtain ⟨f, hfn⟩ := Go.Deep.choose_lt each
    have hv : ((List.range len).map f).length = len := by simp
    refine ⟨_, (List.range len).map f, hcs, fun o ho => ?_, some a, cap, by rw [hv], by omega, hm, fun hne => ?_⟩
    · obtain ⟨i, hi, rfl⟩ := List.mem_map.1 ho
      exact (hfn i (by simpa using hi)).1
    · have h0 : 0 < len := by
        have := List.length_pos_iff.2 hne
        omega
      obtain ⟨b, off, spot⟩ := a
      have hc0 := (hfn 0 h0).2 0 _ rfl
      have hspot : spot = none := by simpa [Addr.add] using World.cell?_spot hc0
      subst hspot
      have ea : ∀ j, (⟨b, off, none⟩ : Addr).add j = ⟨b, off + j, none⟩ := fun j => Addr.add_mid b off j
      refine ⟨b, off, rfl, ?_, fun i hi => ?_⟩
      · rw [ea, Addr.add_mid] at hc0
        exact World.block_lt_of_cell? W _ hc0
      · rw [hv] at hi
        have eg : ocAt ((List.range len).map f) i = f i := by simp [ocAt, List.getD, hi]
        rw [eg]
        intro j v hj
        have := (hfn i hi).2 j v hj
        rw [ea, Addr.add_mid] at this
        exact this

theorem open_sl {H : Type} {enc : TypeId × Value → H} {W : World} {v : Value} {d : DataW H} {p : List MemPlace} {base : Nat} (hv : Value.okWide Tryz.prog W .any base 46 v)
    (h : DataW.Trod enc Tryz.prog W 0 (fun _ => true) true 46 v d p) : ∃ zs, Sl W v zs := by
  obtain ⟨a, n, c, rfl⟩ := okWide_slice Tryz.underlying46 hv
  obtain ⟨fuel, hf⟩ := h
  obtain ⟨u, zs, hu, hs⟩ := trod_sl hf
  simp [Value.cells] at hu
  subst hu
  exact ⟨zs, hs⟩

theorem open_scr {H : Type} {enc : TypeId × Value → H} {W : World} {v : Value} {d : DataW H} {p : List MemPlace} {base : Nat} (hv : Value.okWide Tryz.prog W .any base 22 v)
    (h : DataW.Trod enc Tryz.prog W 0 (fun _ => true) true 22 v d p) : ∃ os, Scr W v os := by
  obtain ⟨a, n, c, rfl⟩ := okWide_slice Tryz.underlying22 hv
  obtain ⟨fuel, hf⟩ := h
  obtain ⟨u, os, hu, hs⟩ := trod_scr hf
  simp [Value.cells] at hu
  subst hu
  exact ⟨os, hs⟩

end Go.Proofs.YtoplhehcjgldeaaGreat
