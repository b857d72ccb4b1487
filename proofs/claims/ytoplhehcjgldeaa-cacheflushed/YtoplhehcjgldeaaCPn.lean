/- Pages that are pinned, over a device that never fails: contracts of package cache in those words. -/
import Derived.Test.YtoplhehcjgldeaaCOpen
namespace Go.Proofs.Ytoplhehcjgldeaa
open Go.ChangeShapes Go.WideShapes Go.ChangeAt Go.RowKit
set_option linter.unusedVariables false
set_option maxRecDepth 100000

theorem kv_begin (n N : Nat) (h0 : 0 < n) : Kv 0 0 n (fun q => showsD (newD n) q) (newC N) (newD n) :=
  ⟨⟨rfl, rfl, List.length_replicate⟩, ⟨Nat.le_refl _, Nat.le_refl _, (fun h hh => by cases hh), Nat.le_refl _, Nat.le_refl _⟩, (fun q hq => by omega), (fun h hh => by cases hh), (fun h hh => by cases hh), fun q hq => rfl⟩

/-- one pin more -/
theorem kv_pin {p k n : Nat} {f : Nat → List Int} {ch : Ch} {d : Dv} (h : Kv p k n f ch d) (ok : ChOk n ch) (hx : ∃ x ∈ ch.l, x.p = p) : (pinC ch p).1 = 0 ∧ Kv (p + 1) (k + 1) n f (pinC ch p).2 d ∧ (pinC ch p).2.size = ch.size ∧ (pinC ch p).2.l.length = ch.l.length := by
  obtain ⟨x, hx, hxp⟩ := hx
  subst hxp
  have hf := findC_mem ok.nodup hx
  have h0 := h.un x hx (Nat.le_refl _)
  unfold pinC
  rw [hf]
  have hm : ∀ y ∈ updC ch.l x.p (fun y => { y with pins := x.pins + 1 }), ∃ z ∈ ch.l, y.p = z.p ∧ y.bs = z.bs ∧ y.ch = z.ch ∧ y.pins = if z.p = x.p then 1 else z.pins := by
    intro y hy
    obtain ⟨z, hz, e⟩ := mem_updC hy
    refine ⟨z, hz, ?_⟩
    by_cases hzx : z.p = x.p
    · rw [if_pos hzx] at e ⊢
      subst e
      exact ⟨rfl, rfl, rfl, by show x.pins + 1 = 1; omega⟩
    · rw [if_neg hzx] at e ⊢
      subst e
      exact ⟨rfl, rfl, rfl, rfl⟩
  refine ⟨rfl, ⟨h.calm, ⟨Nat.le_succ_of_le h.few.hits, Nat.le_succ_of_le h.few.misses, fun y hy => ?_, Nat.le_succ_of_le h.few.ws, Nat.le_succ_of_le h.few.done⟩, fun q hq => ?_, fun y hy hpy => ?_, fun y hy hch => ?_, fun q hq => ?_⟩, rfl, updC_len _ _ _⟩
  · obtain ⟨z, hz, e1, e2, e3, e4⟩ := hm y hy
    rw [e4]
    split
    · omega
    · exact Nat.le_succ_of_le (h.few.pins z hz)
  · by_cases hqx : q = x.p
    · exact ⟨{ x with pins := x.pins + 1 }, List.mem_map.2 ⟨x, hx, if_pos rfl⟩, hqx.symm, by show x.pins + 1 = 1; omega⟩
    · obtain ⟨z, hz, e1, e2⟩ := h.pin q (by omega)
      exact ⟨z, List.mem_map.2 ⟨z, hz, if_neg (by omega)⟩, e1, e2⟩
  · obtain ⟨z, hz, e1, e2, e3, e4⟩ := hm y hy
    rw [e4, if_neg (by omega)]
    exact h.un z hz (by omega)
  · obtain ⟨z, hz, e1, e2, e3, e4⟩ := hm y hy
    rw [e1, e2]
    exact h.clean z hz (by rw [← e3]; exact hch)
  · have hv := h.view q hq
    unfold viewC at hv ⊢
    simp only
    rw [findC_updC ch.l x.p (fun y => { y with pins := x.pins + 1 }) (fun _ => rfl)]
    cases hfq : findC ch.l (q : Int) with
    | none => rw [hfq] at hv; exact hv
    | some y =>
      rw [hfq] at hv
      simp only [Option.map_some] at hv ⊢
      split
      · exact hv
      · exact hv


abbrev Non : Nat → Prop := fun _ => False
/-- a cache of N pages, of which the first p are pinned; page 0 tells pg 5 -/
def Pn (N p k : Nat) (W : World) (X : Nat → Prop) (w : World) (c b : Nat) : Prop := ∃ ch d f, Duos W Non X w c b ch d ∧ Kv p k 12 f ch d ∧ f 0 = pg 5 ∧ ch.size = N
def PnH (N p k q : Nat) (W : World) (X : Nat → Prop) (w : World) (c b : Nat) : Prop := ∃ ch d f, Duos W Non X w c b ch d ∧ Kv p k 12 f ch d ∧ f 0 = pg 5 ∧ ch.size = N ∧ ∃ x ∈ ch.l, x.p = q
theorem PnH.pn {N p k q : Nat} {W w : World} {X : Nat → Prop} {c b : Nat} (h : PnH N p k q W X w c b) : Pn N p k W X w c b := by
  obtain ⟨ch, d, f, h1, h2, h3, h4, _⟩ := h
  exact ⟨ch, d, f, h1, h2, h3, h4⟩
theorem Pn.below {N p k : Nat} {W w w' : World} {X : Nat → Prop} {c b : Nat} (h : Pn N p k W X w c b) (hb : Below w.heap.size w w') : Pn N p k W X w' c b := by
  obtain ⟨ch, d, f, h1, h2, h3, h4⟩ := h
  exact ⟨ch, d, f, h1.below hb, h2, h3, h4⟩
theorem Pn.less {N p k : Nat} {W w : World} {X X' : Nat → Prop} {c b : Nat} (h : Pn N p k W X w c b) (hx : ∀ k, X' k → X k) : Pn N p k W X' w c b := by
  obtain ⟨ch, d, f, h1, h2, h3, h4⟩ := h
  exact ⟨ch, d, f, h1.less hx, h2, h3, h4⟩
theorem Pn.new {N p k : Nat} {W w : World} {c b : Nat} (h : Pn N p k W Non w c b) (o : Obj) : Pn N p k W (· = w.heap.size) (w.alloc o) c b := by
  obtain ⟨ch, d, f, h1, h2, h3, h4⟩ := h
  exact ⟨ch, d, f, (h1.grow ((Below.refl _ w).alloc (Nat.le_refl _) o)).less (fun k e => .inr ⟨by omega, by simp; omega⟩), h2, h3, h4⟩
theorem Pn.mono {N p k k' : Nat} {W w : World} {X : Nat → Prop} {c b : Nat} (h : Pn N p k W X w c b) (hk : k ≤ k') : Pn N p k' W X w c b := by
  obtain ⟨ch, d, f, h1, h2, h3, h4⟩ := h
  exact ⟨ch, d, f, h1, h2.mono hk, h3, h4⟩
theorem Pn.only {N p k : Nat} {W w : World} {X : Nat → Prop} {c b : Nat} (h : Pn N p k W X w c b) : Below W.heap.size W w := by
  obtain ⟨ch, d, f, h1, _⟩ := h
  exact h1.only.below (Nat.le_refl _) (fun _ _ h => h)
theorem ok12 {W w : World} {X : Nat → Prop} {c b : Nat} {ch : Ch} {d : Dv} {p k n : Nat} {f : Nat → List Int} (h : Duos W Non X w c b ch d) (kv : Kv p k n f ch d) : ChOk n ch := by
  have := h.ok
  rw [kv.calm.st] at this
  exact this

section
variable (N p k : Nat) (W : World) (X : Nat → Prop) (w : World) (c b : Nat)

theorem pn_put (hk : k < 800000) (h : Pn N p k W X w c b) (hpN : p < N) (w1 : World) (hb : Below w.heap.size w w1) (g : Nat) (z : Int) (h0 : 0 ≤ z) (h1 : z ≤ 255) (hg : w.heap.size ≤ g) (hB : Blk w1 g 5 (pc (pg z))) (q : Nat) (hp : p ≤ q) (hq0 : 0 < q) (hq : q < 12) :
    Calls Try.prog 10 #[dp c, .int .i64 q, .slice (some ⟨g, 0, none⟩) 256 256] w1 fun e w' => e = .returned (.int .i64 0) ∧ Pn N p (k + 2) W X w' c b ∧ Turn W Non X w1 w' := by
  obtain ⟨ch, d, f, k1, k2, k3, k4⟩ := h
  obtain ⟨e1, e2, e3, e4⟩ := kv_put k2 (ok12 k1 k2) (by omega) q hq hp (pg z) (pg_len z) (fun r => if r = q then pg z else f r) (fun r _ => rfl)
  have key := put_pg W w w1 Non X c b ch d k (by omega) k1 k2.few hb g z h0 h1 hg hB q
  rw [e1] at key
  refine key.mono ?_
  rintro e w' ⟨rfl, h2, ht⟩
  exact ⟨rfl, ⟨_, _, _, h2, e2, by show (if 0 = q then _ else _) = _; rw [if_neg (by omega)]; exact k3, e4.trans k4⟩, ht⟩
theorem pn_get (hk : k < 800000) (h : Pn N p k W X w c b) (hpN : p < N) (q : Nat) (hq : q < 12) :
    Calls Try.prog 15 #[dp c, .int .i64 q] w fun e w' => ∃ v, e = .returned (.tuple #[v, .int .i64 0]) ∧ PnH N p (k + 2) q W X w' c b ∧ Turn W Non X w w' := by
  obtain ⟨ch, d, f, k1, k2, k3, k4⟩ := h
  obtain ⟨e1, e2, e3, e4, e5⟩ := kv_get k2 (ok12 k1 k2) (by omega) q hq
  have key := get_sl W w Non X c b ch d k (by omega) k1 k2.few q
  rw [e1] at key
  refine key.mono ?_
  rintro e w' ⟨v, rfl, _, h2, ht⟩
  exact ⟨v, rfl, ⟨_, _, _, h2, e3, k3, e5.trans k4, e4⟩, ht⟩
theorem pn_pin (hk : k < 800000) (h : PnH N p k p W X w c b) (hp : p < 12) :
    Calls Try.prog 18 #[dp c, .int .i64 p] w fun e w' => e = .returned (.int .i64 0) ∧ Pn N (p + 1) (k + 1) W X w' c b := by
  obtain ⟨ch, d, f, k1, k2, k3, k4, k5⟩ := h
  obtain ⟨e1, e2, e3, e4⟩ := kv_pin k2 (ok12 k1 k2) k5
  have key := pin_any W w Non X c b ch d k (by omega) k1 k2.few p (wf_nat (by omega))
  rw [e1] at key
  refine key.mono ?_
  rintro e w' ⟨rfl, h2, _⟩
  exact ⟨rfl, _, _, _, h2, e2, k3, e3.trans k4⟩
theorem pn_has (h : Pn N p k W X w c b) (hp : 0 < p) : Calls Try.prog 19 #[dp c, .int .i64 0] w fun e w' => e = .returned (.bool true) ∧ w' = w := by
  obtain ⟨ch, d, f, k1, k2, k3, k4⟩ := h
  obtain ⟨x, hx, e, _⟩ := k2.pin 0 hp
  have key := duos_has W w Non X c b ch d k1 x hx
  rw [e] at key
  exact key
theorem pn_held (h : Pn N p k W X w c b) : Calls Try.prog 20 #[dp c] w fun e w' => ∃ ao n cap, e = .returned (.slice ao n cap) ∧ n ≤ N ∧ Pn N p k W X w' c b := by
  have hP := h
  obtain ⟨ch, d, f, k1, k2, k3, k4⟩ := h
  refine (held_any W w Non X c b ch d k1).mono ?_
  rintro e w' ⟨v, rfl, hi, hb⟩
  obtain ⟨ao, cap, rfl⟩ := hi.shape
  exact ⟨ao, _, cap, rfl, by simp; have := k1.ok.few; omega, hP.below hb⟩
theorem pn_forget (h : Pn N p k W X w c b) (hp : 0 < p) : Calls Try.prog 21 #[dp c, .int .i64 0] w fun e w' => e = .returned (.int .i64 7) ∧ Pn N p k W X w' c b := by
  obtain ⟨ch, d, f, k1, k2, k3, k4⟩ := h
  obtain ⟨x, hx, e, hpi⟩ := k2.pin 0 hp
  have key := forget_any W w Non X c b ch d k1 0 (by decide)
  have ef : forgetC ch 0 = (7, ch) := by
    have hf := findC_mem k1.ok.nodup hx
    rw [e] at hf
    unfold forgetC
    rw [show (0 : Int) = ((0 : Nat) : Int) from rfl, hf]
    simp only
    rw [if_neg (by omega)]
  rw [ef] at key
  refine key.mono ?_
  rintro e w' ⟨rfl, h2, _⟩
  exact ⟨rfl, _, _, _, h2, k2, k3, k4⟩
/-- all are pinned: there is no room -/
theorem pn_full (hk : k < 800000) (h : Pn N N k W X w c b) (hN : N ≤ 11) : Calls Try.prog 15 #[dp c, .int .i64 11] w fun e w' => ∃ v, e = .returned (.tuple #[v, .int .i64 6]) ∧ Pn N N (k + 2) W X w' c b := by
  obtain ⟨ch, d, f, k1, k2, k3, k4⟩ := h
  have ok := ok12 k1 k2
  have hsub : ∀ x ∈ ch.l, x.p < N := by
    intro x hx
    apply Nat.lt_of_not_le
    intro hle
    have hlen : ((List.range N).map (fun q => q)).length ≤ (ch.l.map (·.p)).length - 1 := by
      have h1 := lessC_len ok.nodup hx
      have h2 : (List.range N).length ≤ ((lessC ch.l x.p).map (·.p)).length := by
        apply List.Nodup.length_le_of_subset List.nodup_range
        intro q hq
        obtain ⟨y, hy, e, _⟩ := k2.pin q (List.mem_range.1 hq)
        exact List.mem_map.2 ⟨y, mem_lessC.2 ⟨hy, by have := List.mem_range.1 hq; omega⟩, e⟩
      simp at h2 ⊢
      omega
    have := ok.few
    simp at hlen
    have : 0 < ch.l.length := List.length_pos_iff.2 (by intro e; rw [e] at hx; cases hx)
    omega
  have hlen : ¬ ch.l.length < ch.size := by
    have h2 : (List.range N).length ≤ (ch.l.map (·.p)).length := by
      apply List.Nodup.length_le_of_subset List.nodup_range
      intro q hq
      obtain ⟨y, hy, e, _⟩ := k2.pin q (List.mem_range.1 hq)
      exact List.mem_map.2 ⟨y, hy, e⟩
    simp at h2
    omega
  have hgo : goesC ch.l = none := by
    cases hg : goesC ch.l with
    | none => rfl
    | some x =>
      exfalso
      obtain ⟨h1, h2⟩ := goesC_some hg
      obtain ⟨y, hy, e, hpi⟩ := k2.pin x.p (hsub x h1)
      have := nodup_inj ok.nodup hy h1 e
      subst this
      omega
  have hfi : findC ch.l ((11 : Nat) : Int) = none := by
    apply List.find?_eq_none.2
    intro x hx
    have := hsub x hx
    simp; omega
  have er : roomC { ch with misses := ch.misses + 1 } d = (6, { ch with misses := ch.misses + 1 }, d) := by
    unfold roomC
    rw [if_neg hlen, hgo]
  have eg : getC ch d ((11 : Nat) : Int) = (6, [], { ch with misses := ch.misses + 1 }, d) := by
    unfold getC
    rw [if_pos (by rw [k2.calm.st]; omega), hfi]
    simp only [er]
    rw [if_neg (by decide)]
  have key := get_sl W w Non X c b ch d k (by omega) k1 k2.few ((11 : Nat) : Int)
  rw [eg] at key
  refine key.mono ?_
  rintro e w' ⟨v, rfl, _, h2, _⟩
  exact ⟨v, rfl, _, _, _, h2, (kv_count k2 ch.hits (ch.misses + 1) (by have := k2.few.hits; omega) (by have := k2.few.misses; omega)).mono (by omega), k3, k4⟩
/-- page 0 is there, with its bytes -/
theorem pn_get0 (hk : k < 800000) (h : Pn N p k W X w c b) (hp : 0 < p) : Calls Try.prog 15 #[dp c, .int .i64 0] w fun e w' => ∃ v, e = .returned (.tuple #[v, .int .i64 0]) ∧ Sl w' v (pg 5) ∧ Pn N p (k + 2) W X w' c b := by
  obtain ⟨ch, d, f, k1, k2, k3, k4⟩ := h
  have ok := ok12 k1 k2
  obtain ⟨x, hx, e, hpi⟩ := k2.pin 0 hp
  have hf := findC_mem ok.nodup hx
  rw [e] at hf
  have hv := k2.view 0 (by omega)
  unfold viewC at hv
  rw [hf] at hv
  simp only at hv
  have eg : getC ch d ((0 : Nat) : Int) = (0, x.bs, { ch with l := useC ch.l x, hits := ch.hits + 1 }, d) := by
    unfold getC
    rw [if_pos (by rw [k2.calm.st]; omega), hf]
  have key := get_sl W w Non X c b ch d k (by omega) k1 k2.few ((0 : Nat) : Int)
  rw [eg] at key
  refine key.mono ?_
  rintro e' w' ⟨v, rfl, hs, h2, _⟩
  refine ⟨v, rfl, ?_, _, _, f, h2, (kv_use k2 ok hx rfl rfl (k2.clean x hx) f (fun r hr => ?_) (ch.hits + 1) (by have := k2.few.hits; omega)).mono (by omega), k3, k4⟩
  · rw [← k3, ← hv]; exact hs
  · by_cases hr2 : r = x.p
    · rw [if_pos hr2, hr2, e, hv]
    · rw [if_neg hr2]
end
/-- the end: page 0 is let go -/
def Pz (m : Nat) (W : World) (X : Nat → Prop) (w : World) (c b : Nat) : Prop := ∃ ch d k, k < 900000 ∧ Duos W Non X w c b ch d ∧ Few k ch d ∧ ∃ x, findC ch.l 0 = some x ∧ x.p = 0 ∧ x.pins = m
theorem Pz.below {m : Nat} {W w w' : World} {X : Nat → Prop} {c b : Nat} (h : Pz m W X w c b) (hb : Below w.heap.size w w') : Pz m W X w' c b := by
  obtain ⟨ch, d, k, h1, h2, h3⟩ := h
  exact ⟨ch, d, k, h1, h2.below hb, h3⟩
theorem Pn.z {N p k : Nat} {W w : World} {X : Nat → Prop} {c b : Nat} (h : Pn N p k W X w c b) (hk : k < 800000) (hp : 0 < p) : Pz 1 W X w c b := by
  obtain ⟨ch, d, f, k1, k2, k3, k4⟩ := h
  obtain ⟨x, hx, e, hpi⟩ := k2.pin 0 hp
  have hf := findC_mem k1.ok.nodup hx
  rw [e] at hf
  exact ⟨ch, d, k, by omega, k1, k2.few, x, hf, e, hpi⟩
section
variable (W : World) (X : Nat → Prop) (w : World) (c b : Nat)
theorem pz_unpin (h : Pz 1 W X w c b) : Calls Try.prog 22 #[dp c, .int .i64 0] w fun e w' => e = .returned (.int .i64 0) ∧ Pz 0 W X w' c b := by
  obtain ⟨ch, d, k, h1, h2, h3, x, hx, hp, hpi⟩ := h
  have eu : unpinC ch 0 = (0, { ch with l := updC ch.l x.p (fun y => { y with pins := x.pins - 1 }) }) := by
    unfold unpinC
    rw [hx]
    simp only
    rw [if_neg (by omega)]
  have key := unpin_any W w Non X c b ch d k h1 h2 h3 0 (by decide)
  rw [eu] at key
  refine key.mono ?_
  rintro e w' ⟨rfl, h4, _⟩
  refine ⟨rfl, _, _, k, h1, h4, ⟨h3.hits, h3.misses, fun y hy => ?_, h3.ws, h3.done⟩, { x with pins := x.pins - 1 }, ?_, hp, by show x.pins - 1 = 0; omega⟩
  · obtain ⟨z, hz, e⟩ := mem_updC hy
    rw [e]
    split
    · show x.pins - 1 ≤ k; omega
    · exact h3.pins z hz
  · show findC (updC _ _ _) _ = _
    rw [findC_updC ch.l x.p (fun y => { y with pins := x.pins - 1 }) (fun _ => rfl), hx]
    simp
theorem pz_unpin0 (h : Pz 0 W X w c b) : Calls Try.prog 22 #[dp c, .int .i64 0] w fun e w' => e = .returned (.int .i64 4) ∧ Pz 0 W X w' c b := by
  obtain ⟨ch, d, k, h1, h2, h3, x, hx, hp, hpi⟩ := h
  have eu : unpinC ch 0 = (4, ch) := by
    unfold unpinC
    rw [hx]
    simp only
    rw [if_pos hpi]
  have key := unpin_any W w Non X c b ch d k h1 h2 h3 0 (by decide)
  rw [eu] at key
  refine key.mono ?_
  rintro e w' ⟨rfl, h4, _⟩
  exact ⟨rfl, _, _, k, h1, h4, h3, x, hx, hp, hpi⟩
theorem pz_forget (h : Pz 0 W X w c b) : Calls Try.prog 21 #[dp c, .int .i64 0] w fun e w' => e = .returned (.int .i64 0) ∧ ∃ ch d, Duos W Non X w' c b ch d ∧ findC ch.l 0 = none := by
  obtain ⟨ch, d, k, h1, h2, h3, x, hx, hp, hpi⟩ := h
  have eu : forgetC ch 0 = (0, { ch with l := lessC ch.l x.p }) := by
    unfold forgetC
    rw [hx]
    simp only
    rw [if_pos hpi]
  have key := forget_any W w Non X c b ch d h2 0 (by decide)
  rw [eu] at key
  refine key.mono ?_
  rintro e w' ⟨rfl, h4, _⟩
  refine ⟨rfl, _, _, h4, ?_⟩
  show findC (lessC ch.l x.p) 0 = none
  have := findC_lessC_same ch.l x.p
  rw [hp] at this ⊢
  exact this
end

/-- page 0 is put, and pinned -/
theorem pn_first (W : World) (N : Nat) (hN : 2 ≤ N) (h64 : N ≤ 64) (X : Nat → Prop) (w2 w3 : World) (c b g : Nat) (h : Duos W Non X w2 c b (newC N) (newD 12)) (hb : Below w2.heap.size w2 w3) (hg : w2.heap.size ≤ g) (hB : Blk w3 g 5 (pc (pg 5))) :
    Calls Try.prog 10 #[dp c, .int .i64 0, .slice (some ⟨g, 0, none⟩) 256 256] w3 fun e w' => e = .returned (.int .i64 0) ∧ PnH N 0 2 0 W X w' c b := by
  have h0 := kv_begin 12 N (by omega)
  obtain ⟨e1, e2, e3, e4⟩ := kv_put h0 (newC_ok 12 N hN h64) (by show 0 < N; omega) 0 (by omega) (Nat.le_refl _) (pg 5) (pg_len 5) (fun q => if q = 0 then pg 5 else showsD (newD 12) q) (fun r hr => rfl)
  have key := put_pg W w2 w3 Non X c b (newC N) (newD 12) 0 (by omega) h h0.few hb g 5 (by decide) (by decide) hg hB ((0 : Nat) : Int)
  rw [e1] at key
  refine key.mono ?_
  rintro e w' ⟨rfl, h1, _⟩
  exact ⟨rfl, _, _, _, h1, e2, rfl, e4, e3⟩

end Go.Proofs.Ytoplhehcjgldeaa
