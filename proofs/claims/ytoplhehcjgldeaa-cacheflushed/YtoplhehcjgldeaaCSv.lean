/- What each page tells, over a device that never fails: contracts of package cache in those words. -/
import Derived.Test.YtoplhehcjgldeaaCPn
import Derived.Test.YtoplhehcjgldeaaCView2
import Derived.Test.YtoplhehcjgldeaaCFlush2
namespace Go.Proofs.Ytoplhehcjgldeaa
open Go.ChangeShapes Go.WideShapes Go.ChangeAt Go.RowKit
set_option linter.unusedVariables false
set_option maxRecDepth 100000

/-- a cache of N pages over a device of 8: page q tells f q -/
def Sv (N k : Nat) (f : Nat → List Int) (W : World) (X : Nat → Prop) (w : World) (c b : Nat) : Prop := ∃ ch d, Duos W Non X w c b ch d ∧ Kv 0 k 8 f ch d ∧ ch.size = N
/-- .. and nothing is changed -/
def SvC (N k : Nat) (f : Nat → List Int) (W : World) (X : Nat → Prop) (w : World) (c b : Nat) : Prop := ∃ ch d, Duos W Non X w c b ch d ∧ Kv 0 k 8 f ch d ∧ ch.size = N ∧ ∀ y ∈ ch.l, y.ch = false

section
variable {N k k' : Nat} {f g : Nat → List Int} {W w w' : World} {X X' T : Nat → Prop} {c b : Nat}
theorem SvC.sv (h : SvC N k f W X w c b) : Sv N k f W X w c b := by obtain ⟨ch, d, h1, h2, h3, _⟩ := h; exact ⟨ch, d, h1, h2, h3⟩
theorem Sv.less (h : Sv N k f W X w c b) (hx : ∀ k, X' k → X k) : Sv N k f W X' w c b := by obtain ⟨ch, d, h1, h2, h3⟩ := h; exact ⟨ch, d, h1.less hx, h2, h3⟩
theorem Sv.mono (h : Sv N k f W X w c b) (hk : k ≤ k') : Sv N k' f W X w c b := by obtain ⟨ch, d, h1, h2, h3⟩ := h; exact ⟨ch, d, h1, h2.mono hk, h3⟩
theorem Sv.congr (h : Sv N k f W X w c b) (hg : ∀ q, q < 8 → f q = g q) : Sv N k g W X w c b := by
  obtain ⟨ch, d, h1, h2, h3⟩ := h
  exact ⟨ch, d, h1, ⟨h2.calm, h2.few, h2.pin, h2.un, h2.clean, fun q hq => (h2.view q hq).trans (hg q hq)⟩, h3⟩
theorem Sv.keep (h : Sv N k f W X w c b) (ho : Only T w w') (hT : ∀ k, T k → X k ∨ w.heap.size ≤ k) (hTS : ∀ k, k < W.heap.size → ¬ T k) : Sv N k f W X w' c b := by
  obtain ⟨ch, d, h1, h2, h3⟩ := h
  exact ⟨ch, d, h1.keep ho hT (fun k hk ht => absurd ht (hTS k hk)), h2, h3⟩
theorem Sv.below (h : Sv N k f W X w c b) (hb : Below w.heap.size w w') : Sv N k f W X w' c b := by obtain ⟨ch, d, h1, h2, h3⟩ := h; exact ⟨ch, d, h1.below hb, h2, h3⟩
theorem SvC.below (h : SvC N k f W X w c b) (hb : Below w.heap.size w w') : SvC N k f W X w' c b := by obtain ⟨ch, d, h1, h2⟩ := h; exact ⟨ch, d, h1.below hb, h2⟩
theorem Sv.only (h : Sv N k f W X w c b) : Below W.heap.size W w := by obtain ⟨ch, d, h1, _⟩ := h; exact h1.only.below (Nat.le_refl _) (fun _ _ h => h)
theorem Sv.xlt (h : Sv N k f W X w c b) : ∀ j, X j → j < w.heap.size := by obtain ⟨ch, d, ⟨_, _, _, _, _, _, h, _⟩, _⟩ := h; exact h
theorem Sv.new (h : Sv N k f W X w c b) (o : Obj) : Sv N k f W (fun j => X j ∨ j = w.heap.size) (w.alloc o) c b := by
  obtain ⟨ch, d, h1, h2, h3⟩ := h
  exact ⟨ch, d, (h1.grow ((Below.refl _ w).alloc (Nat.le_refl _) o)).less (fun k e => e.imp_right (fun e => ⟨by omega, by simp; omega⟩)), h2, h3⟩
theorem ok8 {ch : Ch} {d : Dv} (h : Duos W Non X w c b ch d) (kv : Kv 0 k 8 f ch d) : ChOk 8 ch := by
  have := h.ok
  rw [kv.calm.st] at this
  exact this
end

section
variable (N k : Nat) (f : Nat → List Int) (W : World) (X : Nat → Prop) (w : World) (c b : Nat)
theorem sv_put (hk : k < 700000) (hN : 2 ≤ N) (h : Sv N k f W X w c b) (w1 : World) (hb : Below w.heap.size w w1) (g : Nat) (z : Int) (h0 : 0 ≤ z) (h1 : z ≤ 255) (hg : w.heap.size ≤ g) (hB : Blk w1 g 5 (pc (pg z))) (q : Nat) (hq : q < 8) :
    Calls Try.prog 10 #[dp c, .int .i64 q, .slice (some ⟨g, 0, none⟩) 256 256] w1 fun e w' => e = .returned (.int .i64 0) ∧ Sv N (k + 2) (fun r => if r = q then pg z else f r) W X w' c b ∧ Turn W Non X w1 w' := by
  obtain ⟨ch, d, k1, k2, k3⟩ := h
  obtain ⟨e1, e2, _, e4⟩ := kv_put k2 (ok8 k1 k2) (by omega) q hq (Nat.zero_le _) (pg z) (pg_len z) (fun r => if r = q then pg z else f r) (fun r _ => rfl)
  have key := put_pg W w w1 Non X c b ch d k (by omega) k1 k2.few hb g z h0 h1 hg hB q
  rw [e1] at key
  refine key.mono ?_
  rintro e w' ⟨rfl, h2, ht⟩
  exact ⟨rfl, ⟨_, _, h2, e2, e4.trans k3⟩, ht⟩
theorem sv_get (hk : k < 700000) (hN : 2 ≤ N) (h : Sv N k f W X w c b) (q : Nat) (hq : q < 8) :
    Calls Try.prog 15 #[dp c, .int .i64 q] w fun e w' => ∃ v, e = .returned (.tuple #[v, .int .i64 0]) ∧ Sl w' v (f q) ∧ Sv N (k + 2) f W X w' c b ∧ Turn W Non X w w' := by
  obtain ⟨ch, d, k1, k2, k3⟩ := h
  obtain ⟨e1, e2, e3, _, e5⟩ := kv_get k2 (ok8 k1 k2) (by omega) q hq
  have key := get_sl W w Non X c b ch d k (by omega) k1 k2.few q
  rw [e1, e2] at key
  refine key.mono ?_
  rintro e w' ⟨v, rfl, hs, h2, ht⟩
  exact ⟨v, rfl, hs, ⟨_, _, h2, e3, e5.trans k3⟩, ht⟩
theorem sv_flush (hk : k < 700000) (h : Sv N k f W X w c b) :
    Calls Try.prog 12 #[dp c] w fun e w' => e = .returned (.int .i64 0) ∧ SvC N (k + 64) f W X w' c b ∧ Turn W Non X w w' := by
  obtain ⟨ch, d, k1, k2, k3⟩ := h
  obtain ⟨e1, e2, e3, e4⟩ := kv_flush k2 (ok8 k1 k2)
  have key := flush_any W w Non X c b ch d k (by omega) k1 k2.few
  rw [e1] at key
  refine key.mono ?_
  rintro e w' ⟨rfl, h2, ht⟩
  exact ⟨rfl, ⟨_, _, h2, e2, e3.trans k3, e4⟩, ht⟩
theorem sv_changed (h : SvC N k f W X w c b) :
    Calls Try.prog 13 #[dp c] w fun e w' => ∃ ao cap, e = .returned (.slice ao 0 cap) ∧ Below w.heap.size w w' := by
  obtain ⟨ch, d, k1, k2, k3, k4⟩ := h
  have key := changed_any W w Non X c b ch d k1
  rw [changedC_none k4] at key
  refine key.mono ?_
  rintro e w' ⟨v, rfl, hi, hb⟩
  obtain ⟨ao, cap, rfl⟩ := hi.shape
  exact ⟨ao, cap, rfl, hb⟩
theorem sv_sync (hk : k < 700000) (h : Sv N k f W X w c b) :
    Calls Try.prog 14 #[dp b] w fun e w' => e = .returned (.int .i64 0) ∧ Sv N (k + 1) f W X w' c b ∧ Turn W Non X w w' := by
  obtain ⟨ch, d, k1, k2, k3⟩ := h
  have hdv := k1.dvok
  have hok := k1.ok
  obtain ⟨H, G, h1, h2, h3, h4, h5, h6, h7⟩ := k1
  refine (sync_live w b G d h2 k2.calm.off (by rw [k2.calm.left]; exact fun e => by cases e) (by have := k2.few.done; omega)).mono ?_
  rintro e w' ⟨rfl, d1, ho⟩
  have ho' : Only (fun k => H k ∨ G k) w w' := ho.mono (fun _ _ h => .inr h)
  have kv := kv_sync k2 hdv
  exact ⟨rfl, ⟨ch, syncD d, duos_step (H' := H) (G' := G) h3 h4 h5 h6 (h1.keep ho (fun k => h3 k)) d1 ho' (fun _ h => .inl h) (fun _ h => .inl h) (fun k _ => h3 k) (by rw [kv.calm.st, ← k2.calm.st]; exact h7), kv, k3⟩, turn_step h4 ho'⟩
theorem sv_read (h : SvC N k f W X w c b) (q : Nat) (hq : q < 8) :
    Calls Try.prog 17 #[dp b, .int .i64 q] w fun e w' => ∃ v, e = .returned (.tuple #[v, .int .i64 0]) ∧ Sl w' v (f q) ∧ Below w.heap.size w w' := by
  obtain ⟨ch, d, k1, k2, k3, k4⟩ := h
  have hs := kv_shows k2 k4 q hq
  have hpo := k1.dvok.shows (p := q) (by rw [k2.calm.st]; exact hq)
  obtain ⟨G, hg⟩ := duos_dev W w Non X c b ch d k1
  refine (read_ok w b G d q hg (by rw [k2.calm.st]; exact hq) k2.calm.off).mono ?_
  rintro e w' ⟨rfl, hB, hb⟩
  refine ⟨_, rfl, ?_, hb⟩
  rw [← hs]
  exact blk_sl hB hpo
end

theorem pg_zero : pg 0 = zeroPage := by decide +kernel
theorem sv_begin (N : Nat) (hN : 2 ≤ N) (h64 : N ≤ 64) (W w : World) (X : Nat → Prop) (c b : Nat) (h : Duos W Non X w c b (newC N) (newD 8)) : Sv N 0 (fun q => pg ((List.replicate 8 (0 : Int)).getD q 0)) W X w c b := by
  refine Sv.congr (f := fun q => showsD (newD 8) q) ⟨_, _, h, kv_begin 8 N (by omega), rfl⟩ (fun q hq => ?_)
  have e1 : showsD (newD 8) q = zeroPage := by
    show sAt (List.replicate 8 zeroPage) q = zeroPage
    rw [sAt_lt (by rw [List.length_replicate]; exact hq)]
    exact List.getElem_replicate ..
  have e2 : (List.replicate 8 (0 : Int)).getD q 0 = 0 := by rw [getD_lt _ (by rw [List.length_replicate]; exact hq)]; exact List.getElem_replicate ..
  rw [e1, e2, pg_zero]

/-- the array of what was put last -/
abbrev lastF (ls : List Int) : Nat → List Int := fun q => pg (ls.getD q 0)
theorem lastF_set (ls : List Int) (q : Nat) (z : Int) (hq : q < ls.length) (r : Nat) : lastF (ls.set q z) r = if r = q then pg z else lastF ls r := by
  unfold lastF
  by_cases h : r = q
  · subst h
    rw [if_pos rfl]
    simp [List.getD, hq]
  · rw [if_neg h]
    simp only [List.getD, List.getElem?_set]
    rw [if_neg (fun e => h e.symm)]
theorem pc_set (ls : List Int) (q : Nat) (z : Int) : (pc ls).set q (.int .u8 z) = pc (ls.set q z) := by simp [pc, List.map_set]
theorem pc_get (ls : List Int) (q : Nat) (hq : q < ls.length) : (pc ls)[q]? = some (.int .u8 (ls.getD q 0)) := by simp [pc, List.getD, hq]
theorem bytes_set {ls : List Int} (h : ByteOk ls) (q : Nat) {z : Int} (h0 : 0 ≤ z) (h1 : z ≤ 255) : ByteOk (ls.set q z) := fun x hx => by
  rcases List.mem_or_eq_of_mem_set hx with h' | rfl
  · exact h x h'
  · exact ⟨h0, h1⟩

end Go.Proofs.Ytoplhehcjgldeaa
