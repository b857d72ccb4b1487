/- Contracts: what is held anew, at the level of the pair: hold, the mark, use. -/
import Derived.Test.YtoplhehcjgldeaaCGet2
namespace Go.Proofs.Ytoplhehcjgldeaa
open Go.RowKit
set_option linter.unusedVariables false
set_option maxRecDepth 100000

/-- as Duos, with an order of use that may lag behind -/
def DuosP (w0 : World) (S X : Nat → Prop) (w : World) (c b : Nat) (size : Nat) (os : List Int) (l : List Hd) (hits misses : Nat) (d : Dv) : Prop :=
  ∃ H G, CachH w c b H size os l hits misses ∧ Dev w b G d ∧ (∀ k, H k → G k → False) ∧ (∀ k, H k ∨ G k → (S k ∨ w0.heap.size ≤ k) ∧ ¬ X k ∧ k < w.heap.size) ∧ (∀ k, X k → k < w.heap.size) ∧ Only S w0 w
theorem Duos.p {w0 w : World} {S X : Nat → Prop} {c b : Nat} {ch : Ch} {d : Dv} (h : Duos w0 S X w c b ch d) : DuosP w0 S X w c b ch.size (ordC ch.l) ch.l ch.hits ch.misses d := by
  obtain ⟨H, G, h1, h2, h3, h4, h5, h6, h7⟩ := h
  exact ⟨H, G, h1, h2, h3, h4, h5, h6⟩
theorem DuosP.duos {w0 w : World} {S X : Nat → Prop} {c b : Nat} {ch : Ch} {d : Dv} (h : DuosP w0 S X w c b ch.size (ordC ch.l) ch.l ch.hits ch.misses d) (ok : ChOk d.st.length ch) : Duos w0 S X w c b ch d := by
  obtain ⟨H, G, h1, h2, h3, h4, h5, h6⟩ := h
  exact ⟨H, G, h1, h2, h3, h4, h5, h6, ok⟩

section
variable {w0 w w' : World} {S X : Nat → Prop} {c b : Nat} {d d' : Dv} {H G H' G' : Nat → Prop} {size hits misses : Nat} {os : List Int} {l : List Hd}
theorem duosP_step (hap : ∀ k, H k → G k → False) (hin : ∀ k, H k ∨ G k → (S k ∨ w0.heap.size ≤ k) ∧ ¬ X k ∧ k < w.heap.size) (hX : ∀ k, X k → k < w.heap.size) (hS : Only S w0 w)
    (hC : CachH w' c b H' size os l hits misses) (hD : Dev w' b G' d') (ho : Only (fun k => H k ∨ G k) w w') (hH : ∀ k, H' k → H k ∨ w.heap.size ≤ k) (hG : ∀ k, G' k → G k ∨ w.heap.size ≤ k) (hap' : ∀ k, k < w'.heap.size → H' k → G' k → False) : DuosP w0 S X w' c b size os l hits misses d' := by
  have hs := ho.size
  have hs0 := hS.size
  refine ⟨fun k => H' k ∧ k < w'.heap.size, fun k => G' k ∧ k < w'.heap.size, hC.bound, hD.bound, fun k h1 h2 => hap' k h1.2 h1.1 h2.1, fun k hk => ?_, fun k hk => Nat.lt_of_lt_of_le (hX k hk) hs, hS.trans ho (fun k hk h => ?_)⟩
  · have hk2 : k < w'.heap.size := hk.elim (fun h => h.2) (fun h => h.2)
    have hk3 : (H k ∨ G k) ∨ w.heap.size ≤ k := by
      rcases hk with h | h
      · rcases hH k h.1 with h | h
        · exact .inl (.inl h)
        · exact .inr h
      · rcases hG k h.1 with h | h
        · exact .inl (.inr h)
        · exact .inr h
    rcases hk3 with h | h
    · exact ⟨(hin k h).1, (hin k h).2.1, hk2⟩
    · exact ⟨.inr (by omega), fun hx => by have := hX k hx; omega, hk2⟩
  · rcases (hin k h).1 with h | h
    · exact h
    · omega
end

section
variable (w0 w : World) (S X : Nat → Prop) (c b : Nat) (size : Nat) (os : List Int) (l : List Hd) (hits misses : Nat) (d : Dv)

theorem holdP_new (h : DuosP w0 S X w c b size os l hits misses d) (p : Nat) (hp : p < 1000000) (hl : l.length < 1000) (hn : findC l p = none) (v : Value) (zs : List Int) (hS : Sl w v zs) (hz : zs.length = 256) (hv : ∀ k, v.ownBlock = some k → X k) :
    Calls Try.prog 32 #[dp c, .int .i64 p, v] w fun e w' => e = .returned (.tuple #[]) ∧ DuosP w0 S X w' c b size os (⟨p, zs, false, 0⟩ :: l) hits misses d ∧ Turn w0 S X w w' := by
  obtain ⟨H, G, ⟨mb, vo, D, sl, h1⟩, h2, h3, h4, h5, h6⟩ := h
  refine (hold_new w c b H size os l hits misses mb vo D sl h1 p hp hl hn v zs hS hz (fun k hk hh => (h4 k (.inl hh)).2.1 (hv k hk))).mono ?_
  rintro e w' ⟨rfl, k1, ho⟩
  have ho' : Only (fun k => H k ∨ G k) w w' := ho.mono (fun _ _ h => .inl h)
  refine ⟨rfl, duosP_step h3 h4 h5 h6 k1 (h2.keep ho (fun k hg hh => h3 k hh hg)) ho' (fun _ h => h) (fun _ h => .inl h) (fun k _ hh hg => ?_), turn_step h4 ho'⟩
  rcases hh with hh | hh
  · exact h3 k hh hg
  · have := (h4 k (.inr hg)).2.2; omega
theorem holdP_old (h : DuosP w0 S X w c b size os l hits misses d) (x : Hd) (hx : x ∈ l) (v : Value) (zs : List Int) (hS : Sl w v zs) (hz : zs.length = 256) :
    Calls Try.prog 32 #[dp c, .int .i64 x.p, v] w fun e w' => e = .returned (.tuple #[]) ∧ DuosP w0 S X w' c b size os (updC l x.p (fun y => { y with bs := zs })) hits misses d ∧ Turn w0 S X w w' := by
  obtain ⟨H, G, ⟨mb, vo, D, sl, h1⟩, h2, h3, h4, h5, h6⟩ := h
  refine (hold_old w c b H size os l hits misses mb vo D sl h1 x hx v zs hS hz).mono ?_
  rintro e w' ⟨rfl, k1, ho⟩
  have ho' : Only (fun k => H k ∨ G k) w w' := ho.mono (fun _ _ h => .inl h)
  exact ⟨rfl, duosP_step h3 h4 h5 h6 ⟨_, _, _, _, k1⟩ (h2.keep ho (fun k hg hh => h3 k hh hg)) ho' (fun _ h => .inl h) (fun _ h => .inl h) (fun k _ => h3 k), turn_step h4 ho'⟩
/-- the mark that a page is changed -/
theorem markP (h : DuosP w0 S X w c b size os l hits misses d) (x : Hd) (hx : x ∈ l) : ∃ mb s, w.cell? ⟨c, 2, none⟩ = some (.map (some mb)) ∧ (Instr.lookup 51 (.map (some mb)) (.int .i64 x.p) false).run Try.prog w = .ok (dp s) w ∧ w.cell? ⟨s, 256, none⟩ = some (.bool x.ch) ∧ w.frozen? ⟨s, 256, none⟩ = false ∧
    ∀ y, DuosP w0 S X (w.setCell ⟨s, 256, none⟩ (.bool y)) c b size os (updC l x.p (fun z => { z with ch := y })) hits misses d ∧ Turn w0 S X w (w.setCell ⟨s, 256, none⟩ (.bool y)) := by
  obtain ⟨H, G, ⟨mb, vo, D, sl, h1⟩, h2, h3, h4, h5, h6⟩ := h
  have hB := h1.slots.slot x hx
  have hok := (h1.slots.ok x hx).2
  refine ⟨mb, sl x.p, h1.blk.c2, h1.slots.look hx, (hB.cell 256).trans (sc_ch hok), hB.frozen _, fun y => ?_⟩
  have ho : Only (· = sl x.p) w (w.setCell ⟨sl x.p, 256, none⟩ (.bool y)) := (Only.refl (· = sl x.p) w).setCell ⟨sl x.p, 256, none⟩ _ (fun _ => rfl)
  have hs : ∀ k, k = sl x.p → H k := fun k e => e ▸ h1.slots.fs x hx
  have hB4 := hB.set 256 (.bool y)
  rw [sc_set_ch hok] at hB4
  have ho' : Only (fun k => H k ∨ G k) w (w.setCell ⟨sl x.p, 256, none⟩ (.bool y)) := ho.mono (fun k _ e => .inl (hs k e))
  exact ⟨duosP_step h3 h4 h5 h6 ⟨mb, vo, D, sl, h1.reslot x.p (fun z => { z with ch := y }) (fun _ => rfl) hx rfl ho hB4 hok⟩ (h2.keep ho (fun k hg e => h3 k (hs k e) hg)) ho' (fun _ h => .inl h) (fun _ h => .inl h) (fun k _ => h3 k), turn_step h4 ho'⟩
theorem useP (h : DuosP w0 S X w c b size os l hits misses d) (p : Nat) (l' : List Hd) (he : os.erase p ++ [(p : Int)] = ordC l') (hl : l'.length ≤ 64) (hm : ∀ x, x ∈ l' ↔ x ∈ l) (hll : l'.length = l.length) (hn : (l'.map (·.p)).Nodup) :
    Calls Try.prog 33 #[dp c, .int .i64 p] w fun e w' => e = .returned (.tuple #[]) ∧ DuosP w0 S X w' c b size (ordC l') l' hits misses d ∧ Turn w0 S X w w' := by
  obtain ⟨H, G, ⟨mb, vo, D, sl, h1⟩, h2, h3, h4, h5, h6⟩ := h
  refine (use_any w c b H G os l hits misses mb vo D sl size h1 p l' he hl hm hll hn).mono ?_
  rintro e w' ⟨rfl, ⟨vo', k1⟩, ho⟩
  have ho' : Only (fun k => H k ∨ G k) w w' := ho.mono (fun _ _ h => .inl h)
  refine ⟨rfl, duosP_step h3 h4 h5 h6 ⟨mb, vo', D, sl, k1⟩ (h2.keep ho (fun k hg hh => h3 k hh hg)) ho' (fun _ h => h) (fun _ h => .inl h) (fun k _ hh hg => ?_), turn_step h4 ho'⟩
  rcases hh with hh | hh
  · exact h3 k hh hg
  · have := (h4 k (.inr hg)).2.2; omega
end

theorem updC_updC (l : List Hd) (p : Nat) (f g : Hd → Hd) (hf : ∀ x, (f x).p = x.p) : updC (updC l p f) p g = updC l p (fun x => g (f x)) := by
  unfold updC
  rw [List.map_map]
  apply List.map_congr_left
  intro x _
  show (if (if x.p = p then f x else x).p = p then g (if x.p = p then f x else x) else (if x.p = p then f x else x)) = _
  by_cases hx : x.p = p
  · rw [if_pos hx, if_pos ((hf x).trans hx), if_pos hx]
  · rw [if_neg hx, if_neg hx, if_neg hx]
theorem mem_use_upd {l : List Hd} (hn : (l.map (·.p)).Nodup) {x : Hd} (hx : x ∈ l) (f : Hd → Hd) (hf : ∀ y, (f y).p = y.p) (y : Hd) : y ∈ useC l (f x) ↔ y ∈ updC l x.p f := by
  rw [mem_useC, hf x]
  constructor
  · rintro (rfl | ⟨h1, h2⟩)
    · exact List.mem_map.2 ⟨x, hx, if_pos rfl⟩
    · exact List.mem_map.2 ⟨y, h1, if_neg h2⟩
  · intro h
    obtain ⟨z, hz, e⟩ := mem_updC h
    by_cases hzx : z.p = x.p
    · obtain rfl := nodup_inj hn hz hx hzx
      rw [if_pos rfl] at e
      exact .inl e
    · rw [if_neg hzx] at e
      rw [e]
      exact .inr ⟨hz, hzx⟩
theorem ordC_updC (l : List Hd) (p : Nat) (f : Hd → Hd) (hf : ∀ x, (f x).p = x.p) : ordC (updC l p f) = ordC l := by
  have h1 : ∀ m : List Hd, m.map (fun h => (h.p : Int)) = (m.map (·.p)).map (fun n : Nat => (n : Int)) := fun m => by simp
  unfold ordC
  rw [h1, updC_pages l p f hf, ← h1]

end Go.Proofs.Ytoplhehcjgldeaa
