/- Contracts: a cache and its device together, from a base world: meet, Get, Put. -/
import Derived.Test.YtoplhehcjgldeaaCRoom
namespace Go.Proofs.Ytoplhehcjgldeaa
open Go.RowKit
set_option linter.unusedVariables false
set_option maxRecDepth 100000

/-- a cache at block c over the device at block b: their blocks lie in S or were made since w0, and are none of X -/
def Duos (w0 : World) (S X : Nat → Prop) (w : World) (c b : Nat) (ch : Ch) (d : Dv) : Prop :=
  ∃ H G, CachH w c b H ch.size (ordC ch.l) ch.l ch.hits ch.misses ∧ Dev w b G d ∧ (∀ k, H k → G k → False) ∧ (∀ k, H k ∨ G k → (S k ∨ w0.heap.size ≤ k) ∧ ¬ X k ∧ k < w.heap.size) ∧ (∀ k, X k → k < w.heap.size) ∧ Only S w0 w ∧ ChOk d.st.length ch

/-- none of X turns -/
def Turn (w0 : World) (S X : Nat → Prop) (w w' : World) : Prop := Only (fun k => (S k ∨ w0.heap.size ≤ k) ∧ ¬ X k) w w'
theorem Turn.refl (w0 : World) (S X : Nat → Prop) (w : World) : Turn w0 S X w w := Only.refl _ _
theorem Turn.trans {w0 : World} {S X : Nat → Prop} {w w1 w2 : World} (h : Turn w0 S X w w1) (k : Turn w0 S X w1 w2) : Turn w0 S X w w2 := Only.trans h k (fun _ _ h => h)
theorem Turn.of_below {w0 : World} {S X : Nat → Prop} {w w' : World} (h : Below w.heap.size w w') : Turn w0 S X w w' := Only.of_below _ h

section
variable {w0 w w' : World} {S X X' T : Nat → Prop} {c b : Nat} {ch ch' : Ch} {d d' : Dv} {H G H' G' : Nat → Prop}
theorem duos_step (hap : ∀ k, H k → G k → False) (hin : ∀ k, H k ∨ G k → (S k ∨ w0.heap.size ≤ k) ∧ ¬ X k ∧ k < w.heap.size) (hX : ∀ k, X k → k < w.heap.size) (hS : Only S w0 w)
    (hC : CachH w' c b H' ch'.size (ordC ch'.l) ch'.l ch'.hits ch'.misses) (hD : Dev w' b G' d') (ho : Only (fun k => H k ∨ G k) w w') (hH : ∀ k, H' k → H k ∨ w.heap.size ≤ k) (hG : ∀ k, G' k → G k ∨ w.heap.size ≤ k) (hap' : ∀ k, k < w'.heap.size → H' k → G' k → False) (ok : ChOk d'.st.length ch') : Duos w0 S X w' c b ch' d' := by
  have hs := ho.size
  have hs0 := hS.size
  refine ⟨fun k => H' k ∧ k < w'.heap.size, fun k => G' k ∧ k < w'.heap.size, hC.bound, hD.bound, fun k h1 h2 => hap' k h1.2 h1.1 h2.1, fun k hk => ?_, fun k hk => Nat.lt_of_lt_of_le (hX k hk) hs, hS.trans ho (fun k hk h => ?_), ok⟩
  · have hk2 : k < w'.heap.size := hk.elim (fun h => h.2) (fun h => h.2)
    have hk3 : (H k ∨ G k) ∨ w.heap.size ≤ k := by
      rcases hk with h | h
      · rcases hH k h.1 with h | h
        · exact .inl (.inl h)
        · exact .inr h
      · rcases hG k h.1 with h | h
        · exact .inl (.inr h)
        · exact .inr h
    rcases hk3 with h | h
    · exact ⟨(hin k h).1, (hin k h).2.1, hk2⟩
    · exact ⟨.inr (by omega), fun hx => by have := hX k hx; omega, hk2⟩
  · rcases (hin k h).1 with h | h
    · exact h
    · omega
theorem turn_step (hin : ∀ k, H k ∨ G k → (S k ∨ w0.heap.size ≤ k) ∧ ¬ X k ∧ k < w.heap.size) (ho : Only (fun k => H k ∨ G k) w w') : Turn w0 S X w w' := ho.mono (fun k _ hk => ⟨(hin k hk).1, (hin k hk).2.1⟩)
theorem Duos.ok (h : Duos w0 S X w c b ch d) : ChOk d.st.length ch := by obtain ⟨_, _, _, _, _, _, _, _, h⟩ := h; exact h
theorem Duos.dvok (h : Duos w0 S X w c b ch d) : DvOk d := by obtain ⟨_, _, _, h, _⟩ := h; exact h.ok
theorem Duos.only (h : Duos w0 S X w c b ch d) : Only S w0 w := by obtain ⟨_, _, _, _, _, _, _, h, _⟩ := h; exact h
/-- other blocks turn, new ones are made -/
theorem Duos.keep (h : Duos w0 S X w c b ch d) (ho : Only T w w') (hT : ∀ k, T k → X k ∨ w.heap.size ≤ k) (hTS : ∀ k, k < w0.heap.size → T k → S k) : Duos w0 S X w' c b ch d := by
  obtain ⟨H, G, h1, h2, h3, h4, h5, h6, h7⟩ := h
  have hs := ho.size
  have hn : ∀ k, H k ∨ G k → ¬ T k := fun k hk ht => by
    rcases hT k ht with h | h
    · exact (h4 k hk).2.1 h
    · have := (h4 k hk).2.2; omega
  exact ⟨H, G, h1.keep ho (fun k hk => hn k (.inl hk)), h2.keep ho (fun k hk => hn k (.inr hk)), h3, fun k hk => ⟨(h4 k hk).1, (h4 k hk).2.1, Nat.lt_of_lt_of_le (h4 k hk).2.2 hs⟩, fun k hk => Nat.lt_of_lt_of_le (h5 k hk) hs, h6.trans ho hTS, h7⟩
theorem Duos.below (h : Duos w0 S X w c b ch d) (hb : Below w.heap.size w w') : Duos w0 S X w' c b ch d := h.keep (Only.of_below (fun _ => False) hb) (fun _ h => h.elim) (fun _ _ h => h.elim)
/-- what was made just now is none of theirs -/
theorem Duos.grow (h : Duos w0 S X w c b ch d) (hb : Below w.heap.size w w') : Duos w0 S (fun k => X k ∨ (w.heap.size ≤ k ∧ k < w'.heap.size)) w' c b ch d := by
  obtain ⟨H, G, h1, h2, h3, h4, h5, h6, h7⟩ := h
  have ho := Only.of_below (fun _ => False) hb
  have hs := hb.size
  exact ⟨H, G, h1.keep ho (fun _ _ h => h), h2.keep ho (fun _ _ h => h), h3, fun k hk => ⟨(h4 k hk).1, fun hx => hx.elim (h4 k hk).2.1 (fun hx => by have := (h4 k hk).2.2; omega), Nat.lt_of_lt_of_le (h4 k hk).2.2 hs⟩, fun k hk => hk.elim (fun hk => Nat.lt_of_lt_of_le (h5 k hk) hs) (fun hk => hk.2), h6.trans ho (fun _ _ h => h.elim), h7⟩
theorem Duos.less (h : Duos w0 S X w c b ch d) (hx : ∀ k, X' k → X k) : Duos w0 S X' w c b ch d := by
  obtain ⟨H, G, h1, h2, h3, h4, h5, h6, h7⟩ := h
  exact ⟨H, G, h1, h2, h3, fun k hk => ⟨(h4 k hk).1, fun h => (h4 k hk).2.1 (hx k h), (h4 k hk).2.2⟩, fun k hk => h5 k (hx k hk), h6, h7⟩
end

theorem writeQ_st (d : Dv) (p : Nat) (zs : List Int) : (writeQ d p zs).2.st = d.st := by
  unfold writeQ
  split
  · rfl
  · unfold spendD
    split <;> rfl
theorem roomC_st (c : Ch) (d : Dv) : (roomC c d).2.2.st = d.st := by
  unfold roomC
  split
  · rfl
  · split
    · rfl
    · split
      · split
        · exact writeQ_st _ _ _
        · exact writeQ_st _ _ _
      · rfl
theorem roomC_size (c : Ch) (d : Dv) : (roomC c d).2.1.size = c.size ∧ (roomC c d).2.1.hits = c.hits ∧ (roomC c d).2.1.misses = c.misses := by
  unfold roomC
  split
  · exact ⟨rfl, rfl, rfl⟩
  · split
    · exact ⟨rfl, rfl, rfl⟩
    · split
      · split <;> exact ⟨rfl, rfl, rfl⟩
      · exact ⟨rfl, rfl, rfl⟩
/-- room leaves the list, or takes one out -/
theorem roomC_l (c : Ch) (d : Dv) : (roomC c d).2.1.l = c.l ∨ ∃ x ∈ c.l, x.pins = 0 ∧ (roomC c d).2.1.l = lessC c.l x.p := by
  unfold roomC
  split
  · exact .inl rfl
  · split
    · exact .inl rfl
    · rename_i x hx
      obtain ⟨h1, h2⟩ := goesC_some hx
      split
      · split
        · exact .inr ⟨x, h1, h2, rfl⟩
        · exact .inl rfl
      · exact .inr ⟨x, h1, h2, rfl⟩
theorem roomC_mem {c : Ch} {d : Dv} {h : Hd} (hh : h ∈ (roomC c d).2.1.l) : h ∈ c.l := by
  rcases roomC_l c d with e | ⟨x, _, _, e⟩
  · rw [e] at hh; exact hh
  · rw [e] at hh; exact (mem_lessC.1 hh).1
theorem roomC_find {c : Ch} {d : Dv} {p : Int} (hp : findC c.l p = none) : findC (roomC c d).2.1.l p = none := by
  apply List.find?_eq_none.2
  intro x hx
  simpa using findC_none hp x (roomC_mem hx)
theorem roomC_ok {n : Nat} {c : Ch} {d : Dv} (h : ChOk n c) : ChOk n (roomC c d).2.1 := by
  obtain ⟨e1, _, _⟩ := roomC_size c d
  refine ⟨e1 ▸ h.lo, e1 ▸ h.hi, ?_, ?_, fun x hx => h.pages x (roomC_mem hx)⟩
  · rw [e1]
    rcases roomC_l c d with e | ⟨x, _, _, e⟩
    · rw [e]; exact h.few
    · rw [e]; exact Nat.le_trans (lessC_sub _ _).length_le h.few
  · rcases roomC_l c d with e | ⟨x, _, _, e⟩
    · rw [e]; exact h.nodup
    · rw [e]; exact lessC_nodup h.nodup _
/-- where room was made there is room -/
theorem roomC_room {n : Nat} {c : Ch} {d : Dv} (h : ChOk n c) (h0 : (roomC c d).1 = 0) : (roomC c d).2.1.l.length < c.size := by
  unfold roomC at h0 ⊢
  split at h0
  · rename_i hl
    rw [if_pos hl]; exact hl
  · rename_i hl
    rw [if_neg hl]
    have hf := h.few
    split at h0
    · simp at h0
    · rename_i x hx
      have := lessC_len h.nodup (goesC_some hx).1
      split at h0
      · rename_i hc
        rw [if_pos hc]
        split at h0
        · rename_i hw
          rw [if_pos hw]
          show (lessC c.l x.p).length < c.size
          omega
        · rename_i hw
          exact absurd h0 hw
      · rename_i hc
        rw [if_neg hc]
        show (lessC c.l x.p).length < c.size
        omega

section
variable (w0 w : World) (S X : Nat → Prop) (c b : Nat) (ch : Ch) (d : Dv)

theorem room_any (k : Nat) (hk : k < 1000000) (h : Duos w0 S X w c b ch d) (hf : Few k ch d) :
    Calls Try.prog 51 #[dp c] w fun e w' => e = .returned (.int .i64 (roomC ch d).1) ∧ Duos w0 S X w' c b (roomC ch d).2.1 (roomC ch d).2.2 ∧ Turn w0 S X w w' := by
  obtain ⟨H, G, ⟨mb, vo, D, sl, h1⟩, h2, h3, h4, h5, h6, h7⟩ := h
  obtain ⟨e1, e2, e3⟩ := roomC_size ch d
  have ok : ChOk (roomC ch d).2.2.st.length (roomC ch d).2.1 := by rw [roomC_st]; exact roomC_ok h7
  by_cases hl : ch.l.length < ch.size
  · have er : roomC ch d = (0, ch, d) := by unfold roomC; rw [if_pos hl]
    rw [er]
    refine (room_free w c b H ch.size ch.l ch.hits ch.misses mb vo D sl h1 hl h7.hi).mono ?_
    rintro e w' ⟨rfl, ho⟩
    exact ⟨rfl, duos_step h3 h4 h5 h6 ⟨mb, vo, D, sl, h1.keep ho (fun _ _ h => h)⟩ (h2.keep ho (fun _ _ h => h)) (ho.mono (fun _ _ h => h.elim)) (fun _ h => .inl h) (fun _ h => .inl h) (fun k _ => h3 k) h7, ho.mono (fun _ _ h => h.elim)⟩
  · refine (room_full w c b H G ch.size ch.l ch.hits ch.misses mb vo D sl d h1 h2 h3 hl h7.hi (fun k hk => (h4 k (.inl hk)).2.2) (fun x hx => ⟨(h7.pages x hx).1, by have := hf.pins x hx; omega⟩) (by have := hf.ws; omega) (by have := hf.done; omega)).mono ?_
    rintro e w' ⟨rfl, h8, h9, h10⟩
    refine ⟨rfl, duos_step h3 h4 h5 h6 (H' := H) (G' := fun k => G k ∨ w.heap.size ≤ k) ?_ h9 h10 (fun _ h => .inl h) (fun _ h => h) (fun k _ hh hg => ?_) ok, turn_step h4 h10⟩
    · rw [e1, e2, e3]; exact h8
    · rcases hg with hg | hg
      · exact h3 k hh hg
      · have := (h4 k (.inl hh)).2.2; omega
end

end Go.Proofs.Ytoplhehcjgldeaa
