/- Contract: does (incipitlaw05), by the kinds of acts: Pin, Unpin, Forget, Flush, Drop, none. -/
import Derived.Test.YtoplhehcjgldeaaGreatJRCTell
import Derived.Test.YtoplhehcjgldeaaGreatRegionS
import Derived.Test.YtoplhehcjgldeaaGreatJCView
namespace Go.Proofs.YtoplhehcjgldeaaGreat
open Go.RowKit
set_option linter.unusedVariables false
set_option maxRecDepth 100000

abbrev No : Nat → Prop := fun _ => False
/-- the program's cache and the document's hold the same; none of their blocks is in Q -/
def Two5 (w0 : World) (Q : Nat → Prop) (w : World) (c b cr r n : Nat) (ch : Ch) (d : Dv) : Prop :=
  ∃ K, Duos w0 No (fun k => K k ∨ Q k) w c b ch d ∧ RefC w cr r K ch d ∧ (∀ k, K k → w0.heap.size ≤ k ∧ ¬ Q k) ∧ Few n ch d

section
variable {w0 w w' : World} {Q Q' K X T S : Nat → Prop} {c b cr r n n' : Nat} {ch ch' : Ch} {d d' : Dv}
/-- other blocks turn, and what is made is none of theirs -/
theorem Duos.keepgrow (h : Duos w0 S X w c b ch d) (ho : Only T w w') (hT : ∀ k, T k → X k ∨ w.heap.size ≤ k) (hTS : ∀ k, k < w0.heap.size → T k → S k) : Duos w0 S (fun k => X k ∨ (w.heap.size ≤ k ∧ k < w'.heap.size)) w' c b ch d := by
  obtain ⟨H, G, h1, h2, h3, h4, h5, h6, h7⟩ := h
  have hs := ho.size
  have hn : ∀ k, H k ∨ G k → ¬ T k := fun k hk ht => by
    rcases hT k ht with h | h
    · exact (h4 k hk).2.1 h
    · have := (h4 k hk).2.2; omega
  exact ⟨H, G, h1.keep ho (fun k hk => hn k (.inl hk)), h2.keep ho (fun k hk => hn k (.inr hk)), h3, fun k hk => ⟨(h4 k hk).1, fun hx => hx.elim (h4 k hk).2.1 (fun hx => by have := (h4 k hk).2.2; omega), Nat.lt_of_lt_of_le (h4 k hk).2.2 hs⟩, fun k hk => hk.elim (fun hk => Nat.lt_of_lt_of_le (h5 k hk) hs) (fun hk => hk.2), h6.trans ho hTS, h7⟩
theorem Duos.xlt (h : Duos w0 S X w c b ch d) : ∀ k, X k → k < w.heap.size := by obtain ⟨_, _, _, _, _, _, h, _⟩ := h; exact h

theorem two_below (h : Two5 w0 Q w c b cr r n ch d) (hb : Below w.heap.size w w') : Two5 w0 (fun k => Q k ∨ (w.heap.size ≤ k ∧ k < w'.heap.size)) w' c b cr r n ch d := by
  obtain ⟨K, h1, h2, h3, h4⟩ := h
  refine ⟨K, (h1.grow hb).less (fun k hk => ?_), h2.below hb, fun k hk => ⟨(h3 k hk).1, fun hq => hq.elim (h3 k hk).2 (fun hq => ?_)⟩, h4⟩
  · rcases hk with hk | hk | hk
    · exact .inl (.inl hk)
    · exact .inl (.inr hk)
    · exact .inr hk
  · have := h1.xlt k (.inl hk); omega
theorem two_less (h : Two5 w0 Q w c b cr r n ch d) (hq : ∀ k, Q' k → Q k) : Two5 w0 Q' w c b cr r n ch d := by
  obtain ⟨K, h1, h2, h3, h4⟩ := h
  exact ⟨K, h1.less (fun k hk => hk.imp_right (hq k)), h2, fun k hk => ⟨(h3 k hk).1, fun h => (h3 k hk).2 (hq k h)⟩, h4⟩
theorem two_few (h : Two5 w0 Q w c b cr r n ch d) (hn : n ≤ n') : Two5 w0 Q w c b cr r n' ch d := by
  obtain ⟨K, h1, h2, h3, h4⟩ := h
  exact ⟨K, h1, h2, h3, h4.mono hn⟩
/-- behind the program's act, ahead of the document's -/
def Mid5 (w0 : World) (Q K : Nat → Prop) (w : World) (c b cr r : Nat) (ch1 : Ch) (d1 : Dv) (ch : Ch) (d : Dv) : Prop :=
  Duos w0 No (fun k => K k ∨ Q k) w c b ch1 d1 ∧ RefC w cr r K ch d ∧ ∀ k, K k → w0.heap.size ≤ k ∧ ¬ Q k
theorem mid_end (h : Mid5 w0 Q K w c b cr r ch' d' ch d) (hR : RefC w' cr r (fun k => K k ∨ w.heap.size ≤ k) ch' d') (ho : Only K w w') (hf : Few n ch' d') : Two5 w0 Q w' c b cr r n ch' d' ∧ Turn w0 No Q w w' := by
  obtain ⟨h1, h2, h3⟩ := h
  have h4 := h1.keepgrow ho (fun k hk => .inl (.inl hk)) (fun k hk hk2 => by have := (h3 k hk2).1; omega)
  have hs0 := h1.only.size
  refine ⟨⟨fun k => (K k ∨ w.heap.size ≤ k) ∧ k < w'.heap.size, h4.less (fun k hk => ?_), hR.bound, fun k hk => ?_, hf⟩, ho.mono (fun k _ hk => ⟨.inr (h3 k hk).1, (h3 k hk).2⟩)⟩
  · rcases hk with ⟨hk | hk, hl⟩ | hk
    · exact .inl (.inl hk)
    · exact .inr ⟨hk, hl⟩
    · exact .inl (.inr hk)
  · rcases hk.1 with hk' | hk'
    · exact h3 k hk'
    · exact ⟨by omega, fun hq => by have := h1.xlt k (.inr hq); omega⟩
theorem mid_end' (h : Mid5 w0 Q K w c b cr r ch' d' ch d) (hR : RefC w' cr r K ch' d') (ho : Only K w w') (hf : Few n ch' d') : Two5 w0 Q w' c b cr r n ch' d' ∧ Turn w0 No Q w w' := mid_end h (hR.mono (fun _ _ h => .inl h)) ho hf
theorem mid_of (h1 : Duos w0 No (fun k => K k ∨ Q k) w' c b ch' d') (ho : Turn w0 No (fun k => K k ∨ Q k) w w') (h2 : RefC w cr r K ch d) (h3 : ∀ k, K k → w0.heap.size ≤ k ∧ ¬ Q k) : Mid5 w0 Q K w' c b cr r ch' d' ch d ∧ Turn w0 No Q w w' :=
  ⟨⟨h1, h2.keep ho (fun k hk h => h.2 (.inl hk)), h3⟩, Only.mono ho (fun k _ h => ⟨h.1, fun hq => h.2 (.inr hq)⟩)⟩
end

/-! ### how much an act counts -/
section
variable {k : Nat} {ch : Ch} {d : Dv}
theorem few_writeQ (h : Few k ch d) (p : Nat) (zs : List Int) : Few (k + 1) ch (writeQ d p zs).2 := few_write h p zs rfl rfl (fun y hy => h.pins y hy)
theorem few_less {ch' : Ch} (h : Few k ch d) (h1 : ch'.hits = ch.hits) (h2 : ch'.misses = ch.misses) (h3 : ∀ y ∈ ch'.l, y ∈ ch.l) : Few k ch' d := ⟨by rw [h1]; exact h.hits, by rw [h2]; exact h.misses, fun y hy => h.pins y (h3 y hy), h.ws, h.done⟩
theorem few_room (h : Few k ch d) : Few (k + 1) (roomC ch d).2.1 (roomC ch d).2.2 := by
  unfold roomC
  split
  · exact h.mono (by omega)
  · split
    · exact h.mono (by omega)
    · rename_i x hx
      split
      · split
        · exact few_less (few_writeQ h x.p x.bs) rfl rfl (fun y hy => (mem_lessC.1 hy).1)
        · exact few_writeQ h x.p x.bs
      · exact Few.mono (k := k) (few_less (ch' := { ch with l := lessC ch.l x.p }) h rfl rfl (fun y hy => (mem_lessC.1 hy).1)) (by omega)
theorem few_miss (h : Few k ch d) : Few (k + 1) { ch with misses := ch.misses + 1 } d := ⟨by have := h.hits; show ch.hits ≤ k + 1; omega, by have := h.misses; show ch.misses + 1 ≤ k + 1; omega, fun y hy => by have := h.pins y hy; omega, by have := h.ws; omega, by have := h.done; omega⟩
theorem few_add {y : Hd} (h : Few k ch d) (hy : y.pins ≤ k) : Few k { ch with l := y :: ch.l } d := ⟨h.hits, h.misses, fun z hz => by
  rcases List.mem_cons.1 hz with rfl | hz
  · exact hy
  · exact h.pins z hz, h.ws, h.done⟩
theorem few_hit {l' : List Hd} (h : Few k ch d) (hl : ∀ y ∈ l', ∃ z ∈ ch.l, y.pins = z.pins) : Few (k + 1) { ch with l := l', hits := ch.hits + 1 } d := ⟨by have := h.hits; show ch.hits + 1 ≤ k + 1; omega, by have := h.misses; show ch.misses ≤ k + 1; omega, fun y hy => by
  obtain ⟨z, hz, e⟩ := hl y hy
  have := h.pins z hz
  omega, by have := h.ws; omega, by have := h.done; omega⟩
theorem few_get (h : Few k ch d) (p : Int) : Few (k + 2) (getC ch d p).2.2.1 (getC ch d p).2.2.2 := by
  unfold getC
  split
  · split
    · rename_i x hx
      refine (few_hit h (fun y hy => ?_)).mono (by omega)
      rcases mem_useC.1 hy with rfl | hy
      · exact ⟨y, (findC_some hx).1, rfl⟩
      · exact ⟨y, hy.1, rfl⟩
    · have hr := few_room (few_miss h)
      split
      · split
        · exact hr
        · exact few_add hr (Nat.zero_le _)
      · exact hr
  · exact h.mono (by omega)
theorem few_put (h : Few k ch d) (p : Int) (zs : List Int) : Few (k + 2) (putC ch d p zs).2.1 (putC ch d p zs).2.2 := by
  unfold putC
  split
  · split
    · rename_i x hx
      refine (few_hit h (fun y hy => ?_)).mono (by omega)
      rcases mem_useC.1 hy with rfl | hy
      · exact ⟨x, (findC_some hx).1, rfl⟩
      · exact ⟨y, hy.1, rfl⟩
    · have hr := few_room (few_miss h)
      split
      · exact few_add hr (Nat.zero_le _)
      · exact hr
  · exact h.mono (by omega)
theorem few_upd (h : Few k ch d) (p : Nat) (f : Hd → Hd) (hf : ∀ x ∈ ch.l, (f x).pins ≤ k + 1) : Few (k + 1) { ch with l := updC ch.l p f } d := ⟨by have := h.hits; show ch.hits ≤ k + 1; omega, by have := h.misses; show ch.misses ≤ k + 1; omega, fun y hy => by
  obtain ⟨x, hx, rfl⟩ := mem_updC hy
  split
  · exact hf x hx
  · have := h.pins x hx; omega, by have := h.ws; omega, by have := h.done; omega⟩
theorem few_pin (h : Few k ch d) (p : Int) : Few (k + 1) (pinC ch p).2 d := by
  unfold pinC
  split
  · exact h.mono (by omega)
  · rename_i x hx
    exact few_upd h _ _ (fun y hy => by have := h.pins x (findC_some hx).1; show x.pins + 1 ≤ k + 1; omega)
theorem few_unpin (h : Few k ch d) (p : Int) : Few (k + 1) (unpinC ch p).2 d := by
  unfold unpinC
  split
  · exact h.mono (by omega)
  · rename_i x hx
    split
    · exact h.mono (by omega)
    · exact few_upd h _ _ (fun y hy => by have := h.pins x (findC_some hx).1; show x.pins - 1 ≤ k + 1; omega)
theorem few_forget (h : Few k ch d) (p : Int) : Few k (forgetC ch p).2 d := by
  unfold forgetC
  split
  · exact h
  · split
    · exact few_less h rfl rfl (fun y hy => (mem_lessC.1 hy).1)
    · exact h
theorem few_flushR : ∀ (ps : List Int) {k : Nat} {ch : Ch} {d : Dv}, Few k ch d → Few (k + ps.length) (flushR ps ch d).2.1 (flushR ps ch d).2.2
  | [], k, ch, d, h => h
  | p :: ps, k, ch, d, h => by
    rw [flushR]
    split
    · exact h.mono (by omega)
    · rename_i x hx
      split
      · have := few_flushR ps (few_write (ch' := { ch with l := updC ch.l x.p (fun y => { y with ch := false }) }) h x.p x.bs rfl rfl (fun y hy => by
          obtain ⟨z, hz, e⟩ := mem_updC hy
          have := h.pins z hz
          split at e
          · rw [e]; exact this
          · rw [e]; exact this))
        rw [List.length_cons]
        exact this.mono (by omega)
      · rw [List.length_cons]
        exact (few_writeQ h x.p x.bs).mono (by omega)
theorem few_flush {n : Nat} (h : Few k ch d) (ok : ChOk n ch) : Few (k + 64) (flushC ch d).2.1 (flushC ch d).2.2 := by
  have := few_flushR (changedC ch.l) h
  have h2 := changedC_len ch.l
  have := ok.few
  have := ok.hi
  exact Few.mono (by assumption) (by omega)
theorem few_drop (h : Few k ch d) : Few k { ch with l := [] } d := few_less h rfl rfl (fun y hy => by cases hy)
end

def isQ (E : Int) (Q : World → Prop) : Value → World → Prop := fun v w => v = .int .i64 E ∧ Q w
theorem stQ {S : Nat → Prop} {E : Int} {Q : World → Prop} (hQ : ∀ w w', Only S w w' → Q w → Q w') : StS S (isQ E Q) := fun v w w' ho h => ⟨h.1, hQ w w' ho h.2⟩
theorem two_only {w0 w w' : World} {Q : Nat → Prop} {c b cr r n : Nat} {ch : Ch} {d : Dv} (h : Two5 w0 Q w c b cr r n ch d) (ho : Only (fun _ => False) w w') : Two5 w0 Q w' c b cr r n ch d := by
  obtain ⟨K, h1, h2, h3, h4⟩ := h
  exact ⟨K, h1.keep ho (fun _ h => h.elim) (fun _ _ h => h.elim), h2.keep ho (fun _ _ h => h), h3, h4⟩

section
variable (w0 w : World) (Q : Nat → Prop) (c b cr r n : Nat) (ch : Ch) (d : Dv) (o : Oc)
/-- what each kind of act leaves -/
def Done5 (w0 w : World) (Q : Nat → Prop) (c b cr r n : Nat) (w' : World) : Prop := (∃ ch' d', Two5 w0 Q w' c b cr r (n + 100) ch' d') ∧ Turn w0 No Q w w'

set_option maxHeartbeats 1000000 in
theorem does_pin (h : Two5 w0 Q w c b cr r n ch d) (ho : OcOk o) (hn : n < 100000) (hk : o.dO = 2) :
    Calls Tryz.prog 9 #[dp c, dp b, dp cr, .agg (occ o).toArray] w fun e w' => e = .returned (.bool true) ∧ Done5 w0 w Q c b cr r n w' := by
  obtain ⟨wA, hwA⟩ : ∃ wA, w.alloc (.cells (occ o).toArray 38) = wA := ⟨_, rfl⟩
  have hbA : Below w.heap.size w wA := by rw [← hwA]; exact (Below.refl _ w).alloc (Nat.le_refl _) _
  have hsA : wA.heap.size = w.heap.size + 1 := by rw [← hwA]; simp
  have hN : Blk wA w.heap.size 38 (occ o) := by rw [← hwA]; exact Blk.new w _ _
  have q0 : wA.cell? ⟨w.heap.size, 0, none⟩ = some (.int .i64 o.dO) := hN.cell 0
  rw [hk] at q0
  obtain ⟨K, h1, h2, h3, h4⟩ := two_below h hbA
  have hQ' : ∀ k, (Q k ∨ (w.heap.size ≤ k ∧ k < wA.heap.size)) → k < wA.heap.size := fun k hq => h1.xlt k (.inr hq)
  have ok := h1.ok
  obtain ⟨X, hX⟩ : ∃ X : Nat → Prop, X = fun k => Q k ∨ (w.heap.size ≤ k ∧ k < wA.heap.size) := ⟨_, rfl⟩
  have hXq : X w.heap.size := by rw [hX]; exact .inr ⟨Nat.le_refl _, by omega⟩
  have hXQ : ∀ k, Q k → X k := fun k hk => by rw [hX]; exact .inl hk
  rw [← hX] at h1 h3
  obtain ⟨B, hB⟩ : ∃ B : Nat → Prop, B = fun k => w0.heap.size ≤ k ∧ ¬ K k ∧ ¬ X k := ⟨_, rfl⟩
  have HC : Hid (∀ wx, Only (fun k => B k ∨ K k) wA wx → wx.cell? ⟨w.heap.size, 1, none⟩ = some (.int .i64 o.p)) := fun wx hx => (hN.only hx (fun hh => by
    rw [hB] at hh
    rcases hh with hh | hh
    · exact hh.2.2 hXq
    · exact (h3 _ hh).2 hXq)).cell 1
  have H1 : Hid (∀ wx, Only (fun _ => False) wA wx → Calls Tryz.prog 24 #[dp c, .int .i64 o.p] wx fun e w' => e = .returned (.int .i64 (pinC ch o.p).1) ∧ Duos w0 No (fun k => K k ∨ X k) w' c b (pinC ch o.p).2 d ∧ Only B wx w') := fun wx hx => by
    refine (pin_any w0 wx No _ c b ch d n (by omega) (h1.keep hx (fun _ h => h.elim) (fun _ _ h => h.elim)) h4 o.p ho.hp).mono ?_
    rintro e w' ⟨rfl, k1, k2⟩
    exact ⟨rfl, k1, Only.mono k2 (fun k _ hk => by
      rw [hB]
      exact ⟨hk.1.elim (fun h => h.elim) id, fun h => hk.2 (.inl h), fun h => hk.2 (.inr h)⟩)⟩
  have H2 : Hid (∀ wx, Only B wA wx → Duos w0 No (fun k => K k ∨ X k) wx c b (pinC ch o.p).2 d → Calls Tryz.prog 25 #[dp cr, .int .i64 o.p] wx fun e w' => e = .returned (.int .i64 (pinC ch o.p).1) ∧ (Two5 w0 X w' c b cr r (n + 1) (pinC ch o.p).2 d ∧ Turn w0 No X wA w') ∧ Only K wx w') := fun wx hx hd => by
    have hRx : RefC wx cr r K ch d := h2.keep hx (fun k hk hb => by rw [hB] at hb; exact hb.2.1 hk)
    refine (refPin_any wx cr r K ch d n (by omega) hRx ok h4 o.p).mono ?_
    rintro e w' ⟨rfl, k1, k2⟩
    obtain ⟨m1, m2⟩ := mid_end' (n := n + 1) (⟨hd, hRx, h3⟩ : Mid5 w0 X K wx c b cr r _ _ ch d) k1 k2 (few_pin h4 o.p)
    refine ⟨rfl, ⟨m1, Turn.trans (hx.mono (fun k _ hk => by rw [hB] at hk; exact ⟨.inr hk.1, hk.2.2⟩)) m2⟩, k2⟩
  have HEnd : Hid (∀ w', Two5 w0 X w' c b cr r (n + 1) (pinC ch o.p).2 d → Turn w0 No X wA w' → Done5 w0 w Q c b cr r n w') := fun w' k1 k2 =>
    ⟨⟨_, _, two_few (two_less k1 hXQ) (by omega)⟩, (Turn.of_below hbA).trans (Only.mono k2 (fun k _ hk => ⟨hk.1, fun hq => hk.2 (hXQ k hq)⟩))⟩
  have HK0 : Hid (∀ k, K k → w0.heap.size ≤ k) := fun k hk => (h3 k hk).1
  clear h h1 h2 h3 h4 hN hbA ok hQ' hX hXq hXQ hB ho hk
  obtain ⟨E, hE⟩ : ∃ E, (pinC ch o.p).1 = E := ⟨_, rfl⟩
  obtain ⟨ch', hch'⟩ : ∃ ch', (pinC ch o.p).2 = ch' := ⟨_, rfl⟩
  rw [hE, hch'] at H1 H2
  rw [hch'] at HEnd
  clear hE hch'
  go_enter Tryz.func9, Tryz.ntmps9
  go_wp2
  refine wp_region_seq (two 3 7 B K) [isV (.pointer (some ⟨c, 0, none⟩)), isV (.pointer (some ⟨w.heap.size, 1, none⟩)), isV (.int .i64 o.p), isQ E (fun wz => Duos w0 No (fun k => K k ∨ X k) wz c b ch' d), isV (.pointer (some ⟨cr, 0, none⟩)), isV (.pointer (some ⟨w.heap.size, 1, none⟩)), isV (.int .i64 o.p), isQ E (fun wz => Two5 w0 X wz c b cr r (n + 1) ch' d ∧ Turn w0 No X wA wz), isV (.bool true)] 218 9 (by kernel_rfl) (by kernel_rfl) (by kernel_rfl) (by kernel_rfl) rfl ?_ ?_ ?_
  · repeat (first | exact trivial | refine allStD_isV ?_ | refine ⟨std_1 (stQ (fun wy wz hh hd => Duos.keep hd hh (fun k hk => .inl (.inl hk)) (fun k hlt hk => by have := HK0.out k hk; omega))), ?_⟩ | refine ⟨std_2 (by kernel_rfl) (stQ (fun wy wz hh hd => ⟨two_only hd.1 hh, Turn.trans hd.2 (Only.mono hh (fun _ _ h => h.elim))⟩)), ?_⟩)
  · refine ⟨?_, ?_, ?_, ?_, ?_, ?_, ?_, ?_, ?_, trivial⟩
    · intro a wx h
      have e0 : a.eval (.tmp 0) = .pointer (some ⟨c, 0, none⟩) := h.old 0 (by kernel_rfl)
      have hrel := two_all h.rel
      clear h
      refine gives_by rfl a.eval rfl ?_
      generalize a.eval = ρ at *
      intro hf hc
      go_simp
      exact ⟨Only.refl _ _, rfl⟩
    · intro a wx h
      have e7 : a.eval (.tmp 7) = .pointer (some ⟨w.heap.size, 0, none⟩) := h.old 7 (by kernel_rfl)
      have hrel := two_all h.rel
      clear h
      refine gives_by rfl a.eval rfl ?_
      generalize a.eval = ρ at *
      intro hf hc
      go_simp
      exact ⟨Only.refl _ _, rfl⟩
    · intro a wx h
      obtain ⟨v128, e128, f128⟩ := h.val 1 128 (by kernel_rfl)
      obtain rfl : v128 = .pointer (some ⟨w.heap.size, 1, none⟩) := f128
      have hrel := two_all h.rel
      clear h
      have cx := HC.out wx hrel
      refine gives_by rfl a.eval rfl ?_
      generalize a.eval = ρ at *
      intro hf hc
      go_simp
      exact ⟨Only.refl _ _, rfl⟩
    · intro a wx h
      obtain ⟨v127, e127, f127⟩ := h.val 0 127 (by kernel_rfl)
      obtain rfl : v127 = .pointer (some ⟨c, 0, none⟩) := f127
      obtain ⟨v129, e129, f129⟩ := h.val 2 129 (by kernel_rfl)
      obtain rfl : v129 = .int .i64 o.p := f129
      have hrel := seq_1 (m2 := 7) (by kernel_rfl) h.relq
      clear h
      refine gives_by rfl a.eval rfl ?_
      generalize a.eval = ρ at *
      intro hf hc
      go_simp
      refine (H1.out wx hrel).mono ?_
      rintro e wy ⟨rfl, hd, ho⟩
      exact ⟨_, rfl, of_1 ho, rfl, hd⟩
    · intro a wx h
      have e2 : a.eval (.tmp 2) = .pointer (some ⟨cr, 0, none⟩) := h.old 2 (by kernel_rfl)
      have hrel := two_all h.rel
      clear h
      refine gives_by rfl a.eval rfl ?_
      generalize a.eval = ρ at *
      intro hf hc
      go_simp
      exact ⟨Only.refl _ _, rfl⟩
    · intro a wx h
      have e7 : a.eval (.tmp 7) = .pointer (some ⟨w.heap.size, 0, none⟩) := h.old 7 (by kernel_rfl)
      have hrel := two_all h.rel
      clear h
      refine gives_by rfl a.eval rfl ?_
      generalize a.eval = ρ at *
      intro hf hc
      go_simp
      exact ⟨Only.refl _ _, rfl⟩
    · intro a wx h
      obtain ⟨v132, e132, f132⟩ := h.val 5 132 (by kernel_rfl)
      obtain rfl : v132 = .pointer (some ⟨w.heap.size, 1, none⟩) := f132
      have hrel := two_all h.rel
      clear h
      have cx := HC.out wx hrel
      refine gives_by rfl a.eval rfl ?_
      generalize a.eval = ρ at *
      intro hf hc
      go_simp
      exact ⟨Only.refl _ _, rfl⟩
    · intro a wx h
      obtain ⟨v131, e131, f131⟩ := h.val 4 131 (by kernel_rfl)
      obtain rfl : v131 = .pointer (some ⟨cr, 0, none⟩) := f131
      obtain ⟨v133, e133, f133⟩ := h.val 6 133 (by kernel_rfl)
      obtain rfl : v133 = .int .i64 o.p := f133
      have hrel := seq_2 h.relq
      obtain ⟨v130, e130, f130⟩ := h.val 3 130 (by kernel_rfl)
      have hmid := f130.2
      clear h
      refine gives_by rfl a.eval rfl ?_
      generalize a.eval = ρ at *
      intro hf hc
      go_simp
      refine (H2.out wx hrel hmid).mono ?_
      rintro e wy ⟨rfl, hd, ho⟩
      exact ⟨_, rfl, of_2 ho, rfl, hd⟩
    · intro a wx h
      obtain ⟨v130, e130, f130⟩ := h.val 3 130 (by kernel_rfl)
      obtain ⟨rfl, _⟩ := f130
      obtain ⟨v134, e134, f134⟩ := h.val 7 134 (by kernel_rfl)
      obtain ⟨rfl, _⟩ := f134
      have hrel := two_all h.rel
      clear h
      refine gives_by rfl a.eval rfl ?_
      generalize a.eval = ρ at *
      intro hf hc
      go_simp
      exact ⟨Only.refl _ _, rfl⟩
  · intro oL hoL vals w3 ho3 hv
    simp only [List.getElem?_toArray, List.getElem?_cons_succ, List.getElem?_cons_zero, Option.some.injEq] at hoL
    subst hoL
    have hvm : isQ E (fun wz => Two5 w0 X wz c b cr r (n + 1) ch' d ∧ Turn w0 No X wA wz) (vals 7) w3 := hv 7 134 (by decide) (by kernel_rfl)
    have hvl : vals 8 = .bool true := hv 8 135 (by decide) (by kernel_rfl)
    clear hv
    generalize hact : putAll _ vals 0 _ = act
    have HE2 := hide (HEnd.out w3 hvm.2.1 hvm.2.2)
    clear hvm ho3
    subst hact
    simp only [List.dropLast, putAll, Act.put, List.setIfInBounds_toArray, List.set_cons_zero, List.set_cons_succ, hvl, Nat.zero_add, Nat.reduceAdd]
    refine gives_of_run rfl (exec_assign (.tmp 135) rfl (.bool true) rfl) ?_
    clear hvl
    go_wp2
    go_ret
    exact ⟨rfl, HE2.out⟩

set_option maxHeartbeats 1000000 in
theorem does_unpin (h : Two5 w0 Q w c b cr r n ch d) (ho : OcOk o) (hn : n < 100000) (hk : o.dO = 3) :
    Calls Tryz.prog 9 #[dp c, dp b, dp cr, .agg (occ o).toArray] w fun e w' => e = .returned (.bool true) ∧ Done5 w0 w Q c b cr r n w' := by
  obtain ⟨wA, hwA⟩ : ∃ wA, w.alloc (.cells (occ o).toArray 38) = wA := ⟨_, rfl⟩
  have hbA : Below w.heap.size w wA := by rw [← hwA]; exact (Below.refl _ w).alloc (Nat.le_refl _) _
  have hsA : wA.heap.size = w.heap.size + 1 := by rw [← hwA]; simp
  have hN : Blk wA w.heap.size 38 (occ o) := by rw [← hwA]; exact Blk.new w _ _
  have q0 : wA.cell? ⟨w.heap.size, 0, none⟩ = some (.int .i64 o.dO) := hN.cell 0
  rw [hk] at q0
  obtain ⟨K, h1, h2, h3, h4⟩ := two_below h hbA
  have hQ' : ∀ k, (Q k ∨ (w.heap.size ≤ k ∧ k < wA.heap.size)) → k < wA.heap.size := fun k hq => h1.xlt k (.inr hq)
  have ok := h1.ok
  obtain ⟨X, hX⟩ : ∃ X : Nat → Prop, X = fun k => Q k ∨ (w.heap.size ≤ k ∧ k < wA.heap.size) := ⟨_, rfl⟩
  have hXq : X w.heap.size := by rw [hX]; exact .inr ⟨Nat.le_refl _, by omega⟩
  have hXQ : ∀ k, Q k → X k := fun k hk => by rw [hX]; exact .inl hk
  rw [← hX] at h1 h3
  obtain ⟨B, hB⟩ : ∃ B : Nat → Prop, B = fun k => w0.heap.size ≤ k ∧ ¬ K k ∧ ¬ X k := ⟨_, rfl⟩
  have HC : Hid (∀ wx, Only (fun k => B k ∨ K k) wA wx → wx.cell? ⟨w.heap.size, 1, none⟩ = some (.int .i64 o.p)) := fun wx hx => (hN.only hx (fun hh => by
    rw [hB] at hh
    rcases hh with hh | hh
    · exact hh.2.2 hXq
    · exact (h3 _ hh).2 hXq)).cell 1
  have H1 : Hid (∀ wx, Only (fun _ => False) wA wx → Calls Tryz.prog 26 #[dp c, .int .i64 o.p] wx fun e w' => e = .returned (.int .i64 (unpinC ch o.p).1) ∧ Duos w0 No (fun k => K k ∨ X k) w' c b (unpinC ch o.p).2 d ∧ Only B wx w') := fun wx hx => by
    refine (unpin_any w0 wx No _ c b ch d n (by omega) (h1.keep hx (fun _ h => h.elim) (fun _ _ h => h.elim)) h4 o.p ho.hp).mono ?_
    rintro e w' ⟨rfl, k1, k2⟩
    exact ⟨rfl, k1, Only.mono k2 (fun k _ hk => by
      rw [hB]
      exact ⟨hk.1.elim (fun h => h.elim) id, fun h => hk.2 (.inl h), fun h => hk.2 (.inr h)⟩)⟩
  have H2 : Hid (∀ wx, Only B wA wx → Duos w0 No (fun k => K k ∨ X k) wx c b (unpinC ch o.p).2 d → Calls Tryz.prog 27 #[dp cr, .int .i64 o.p] wx fun e w' => e = .returned (.int .i64 (unpinC ch o.p).1) ∧ (Two5 w0 X w' c b cr r (n + 1) (unpinC ch o.p).2 d ∧ Turn w0 No X wA w') ∧ Only K wx w') := fun wx hx hd => by
    have hRx : RefC wx cr r K ch d := h2.keep hx (fun k hk hb => by rw [hB] at hb; exact hb.2.1 hk)
    refine (refUnpin_any wx cr r K ch d n (by omega) hRx ok h4 o.p).mono ?_
    rintro e w' ⟨rfl, k1, k2⟩
    obtain ⟨m1, m2⟩ := mid_end' (n := n + 1) (⟨hd, hRx, h3⟩ : Mid5 w0 X K wx c b cr r _ _ ch d) k1 k2 (few_unpin h4 o.p)
    refine ⟨rfl, ⟨m1, Turn.trans (hx.mono (fun k _ hk => by rw [hB] at hk; exact ⟨.inr hk.1, hk.2.2⟩)) m2⟩, k2⟩
  have HEnd : Hid (∀ w', Two5 w0 X w' c b cr r (n + 1) (unpinC ch o.p).2 d → Turn w0 No X wA w' → Done5 w0 w Q c b cr r n w') := fun w' k1 k2 =>
    ⟨⟨_, _, two_few (two_less k1 hXQ) (by omega)⟩, (Turn.of_below hbA).trans (Only.mono k2 (fun k _ hk => ⟨hk.1, fun hq => hk.2 (hXQ k hq)⟩))⟩
  have HK0 : Hid (∀ k, K k → w0.heap.size ≤ k) := fun k hk => (h3 k hk).1
  clear h h1 h2 h3 h4 hN hbA ok hQ' hX hXq hXQ hB ho hk
  obtain ⟨E, hE⟩ : ∃ E, (unpinC ch o.p).1 = E := ⟨_, rfl⟩
  obtain ⟨ch', hch'⟩ : ∃ ch', (unpinC ch o.p).2 = ch' := ⟨_, rfl⟩
  rw [hE, hch'] at H1 H2
  rw [hch'] at HEnd
  clear hE hch'
  go_enter Tryz.func9, Tryz.ntmps9
  go_wp2
  refine wp_region_seq (two 3 7 B K) [isV (.pointer (some ⟨c, 0, none⟩)), isV (.pointer (some ⟨w.heap.size, 1, none⟩)), isV (.int .i64 o.p), isQ E (fun wz => Duos w0 No (fun k => K k ∨ X k) wz c b ch' d), isV (.pointer (some ⟨cr, 0, none⟩)), isV (.pointer (some ⟨w.heap.size, 1, none⟩)), isV (.int .i64 o.p), isQ E (fun wz => Two5 w0 X wz c b cr r (n + 1) ch' d ∧ Turn w0 No X wA wz), isV (.bool true)] 218 9 (by kernel_rfl) (by kernel_rfl) (by kernel_rfl) (by kernel_rfl) rfl ?_ ?_ ?_
  · repeat (first | exact trivial | refine allStD_isV ?_ | refine ⟨std_1 (stQ (fun wy wz hh hd => Duos.keep hd hh (fun k hk => .inl (.inl hk)) (fun k hlt hk => by have := HK0.out k hk; omega))), ?_⟩ | refine ⟨std_2 (by kernel_rfl) (stQ (fun wy wz hh hd => ⟨two_only hd.1 hh, Turn.trans hd.2 (Only.mono hh (fun _ _ h => h.elim))⟩)), ?_⟩)
  · refine ⟨?_, ?_, ?_, ?_, ?_, ?_, ?_, ?_, ?_, trivial⟩
    · intro a wx h
      have e0 : a.eval (.tmp 0) = .pointer (some ⟨c, 0, none⟩) := h.old 0 (by kernel_rfl)
      have hrel := two_all h.rel
      clear h
      refine gives_by rfl a.eval rfl ?_
      generalize a.eval = ρ at *
      intro hf hc
      go_simp
      exact ⟨Only.refl _ _, rfl⟩
    · intro a wx h
      have e7 : a.eval (.tmp 7) = .pointer (some ⟨w.heap.size, 0, none⟩) := h.old 7 (by kernel_rfl)
      have hrel := two_all h.rel
      clear h
      refine gives_by rfl a.eval rfl ?_
      generalize a.eval = ρ at *
      intro hf hc
      go_simp
      exact ⟨Only.refl _ _, rfl⟩
    · intro a wx h
      obtain ⟨v139, e139, f139⟩ := h.val 1 139 (by kernel_rfl)
      obtain rfl : v139 = .pointer (some ⟨w.heap.size, 1, none⟩) := f139
      have hrel := two_all h.rel
      clear h
      have cx := HC.out wx hrel
      refine gives_by rfl a.eval rfl ?_
      generalize a.eval = ρ at *
      intro hf hc
      go_simp
      exact ⟨Only.refl _ _, rfl⟩
    · intro a wx h
      obtain ⟨v138, e138, f138⟩ := h.val 0 138 (by kernel_rfl)
      obtain rfl : v138 = .pointer (some ⟨c, 0, none⟩) := f138
      obtain ⟨v140, e140, f140⟩ := h.val 2 140 (by kernel_rfl)
      obtain rfl : v140 = .int .i64 o.p := f140
      have hrel := seq_1 (m2 := 7) (by kernel_rfl) h.relq
      clear h
      refine gives_by rfl a.eval rfl ?_
      generalize a.eval = ρ at *
      intro hf hc
      go_simp
      refine (H1.out wx hrel).mono ?_
      rintro e wy ⟨rfl, hd, ho⟩
      exact ⟨_, rfl, of_1 ho, rfl, hd⟩
    · intro a wx h
      have e2 : a.eval (.tmp 2) = .pointer (some ⟨cr, 0, none⟩) := h.old 2 (by kernel_rfl)
      have hrel := two_all h.rel
      clear h
      refine gives_by rfl a.eval rfl ?_
      generalize a.eval = ρ at *
      intro hf hc
      go_simp
      exact ⟨Only.refl _ _, rfl⟩
    · intro a wx h
      have e7 : a.eval (.tmp 7) = .pointer (some ⟨w.heap.size, 0, none⟩) := h.old 7 (by kernel_rfl)
      have hrel := two_all h.rel
      clear h
      refine gives_by rfl a.eval rfl ?_
      generalize a.eval = ρ at *
      intro hf hc
      go_simp
      exact ⟨Only.refl _ _, rfl⟩
    · intro a wx h
      obtain ⟨v143, e143, f143⟩ := h.val 5 143 (by kernel_rfl)
      obtain rfl : v143 = .pointer (some ⟨w.heap.size, 1, none⟩) := f143
      have hrel := two_all h.rel
      clear h
      have cx := HC.out wx hrel
      refine gives_by rfl a.eval rfl ?_
      generalize a.eval = ρ at *
      intro hf hc
      go_simp
      exact ⟨Only.refl _ _, rfl⟩
    · intro a wx h
      obtain ⟨v142, e142, f142⟩ := h.val 4 142 (by kernel_rfl)
      obtain rfl : v142 = .pointer (some ⟨cr, 0, none⟩) := f142
      obtain ⟨v144, e144, f144⟩ := h.val 6 144 (by kernel_rfl)
      obtain rfl : v144 = .int .i64 o.p := f144
      have hrel := seq_2 h.relq
      obtain ⟨v141, e141, f141⟩ := h.val 3 141 (by kernel_rfl)
      have hmid := f141.2
      clear h
      refine gives_by rfl a.eval rfl ?_
      generalize a.eval = ρ at *
      intro hf hc
      go_simp
      refine (H2.out wx hrel hmid).mono ?_
      rintro e wy ⟨rfl, hd, ho⟩
      exact ⟨_, rfl, of_2 ho, rfl, hd⟩
    · intro a wx h
      obtain ⟨v141, e141, f141⟩ := h.val 3 141 (by kernel_rfl)
      obtain ⟨rfl, _⟩ := f141
      obtain ⟨v145, e145, f145⟩ := h.val 7 145 (by kernel_rfl)
      obtain ⟨rfl, _⟩ := f145
      have hrel := two_all h.rel
      clear h
      refine gives_by rfl a.eval rfl ?_
      generalize a.eval = ρ at *
      intro hf hc
      go_simp
      exact ⟨Only.refl _ _, rfl⟩
  · intro oL hoL vals w3 ho3 hv
    simp only [List.getElem?_toArray, List.getElem?_cons_succ, List.getElem?_cons_zero, Option.some.injEq] at hoL
    subst hoL
    have hvm : isQ E (fun wz => Two5 w0 X wz c b cr r (n + 1) ch' d ∧ Turn w0 No X wA wz) (vals 7) w3 := hv 7 145 (by decide) (by kernel_rfl)
    have hvl : vals 8 = .bool true := hv 8 146 (by decide) (by kernel_rfl)
    clear hv
    generalize hact : putAll _ vals 0 _ = act
    have HE2 := hide (HEnd.out w3 hvm.2.1 hvm.2.2)
    clear hvm ho3
    subst hact
    simp only [List.dropLast, putAll, Act.put, List.setIfInBounds_toArray, List.set_cons_zero, List.set_cons_succ, hvl, Nat.zero_add, Nat.reduceAdd]
    refine gives_of_run rfl (exec_assign (.tmp 146) rfl (.bool true) rfl) ?_
    clear hvl
    go_wp2
    go_ret
    exact ⟨rfl, HE2.out⟩

set_option maxHeartbeats 1000000 in
theorem does_forget (h : Two5 w0 Q w c b cr r n ch d) (ho : OcOk o) (hn : n < 100000) (hk : o.dO = 4) :
    Calls Tryz.prog 9 #[dp c, dp b, dp cr, .agg (occ o).toArray] w fun e w' => e = .returned (.bool true) ∧ Done5 w0 w Q c b cr r n w' := by
  obtain ⟨wA, hwA⟩ : ∃ wA, w.alloc (.cells (occ o).toArray 38) = wA := ⟨_, rfl⟩
  have hbA : Below w.heap.size w wA := by rw [← hwA]; exact (Below.refl _ w).alloc (Nat.le_refl _) _
  have hsA : wA.heap.size = w.heap.size + 1 := by rw [← hwA]; simp
  have hN : Blk wA w.heap.size 38 (occ o) := by rw [← hwA]; exact Blk.new w _ _
  have q0 : wA.cell? ⟨w.heap.size, 0, none⟩ = some (.int .i64 o.dO) := hN.cell 0
  rw [hk] at q0
  obtain ⟨K, h1, h2, h3, h4⟩ := two_below h hbA
  have hQ' : ∀ k, (Q k ∨ (w.heap.size ≤ k ∧ k < wA.heap.size)) → k < wA.heap.size := fun k hq => h1.xlt k (.inr hq)
  have ok := h1.ok
  obtain ⟨X, hX⟩ : ∃ X : Nat → Prop, X = fun k => Q k ∨ (w.heap.size ≤ k ∧ k < wA.heap.size) := ⟨_, rfl⟩
  have hXq : X w.heap.size := by rw [hX]; exact .inr ⟨Nat.le_refl _, by omega⟩
  have hXQ : ∀ k, Q k → X k := fun k hk => by rw [hX]; exact .inl hk
  rw [← hX] at h1 h3
  obtain ⟨B, hB⟩ : ∃ B : Nat → Prop, B = fun k => w0.heap.size ≤ k ∧ ¬ K k ∧ ¬ X k := ⟨_, rfl⟩
  have HC : Hid (∀ wx, Only (fun k => B k ∨ K k) wA wx → wx.cell? ⟨w.heap.size, 1, none⟩ = some (.int .i64 o.p)) := fun wx hx => (hN.only hx (fun hh => by
    rw [hB] at hh
    rcases hh with hh | hh
    · exact hh.2.2 hXq
    · exact (h3 _ hh).2 hXq)).cell 1
  have H1 : Hid (∀ wx, Only (fun _ => False) wA wx → Calls Tryz.prog 28 #[dp c, .int .i64 o.p] wx fun e w' => e = .returned (.int .i64 (forgetC ch o.p).1) ∧ Duos w0 No (fun k => K k ∨ X k) w' c b (forgetC ch o.p).2 d ∧ Only B wx w') := fun wx hx => by
    refine (forget_any w0 wx No _ c b ch d (h1.keep hx (fun _ h => h.elim) (fun _ _ h => h.elim)) o.p ho.hp).mono ?_
    rintro e w' ⟨rfl, k1, k2⟩
    exact ⟨rfl, k1, Only.mono k2 (fun k _ hk => by
      rw [hB]
      exact ⟨hk.1.elim (fun h => h.elim) id, fun h => hk.2 (.inl h), fun h => hk.2 (.inr h)⟩)⟩
  have H2 : Hid (∀ wx, Only B wA wx → Duos w0 No (fun k => K k ∨ X k) wx c b (forgetC ch o.p).2 d → Calls Tryz.prog 29 #[dp cr, .int .i64 o.p] wx fun e w' => e = .returned (.int .i64 (forgetC ch o.p).1) ∧ (Two5 w0 X w' c b cr r (n + 1) (forgetC ch o.p).2 d ∧ Turn w0 No X wA w') ∧ Only K wx w') := fun wx hx hd => by
    have hRx : RefC wx cr r K ch d := h2.keep hx (fun k hk hb => by rw [hB] at hb; exact hb.2.1 hk)
    refine (refForget_any wx cr r K ch d n (by omega) hRx ok h4 o.p).mono ?_
    rintro e w' ⟨rfl, k1, k2⟩
    obtain ⟨m1, m2⟩ := mid_end (n := n + 1) (⟨hd, hRx, h3⟩ : Mid5 w0 X K wx c b cr r _ _ ch d) k1 k2 ((few_forget h4 o.p).mono (by omega))
    refine ⟨rfl, ⟨m1, Turn.trans (hx.mono (fun k _ hk => by rw [hB] at hk; exact ⟨.inr hk.1, hk.2.2⟩)) m2⟩, k2⟩
  have HEnd : Hid (∀ w', Two5 w0 X w' c b cr r (n + 1) (forgetC ch o.p).2 d → Turn w0 No X wA w' → Done5 w0 w Q c b cr r n w') := fun w' k1 k2 =>
    ⟨⟨_, _, two_few (two_less k1 hXQ) (by omega)⟩, (Turn.of_below hbA).trans (Only.mono k2 (fun k _ hk => ⟨hk.1, fun hq => hk.2 (hXQ k hq)⟩))⟩
  have HK0 : Hid (∀ k, K k → w0.heap.size ≤ k) := fun k hk => (h3 k hk).1
  clear h h1 h2 h3 h4 hN hbA ok hQ' hX hXq hXQ hB ho hk
  obtain ⟨E, hE⟩ : ∃ E, (forgetC ch o.p).1 = E := ⟨_, rfl⟩
  obtain ⟨ch', hch'⟩ : ∃ ch', (forgetC ch o.p).2 = ch' := ⟨_, rfl⟩
  rw [hE, hch'] at H1 H2
  rw [hch'] at HEnd
  clear hE hch'
  go_enter Tryz.func9, Tryz.ntmps9
  go_wp2
  refine wp_region_seq (two 3 7 B K) [isV (.pointer (some ⟨c, 0, none⟩)), isV (.pointer (some ⟨w.heap.size, 1, none⟩)), isV (.int .i64 o.p), isQ E (fun wz => Duos w0 No (fun k => K k ∨ X k) wz c b ch' d), isV (.pointer (some ⟨cr, 0, none⟩)), isV (.pointer (some ⟨w.heap.size, 1, none⟩)), isV (.int .i64 o.p), isQ E (fun wz => Two5 w0 X wz c b cr r (n + 1) ch' d ∧ Turn w0 No X wA wz), isV (.bool true)] 218 9 (by kernel_rfl) (by kernel_rfl) (by kernel_rfl) (by kernel_rfl) rfl ?_ ?_ ?_
  · repeat (first | exact trivial | refine allStD_isV ?_ | refine ⟨std_1 (stQ (fun wy wz hh hd => Duos.keep hd hh (fun k hk => .inl (.inl hk)) (fun k hlt hk => by have := HK0.out k hk; omega))), ?_⟩ | refine ⟨std_2 (by kernel_rfl) (stQ (fun wy wz hh hd => ⟨two_only hd.1 hh, Turn.trans hd.2 (Only.mono hh (fun _ _ h => h.elim))⟩)), ?_⟩)
  · refine ⟨?_, ?_, ?_, ?_, ?_, ?_, ?_, ?_, ?_, trivial⟩
    · intro a wx h
      have e0 : a.eval (.tmp 0) = .pointer (some ⟨c, 0, none⟩) := h.old 0 (by kernel_rfl)
      have hrel := two_all h.rel
      clear h
      refine gives_by rfl a.eval rfl ?_
      generalize a.eval = ρ at *
      intro hf hc
      go_simp
      exact ⟨Only.refl _ _, rfl⟩
    · intro a wx h
      have e7 : a.eval (.tmp 7) = .pointer (some ⟨w.heap.size, 0, none⟩) := h.old 7 (by kernel_rfl)
      have hrel := two_all h.rel
      clear h
      refine gives_by rfl a.eval rfl ?_
      generalize a.eval = ρ at *
      intro hf hc
      go_simp
      exact ⟨Only.refl _ _, rfl⟩
    · intro a wx h
      obtain ⟨v150, e150, f150⟩ := h.val 1 150 (by kernel_rfl)
      obtain rfl : v150 = .pointer (some ⟨w.heap.size, 1, none⟩) := f150
      have hrel := two_all h.rel
      clear h
      have cx := HC.out wx hrel
      refine gives_by rfl a.eval rfl ?_
      generalize a.eval = ρ at *
      intro hf hc
      go_simp
      exact ⟨Only.refl _ _, rfl⟩
    · intro a wx h
      obtain ⟨v149, e149, f149⟩ := h.val 0 149 (by kernel_rfl)
      obtain rfl : v149 = .pointer (some ⟨c, 0, none⟩) := f149
      obtain ⟨v151, e151, f151⟩ := h.val 2 151 (by kernel_rfl)
      obtain rfl : v151 = .int .i64 o.p := f151
      have hrel := seq_1 (m2 := 7) (by kernel_rfl) h.relq
      clear h
      refine gives_by rfl a.eval rfl ?_
      generalize a.eval = ρ at *
      intro hf hc
      go_simp
      refine (H1.out wx hrel).mono ?_
      rintro e wy ⟨rfl, hd, ho⟩
      exact ⟨_, rfl, of_1 ho, rfl, hd⟩
    · intro a wx h
      have e2 : a.eval (.tmp 2) = .pointer (some ⟨cr, 0, none⟩) := h.old 2 (by kernel_rfl)
      have hrel := two_all h.rel
      clear h
      refine gives_by rfl a.eval rfl ?_
      generalize a.eval = ρ at *
      intro hf hc
      go_simp
      exact ⟨Only.refl _ _, rfl⟩
    · intro a wx h
      have e7 : a.eval (.tmp 7) = .pointer (some ⟨w.heap.size, 0, none⟩) := h.old 7 (by kernel_rfl)
      have hrel := two_all h.rel
      clear h
      refine gives_by rfl a.eval rfl ?_
      generalize a.eval = ρ at *
      intro hf hc
      go_simp
      exact ⟨Only.refl _ _, rfl⟩
    · intro a wx h
      obtain ⟨v154, e154, f154⟩ := h.val 5 154 (by kernel_rfl)
      obtain rfl : v154 = .pointer (some ⟨w.heap.size, 1, none⟩) := f154
      have hrel := two_all h.rel
      clear h
      have cx := HC.out wx hrel
      refine gives_by rfl a.eval rfl ?_
      generalize a.eval = ρ at *
      intro hf hc
      go_simp
      exact ⟨Only.refl _ _, rfl⟩
    · intro a wx h
      obtain ⟨v153, e153, f153⟩ := h.val 4 153 (by kernel_rfl)
      obtain rfl : v153 = .pointer (some ⟨cr, 0, none⟩) := f153
      obtain ⟨v155, e155, f155⟩ := h.val 6 155 (by kernel_rfl)
      obtain rfl : v155 = .int .i64 o.p := f155
      have hrel := seq_2 h.relq
      obtain ⟨v152, e152, f152⟩ := h.val 3 152 (by kernel_rfl)
      have hmid := f152.2
      clear h
      refine gives_by rfl a.eval rfl ?_
      generalize a.eval = ρ at *
      intro hf hc
      go_simp
      refine (H2.out wx hrel hmid).mono ?_
      rintro e wy ⟨rfl, hd, ho⟩
      exact ⟨_, rfl, of_2 ho, rfl, hd⟩
    · intro a wx h
      obtain ⟨v152, e152, f152⟩ := h.val 3 152 (by kernel_rfl)
      obtain ⟨rfl, _⟩ := f152
      obtain ⟨v156, e156, f156⟩ := h.val 7 156 (by kernel_rfl)
      obtain ⟨rfl, _⟩ := f156
      have hrel := two_all h.rel
      clear h
      refine gives_by rfl a.eval rfl ?_
      generalize a.eval = ρ at *
      intro hf hc
      go_simp
      exact ⟨Only.refl _ _, rfl⟩
  · intro oL hoL vals w3 ho3 hv
    simp only [List.getElem?_toArray, List.getElem?_cons_succ, List.getElem?_cons_zero, Option.some.injEq] at hoL
    subst hoL
    have hvm : isQ E (fun wz => Two5 w0 X wz c b cr r (n + 1) ch' d ∧ Turn w0 No X wA wz) (vals 7) w3 := hv 7 156 (by decide) (by kernel_rfl)
    have hvl : vals 8 = .bool true := hv 8 157 (by decide) (by kernel_rfl)
    clear hv
    generalize hact : putAll _ vals 0 _ = act
    have HE2 := hide (HEnd.out w3 hvm.2.1 hvm.2.2)
    clear hvm ho3
    subst hact
    simp only [List.dropLast, putAll, Act.put, List.setIfInBounds_toArray, List.set_cons_zero, List.set_cons_succ, hvl, Nat.zero_add, Nat.reduceAdd]
    refine gives_of_run rfl (exec_assign (.tmp 157) rfl (.bool true) rfl) ?_
    clear hvl
    go_wp2
    go_ret
    exact ⟨rfl, HE2.out⟩

end

end Go.Proofs.YtoplhehcjgldeaaGreat
