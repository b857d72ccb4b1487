/- Contract: does (incipitlaw05): Flush, Drop, none of the kinds, Sync, Arm. -/
import Derived.Test.YtoplhehcjgldeaaGreatJRDo
import Derived.OpenShut
namespace Go.Proofs.YtoplhehcjgldeaaGreat
open Go.RowKit
set_option linter.unusedVariables false
set_option maxRecDepth 100000

section
variable {w w' : World} {c r : Nat} {K : Nat → Prop} {ch : Ch} {d d' : Dv} {k : Nat}
theorem few_sized {n : Nat} (h : Few k ch d) (hs : Sized n (k + 1) d') : Few (k + 1) ch d' := ⟨by have := h.hits; omega, by have := h.misses; omega, fun y hy => by have := h.pins y hy; omega, hs.2.1, hs.2.2⟩
theorem sized_of (h : Few k ch d) : Sized d.st.length k d := ⟨rfl, h.ws, h.done⟩
/-- the document's device alone turns -/
theorem refC_devs (h : RefC w c r K ch d) : ∃ G, Ref w r G d ∧ (∀ j, G j → K j ∧ j < w.heap.size) ∧ ¬ G c ∧ K c ∧ ∀ (T : Nat → Prop) (wx : World), Only T w wx → (∀ j, K j → ¬ T j) → ∀ w' d', Ref w' r (fun j => G j ∨ wx.heap.size ≤ j) d' → Only G wx w' → RefC w' c r (fun j => K j ∨ wx.heap.size ≤ j) ch d' := by
  obtain ⟨H, G, hs, lv, h1, h2, h3, h4, h5⟩ := h
  refine ⟨G, h3, fun j hj => h5 j (.inr hj), h4 c h1.fc, (h5 c (.inl h1.fc)).1, fun T wx hx hT w' d' hr ho => ?_⟩
  have h5x : ∀ k, H k ∨ G k → K k ∧ k < wx.heap.size := fun k hk => ⟨(h5 k hk).1, Nat.lt_of_lt_of_le (h5 k hk).2 hx.size⟩
  have h1x := h1.keep hx (fun k hk => hT k (h5 k (.inl hk)).1)
  refine refC_step h5x h4 (h1x.keep ho (fun j => h4 j)) h2 hr (fun j hj => .inl hj) (fun j hj => hj) (fun j hj hj2 hh hg => ?_) ho.size
  have := (h5x j (.inl hh)).2
  omega
theorem RefC.drop (h : RefC w c r K ch d) : (∃ lv, w.cell? ⟨c, 2, none⟩ = some lv ∧ ∃ a n cap, lv = .slice a n cap) ∧ w.frozen? ⟨c, 2, none⟩ = false ∧ RefC (w.setCell ⟨c, 2, none⟩ (.slice none 0 0)) c r K { ch with l := [] } d ∧ Only K w (w.setCell ⟨c, 2, none⟩ (.slice none 0 0)) := by
  obtain ⟨H, G, hs, lv, h1, h2, h3, h4, h5⟩ := h
  have ho : Only (· = c) w (w.setCell ⟨c, 2, none⟩ (.slice none 0 0)) := (Only.refl (· = c) w).setCell ⟨c, 2, none⟩ _ (fun _ => rfl)
  obtain ⟨a, cap, e, _⟩ := h1.shape
  refine ⟨⟨lv, h1.c2, a, _, cap, e⟩, h1.blk.frozen 2, ⟨H, G, [], .slice none 0 0, ⟨h1.blk.set 2 _, World.ownsRow_nil _ _ _ _, (fun x hx => by cases hx), h1.fc, (fun k hk => by cases hk)⟩, rfl, h3.keep ho (fun k hg e => h4 c h1.fc (e ▸ hg)), h4, fun k hk => ⟨(h5 k hk).1, Nat.lt_of_lt_of_le (h5 k hk).2 ho.size⟩⟩, ho.mono (fun k _ e => by rw [e]; exact (h5 c (.inl h1.fc)).1)⟩
end

section
variable (w0 w : World) (Q : Nat → Prop) (c b cr r n : Nat) (ch : Ch) (d : Dv) (o : Oc)
set_option maxHeartbeats 1000000 in
theorem does_flush (h : Two5 w0 Q w c b cr r n ch d) (ho : OcOk o) (hn : n < 100000) (hk : o.dO = 5) :
    Calls Tryz.prog 9 #[dp c, dp b, dp cr, .agg (occ o).toArray] w fun e w' => e = .returned (.bool true) ∧ Done5 w0 w Q c b cr r n w' := by
  obtain ⟨wA, hwA⟩ : ∃ wA, w.alloc (.cells (occ o).toArray 38) = wA := ⟨_, rfl⟩
  have hbA : Below w.heap.size w wA := by rw [← hwA]; exact (Below.refl _ w).alloc (Nat.le_refl _) _
  have hsA : wA.heap.size = w.heap.size + 1 := by rw [← hwA]; simp
  have hN : Blk wA w.heap.size 38 (occ o) := by rw [← hwA]; exact Blk.new w _ _
  have q0 : wA.cell? ⟨w.heap.size, 0, none⟩ = some (.int .i64 o.dO) := hN.cell 0
  rw [hk] at q0
  obtain ⟨K, h1, h2, h3, h4⟩ := two_below h hbA
  have hQ' : ∀ k, (Q k ∨ (w.heap.size ≤ k ∧ k < wA.heap.size)) → k < wA.heap.size := fun k hq => h1.xlt k (.inr hq)
  have ok := h1.ok
  obtain ⟨X, hX⟩ : ∃ X : Nat → Prop, X = fun k => Q k ∨ (w.heap.size ≤ k ∧ k < wA.heap.size) := ⟨_, rfl⟩
  have hXq : X w.heap.size := by rw [hX]; exact .inr ⟨Nat.le_refl _, by omega⟩
  have hXQ : ∀ k, Q k → X k := fun k hk => by rw [hX]; exact .inl hk
  rw [← hX] at h1 h3
  have H1 : Hid (Calls Tryz.prog 30 #[dp c] wA fun e w' => e = .returned (.int .i64 (flushC ch d).1) ∧ Mid5 w0 X K w' c b cr r (flushC ch d).2.1 (flushC ch d).2.2 ch d ∧ Turn w0 No X wA w') := by
    refine (flush_any w0 wA No _ c b ch d n (by omega) h1 h4).mono ?_
    rintro e w' ⟨rfl, k1, k2⟩
    exact ⟨rfl, mid_of k1 k2 h2 h3⟩
  have H2 : Hid (∀ wx, Mid5 w0 X K wx c b cr r (flushC ch d).2.1 (flushC ch d).2.2 ch d → Calls Tryz.prog 31 #[dp cr] wx fun e w' => e = .returned (.int .i64 (flushC ch d).1) ∧ Two5 w0 X w' c b cr r (n + 64) (flushC ch d).2.1 (flushC ch d).2.2 ∧ Turn w0 No X wx w') := fun wx hm => by
    refine (refFlush_any wx cr r K ch d n (by omega) hm.2.1 ok h4).mono ?_
    rintro e w' ⟨rfl, k1, k2⟩
    exact ⟨rfl, mid_end hm k1 k2 (few_flush h4 ok)⟩
  have HEnd : Hid (∀ w', Two5 w0 X w' c b cr r (n + 64) (flushC ch d).2.1 (flushC ch d).2.2 → Turn w0 No X wA w' → Done5 w0 w Q c b cr r n w') := fun w' k1 k2 =>
    ⟨⟨_, _, two_few (two_less k1 hXQ) (by omega)⟩, (Turn.of_below hbA).trans (Only.mono k2 (fun k _ hk => ⟨hk.1, fun hq => hk.2 (hXQ k hq)⟩))⟩
  clear h h1 h2 h3 h4 hN hbA ok hQ' hX hXq hXQ ho hk
  obtain ⟨E, hE⟩ : ∃ E, (flushC ch d).1 = E := ⟨_, rfl⟩
  rw [hE] at H1 H2
  clear hE
  go_enter Tryz.func9, Tryz.ntmps9
  go_wp2_with (first
    | (go_at_call 30; refine H1.out.mono ?_; rintro e w1 ⟨rfl, k1, k2⟩; have HK2 := hide k2; have HF2 := hide (H2.out w1 k1); clear H1 H2 k1 k2)
    | (go_at_call 31; refine HF2.out.mono ?_; rintro e w2 ⟨rfl, k3, k4⟩; have HE2 := hide (HEnd.out w2 k3 (HK2.out.trans k4)); clear HF2 k3 k4 HEnd))
  go_ret
  exact ⟨rfl, HE2.out⟩

set_option maxHeartbeats 1000000 in
theorem does_drop (h : Two5 w0 Q w c b cr r n ch d) (ho : OcOk o) (hn : n < 100000) (hk : o.dO = 6) :
    Calls Tryz.prog 9 #[dp c, dp b, dp cr, .agg (occ o).toArray] w fun e w' => e = .returned (.bool true) ∧ Done5 w0 w Q c b cr r n w' := by
  obtain ⟨wA, hwA⟩ : ∃ wA, w.alloc (.cells (occ o).toArray 38) = wA := ⟨_, rfl⟩
  have hbA : Below w.heap.size w wA := by rw [← hwA]; exact (Below.refl _ w).alloc (Nat.le_refl _) _
  have hsA : wA.heap.size = w.heap.size + 1 := by rw [← hwA]; simp
  have hN : Blk wA w.heap.size 38 (occ o) := by rw [← hwA]; exact Blk.new w _ _
  have q0 : wA.cell? ⟨w.heap.size, 0, none⟩ = some (.int .i64 o.dO) := hN.cell 0
  rw [hk] at q0
  obtain ⟨K, h1, h2, h3, h4⟩ := two_below h hbA
  have hQ' : ∀ k, (Q k ∨ (w.heap.size ≤ k ∧ k < wA.heap.size)) → k < wA.heap.size := fun k hq => h1.xlt k (.inr hq)
  have ok := h1.ok
  obtain ⟨X, hX⟩ : ∃ X : Nat → Prop, X = fun k => Q k ∨ (w.heap.size ≤ k ∧ k < wA.heap.size) := ⟨_, rfl⟩
  have hXq : X w.heap.size := by rw [hX]; exact .inr ⟨Nat.le_refl _, by omega⟩
  have hXQ : ∀ k, Q k → X k := fun k hk => by rw [hX]; exact .inl hk
  rw [← hX] at h1 h3
  have H1 : Hid (Calls Tryz.prog 32 #[dp c] wA fun e w' => e = .returned (.tuple #[]) ∧ Mid5 w0 X K w' c b cr r { ch with l := [] } d ch d ∧ Turn w0 No X wA w') := by
    refine (drop_any w0 wA No _ c b ch d h1).mono ?_
    rintro e w' ⟨rfl, k1, k2⟩
    exact ⟨rfl, mid_of k1 k2 h2 h3⟩
  have H2 : Hid (∀ wx, Mid5 w0 X K wx c b cr r { ch with l := [] } d ch d → (∃ lv, wx.cell? ⟨cr, 2, none⟩ = some lv ∧ ∃ a n cap, lv = .slice a n cap) ∧ wx.frozen? ⟨cr, 2, none⟩ = false ∧ Two5 w0 X (wx.setCell ⟨cr, 2, none⟩ (.slice none 0 0)) c b cr r n { ch with l := [] } d ∧ Turn w0 No X wx (wx.setCell ⟨cr, 2, none⟩ (.slice none 0 0))) := fun wx hm => by
    obtain ⟨k1, k2, k3, k4⟩ := hm.2.1.drop
    exact ⟨k1, k2, mid_end' hm k3 k4 (few_drop h4)⟩
  have HEnd : Hid (∀ w', Two5 w0 X w' c b cr r n { ch with l := [] } d → Turn w0 No X wA w' → Done5 w0 w Q c b cr r n w') := fun w' k1 k2 =>
    ⟨⟨_, _, two_few (two_less k1 hXQ) (by omega)⟩, (Turn.of_below hbA).trans (Only.mono k2 (fun k _ hk => ⟨hk.1, fun hq => hk.2 (hXQ k hq)⟩))⟩
  clear h h1 h2 h3 h4 hN hbA ok hQ' hX hXq hXQ ho hk
  go_enter Tryz.func9, Tryz.ntmps9
  go_wp2_with (go_at_call 32; refine H1.out.mono ?_; rintro e w1 ⟨rfl, k1, k2⟩; obtain ⟨⟨lv, e1, a, nn, cap, rfl⟩, e2, e3, e4⟩ := H2.out w1 k1; have HE2 := hide (HEnd.out _ e3 (k2.trans e4)); clear H1 H2 k1 k2 e3 e4 HEnd)
  go_ret
  exact ⟨rfl, HE2.out⟩

set_option maxHeartbeats 1000000 in
theorem does_none (h : Two5 w0 Q w c b cr r n ch d) (ho : OcOk o) (hn : n < 100000) (hk : ∀ j : Nat, j < 10 → o.dO ≠ (j : Int)) :
    Calls Tryz.prog 9 #[dp c, dp b, dp cr, .agg (occ o).toArray] w fun e w' => e = .returned (.bool true) ∧ Done5 w0 w Q c b cr r n w' := by
  obtain ⟨wA, hwA⟩ : ∃ wA, w.alloc (.cells (occ o).toArray 38) = wA := ⟨_, rfl⟩
  have hbA : Below w.heap.size w wA := by rw [← hwA]; exact (Below.refl _ w).alloc (Nat.le_refl _) _
  have hsA : wA.heap.size = w.heap.size + 1 := by rw [← hwA]; simp
  have hN : Blk wA w.heap.size 38 (occ o) := by rw [← hwA]; exact Blk.new w _ _
  have q0 : wA.cell? ⟨w.heap.size, 0, none⟩ = some (.int .i64 o.dO) := hN.cell 0
  obtain ⟨K, h1, h2, h3, h4⟩ := two_below h hbA
  have hQ' : ∀ k, (Q k ∨ (w.heap.size ≤ k ∧ k < wA.heap.size)) → k < wA.heap.size := fun k hq => h1.xlt k (.inr hq)
  have ok := h1.ok
  obtain ⟨X, hX⟩ : ∃ X : Nat → Prop, X = fun k => Q k ∨ (w.heap.size ≤ k ∧ k < wA.heap.size) := ⟨_, rfl⟩
  have hXq : X w.heap.size := by rw [hX]; exact .inr ⟨Nat.le_refl _, by omega⟩
  have hXQ : ∀ k, Q k → X k := fun k hk => by rw [hX]; exact .inl hk
  rw [← hX] at h1 h3
  have HEnd : Hid (Done5 w0 w Q c b cr r n wA) := ⟨⟨_, _, two_few (two_less ⟨K, h1, h2, h3, h4⟩ hXQ) (by omega)⟩, Turn.of_below hbA⟩
  have j0 := hk 0 (by omega)
  have j1 := hk 1 (by omega)
  have j2 := hk 2 (by omega)
  have j3 := hk 3 (by omega)
  have j4 := hk 4 (by omega)
  have j5 := hk 5 (by omega)
  have j6 := hk 6 (by omega)
  have j7 := hk 7 (by omega)
  have j8 := hk 8 (by omega)
  have j9 := hk 9 (by omega)
  obtain ⟨D, hD⟩ : ∃ D, o.dO = D := ⟨_, rfl⟩
  rw [hD] at q0 j0 j1 j2 j3 j4 j5 j6 j7 j8 j9
  have i0 : (D == 0) = false := by simpa using j0
  have i1 : (D == 1) = false := by simpa using j1
  have i2 : (D == 2) = false := by simpa using j2
  have i3 : (D == 3) = false := by simpa using j3
  have i4 : (D == 4) = false := by simpa using j4
  have i5 : (D == 5) = false := by simpa using j5
  have i6 : (D == 6) = false := by simpa using j6
  have i7 : (D == 7) = false := by simpa using j7
  have i8 : (D == 8) = false := by simpa using j8
  have i9 : (D == 9) = false := by simpa using j9
  clear h h1 h2 h3 h4 hN hbA ok hQ' hX hXq hXQ ho hk hD j0 j1 j2 j3 j4 j5 j6 j7 j8 j9
  go_enter Tryz.func9, Tryz.ntmps9
  go_wp2
  go_ret
  exact ⟨rfl, HEnd.out⟩

set_option maxHeartbeats 1000000 in
theorem does_sync (h : Two5 w0 Q w c b cr r n ch d) (ho : OcOk o) (hn : n < 100000) (hk : o.dO = 7) :
    Calls Tryz.prog 9 #[dp c, dp b, dp cr, .agg (occ o).toArray] w fun e w' => e = .returned (.bool true) ∧ Done5 w0 w Q c b cr r n w' := by
  obtain ⟨wA, hwA⟩ : ∃ wA, w.alloc (.cells (occ o).toArray 38) = wA := ⟨_, rfl⟩
  have hbA : Below w.heap.size w wA := by rw [← hwA]; exact (Below.refl _ w).alloc (Nat.le_refl _) _
  have hsA : wA.heap.size = w.heap.size + 1 := by rw [← hwA]; simp
  have hN : Blk wA w.heap.size 38 (occ o) := by rw [← hwA]; exact Blk.new w _ _
  have q0 : wA.cell? ⟨w.heap.size, 0, none⟩ = some (.int .i64 o.dO) := hN.cell 0
  rw [hk] at q0
  obtain ⟨K, h1, h2, h3, h4⟩ := two_below h hbA
  have hQ' : ∀ k, (Q k ∨ (w.heap.size ≤ k ∧ k < wA.heap.size)) → k < wA.heap.size := fun k hq => h1.xlt k (.inr hq)
  have ok := h1.ok
  obtain ⟨X, hX⟩ : ∃ X : Nat → Prop, X = fun k => Q k ∨ (w.heap.size ≤ k ∧ k < wA.heap.size) := ⟨_, rfl⟩
  have hXq : X w.heap.size := by rw [hX]; exact .inr ⟨Nat.le_refl _, by omega⟩
  have hXQ : ∀ k, Q k → X k := fun k hk => by rw [hX]; exact .inl hk
  rw [← hX] at h1 h3
  obtain ⟨G, hR, hGK, hGc, hKc, hend⟩ := refC_devs h2
  obtain ⟨B, hB⟩ : ∃ B : Nat → Prop, B = fun k => w0.heap.size ≤ k ∧ ¬ K k ∧ ¬ X k := ⟨_, rfl⟩
  have hBK : ∀ k, B k → ¬ K k := fun k hk => by rw [hB] at hk; exact hk.2.1
  have HC : Hid (∀ wx, Only (fun k => B k ∨ G k) wA wx → wx.cell? ⟨cr, 0, none⟩ = some (dp r) ∧ wx.cell? ⟨w.heap.size, 3, none⟩ = some (.int .i64 o.n)) := fun wx hx => by
    refine ⟨?_, (hN.only hx (fun hh => ?_)).cell 3⟩
    · obtain ⟨H', G', hs', lv', r1, r2, r3, r4, r5⟩ := h2
      have := r1.blk.only (hx.mono (T := fun k => k ≠ cr) (fun k _ hk e => by
        subst e
        exact hk.elim (fun hk => hBK _ hk hKc) hGc)) (fun h => h rfl)
      exact this.cell 0
    · rcases hh with hh | hh
      · rw [hB] at hh; exact hh.2.2 hXq
      · exact (h3 _ (hGK _ hh).1).2 hXq
  have H1 : Hid (∀ wx, Only (fun _ => False) wA wx → Calls Tryz.prog 33 #[dp b] wx fun e w' => e = .returned (.int .i64 (syncR d).1) ∧ Duos w0 No (fun k => K k ∨ X k) w' c b ch (syncR d).2 ∧ Only B wx w') := fun wx hx => by
    obtain ⟨G1, hDx, hG1, hcl⟩ := duos_devs w0 wx No _ c b ch d (h1.keep hx (fun _ h => h.elim) (fun _ _ h => h.elim))
    refine (sync_all wx b G1 d hDx (by have := h4.done; omega)).mono ?_
    rintro e w' ⟨rfl, k1, k2⟩
    obtain ⟨k3, k4⟩ := hcl w' _ k1 k2 (sized_sync (sized_of h4)).1
    exact ⟨rfl, k3, Only.mono k4 (fun k _ hk => by
      rw [hB]
      exact ⟨hk.1.elim (fun h => h.elim) id, fun h => hk.2 (.inl h), fun h => hk.2 (.inr h)⟩)⟩
  have H2 : Hid (∀ wx, Only B wA wx → Duos w0 No (fun k => K k ∨ X k) wx c b ch (syncR d).2 → Calls Tryz.prog 34 #[dp r] wx fun e w' => e = .returned (.int .i64 (syncR d).1) ∧ (Two5 w0 X w' c b cr r (n + 1) ch (syncR d).2 ∧ Turn w0 No X wA w') ∧ Only G wx w') := fun wx hx hd => by
    have hRC : RefC wx cr r K ch d := h2.keep hx (fun k hk hb => hBK k hb hk)
    have hRx : Ref wx r G d := hR.keep hx (fun k hk hb => hBK k hb (hGK k hk).1)
    refine (refSync_all wx r G d hRx (by have := h4.done; omega)).mono ?_
    rintro e w' ⟨rfl, k1, k2⟩
    have hRC' : RefC w' cr r (fun j => K j ∨ wx.heap.size ≤ j) ch (syncR d).2 := hend B wx hx (fun k hk hb => hBK k hb hk) w' _ (k1.mono (fun _ _ h => .inl h)) k2
    obtain ⟨m1, m2⟩ := mid_end (n := n + 1) (⟨hd, hRC, h3⟩ : Mid5 w0 X K wx c b cr r _ _ ch d) hRC' (k2.mono (fun j _ hg => (hGK j hg).1)) (few_sized h4 (sized_sync (sized_of h4)))
    exact ⟨rfl, ⟨m1, Turn.trans (hx.mono (fun k _ hk => by rw [hB] at hk; exact ⟨.inr hk.1, hk.2.2⟩)) m2⟩, k2⟩
  have HEnd : Hid (∀ w', Two5 w0 X w' c b cr r (n + 1) ch (syncR d).2 → Turn w0 No X wA w' → Done5 w0 w Q c b cr r n w') := fun w' k1 k2 =>
    ⟨⟨_, _, two_few (two_less k1 hXQ) (by omega)⟩, (Turn.of_below hbA).trans (Only.mono k2 (fun k _ hk => ⟨hk.1, fun hq => hk.2 (hXQ k hq)⟩))⟩
  have HK0 : Hid (∀ k, G k → K k ∧ w0.heap.size ≤ k) := fun k hk => ⟨(hGK k hk).1, (h3 k (hGK k hk).1).1⟩
  clear h h1 h2 h3 h4 hN hbA ok hQ' hX hXq hXQ hB ho hk hR hGK hGc hKc hend hBK
  obtain ⟨E, hE⟩ : ∃ E, (syncR d).1 = E := ⟨_, rfl⟩
  obtain ⟨d', hd'⟩ : ∃ d', (syncR d).2 = d' := ⟨_, rfl⟩
  rw [hE, hd'] at H1 H2
  rw [hd'] at HEnd
  clear hE hd'
  go_enter Tryz.func9, Tryz.ntmps9
  go_wp2
  refine wp_region_seq (two 1 6 B G) [isV (.pointer (some ⟨b, 0, none⟩)), isQ E (fun wz => Duos w0 No (fun k => K k ∨ X k) wz c b ch d'), isV (.pointer (some ⟨cr, 0, none⟩)), isV (.pointer (some ⟨cr, 0, none⟩)), isV (.pointer (some ⟨cr, 0, none⟩)), isV (dp r), isQ E (fun wz => Two5 w0 X wz c b cr r (n + 1) ch d' ∧ Turn w0 No X wA wz), isV (.bool true)] 218 8 (by kernel_rfl) (by kernel_rfl) (by kernel_rfl) (by kernel_rfl) rfl ?_ ?_ ?_
  · repeat (first | exact trivial | refine allStD_isV ?_ | refine ⟨std_1 (stQ (fun wy wz hh hd => Duos.keep hd hh (fun k hk => .inl (.inl (HK0.out k hk).1)) (fun k hlt hk => by have := (HK0.out k hk).2; omega))), ?_⟩ | refine ⟨std_2 (by kernel_rfl) (stQ (fun wy wz hh hd => ⟨two_only hd.1 hh, Turn.trans hd.2 (Only.mono hh (fun _ _ h => h.elim))⟩)), ?_⟩)
  · refine ⟨?_, ?_, ?_, ?_, ?_, ?_, ?_, ?_, trivial⟩
    · intro a wx h
      have e1 : a.eval (.tmp 1) = .pointer (some ⟨b, 0, none⟩) := h.old 1 (by kernel_rfl)
      have hrel := two_all h.rel
      clear h
      refine gives_by rfl a.eval rfl ?_
      generalize a.eval = ρ at *
      intro hf hc
      go_simp
      exact ⟨Only.refl _ _, rfl⟩
    · intro a wx h
      obtain ⟨v174, e174, f174⟩ := h.val 0 174 (by kernel_rfl)
      obtain rfl : v174 = .pointer (some ⟨b, 0, none⟩) := f174
      have hrel := seq_1 (m2 := 6) (by kernel_rfl) h.relq
      clear h
      refine gives_by rfl a.eval rfl ?_
      generalize a.eval = ρ at *
      intro hf hc
      go_simp
      refine (H1.out wx hrel).mono ?_
      rintro e wy ⟨rfl, hd, ho⟩
      exact ⟨_, rfl, of_1 ho, rfl, hd⟩
    · intro a wx h
      have e2 : a.eval (.tmp 2) = .pointer (some ⟨cr, 0, none⟩) := h.old 2 (by kernel_rfl)
      have hrel := two_all h.rel
      clear h
      refine gives_by rfl a.eval rfl ?_
      generalize a.eval = ρ at *
      intro hf hc
      go_simp
      exact ⟨Only.refl _ _, rfl⟩
    · intro a wx h
      obtain ⟨v176, e176, f176⟩ := h.val 2 176 (by kernel_rfl)
      obtain rfl : v176 = .pointer (some ⟨cr, 0, none⟩) := f176
      have hrel := two_all h.rel
      clear h
      refine gives_by rfl a.eval rfl ?_
      generalize a.eval = ρ at *
      intro hf hc
      go_simp
      exact ⟨Only.refl _ _, rfl⟩
    · intro a wx h
      obtain ⟨v177, e177, f177⟩ := h.val 3 177 (by kernel_rfl)
      obtain rfl : v177 = .pointer (some ⟨cr, 0, none⟩) := f177
      have hrel := two_all h.rel
      clear h
      refine gives_by rfl a.eval rfl ?_
      generalize a.eval = ρ at *
      intro hf hc
      go_simp
      exact ⟨Only.refl _ _, rfl⟩
    · intro a wx h
      obtain ⟨v178, e178, f178⟩ := h.val 4 178 (by kernel_rfl)
      obtain rfl : v178 = .pointer (some ⟨cr, 0, none⟩) := f178
      have hrel := two_all h.rel
      clear h
      have cx := (HC.out wx hrel).1
      refine gives_by rfl a.eval rfl ?_
      generalize a.eval = ρ at *
      intro hf hc
      go_simp
      exact ⟨Only.refl _ _, rfl⟩
    · intro a wx h
      obtain ⟨v179, e179, f179⟩ := h.val 5 179 (by kernel_rfl)
      obtain rfl : v179 = dp r := f179
      have hrel := seq_2 h.relq
      obtain ⟨v175, e175, f175⟩ := h.val 1 175 (by kernel_rfl)
      have hmid := f175.2
      clear h
      refine gives_by rfl a.eval rfl ?_
      generalize a.eval = ρ at *
      intro hf hc
      go_simp
      refine (H2.out wx hrel hmid).mono ?_
      rintro e wy ⟨rfl, hd, ho⟩
      exact ⟨_, rfl, of_2 ho, rfl, hd⟩
    · intro a wx h
      obtain ⟨v175, e175, f175⟩ := h.val 1 175 (by kernel_rfl)
      obtain ⟨rfl, _⟩ := f175
      obtain ⟨v180, e180, f180⟩ := h.val 6 180 (by kernel_rfl)
      obtain ⟨rfl, _⟩ := f180
      have hrel := two_all h.rel
      clear h
      refine gives_by rfl a.eval rfl ?_
      generalize a.eval = ρ at *
      intro hf hc
      go_simp
      exact ⟨Only.refl _ _, rfl⟩
  · intro oL hoL vals w3 ho3 hv
    simp only [List.getElem?_toArray, List.getElem?_cons_succ, List.getElem?_cons_zero, Option.some.injEq] at hoL
    subst hoL
    have hvm : isQ E (fun wz => Two5 w0 X wz c b cr r (n + 1) ch d' ∧ Turn w0 No X wA wz) (vals 6) w3 := hv 6 180 (by decide) (by kernel_rfl)
    have hvl : vals 7 = .bool true := hv 7 181 (by decide) (by kernel_rfl)
    clear hv
    generalize hact : putAll _ vals 0 _ = act
    have HE2 := hide (HEnd.out w3 hvm.2.1 hvm.2.2)
    clear hvm ho3
    subst hact
    simp only [List.dropLast, putAll, Act.put, List.setIfInBounds_toArray, List.set_cons_zero, List.set_cons_succ, hvl, Nat.zero_add, Nat.reduceAdd]
    refine gives_of_run rfl (exec_assign (.tmp 181) rfl (.bool true) rfl) ?_
    clear hvl
    go_wp2
    go_ret
    exact ⟨rfl, HE2.out⟩

set_option maxHeartbeats 1000000 in
theorem does_arm (h : Two5 w0 Q w c b cr r n ch d) (ho : OcOk o) (hn : n < 100000) (hk : o.dO = 8) :
    Calls Tryz.prog 9 #[dp c, dp b, dp cr, .agg (occ o).toArray] w fun e w' => e = .returned (.bool true) ∧ Done5 w0 w Q c b cr r n w' := by
  obtain ⟨wA, hwA⟩ : ∃ wA, w.alloc (.cells (occ o).toArray 38) = wA := ⟨_, rfl⟩
  have hbA : Below w.heap.size w wA := by rw [← hwA]; exact (Below.refl _ w).alloc (Nat.le_refl _) _
  have hsA : wA.heap.size = w.heap.size + 1 := by rw [← hwA]; simp
  have hN : Blk wA w.heap.size 38 (occ o) := by rw [← hwA]; exact Blk.new w _ _
  have q0 : wA.cell? ⟨w.heap.size, 0, none⟩ = some (.int .i64 o.dO) := hN.cell 0
  rw [hk] at q0
  obtain ⟨K, h1, h2, h3, h4⟩ := two_below h hbA
  have hQ' : ∀ k, (Q k ∨ (w.heap.size ≤ k ∧ k < wA.heap.size)) → k < wA.heap.size := fun k hq => h1.xlt k (.inr hq)
  have ok := h1.ok
  obtain ⟨X, hX⟩ : ∃ X : Nat → Prop, X = fun k => Q k ∨ (w.heap.size ≤ k ∧ k < wA.heap.size) := ⟨_, rfl⟩
  have hXq : X w.heap.size := by rw [hX]; exact .inr ⟨Nat.le_refl _, by omega⟩
  have hXQ : ∀ k, Q k → X k := fun k hk => by rw [hX]; exact .inl hk
  rw [← hX] at h1 h3
  obtain ⟨G, hR, hGK, hGc, hKc, hend⟩ := refC_devs h2
  obtain ⟨B, hB⟩ : ∃ B : Nat → Prop, B = fun k => w0.heap.size ≤ k ∧ ¬ K k ∧ ¬ X k := ⟨_, rfl⟩
  have hBK : ∀ k, B k → ¬ K k := fun k hk => by rw [hB] at hk; exact hk.2.1
  have HC : Hid (∀ wx, Only (fun k => B k ∨ G k) wA wx → wx.cell? ⟨cr, 0, none⟩ = some (dp r) ∧ wx.cell? ⟨w.heap.size, 3, none⟩ = some (.int .i64 o.n)) := fun wx hx => by
    refine ⟨?_, (hN.only hx (fun hh => ?_)).cell 3⟩
    · obtain ⟨H', G', hs', lv', r1, r2, r3, r4, r5⟩ := h2
      have := r1.blk.only (hx.mono (T := fun k => k ≠ cr) (fun k _ hk e => by
        subst e
        exact hk.elim (fun hk => hBK _ hk hKc) hGc)) (fun h => h rfl)
      exact this.cell 0
    · rcases hh with hh | hh
      · rw [hB] at hh; exact hh.2.2 hXq
      · exact (h3 _ (hGK _ hh).1).2 hXq
  have H1 : Hid (∀ wx, Only (fun _ => False) wA wx → Calls Tryz.prog 35 #[dp b, .int .i64 o.n] wx fun e w' => e = .returned (.int .i64 (armR d o.n).1) ∧ Duos w0 No (fun k => K k ∨ X k) w' c b ch (armR d o.n).2 ∧ Only B wx w') := fun wx hx => by
    obtain ⟨G1, hDx, hG1, hcl⟩ := duos_devs w0 wx No _ c b ch d (h1.keep hx (fun _ h => h.elim) (fun _ _ h => h.elim))
    refine (arm_all wx b G1 d o.n hDx (bounds_i64 ho.hn).2).mono ?_
    rintro e w' ⟨rfl, k1, k2⟩
    obtain ⟨k3, k4⟩ := hcl w' _ k1 k2 (sized_arm (sized_of h4) o.n).1
    exact ⟨rfl, k3, Only.mono k4 (fun k _ hk => by
      rw [hB]
      exact ⟨hk.1.elim (fun h => h.elim) id, fun h => hk.2 (.inl h), fun h => hk.2 (.inr h)⟩)⟩
  have H2 : Hid (∀ wx, Only B wA wx → Duos w0 No (fun k => K k ∨ X k) wx c b ch (armR d o.n).2 → Calls Tryz.prog 36 #[dp r, .int .i64 o.n] wx fun e w' => e = .returned (.int .i64 (armR d o.n).1) ∧ (Two5 w0 X w' c b cr r (n + 1) ch (armR d o.n).2 ∧ Turn w0 No X wA w') ∧ Only G wx w') := fun wx hx hd => by
    have hRC : RefC wx cr r K ch d := h2.keep hx (fun k hk hb => hBK k hb hk)
    have hRx : Ref wx r G d := hR.keep hx (fun k hk hb => hBK k hb (hGK k hk).1)
    refine (refArm_all wx r G d o.n hRx (bounds_i64 ho.hn).2).mono ?_
    rintro e w' ⟨rfl, k1, k2⟩
    have hRC' : RefC w' cr r (fun j => K j ∨ wx.heap.size ≤ j) ch (armR d o.n).2 := hend B wx hx (fun k hk hb => hBK k hb hk) w' _ (k1.mono (fun _ _ h => .inl h)) k2
    obtain ⟨m1, m2⟩ := mid_end (n := n + 1) (⟨hd, hRC, h3⟩ : Mid5 w0 X K wx c b cr r _ _ ch d) hRC' (k2.mono (fun j _ hg => (hGK j hg).1)) (few_sized h4 (sized_arm (sized_of h4) o.n))
    exact ⟨rfl, ⟨m1, Turn.trans (hx.mono (fun k _ hk => by rw [hB] at hk; exact ⟨.inr hk.1, hk.2.2⟩)) m2⟩, k2⟩
  have HEnd : Hid (∀ w', Two5 w0 X w' c b cr r (n + 1) ch (armR d o.n).2 → Turn w0 No X wA w' → Done5 w0 w Q c b cr r n w') := fun w' k1 k2 =>
    ⟨⟨_, _, two_few (two_less k1 hXQ) (by omega)⟩, (Turn.of_below hbA).trans (Only.mono k2 (fun k _ hk => ⟨hk.1, fun hq => hk.2 (hXQ k hq)⟩))⟩
  have HK0 : Hid (∀ k, G k → K k ∧ w0.heap.size ≤ k) := fun k hk => ⟨(hGK k hk).1, (h3 k (hGK k hk).1).1⟩
  clear h h1 h2 h3 h4 hN hbA ok hQ' hX hXq hXQ hB ho hk hR hGK hGc hKc hend hBK
  obtain ⟨E, hE⟩ : ∃ E, (armR d o.n).1 = E := ⟨_, rfl⟩
  obtain ⟨d', hd'⟩ : ∃ d', (armR d o.n).2 = d' := ⟨_, rfl⟩
  rw [hE, hd'] at H1 H2
  rw [hd'] at HEnd
  clear hE hd'
  go_enter Tryz.func9, Tryz.ntmps9
  go_wp2
  refine wp_region_seq (two 3 10 B G) [isV (.pointer (some ⟨b, 0, none⟩)), isV (.pointer (some ⟨w.heap.size, 3, none⟩)), isV (.int .i64 o.n), isQ E (fun wz => Duos w0 No (fun k => K k ∨ X k) wz c b ch d'), isV (.pointer (some ⟨cr, 0, none⟩)), isV (.pointer (some ⟨cr, 0, none⟩)), isV (.pointer (some ⟨cr, 0, none⟩)), isV (dp r), isV (.pointer (some ⟨w.heap.size, 3, none⟩)), isV (.int .i64 o.n), isQ E (fun wz => Two5 w0 X wz c b cr r (n + 1) ch d' ∧ Turn w0 No X wA wz), isV (.bool true)] 218 12 (by kernel_rfl) (by kernel_rfl) (by kernel_rfl) (by kernel_rfl) rfl ?_ ?_ ?_
  · repeat (first | exact trivial | refine allStD_isV ?_ | refine ⟨std_1 (stQ (fun wy wz hh hd => Duos.keep hd hh (fun k hk => .inl (.inl (HK0.out k hk).1)) (fun k hlt hk => by have := (HK0.out k hk).2; omega))), ?_⟩ | refine ⟨std_2 (by kernel_rfl) (stQ (fun wy wz hh hd => ⟨two_only hd.1 hh, Turn.trans hd.2 (Only.mono hh (fun _ _ h => h.elim))⟩)), ?_⟩)
  · refine ⟨?_, ?_, ?_, ?_, ?_, ?_, ?_, ?_, ?_, ?_, ?_, ?_, trivial⟩
    · intro a wx h
      have e1 : a.eval (.tmp 1) = .pointer (some ⟨b, 0, none⟩) := h.old 1 (by kernel_rfl)
      have hrel := two_all h.rel
      clear h
      refine gives_by rfl a.eval rfl ?_
      generalize a.eval = ρ at *
      intro hf hc
      go_simp
      exact ⟨Only.refl _ _, rfl⟩
    · intro a wx h
      have e7 : a.eval (.tmp 7) = .pointer (some ⟨w.heap.size, 0, none⟩) := h.old 7 (by kernel_rfl)
      have hrel := two_all h.rel
      clear h
      refine gives_by rfl a.eval rfl ?_
      generalize a.eval = ρ at *
      intro hf hc
      go_simp
      exact ⟨Only.refl _ _, rfl⟩
    · intro a wx h
      obtain ⟨v185, e185, f185⟩ := h.val 1 185 (by kernel_rfl)
      obtain rfl : v185 = .pointer (some ⟨w.heap.size, 3, none⟩) := f185
      have hrel := two_all h.rel
      clear h
      have cx := (HC.out wx hrel).2
      refine gives_by rfl a.eval rfl ?_
      generalize a.eval = ρ at *
      intro hf hc
      go_simp
      exact ⟨Only.refl _ _, rfl⟩
    · intro a wx h
      obtain ⟨v184, e184, f184⟩ := h.val 0 184 (by kernel_rfl)
      obtain rfl : v184 = .pointer (some ⟨b, 0, none⟩) := f184
      obtain ⟨v186, e186, f186⟩ := h.val 2 186 (by kernel_rfl)
      obtain rfl : v186 = .int .i64 o.n := f186
      have hrel := seq_1 (m2 := 10) (by kernel_rfl) h.relq
      clear h
      refine gives_by rfl a.eval rfl ?_
      generalize a.eval = ρ at *
      intro hf hc
      go_simp
      refine (H1.out wx hrel).mono ?_
      rintro e wy ⟨rfl, hd, ho⟩
      exact ⟨_, rfl, of_1 ho, rfl, hd⟩
    · intro a wx h
      have e2 : a.eval (.tmp 2) = .pointer (some ⟨cr, 0, none⟩) := h.old 2 (by kernel_rfl)
      have hrel := two_all h.rel
      clear h
      refine gives_by rfl a.eval rfl ?_
      generalize a.eval = ρ at *
      intro hf hc
      go_simp
      exact ⟨Only.refl _ _, rfl⟩
    · intro a wx h
      obtain ⟨v188, e188, f188⟩ := h.val 4 188 (by kernel_rfl)
      obtain rfl : v188 = .pointer (some ⟨cr, 0, none⟩) := f188
      have hrel := two_all h.rel
      clear h
      refine gives_by rfl a.eval rfl ?_
      generalize a.eval = ρ at *
      intro hf hc
      go_simp
      exact ⟨Only.refl _ _, rfl⟩
    · intro a wx h
      obtain ⟨v189, e189, f189⟩ := h.val 5 189 (by kernel_rfl)
      obtain rfl : v189 = .pointer (some ⟨cr, 0, none⟩) := f189
      have hrel := two_all h.rel
      clear h
      refine gives_by rfl a.eval rfl ?_
      generalize a.eval = ρ at *
      intro hf hc
      go_simp
      exact ⟨Only.refl _ _, rfl⟩
    · intro a wx h
      obtain ⟨v190, e190, f190⟩ := h.val 6 190 (by kernel_rfl)
      obtain rfl : v190 = .pointer (some ⟨cr, 0, none⟩) := f190
      have hrel := two_all h.rel
      clear h
      have cx := (HC.out wx hrel).1
      refine gives_by rfl a.eval rfl ?_
      generalize a.eval = ρ at *
      intro hf hc
      go_simp
      exact ⟨Only.refl _ _, rfl⟩
    · intro a wx h
      have e7 : a.eval (.tmp 7) = .pointer (some ⟨w.heap.size, 0, none⟩) := h.old 7 (by kernel_rfl)
      have hrel := two_all h.rel
      clear h
      refine gives_by rfl a.eval rfl ?_
      generalize a.eval = ρ at *
      intro hf hc
      go_simp
      exact ⟨Only.refl _ _, rfl⟩
    · intro a wx h
      obtain ⟨v192, e192, f192⟩ := h.val 8 192 (by kernel_rfl)
      obtain rfl : v192 = .pointer (some ⟨w.heap.size, 3, none⟩) := f192
      have hrel := two_all h.rel
      clear h
      have cx := (HC.out wx hrel).2
      refine gives_by rfl a.eval rfl ?_
      generalize a.eval = ρ at *
      intro hf hc
      go_simp
      exact ⟨Only.refl _ _, rfl⟩
    · intro a wx h
      obtain ⟨v191, e191, f191⟩ := h.val 7 191 (by kernel_rfl)
      obtain rfl : v191 = dp r := f191
      obtain ⟨v193, e193, f193⟩ := h.val 9 193 (by kernel_rfl)
      obtain rfl : v193 = .int .i64 o.n := f193
      have hrel := seq_2 h.relq
      obtain ⟨v187, e187, f187⟩ := h.val 3 187 (by kernel_rfl)
      have hmid := f187.2
      clear h
      refine gives_by rfl a.eval rfl ?_
      generalize a.eval = ρ at *
      intro hf hc
      go_simp
      refine (H2.out wx hrel hmid).mono ?_
      rintro e wy ⟨rfl, hd, ho⟩
      exact ⟨_, rfl, of_2 ho, rfl, hd⟩
    · intro a wx h
      obtain ⟨v187, e187, f187⟩ := h.val 3 187 (by kernel_rfl)
      obtain ⟨rfl, _⟩ := f187
      obtain ⟨v194, e194, f194⟩ := h.val 10 194 (by kernel_rfl)
      obtain ⟨rfl, _⟩ := f194
      have hrel := two_all h.rel
      clear h
      refine gives_by rfl a.eval rfl ?_
      generalize a.eval = ρ at *
      intro hf hc
      go_simp
      exact ⟨Only.refl _ _, rfl⟩
  · intro oL hoL vals w3 ho3 hv
    simp only [List.getElem?_toArray, List.getElem?_cons_succ, List.getElem?_cons_zero, Option.some.injEq] at hoL
    subst hoL
    have hvm : isQ E (fun wz => Two5 w0 X wz c b cr r (n + 1) ch d' ∧ Turn w0 No X wA wz) (vals 10) w3 := hv 10 194 (by decide) (by kernel_rfl)
    have hvl : vals 11 = .bool true := hv 11 195 (by decide) (by kernel_rfl)
    clear hv
    generalize hact : putAll _ vals 0 _ = act
    have HE2 := hide (HEnd.out w3 hvm.2.1 hvm.2.2)
    clear hvm ho3
    subst hact
    simp only [List.dropLast, putAll, Act.put, List.setIfInBounds_toArray, List.set_cons_zero, List.set_cons_succ, hvl, Nat.zero_add, Nat.reduceAdd]
    refine gives_of_run rfl (exec_assign (.tmp 195) rfl (.bool true) rfl) ?_
    clear hvl
    go_wp2
    go_ret
    exact ⟨rfl, HE2.out⟩

end

end Go.Proofs.YtoplhehcjgldeaaGreat
