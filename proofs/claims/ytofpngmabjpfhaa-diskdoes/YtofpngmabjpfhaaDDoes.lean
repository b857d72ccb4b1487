/- Contract: does, by the kinds of acts. -/
import Derived.Test.YtofpngmabjpfhaaDAll
namespace Go.Proofs.Ytofpngmabjpfhaa
open Go.RowKit
set_option linter.unusedVariables false

/-- both devices hold the same -/
def Both (w0 w : World) (b r n c : Nat) : Prop := ∃ (d : Dv) (F G : Nat → Prop), Dev w b F d ∧ Ref w r G d ∧ (∀ k, F k → ¬ G k) ∧ (∀ k, F k → w0.heap.size ≤ k ∧ k < w.heap.size) ∧ (∀ k, G k → w0.heap.size ≤ k ∧ k < w.heap.size) ∧ Below w0.heap.size w0 w ∧ Sized n c d
theorem both_of {w0 w w' : World} {b r n c : Nat} {F G : Nat → Prop} {d : Dv} (h1 : Dev w' b (fun k => F k ∨ w.heap.size ≤ k) d) (h2 : Ref w' r G d) (h3 : ∀ k, F k → ¬ G k) (h4 : ∀ k, F k → w0.heap.size ≤ k) (h5 : ∀ k, G k → w0.heap.size ≤ k ∧ k < w.heap.size) (h6 : Below w0.heap.size w0 w') (h7 : Sized n c d) (hw : w0.heap.size ≤ w.heap.size) : Both w0 w' b r n c :=
  ⟨d, _, _, h1.bound, h2.bound, fun k hk hg => by
    rcases hk.1 with h | h
    · exact h3 k h hg.1
    · have := (h5 k hg.1).2; omega, fun k hk => ⟨by
      rcases hk.1 with h | h
      · exact h4 k h
      · omega, hk.2⟩, fun k hk => ⟨(h5 k hk.1).1, hk.2⟩, h6, h7⟩

theorem both_mk {w0 w' : World} {b r n c : Nat} {F G : Nat → Prop} {d : Dv} (h1 : Dev w' b F d) (h2 : Ref w' r G d) (h3 : ∀ k, F k → ¬ G k) (h4 : ∀ k, F k → w0.heap.size ≤ k) (h5 : ∀ k, G k → w0.heap.size ≤ k) (h6 : Below w0.heap.size w0 w') (h7 : Sized n c d) : Both w0 w' b r n c :=
  ⟨d, _, _, h1.bound, h2.bound, fun k hk hg => h3 k hk.1 hg.1, fun k hk => ⟨h4 k hk.1, hk.2⟩, fun k hk => ⟨h5 k hk.1, hk.2⟩, h6, h7⟩

theorem sl_low {w0 : World} {v : Value} {zs : List Int} (h : Sl w0 v zs) (hne : zs ≠ []) {k : Nat} (hk : v.ownBlock = some k) : k < w0.heap.size := by
  obtain ⟨_, ao', cap', rfl, _, _, _, h4⟩ := h
  obtain ⟨gb, go, rfl, hc⟩ := h4 hne
  simp [Value.ownBlock] at hk
  subst hk
  exact World.block_lt_of_cell? w0 _ (hc 0 (List.length_pos_iff.2 hne))

/-! ### apart by the types of their blocks -/
def DevT (w : World) (k : Nat) : Prop := (∃ e cs, Blk w k e cs ∧ (e = 61 ∨ e = 73 ∨ e = 76)) ∨ ∃ es clock, w.heap[k]? = some (.map es clock)
def RefT (w : World) (k : Nat) : Prop := ∃ e cs, Blk w k e cs ∧ (e = 68 ∨ e = 33 ∨ e = 82 ∨ e = 5)
theorem apartT {w : World} {k : Nat} (h1 : DevT w k) (h2 : RefT w k) : False := by
  obtain ⟨f, ds, hf, hf'⟩ := h2
  rcases h1 with ⟨e, cs, he, he'⟩ | ⟨es, cl, he⟩
  · have : e ≠ f := by
      rcases he' with rfl | rfl | rfl <;> rcases hf' with rfl | rfl | rfl | rfl <;> decide
    exact he.ne hf this rfl
  · have := he.symm.trans hf
    simp at this
theorem Dev.typed {w : World} {b : Nat} {F : Nat → Prop} {d : Dv} (h : Dev w b F d) : Dev w b (fun k => F k ∧ DevT w k) d := by
  obtain ⟨sb, cap, mb, vw, lf, D, h⟩ := h
  refine ⟨sb, cap, mb, vw, lf, D, h.ok, h.blk, h.lf, h.st, h.ws, h.map, h.shown, ⟨h.fb, .inl ⟨_, _, h.blk, .inl rfl⟩⟩, ⟨h.fs, ?_⟩, ⟨h.fm, ?_⟩, fun k hk => ⟨h.fw k hk, ?_⟩⟩
  · obtain ⟨cs, hc⟩ := own_typed h.st (k := sb) rfl
    exact .inl ⟨_, cs, hc, .inr (.inl rfl)⟩
  · right
    obtain ⟨es, cl, he, _⟩ := h.map
    exact ⟨es, cl, he⟩
  · obtain ⟨cs, hc⟩ := own_typed h.ws hk
    exact .inl ⟨_, cs, hc, .inr (.inr rfl)⟩
theorem Ref.typed {w : World} {r : Nat} {G : Nat → Prop} {d : Dv} (h : Ref w r G d) : Ref w r (fun k => G k ∧ RefT w k) d := by
  obtain ⟨sv, wv, svs, wvs, h⟩ := h
  refine ⟨sv, wv, svs, wvs, h.ok, h.blk, h.st, h.ws, h.wl, fun i v hv => ⟨(h.rows i v hv).1, fun k hk => ⟨(h.rows i v hv).2 k hk, ?_⟩⟩, fun i v hv => ⟨(h.wrs i v hv).1, fun k hk => ⟨(h.wrs i v hv).2 k hk, ?_⟩⟩, ⟨h.fr, ⟨_, _, h.blk, .inl rfl⟩⟩, fun k hk => ⟨h.fs k hk, ?_⟩, fun k hk => ⟨h.fw k hk, ?_⟩⟩
  · obtain ⟨cs, hc⟩ := own_typed (h.rows i v hv).1 hk
    exact ⟨_, cs, hc, .inr (.inr (.inr rfl))⟩
  · obtain ⟨cs, hc⟩ := own_typed (h.wrs i v hv).1 hk
    exact ⟨_, cs, hc, .inr (.inr (.inr rfl))⟩
  · obtain ⟨cs, hc⟩ := own_typed h.st hk
    exact ⟨_, cs, hc, .inr (.inl rfl)⟩
  · obtain ⟨cs, hc⟩ := own_typed h.ws hk
    exact ⟨_, cs, hc, .inr (.inr (.inl rfl))⟩
theorem devT_op {w : World} {q : Nat} {cs : List Value} (hq : Blk w q 35 cs) (h : DevT w q) : False := by
  rcases h with ⟨e, ds, he, he'⟩ | ⟨es, cl, he⟩
  · have : e ≠ 35 := by rcases he' with rfl | rfl | rfl <;> decide
    exact he.ne hq this rfl
  · have := he.symm.trans hq
    simp at this
theorem refT_op {w : World} {q : Nat} {cs : List Value} (hq : Blk w q 35 cs) (h : RefT w q) : False := by
  obtain ⟨e, ds, he, he'⟩ := h
  have : e ≠ 35 := by rcases he' with rfl | rfl | rfl | rfl <;> decide
  exact he.ne hq this rfl
theorem both_open {w0 w : World} {b r n c q : Nat} {cs : List Value} (h : Both w0 w b r n c) (hq : Blk w q 35 cs) : ∃ (d : Dv) (F G : Nat → Prop), Dev w b F d ∧ Ref w r G d ∧ (∀ k, F k → ¬ G k) ∧ (∀ k, F k → w0.heap.size ≤ k ∧ k < w.heap.size) ∧ (∀ k, G k → w0.heap.size ≤ k ∧ k < w.heap.size) ∧ Below w0.heap.size w0 w ∧ Sized n c d ∧ ¬ F q ∧ ¬ G q := by
  obtain ⟨d, F, G, h1, h2, h3, h4, h5, h6, h7⟩ := h
  exact ⟨d, _, _, h1.typed, h2.typed, fun k hf hg => h3 k hf.1 hg.1, fun k hf => h4 k hf.1, fun k hg => h5 k hg.1, h6, h7, fun h => devT_op hq h.2, fun h => refT_op hq h.2⟩

set_option maxHeartbeats 1000000 in
set_option maxRecDepth 20000 in
theorem does_sync (w0 w : World) (b r n c q : Nat) (cs : List Value) (o : OpA) (hB : Both w0 w b r n c) (hq : Blk w q 35 cs) (ho : OpOk w0 o) (hc : c ≤ 1000) (hk : o.dO = 2) :
    Calls Try.prog 12 #[dp b, dp r, .agg (opc o).toArray] w fun e w' => e = .returned (.bool true) ∧ Both w0 w' b r n (c + 1) ∧ Blk w' q 35 cs := by
  obtain ⟨d, F, G, hD, hR, hFG, hF, hG, hW, hS, hnF, hnG⟩ := both_open hB hq
  have hqs := hq.lt
  have hbA : Below w.heap.size w (w.alloc (.cells (opc o).toArray 35)) := (Below.refl _ w).alloc (Nat.le_refl _) _
  have hN := Blk.new w 35 (opc o)
  have q0 : (w.alloc (.cells (opc o).toArray 35)).cell? ⟨w.heap.size, 0, none⟩ = some (.int .i64 o.dO) := Blk.cell hN 0
  rw [hk] at q0
  have H1 := hide (sync_all _ b F d (hD.below hbA) (by have := hS.2.2; omega))
  have H2 : Hid (∀ w1, Only F (w.alloc (.cells (opc o).toArray 35)) w1 → Calls Try.prog 32 #[dp r] w1 _) := fun w1 h1 => refSync_all w1 r G d ((hR.below hbA).keep h1 (fun k hg hf => hFG k hf hg)) (by have := hS.2.2; omega)
  have HEnd : Hid (∀ w1 w2, Only F (w.alloc (.cells (opc o).toArray 35)) w1 → Dev w1 b F (syncR d).2 → Only G w1 w2 → Ref w2 r G (syncR d).2 → Both w0 w2 b r n (c + 1) ∧ Blk w2 q 35 cs) := fun w1 w2 h1 d1 h2 d2 => by
    have hs1 := h1.size
    have hs2 := h2.size
    have hWA : Below w0.heap.size w0 (w.alloc (.cells (opc o).toArray 35)) := below_then hW hbA (Nat.le_refl _)
    have hW1 := hWA.trans (h1.below hWA.size (fun k hk h => by have := hF k h; omega))
    have hW2 := hW1.trans (h2.below hW1.size (fun k hk h => by have := hG k h; omega))
    exact ⟨both_of (w := w) ((d1.keep h2 (fun k hf hg => hFG k hf hg)).mono (fun k _ h => .inl h)) d2 hFG (fun k h => (hF k h).1) hG hW2 (sized_sync hS) hW.size, ((hq.below hbA hq.lt).only h1 hnF).only h2 hnG⟩
  clear hD hR hFG hF hG hW hS hbA hN
  generalize (syncR d).1 = E at H1 H2
  go_enter Try.func12, Try.ntmps12
  go_wp2_with (first
    | (go_at_call 22; refine H1.out.mono ?_; rintro e w1 ⟨rfl, hd1, ho1⟩; have HD1 := hide hd1; have HO1 := hide ho1; clear H1 hd1 ho1)
    | (go_at_call 32; refine (H2.out w1 HO1.out).mono ?_; rintro e w2 ⟨rfl, hd2, ho2⟩; have HD2 := hide hd2; have HO2 := hide ho2; clear H2 hd2 ho2))
  go_ret
  exact ⟨rfl, HEnd.out w1 w2 HO1.out HD1.out HO2.out HD2.out⟩

set_option maxHeartbeats 1000000 in
set_option maxRecDepth 20000 in
theorem does_calm (w0 w : World) (b r n c q : Nat) (cs : List Value) (o : OpA) (hB : Both w0 w b r n c) (hq : Blk w q 35 cs) (ho : OpOk w0 o) (hc : c ≤ 1000) (hk : o.dO = 4) :
    Calls Try.prog 12 #[dp b, dp r, .agg (opc o).toArray] w fun e w' => e = .returned (.bool true) ∧ Both w0 w' b r n (c + 1) ∧ Blk w' q 35 cs := by
  obtain ⟨d, F, G, hD, hR, hFG, hF, hG, hW, hS, hnF, hnG⟩ := both_open hB hq
  have hqs := hq.lt
  have hbA : Below w.heap.size w (w.alloc (.cells (opc o).toArray 35)) := (Below.refl _ w).alloc (Nat.le_refl _) _
  have hN := Blk.new w 35 (opc o)
  have q0 : (w.alloc (.cells (opc o).toArray 35)).cell? ⟨w.heap.size, 0, none⟩ = some (.int .i64 o.dO) := Blk.cell hN 0
  rw [hk] at q0
  have H1 := hide (calm_all _ b F d (hD.below hbA))
  have H2 : Hid (∀ w1, Only F (w.alloc (.cells (opc o).toArray 35)) w1 → Calls Try.prog 34 #[dp r] w1 _) := fun w1 h1 => refCalm_all w1 r G d ((hR.below hbA).keep h1 (fun k hg hf => hFG k hf hg))
  have HEnd : Hid (∀ w1 w2, Only F (w.alloc (.cells (opc o).toArray 35)) w1 → Dev w1 b F (calmR d).2 → Only G w1 w2 → Ref w2 r G (calmR d).2 → Both w0 w2 b r n (c + 1) ∧ Blk w2 q 35 cs) := fun w1 w2 h1 d1 h2 d2 => by
    have hs1 := h1.size
    have hs2 := h2.size
    have hWA : Below w0.heap.size w0 (w.alloc (.cells (opc o).toArray 35)) := below_then hW hbA (Nat.le_refl _)
    have hW1 := hWA.trans (h1.below hWA.size (fun k hk h => by have := hF k h; omega))
    have hW2 := hW1.trans (h2.below hW1.size (fun k hk h => by have := hG k h; omega))
    exact ⟨both_of (w := w) ((d1.keep h2 (fun k hf hg => hFG k hf hg)).mono (fun k _ h => .inl h)) d2 hFG (fun k h => (hF k h).1) hG hW2 (sized_calm hS) hW.size, ((hq.below hbA hq.lt).only h1 hnF).only h2 hnG⟩
  clear hD hR hFG hF hG hW hS hbA hN
  generalize (calmR d).1 = E at H1 H2
  go_enter Try.func12, Try.ntmps12
  go_wp2_with (first
    | (go_at_call 26; refine H1.out.mono ?_; rintro e w1 ⟨rfl, hd1, ho1⟩; have HD1 := hide hd1; have HO1 := hide ho1; clear H1 hd1 ho1)
    | (go_at_call 34; refine (H2.out w1 HO1.out).mono ?_; rintro e w2 ⟨rfl, hd2, ho2⟩; have HD2 := hide hd2; have HO2 := hide ho2; clear H2 hd2 ho2))
  go_ret
  exact ⟨rfl, HEnd.out w1 w2 HO1.out HD1.out HO2.out HD2.out⟩

set_option maxHeartbeats 1000000 in
set_option maxRecDepth 20000 in
theorem does_crash (w0 w : World) (b r n c q : Nat) (cs : List Value) (o : OpA) (hB : Both w0 w b r n c) (hq : Blk w q 35 cs) (ho : OpOk w0 o) (hc : c ≤ 1000) (hk : o.dO = 5) :
    Calls Try.prog 12 #[dp b, dp r, .agg (opc o).toArray] w fun e w' => e = .returned (.bool true) ∧ Both w0 w' b r n (c + 1) ∧ Blk w' q 35 cs := by
  obtain ⟨d, F, G, hD, hR, hFG, hF, hG, hW, hS, hnF, hnG⟩ := both_open hB hq
  have hqs := hq.lt
  have hbA : Below w.heap.size w (w.alloc (.cells (opc o).toArray 35)) := (Below.refl _ w).alloc (Nat.le_refl _) _
  have hN := Blk.new w 35 (opc o)
  have q0 : (w.alloc (.cells (opc o).toArray 35)).cell? ⟨w.heap.size, 0, none⟩ = some (.int .i64 o.dO) := Blk.cell hN 0
  rw [hk] at q0
  have hWA : Below w0.heap.size w0 (w.alloc (.cells (opc o).toArray 35)) := below_then hW hbA (Nat.le_refl _)
  have hw0 := hW.size
  have q4 : (w.alloc (.cells (opc o).toArray 35)).cell? ⟨w.heap.size, 4, none⟩ = some o.kv := Blk.cell hN 4
  have hSk := ho.sk
  have hlow : o.pick ≠ [] → ∀ k, o.kv.ownBlock = some k → k < w0.heap.size := fun hne k hk => sl_low hSk hne hk
  have H1 : Hid (Calls Try.prog 35 #[dp r, o.kv] (w.alloc (.cells (opc o).toArray 35)) _) := refCrash_any _ r G d o.kv o.pick (hR.below hbA) (hSk.below hWA) (fun hne k hk hg => by have := hlow hne k hk; have := hG k hg; omega)
  have HQ : Hid (∀ w1, Only G (w.alloc (.cells (opc o).toArray 35)) w1 → w1.cell? ⟨w.heap.size, 4, none⟩ = some o.kv) := fun w1 h1 => (hN.only h1 (fun h => by have := hG _ h; omega)).cell 4
  have H2 : Hid (∀ w1, Only G (w.alloc (.cells (opc o).toArray 35)) w1 → Calls Try.prog 17 #[dp b, o.kv] w1 _) := fun w1 h1 => crash_any w1 b F d o.kv o.pick ((hD.below hbA).keep h1 (fun k hf hg => hFG k hf hg)) (hSk.below (hWA.trans (h1.below hWA.size (fun k hk h => by have := hG k h; omega)))) (fun hne k hk hf => by have := hlow hne k hk; have := hF k hf; omega)
  have HEnd : Hid (∀ w1 w2, Only G (w.alloc (.cells (opc o).toArray 35)) w1 → Ref w1 r (fun k => G k ∨ (w.alloc (.cells (opc o).toArray 35)).heap.size ≤ k) (crashD d o.pick) → Only F w1 w2 → Dev w2 b F (crashD d o.pick) → Both w0 w2 b r n (c + 1) ∧ Blk w2 q 35 cs) := fun w1 w2 h1 d1 h2 d2 => by
    have hW1 := hWA.trans (h1.below hWA.size (fun k hk h => by have := hG k h; omega))
    have hW2 := hW1.trans (h2.below hW1.size (fun k hk h => by have := hF k h; omega))
    have hsA : (w.alloc (.cells (opc o).toArray 35)).heap.size = w.heap.size + 1 := by simp
    refine ⟨both_mk d2 (d1.keep h2 (fun k hg hf => ?_)) (fun k hf hg => ?_) (fun k h => (hF k h).1) (fun k hg => ?_) hW2 (sized_crash hS o.pick), ((hq.below hbA hq.lt).only h1 hnG).only h2 hnF⟩
    · rcases hg with h | h
      · exact hFG k hf h
      · have := (hF k hf).2; omega
    · rcases hg with h | h
      · exact hFG k hf h
      · have := (hF k hf).2; omega
    · rcases hg with h | h
      · exact (hG k h).1
      · omega
  obtain ⟨ak, nk, ck, hkf⟩ := sl_form hSk
  rw [hkf] at H1 H2 HQ q4
  clear hD hR hFG hF hG hW hS hbA hN hWA hlow hSk hkf
  go_enter Try.func12, Try.ntmps12
  go_wp2_with (first
    | (go_at_call 35; refine H1.out.mono ?_; rintro e w1 ⟨rfl, hd1, ho1⟩; have HD1 := hide hd1; have HO1 := hide ho1; have q41 := HQ.out w1 ho1; clear H1 hd1 ho1)
    | (go_at_call 17; refine (H2.out w1 HO1.out).mono ?_; rintro e w2 ⟨rfl, hd2, ho2⟩; have HD2 := hide hd2; have HO2 := hide ho2; clear H2 hd2 ho2))
  go_ret
  exact ⟨rfl, HEnd.out w1 w2 HO1.out HD1.out HO2.out HD2.out⟩

set_option maxHeartbeats 1000000 in
set_option maxRecDepth 20000 in
theorem does_none (w0 w : World) (b r n c q : Nat) (cs : List Value) (o : OpA) (hB : Both w0 w b r n c) (hq : Blk w q 35 cs) (ho : OpOk w0 o) (hc : c ≤ 1000) (hk : ∀ j : Nat, j < 7 → o.dO ≠ (j : Int)) :
    Calls Try.prog 12 #[dp b, dp r, .agg (opc o).toArray] w fun e w' => e = .returned (.bool true) ∧ Both w0 w' b r n (c + 1) ∧ Blk w' q 35 cs := by
  obtain ⟨d, F, G, hD, hR, hFG, hF, hG, hW, hS, hnF, hnG⟩ := both_open hB hq
  have hqs := hq.lt
  have hbA : Below w.heap.size w (w.alloc (.cells (opc o).toArray 35)) := (Below.refl _ w).alloc (Nat.le_refl _) _
  have hN := Blk.new w 35 (opc o)
  have q0 : (w.alloc (.cells (opc o).toArray 35)).cell? ⟨w.heap.size, 0, none⟩ = some (.int .i64 o.dO) := Blk.cell hN 0
  have HEnd : Hid (Both w0 (w.alloc (.cells (opc o).toArray 35)) b r n (c + 1) ∧ Blk (w.alloc (.cells (opc o).toArray 35)) q 35 cs) := ⟨both_of (w := w) ((hD.below hbA).mono (fun k _ h => .inl h)) (hR.below hbA) hFG (fun k h => (hF k h).1) hG (below_then hW hbA (Nat.le_refl _)) (hS.mono (by omega)) hW.size, hq.below hbA hq.lt⟩
  have e0 : (o.dO == 0) = false := by have := hk 0 (by omega); simpa using this
  have e1 : (o.dO == 1) = false := by have := hk 1 (by omega); simpa using this
  have e2 : (o.dO == 2) = false := by have := hk 2 (by omega); simpa using this
  have e3 : (o.dO == 3) = false := by have := hk 3 (by omega); simpa using this
  have e4 : (o.dO == 4) = false := by have := hk 4 (by omega); simpa using this
  have e5 : (o.dO == 5) = false := by have := hk 5 (by omega); simpa using this
  have e6 : (o.dO == 6) = false := by have := hk 6 (by omega); simpa using this
  clear hD hR hFG hF hG hW hS hbA hN hk
  go_enter Try.func12, Try.ntmps12
  go_wp2
  go_ret
  exact ⟨rfl, HEnd.out⟩

end Go.Proofs.Ytofpngmabjpfhaa
