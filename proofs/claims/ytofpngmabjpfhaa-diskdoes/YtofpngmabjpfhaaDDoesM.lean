/- Contract: does, the kinds whose region draws its order and has two writers: arm, raw. -/
import Derived.Test.YtofpngmabjpfhaaDDoes
namespace Go.Proofs.Ytofpngmabjpfhaa
open Go.RowKit
set_option linter.unusedVariables false

def isQ (E : Int) (Q : World → Prop) : Value → World → Prop := fun v w => v = .int .i64 E ∧ Q w
def two (m1 m2 : Nat) (F G : Nat → Prop) : Nat → Nat → Prop := fun i k => (i = m1 ∧ F k) ∨ (i = m2 ∧ G k)
theorem two_all {m1 m2 : Nat} {F G : Nat → Prop} {w w' : World} (h : Only (fun k => ∃ i, two m1 m2 F G i k) w w') : Only (fun k => F k ∨ G k) w w' := h.mono (fun k _ ⟨i, hi⟩ => hi.elim (fun h => .inl h.2) (fun h => .inr h.2))
theorem two_1 {m1 m2 : Nat} {F G : Nat → Prop} {w w' : World} (h : Only (fun k => ∃ j, j ≠ m1 ∧ two m1 m2 F G j k) w w') : Only G w w' := h.mono (fun k _ ⟨i, hn, hi⟩ => hi.elim (fun h => absurd h.1 hn) (fun h => h.2))
theorem two_2 {m1 m2 : Nat} {F G : Nat → Prop} {w w' : World} (h : Only (fun k => ∃ j, j ≠ m2 ∧ two m1 m2 F G j k) w w') : Only F w w' := h.mono (fun k _ ⟨i, hn, hi⟩ => hi.elim (fun h => h.2) (fun h => absurd h.1 hn))
theorem st_1 {m1 m2 : Nat} {F G : Nat → Prop} {E : Int} {Q : World → Prop} (hQ : ∀ w w', Only G w w' → Q w → Q w') : ∀ i, i ≠ m1 → StS (two m1 m2 F G i) (isQ E Q) := by
  rintro i hi v w w' ho ⟨h1, h2⟩
  exact ⟨h1, hQ _ _ (ho.mono (fun k _ h => h.elim (fun h => absurd h.1 hi) (fun h => h.2))) h2⟩
theorem st_2 {m1 m2 : Nat} {F G : Nat → Prop} {E : Int} {Q : World → Prop} (hQ : ∀ w w', Only F w w' → Q w → Q w') : ∀ i, i ≠ m2 → StS (two m1 m2 F G i) (isQ E Q) := by
  rintro i hi v w w' ho ⟨h1, h2⟩
  exact ⟨h1, hQ _ _ (ho.mono (fun k _ h => h.elim (fun h => h.2) (fun h => absurd h.1 hi))) h2⟩
theorem of_1 {m1 m2 : Nat} {F G : Nat → Prop} {w w' : World} (h : Only F w w') : Only (two m1 m2 F G m1) w w' := h.mono (fun _ _ h => .inl ⟨rfl, h⟩)
theorem of_2 {m1 m2 : Nat} {F G : Nat → Prop} {w w' : World} (h : Only G w w') : Only (two m1 m2 F G m2) w w' := h.mono (fun _ _ h => .inr ⟨rfl, h⟩)

set_option maxHeartbeats 2000000 in
set_option maxRecDepth 20000 in
theorem does_arm (w0 w : World) (b r n c q : Nat) (cs : List Value) (o : OpA) (hB : Both w0 w b r n c) (hq : Blk w q 35 cs) (ho : OpOk w0 o) (hc : c ≤ 1000) (hk : o.dO = 3) :
    Calls Try.prog 12 #[dp b, dp r, .agg (opc o).toArray] w fun e w' => e = .returned (.bool true) ∧ Both w0 w' b r n (c + 1) ∧ Blk w' q 35 cs := by
  obtain ⟨d, F, G, hD, hR, hFG, hF, hG, hW, hS, hnF, hnG⟩ := both_open hB hq
  have hqs := hq.lt
  obtain ⟨wA, hwA⟩ : ∃ wA, wA = w.alloc (.cells (opc o).toArray 35) := ⟨_, rfl⟩
  have hbA : Below w.heap.size w wA := by rw [hwA]; exact (Below.refl _ w).alloc (Nat.le_refl _) _
  have hN : Blk wA w.heap.size 35 (opc o) := by rw [hwA]; exact Blk.new w 35 (opc o)
  have q0 : wA.cell? ⟨w.heap.size, 0, none⟩ = some (.int .i64 o.dO) := Blk.cell hN 0
  rw [hk, hwA] at q0
  have hWA : Below w0.heap.size w0 wA := below_then hW hbA (Nat.le_refl _)
  have hn63 : o.n ≤ 9223372036854775807 := ho.hn.2
  have HC : Hid (∀ wx, Only (fun k => F k ∨ G k) wA wx → wx.cell? ⟨w.heap.size, 2, none⟩ = some (.int .i64 o.n)) := fun wx hx => (hN.only hx (fun h => by rcases h with h | h; have := hF _ h; omega; have := hG _ h; omega)).cell 2
  have H1 : Hid (∀ wx, Only G wA wx → Calls Try.prog 25 #[dp b, .int .i64 o.n] wx fun e w' => e = .returned (.int .i64 (armR d o.n).1) ∧ Dev w' b F (armR d o.n).2 ∧ Only F wx w') := fun wx hx => arm_all wx b F d o.n ((hD.below hbA).keep hx (fun k hf hg => hFG k hf hg)) hn63
  have H2 : Hid (∀ wx, Only F wA wx → Calls Try.prog 33 #[dp r, .int .i64 o.n] wx fun e w' => e = .returned (.int .i64 (armR d o.n).1) ∧ Ref w' r G (armR d o.n).2 ∧ Only G wx w') := fun wx hx => refArm_all wx r G d o.n ((hR.below hbA).keep hx (fun k hg hf => hFG k hf hg)) hn63
  have HEnd : Hid (∀ w2, Only (fun k => F k ∨ G k) wA w2 → Dev w2 b F (armR d o.n).2 → Ref w2 r G (armR d o.n).2 → Both w0 w2 b r n (c + 1) ∧ Blk w2 q 35 cs) := fun w2 h1 d1 d2 => by
    have hW2 := hWA.trans (h1.below hWA.size (fun k hk h => by rcases h with h | h; have := hF k h; omega; have := hG k h; omega))
    exact ⟨both_mk d1 d2 hFG (fun k h => (hF k h).1) (fun k h => (hG k h).1) hW2 (sized_arm hS o.n), (hq.below hbA hq.lt).only h1 (fun h => h.elim hnF hnG)⟩
  have HFG : Hid (∀ k, F k → ¬ G k) := hFG
  clear hD hR hFG hF hG hW hS hbA hN hWA hk
  generalize (armR d o.n).1 = E at H1 H2
  generalize (armR d o.n).2 = d' at H1 H2 HEnd
  go_enter Try.func12, Try.ntmps12
  go_wp2
  rw [← hwA]
  refine wp_region_many (two 3 7 F G) [isV (.pointer (some ⟨b, 0, none⟩)), isV (.pointer (some ⟨w.heap.size, 2, none⟩)), isV (.int .i64 o.n), isQ E (fun wz => Dev wz b F d'), isV (.pointer (some ⟨r, 0, none⟩)), isV (.pointer (some ⟨w.heap.size, 2, none⟩)), isV (.int .i64 o.n), isQ E (fun wz => Ref wz r G d'), isV (.bool true)] 152 9 (by kernel_rfl) (by kernel_rfl) (by kernel_rfl) (by kernel_rfl) rfl ?_ ?_ ?_
  · repeat (first | exact trivial | refine allStM_isV ?_ | refine ⟨st_1 (fun wy wz hh hd => Dev.keep hd hh (fun k hf hg => HFG.out k hf hg)), ?_⟩ | refine ⟨st_2 (fun wy wz hh hd => Ref.keep hd hh (fun k hg hf => HFG.out k hf hg)), ?_⟩)
  · refine ⟨?_, ?_, ?_, ?_, ?_, ?_, ?_, ?_, ?_, trivial⟩
    · intro a wx h
      have e0 : a.eval (.tmp 0) = .pointer (some ⟨b, 0, none⟩) := h.old 0 (by kernel_rfl)
      have hrel := two_all h.rel
      clear h
      refine gives_by rfl a.eval rfl ?_
      generalize a.eval = ρ at *
      intro hf hc
      go_simp
      exact ⟨Only.refl _ _, rfl⟩
    · intro a wx h
      have e5 : a.eval (.tmp 5) = .pointer (some ⟨w.heap.size, 0, none⟩) := h.old 5 (by kernel_rfl)
      have hrel := two_all h.rel
      clear h
      refine gives_by rfl a.eval rfl ?_
      generalize a.eval = ρ at *
      intro hf hc
      go_simp
      exact ⟨Only.refl _ _, rfl⟩
    · intro a wx h
      obtain ⟨v72, e72, f72⟩ := h.val 1 72 (by kernel_rfl)
      obtain rfl : v72 = .pointer (some ⟨w.heap.size, 2, none⟩) := f72
      have hrel := two_all h.rel
      clear h
      have cx := HC.out wx hrel
      refine gives_by rfl a.eval rfl ?_
      generalize a.eval = ρ at *
      intro hf hc
      go_simp
      exact ⟨Only.refl _ _, rfl⟩
    · intro a wx h
      obtain ⟨v71, e71, f71⟩ := h.val 0 71 (by kernel_rfl)
      obtain rfl : v71 = .pointer (some ⟨b, 0, none⟩) := f71
      obtain ⟨v73, e73, f73⟩ := h.val 2 73 (by kernel_rfl)
      obtain rfl : v73 = .int .i64 o.n := f73
      have hrel := two_1 h.relq
      clear h
      refine gives_by rfl a.eval rfl ?_
      generalize a.eval = ρ at *
      intro hf hc
      go_simp
      refine (H1.out wx hrel).mono ?_
      rintro e wy ⟨rfl, hd, ho⟩
      exact ⟨_, rfl, of_1 ho, rfl, hd⟩
    · intro a wx h
      have e1 : a.eval (.tmp 1) = .pointer (some ⟨r, 0, none⟩) := h.old 1 (by kernel_rfl)
      have hrel := two_all h.rel
      clear h
      refine gives_by rfl a.eval rfl ?_
      generalize a.eval = ρ at *
      intro hf hc
      go_simp
      exact ⟨Only.refl _ _, rfl⟩
    · intro a wx h
      have e5 : a.eval (.tmp 5) = .pointer (some ⟨w.heap.size, 0, none⟩) := h.old 5 (by kernel_rfl)
      have hrel := two_all h.rel
      clear h
      refine gives_by rfl a.eval rfl ?_
      generalize a.eval = ρ at *
      intro hf hc
      go_simp
      exact ⟨Only.refl _ _, rfl⟩
    · intro a wx h
      obtain ⟨v76, e76, f76⟩ := h.val 5 76 (by kernel_rfl)
      obtain rfl : v76 = .pointer (some ⟨w.heap.size, 2, none⟩) := f76
      have hrel := two_all h.rel
      clear h
      have cx := HC.out wx hrel
      refine gives_by rfl a.eval rfl ?_
      generalize a.eval = ρ at *
      intro hf hc
      go_simp
      exact ⟨Only.refl _ _, rfl⟩
    · intro a wx h
      obtain ⟨v75, e75, f75⟩ := h.val 4 75 (by kernel_rfl)
      obtain rfl : v75 = .pointer (some ⟨r, 0, none⟩) := f75
      obtain ⟨v77, e77, f77⟩ := h.val 6 77 (by kernel_rfl)
      obtain rfl : v77 = .int .i64 o.n := f77
      have hrel := two_2 h.relq
      clear h
      refine gives_by rfl a.eval rfl ?_
      generalize a.eval = ρ at *
      intro hf hc
      go_simp
      refine (H2.out wx hrel).mono ?_
      rintro e wy ⟨rfl, hd, ho⟩
      exact ⟨_, rfl, of_2 ho, rfl, hd⟩
    · intro a wx h
      obtain ⟨v74, e74, f74⟩ := h.val 3 74 (by kernel_rfl)
      obtain ⟨rfl, _⟩ := f74
      obtain ⟨v78, e78, f78⟩ := h.val 7 78 (by kernel_rfl)
      obtain ⟨rfl, _⟩ := f78
      have hrel := two_all h.rel
      clear h
      refine gives_by rfl a.eval rfl ?_
      generalize a.eval = ρ at *
      intro hf hc
      go_simp
      exact ⟨Only.refl _ _, rfl⟩
  · intro oL hoL vals w3 ho3 hv
    simp only [List.getElem?_toArray, List.getElem?_cons_succ, List.getElem?_cons_zero, Option.some.injEq] at hoL
    subst hoL
    have hv3 : isQ E (fun wz => Dev wz b F d') (vals 3) w3 := hv 3 74 (by decide) (by kernel_rfl)
    have hv7 : isQ E (fun wz => Ref wz r G d') (vals 7) w3 := hv 7 78 (by decide) (by kernel_rfl)
    have hv8 : vals 8 = .bool true := hv 8 79 (by decide) (by kernel_rfl)
    clear hv
    generalize hact : putAll _ vals 0 _ = act
    have HE2 := hide (HEnd.out w3 (two_all ho3) hv3.2 hv7.2)
    clear hv3 hv7 ho3
    subst hact
    simp only [List.dropLast, putAll, Act.put, List.setIfInBounds_toArray, List.set_cons_zero, List.set_cons_succ, hv8]
    refine gives_of_run rfl (exec_assign (.tmp 79) rfl (.bool true) rfl) ?_
    clear hv8
    go_wp2
    go_ret
    exact ⟨rfl, HE2.out⟩

theorem both_typed {w0 w' : World} {b r n c : Nat} {F G : Nat → Prop} {d : Dv} (h1 : Dev w' b F d) (h2 : Ref w' r G d) (h4 : ∀ k, F k → w0.heap.size ≤ k) (h5 : ∀ k, G k → w0.heap.size ≤ k) (h6 : Below w0.heap.size w0 w') (h7 : Sized n c d) : Both w0 w' b r n c :=
  both_mk h1.typed h2.typed (fun k hf hg => apartT hf.2 hg.2) (fun k h => h4 k h.1) (fun k h => h5 k h.1) h6 h7

set_option maxHeartbeats 2000000 in
set_option maxRecDepth 20000 in
theorem does_raw (w0 w : World) (b r n c q : Nat) (cs : List Value) (o : OpA) (hB : Both w0 w b r n c) (hq : Blk w q 35 cs) (ho : OpOk w0 o) (hc : c ≤ 1000) (hk : o.dO = 1) :
    Calls Try.prog 12 #[dp b, dp r, .agg (opc o).toArray] w fun e w' => e = .returned (.bool true) ∧ Both w0 w' b r n (c + 1) ∧ Blk w' q 35 cs := by
  obtain ⟨d, F, G, hD, hR, hFG, hF, hG, hW, hS, hnF, hnG⟩ := both_open hB hq
  have hqs := hq.lt
  obtain ⟨wA, hwA⟩ : ∃ wA, wA = w.alloc (.cells (opc o).toArray 35) := ⟨_, rfl⟩
  have hbA : Below w.heap.size w wA := by rw [hwA]; exact (Below.refl _ w).alloc (Nat.le_refl _) _
  have hN : Blk wA w.heap.size 35 (opc o) := by rw [hwA]; exact Blk.new w 35 (opc o)
  have q0 : wA.cell? ⟨w.heap.size, 0, none⟩ = some (.int .i64 o.dO) := Blk.cell hN 0
  rw [hk, hwA] at q0
  have hWA : Below w0.heap.size w0 wA := below_then hW hbA (Nat.le_refl _)
  have hw0 := hW.size
  have hsA : w.heap.size ≤ wA.heap.size := hbA.size
  have hSb := ho.sb
  have hlow : o.b ≠ [] → ∀ k, o.bv.ownBlock = some k → k < w0.heap.size := fun hne k hk => sl_low hSb hne hk
  have hS2 := hS.2.1
  have hS3 := hS.2.2
  have HC : Hid (∀ wx, Only (fun k => F k ∨ G k) wA wx → wx.cell? ⟨w.heap.size, 1, none⟩ = some (.int .i64 o.p) ∧ wx.cell? ⟨w.heap.size, 3, none⟩ = some o.bv) := fun wx hx => by
    have h1 := hN.only hx (fun h => by rcases h with h | h; have := hF _ h; omega; have := hG _ h; omega)
    exact ⟨h1.cell 1, h1.cell 3⟩
  have H1 : Hid (∀ wx, Only G wA wx → Calls Try.prog 15 #[dp b, .int .i64 o.p, o.bv] wx fun e w' => e = .returned (.int .i64 (writeR d o.p o.b).1) ∧ Dev w' b (fun k => F k ∨ wA.heap.size ≤ k) (writeR d o.p o.b).2 ∧ Only F wx w') := fun wx hx => by
    have hWx := hWA.trans (hx.below hWA.size (fun k hk h => by have := hG k h; omega))
    refine (write_all wx b F d o.p o.bv o.b ((hD.below hbA).keep hx (fun k hf hg => hFG k hf hg)) (hSb.below hWx) (by omega) (by omega)).mono ?_
    rintro e w' ⟨rfl, h1, h2⟩
    have hsx := hx.size
    exact ⟨rfl, h1.mono (fun k _ h => h.elim .inl (fun h => .inr (by omega))), h2⟩
  have H2 : Hid (∀ wx, Only F wA wx → Calls Try.prog 31 #[dp r, .int .i64 o.p, o.bv] wx fun e w' => e = .returned (.int .i64 (writeR d o.p o.b).1) ∧ Ref w' r (fun k => G k ∨ wA.heap.size ≤ k) (writeR d o.p o.b).2 ∧ Only G wx w') := fun wx hx => by
    have hWx := hWA.trans (hx.below hWA.size (fun k hk h => by have := hF k h; omega))
    refine (refWrite_all wx r G d o.p o.bv o.b ((hR.below hbA).keep hx (fun k hg hf => hFG k hf hg)) (hSb.below hWx) (fun hne k hk hg => by have := hlow hne k hk; have := hG k hg; omega) (by omega) (by omega)).mono ?_
    rintro e w' ⟨rfl, h1, h2⟩
    have hsx := hx.size
    exact ⟨rfl, h1.mono (fun k _ h => h.elim .inl (fun h => .inr (by omega))), h2⟩
  have HEnd : Hid (∀ w2, Only (fun k => F k ∨ G k) wA w2 → Dev w2 b (fun k => F k ∨ wA.heap.size ≤ k) (writeR d o.p o.b).2 → Ref w2 r (fun k => G k ∨ wA.heap.size ≤ k) (writeR d o.p o.b).2 → Both w0 w2 b r n (c + 1) ∧ Blk w2 q 35 cs) := fun w2 h1 d1 d2 => by
    have hW2 := hWA.trans (h1.below hWA.size (fun k hk h => by rcases h with h | h; have := hF k h; omega; have := hG k h; omega))
    refine ⟨both_typed d1 d2 (fun k h => ?_) (fun k h => ?_) hW2 (sized_write hS o.p o.b), (hq.below hbA hq.lt).only h1 (fun h => h.elim hnF hnG)⟩
    · rcases h with h | h
      · exact (hF k h).1
      · omega
    · rcases h with h | h
      · exact (hG k h).1
      · omega
  have HFG : Hid (∀ k, (F k ∨ wA.heap.size ≤ k) → ¬ G k) := fun k hf hg => by
    rcases hf with h | h
    · exact hFG k h hg
    · have := hG k hg; omega
  have HGF : Hid (∀ k, (G k ∨ wA.heap.size ≤ k) → ¬ F k) := fun k hg hf => by
    rcases hg with h | h
    · exact hFG k hf h
    · have := hF k hf; omega
  obtain ⟨ak, nk, ck, hkf⟩ := sl_form hSb
  rw [hkf] at HC H1 H2
  clear hD hR hFG hF hG hW hS hbA hN hWA hk hSb hlow hS2 hS3 hkf
  generalize (writeR d o.p o.b).1 = E at H1 H2
  generalize (writeR d o.p o.b).2 = d' at H1 H2 HEnd
  obtain ⟨X, hX⟩ : ∃ X, X = wA.heap.size := ⟨_, rfl⟩
  rw [← hX] at H1 H2 HEnd HFG HGF
  clear hX hsA
  go_enter Try.func12, Try.ntmps12
  go_wp2
  rw [← hwA]
  refine wp_region_many (two 5 11 F G) [isV (.pointer (some ⟨b, 0, none⟩)), isV (.pointer (some ⟨w.heap.size, 1, none⟩)), isV (.int .i64 o.p), isV (.pointer (some ⟨w.heap.size, 3, none⟩)), isV (.slice ak nk ck), isQ E (fun wz => Dev wz b (fun k => F k ∨ X ≤ k) d'), isV (.pointer (some ⟨r, 0, none⟩)), isV (.pointer (some ⟨w.heap.size, 1, none⟩)), isV (.int .i64 o.p), isV (.pointer (some ⟨w.heap.size, 3, none⟩)), isV (.slice ak nk ck), isQ E (fun wz => Ref wz r (fun k => G k ∨ X ≤ k) d'), isV (.bool true)] 152 13 (by kernel_rfl) (by kernel_rfl) (by kernel_rfl) (by kernel_rfl) rfl ?_ ?_ ?_
  · repeat (first | exact trivial | refine allStM_isV ?_ | refine ⟨st_1 (fun wy wz hh hd => Dev.keep hd hh (fun k hf hg => HFG.out k hf hg)), ?_⟩ | refine ⟨st_2 (fun wy wz hh hd => Ref.keep hd hh (fun k hg hf => HGF.out k hg hf)), ?_⟩)
  · refine ⟨?_, ?_, ?_, ?_, ?_, ?_, ?_, ?_, ?_, ?_, ?_, ?_, ?_, trivial⟩
    · intro a wx h
      have e0 : a.eval (.tmp 0) = .pointer (some ⟨b, 0, none⟩) := h.old 0 (by kernel_rfl)
      have hrel := two_all h.rel
      clear h
      refine gives_by rfl a.eval rfl ?_
      generalize a.eval = ρ at *
      intro hf hc
      go_simp
      exact ⟨Only.refl _ _, rfl⟩
    · intro a wx h
      have e5 : a.eval (.tmp 5) = .pointer (some ⟨w.heap.size, 0, none⟩) := h.old 5 (by kernel_rfl)
      have hrel := two_all h.rel
      clear h
      refine gives_by rfl a.eval rfl ?_
      generalize a.eval = ρ at *
      intro hf hc
      go_simp
      exact ⟨Only.refl _ _, rfl⟩
    · intro a wx h
      obtain ⟨v50, e50, f50⟩ := h.val 1 50 (by kernel_rfl)
      obtain rfl : v50 = .pointer (some ⟨w.heap.size, 1, none⟩) := f50
      have hrel := two_all h.rel
      clear h
      have cx := (HC.out wx hrel).1
      refine gives_by rfl a.eval rfl ?_
      generalize a.eval = ρ at *
      intro hf hc
      go_simp
      exact ⟨Only.refl _ _, rfl⟩
    · intro a wx h
      have e5 : a.eval (.tmp 5) = .pointer (some ⟨w.heap.size, 0, none⟩) := h.old 5 (by kernel_rfl)
      have hrel := two_all h.rel
      clear h
      refine gives_by rfl a.eval rfl ?_
      generalize a.eval = ρ at *
      intro hf hc
      go_simp
      exact ⟨Only.refl _ _, rfl⟩
    · intro a wx h
      obtain ⟨v52, e52, f52⟩ := h.val 3 52 (by kernel_rfl)
      obtain rfl : v52 = .pointer (some ⟨w.heap.size, 3, none⟩) := f52
      have hrel := two_all h.rel
      clear h
      have cx := (HC.out wx hrel).2
      refine gives_by rfl a.eval rfl ?_
      generalize a.eval = ρ at *
      intro hf hc
      go_simp
      exact ⟨Only.refl _ _, rfl⟩
    · intro a wx h
      obtain ⟨v49, e49, f49⟩ := h.val 0 49 (by kernel_rfl)
      obtain rfl : v49 = .pointer (some ⟨b, 0, none⟩) := f49
      obtain ⟨v51, e51, f51⟩ := h.val 2 51 (by kernel_rfl)
      obtain rfl : v51 = .int .i64 o.p := f51
      obtain ⟨v53, e53, f53⟩ := h.val 4 53 (by kernel_rfl)
      obtain rfl : v53 = .slice ak nk ck := f53
      have hrel := two_1 h.relq
      clear h
      refine gives_by rfl a.eval rfl ?_
      generalize a.eval = ρ at *
      intro hf hc
      go_simp
      refine (H1.out wx hrel).mono ?_
      rintro e wy ⟨rfl, hd, ho⟩
      exact ⟨_, rfl, of_1 ho, rfl, hd⟩
    · intro a wx h
      have e1 : a.eval (.tmp 1) = .pointer (some ⟨r, 0, none⟩) := h.old 1 (by kernel_rfl)
      have hrel := two_all h.rel
      clear h
      refine gives_by rfl a.eval rfl ?_
      generalize a.eval = ρ at *
      intro hf hc
      go_simp
      exact ⟨Only.refl _ _, rfl⟩
    · intro a wx h
      have e5 : a.eval (.tmp 5) = .pointer (some ⟨w.heap.size, 0, none⟩) := h.old 5 (by kernel_rfl)
      have hrel := two_all h.rel
      clear h
      refine gives_by rfl a.eval rfl ?_
      generalize a.eval = ρ at *
      intro hf hc
      go_simp
      exact ⟨Only.refl _ _, rfl⟩
    · intro a wx h
      obtain ⟨v56, e56, f56⟩ := h.val 7 56 (by kernel_rfl)
      obtain rfl : v56 = .pointer (some ⟨w.heap.size, 1, none⟩) := f56
      have hrel := two_all h.rel
      clear h
      have cx := (HC.out wx hrel).1
      refine gives_by rfl a.eval rfl ?_
      generalize a.eval = ρ at *
      intro hf hc
      go_simp
      exact ⟨Only.refl _ _, rfl⟩
    · intro a wx h
      have e5 : a.eval (.tmp 5) = .pointer (some ⟨w.heap.size, 0, none⟩) := h.old 5 (by kernel_rfl)
      have hrel := two_all h.rel
      clear h
      refine gives_by rfl a.eval rfl ?_
      generalize a.eval = ρ at *
      intro hf hc
      go_simp
      exact ⟨Only.refl _ _, rfl⟩
    · intro a wx h
      obtain ⟨v58, e58, f58⟩ := h.val 9 58 (by kernel_rfl)
      obtain rfl : v58 = .pointer (some ⟨w.heap.size, 3, none⟩) := f58
      have hrel := two_all h.rel
      clear h
      have cx := (HC.out wx hrel).2
      refine gives_by rfl a.eval rfl ?_
      generalize a.eval = ρ at *
      intro hf hc
      go_simp
      exact ⟨Only.refl _ _, rfl⟩
    · intro a wx h
      obtain ⟨v55, e55, f55⟩ := h.val 6 55 (by kernel_rfl)
      obtain rfl : v55 = .pointer (some ⟨r, 0, none⟩) := f55
      obtain ⟨v57, e57, f57⟩ := h.val 8 57 (by kernel_rfl)
      obtain rfl : v57 = .int .i64 o.p := f57
      obtain ⟨v59, e59, f59⟩ := h.val 10 59 (by kernel_rfl)
      obtain rfl : v59 = .slice ak nk ck := f59
      have hrel := two_2 h.relq
      clear h
      refine gives_by rfl a.eval rfl ?_
      generalize a.eval = ρ at *
      intro hf hc
      go_simp
      refine (H2.out wx hrel).mono ?_
      rintro e wy ⟨rfl, hd, ho⟩
      exact ⟨_, rfl, of_2 ho, rfl, hd⟩
    · intro a wx h
      obtain ⟨v54, e54, f54⟩ := h.val 5 54 (by kernel_rfl)
      obtain ⟨rfl, _⟩ := f54
      obtain ⟨v60, e60, f60⟩ := h.val 11 60 (by kernel_rfl)
      obtain ⟨rfl, _⟩ := f60
      have hrel := two_all h.rel
      clear h
      refine gives_by rfl a.eval rfl ?_
      generalize a.eval = ρ at *
      intro hf hc
      go_simp
      exact ⟨Only.refl _ _, rfl⟩
  · intro oL hoL vals w3 ho3 hv
    simp only [List.getElem?_toArray, List.getElem?_cons_succ, List.getElem?_cons_zero, Option.some.injEq] at hoL
    subst hoL
    have hv5 : isQ E (fun wz => Dev wz b (fun k => F k ∨ X ≤ k) d') (vals 5) w3 := hv 5 54 (by decide) (by kernel_rfl)
    have hv11 : isQ E (fun wz => Ref wz r (fun k => G k ∨ X ≤ k) d') (vals 11) w3 := hv 11 60 (by decide) (by kernel_rfl)
    have hv12 : vals 12 = .bool true := hv 12 61 (by decide) (by kernel_rfl)
    clear hv
    generalize hact : putAll _ vals 0 _ = act
    have HE2 := hide (HEnd.out w3 (two_all ho3) hv5.2 hv11.2)
    clear hv5 hv11 ho3
    subst hact
    simp only [List.dropLast, putAll, Act.put, List.setIfInBounds_toArray, List.set_cons_zero, List.set_cons_succ, hv12]
    refine gives_of_run rfl (exec_assign (.tmp 61) rfl (.bool true) rfl) ?_
    clear hv12
    go_wp2
    go_ret
    exact ⟨rfl, HE2.out⟩

end Go.Proofs.Ytofpngmabjpfhaa
