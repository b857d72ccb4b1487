/- Contract: does (incipitlaw05): Crash. -/
import Derived.Test.YtoplhehcjgldeaaGreatJRDo2
namespace Go.Proofs.YtoplhehcjgldeaaGreat
open Go.RowKit
set_option linter.unusedVariables false
set_option maxRecDepth 100000

def isB2 (base : Nat) (x y : Int) : Value → World → Prop := fun v w => ∃ g, v = .slice (some ⟨g, 0, none⟩) 2 2 ∧ Blk w g 5 [.int .u8 x, .int .u8 y] ∧ base ≤ g
theorem stS_isB2 (S : Nat → Prop) (base : Nat) (x y : Int) (hS : ∀ k, S k → k < base := by intro k hk; exact hk.elim) : StS S (isB2 base x y) := by
  rintro v w w' ho ⟨g, rfl, hB, hg⟩
  exact ⟨g, rfl, hB.only ho (fun h => by have := hS g h; omega), hg⟩
theorem sl_2 {w : World} {g : Nat} {x y : Int} (h : Blk w g 5 [.int .u8 x, .int .u8 y]) (h0 : 0 ≤ x ∧ x ≤ 255) (h1 : 0 ≤ y ∧ y ≤ 255) : Sl w (.slice (some ⟨g, 0, none⟩) 2 2) [x, y] :=
  sl_of_range (cap := 2) (zs := [x, y]) (h.range 0 _ (fun j _ => by rw [Nat.zero_add]; rfl)) (fun z hz => by simp at hz; omega) (by simp) (by unfold maxLen; omega)

section
variable (w0 w : World) (Q : Nat → Prop) (c b cr r n : Nat) (ch : Ch) (d : Dv) (o : Oc)
set_option maxHeartbeats 1000000 in
theorem does_crash (h : Two5 w0 Q w c b cr r n ch d) (ho : OcOk o) (hn : n < 100000) (hk : o.dO = 9) :
    Calls Tryz.prog 9 #[dp c, dp b, dp cr, .agg (occ o).toArray] w fun e w' => e = .returned (.bool true) ∧ Done5 w0 w Q c b cr r n w' := by
  obtain ⟨wA, hwA⟩ : ∃ wA, w.alloc (.cells (occ o).toArray 38) = wA := ⟨_, rfl⟩
  have hbA : Below w.heap.size w wA := by rw [← hwA]; exact (Below.refl _ w).alloc (Nat.le_refl _) _
  have hsA : wA.heap.size = w.heap.size + 1 := by rw [← hwA]; simp
  have hN : Blk wA w.heap.size 38 (occ o) := by rw [← hwA]; exact Blk.new w _ _
  have q0 : wA.cell? ⟨w.heap.size, 0, none⟩ = some (.int .i64 o.dO) := hN.cell 0
  rw [hk] at q0
  obtain ⟨K, h1, h2, h3, h4⟩ := two_below h hbA
  have hQ' : ∀ k, (Q k ∨ (w.heap.size ≤ k ∧ k < wA.heap.size)) → k < wA.heap.size := fun k hq => h1.xlt k (.inr hq)
  have ok := h1.ok
  obtain ⟨X, hX⟩ : ∃ X : Nat → Prop, X = fun k => Q k ∨ (w.heap.size ≤ k ∧ k < wA.heap.size) := ⟨_, rfl⟩
  have hXq : X w.heap.size := by rw [hX]; exact .inr ⟨Nat.le_refl _, by omega⟩
  have hXQ : ∀ k, Q k → X k := fun k hk => by rw [hX]; exact .inl hk
  rw [← hX] at h1 h3
  obtain ⟨G, hR, hGK, hGc, hKc, hend⟩ := refC_devs h2
  obtain ⟨N8, hN8⟩ : ∃ N8, IntKind.u8.wrap o.n = N8 := ⟨_, rfl⟩
  have hN8b : 0 ≤ N8 ∧ N8 ≤ 255 := by rw [← hN8, IntKind.wrap_u8]; omega
  have HCb : Hid (0 ≤ o.c ∧ o.c ≤ 255) := ⟨ho.c0, ho.c1⟩
  have HNb := hide hN8b
  have HC : Hid (∀ wx, Only (fun _ => False) wA wx → wx.cell? ⟨cr, 0, none⟩ = some (dp r) ∧ wx.cell? ⟨w.heap.size, 2, none⟩ = some (.int .u8 o.c) ∧ wx.cell? ⟨w.heap.size, 3, none⟩ = some (.int .i64 o.n)) := fun wx hx => by
    obtain ⟨H', G', hs', lv', r1, r2, r3, r4, r5⟩ := h2
    have hNx := hN.only hx (fun h => h)
    exact ⟨(r1.keep hx (fun _ _ h => h)).c0, hNx.cell 2, hNx.cell 3⟩
  have H1 : Hid (∀ wx g, Only (fun _ => False) wA wx → Blk wx g 5 [.int .u8 o.c, .int .u8 N8] → wA.heap.size ≤ g → Calls Tryz.prog 37 #[dp r, .slice (some ⟨g, 0, none⟩) 2 2] wx fun e w' => e = .returned (.tuple #[]) ∧ RefC w' cr r (fun j => K j ∨ wx.heap.size ≤ j) ch (crashD d [o.c, N8]) ∧ Only G wx w' ∧ Only (fun _ => False) wA wx) := fun wx g hx hB hg => by
    refine (refCrash_any wx r G d _ [o.c, N8] (hR.keep hx (fun _ _ h => h)) (sl_2 hB HCb.out hN8b) (fun _ k hk hgk => by simp [Value.ownBlock] at hk; have := (hGK k hgk).2; omega)).mono ?_
    rintro e w' ⟨rfl, k1, k2⟩
    exact ⟨rfl, hend _ wx hx (fun _ _ h => h) w' _ k1 k2, k2, hx⟩
  have H2 : Hid (∀ wx w', Only (fun _ => False) wA wx → RefC w' cr r (fun j => K j ∨ wx.heap.size ≤ j) ch (crashD d [o.c, N8]) → Only G wx w' →
      w'.cell? ⟨w.heap.size, 2, none⟩ = some (.int .u8 o.c) ∧ w'.cell? ⟨w.heap.size, 3, none⟩ = some (.int .i64 o.n) ∧
      ∀ g wy, Below w'.heap.size w' wy → w'.heap.size ≤ g → Blk wy g 5 [.int .u8 o.c, .int .u8 N8] → Calls Tryz.prog 38 #[dp b, .slice (some ⟨g, 0, none⟩) 2 2] wy fun e w2 => e = .returned (.int .i64 0) ∧ Two5 w0 X w2 c b cr r (n + 1) ch (crashD d [o.c, N8]) ∧ Turn w0 No X wA w2) := fun wx w' hx hRC hG => by
    have hNx := (hN.only hx (fun h => h)).only hG (fun hg => (h3 _ (hGK _ hg).1).2 hXq)
    refine ⟨hNx.cell 2, hNx.cell 3, fun g wy hb hg hB => ?_⟩
    have hsx := hx.size
    have hs' := hG.size
    have hsy := hb.size
    -- the program's side at wy, what the document made being none of its
    have hD1 := (h1.keep hx (fun _ h => h.elim) (fun _ _ h => h.elim)).keepgrow hG (fun k hk => .inl (.inl (hGK k hk).1)) (fun k hk hk2 => by have := (h3 k (hGK k hk2).1).1; omega)
    have hD2 := hD1.grow hb
    obtain ⟨G1, hDx, hG1, hcl⟩ := duos_devs w0 wy No _ c b ch d hD2
    have hnG1 : ¬ G1 g := fun hh => (hG1 g hh).2.1 (.inr ⟨hg, hB.lt⟩)
    refine (crash_any wy b G1 d _ [o.c, N8] hDx (sl_2 hB HCb.out hN8b) (fun _ k hk hgk => by
      simp [Value.ownBlock] at hk
      subst hk
      exact hnG1 hgk)).mono ?_
    rintro e w2 ⟨rfl, k1, k2⟩
    obtain ⟨k3, k4⟩ := hcl w2 _ k1 k2 (sized_crash (sized_of h4) [o.c, N8]).1
    have hs2 := k2.size
    have hKb := h1.xlt
    refine ⟨rfl, ⟨fun k => (K k ∨ wx.heap.size ≤ k) ∧ k < w'.heap.size, k3.less (fun k hk => ?_), ?_, fun k hk => ?_, few_sized h4 (sized_crash (sized_of h4) [o.c, N8])⟩, ?_⟩
    · rcases hk with ⟨hk | hk, hl⟩ | hk
      · exact .inl (.inl (.inl hk))
      · exact .inl (.inr ⟨hk, hl⟩)
      · exact .inl (.inl (.inr hk))
    · exact ((hRC.bound).below hb).keep k4 (fun k hk hh => by
        rcases hk with ⟨hk | hk, hl⟩
        · exact hh.2 (.inl (.inl (.inl hk)))
        · exact hh.2 (.inl (.inr ⟨hk, hl⟩)))
    · rcases hk with ⟨hk | hk, hl⟩
      · exact h3 k hk
      · refine ⟨?_, fun hq => ?_⟩
        · have := h1.only.size; omega
        · have := hKb k (.inr hq); omega
    · have e1 : Turn w0 No X wA w' := (hx.mono (fun _ _ h => h.elim)).trans (hG.mono (fun k _ hk => ⟨.inr (h3 k (hGK k hk).1).1, (h3 k (hGK k hk).1).2⟩)) (fun _ _ h => h)
      exact (e1.trans (Turn.of_below hb)).trans (Only.mono k4 (fun k _ hk => ⟨hk.1, fun hq => hk.2 (.inl (.inl (.inr hq)))⟩))
  have HEnd : Hid (∀ w', Two5 w0 X w' c b cr r (n + 1) ch (crashD d [o.c, N8]) → Turn w0 No X wA w' → Done5 w0 w Q c b cr r n w') := fun w' k1 k2 =>
    ⟨⟨_, _, two_few (two_less k1 hXQ) (by omega)⟩, (Turn.of_below hbA).trans (Only.mono k2 (fun k _ hk => ⟨hk.1, fun hq => hk.2 (hXQ k hq)⟩))⟩
  clear h h1 h2 h3 h4 hN hbA ok hQ' hX hXq hXQ ho hk hR hGK hGc hKc hend hN8b
  go_enter Tryz.func9, Tryz.ntmps9
  go_wp2
  refine wp_region_only (fun _ => False) [isV (.pointer (some ⟨cr, 0, none⟩)), isV (.pointer (some ⟨cr, 0, none⟩)), isV (.pointer (some ⟨cr, 0, none⟩)), isV (dp r), isV (.pointer (some ⟨w.heap.size, 2, none⟩)), isV (.int .u8 o.c), isV (.pointer (some ⟨w.heap.size, 3, none⟩)), isV (.int .i64 o.n), isV (.int .u8 N8), isB2 wA.heap.size o.c N8] 99 218 10 (by kernel_rfl) (by kernel_rfl) (by kernel_rfl) (by kernel_rfl) rfl ?_ ?_ ?_
  · repeat (first | exact trivial | refine allStL_isV ?_ | refine ⟨stS_isB2 _ _ _ _, fun _ => stS_isB2 _ _ _ _, ?_⟩)
  · refine ⟨?_, ?_, ?_, ?_, ?_, ?_, ?_, ?_, ?_, ?_, trivial⟩
    · intro a wx h
      have e2 : a.eval (.tmp 2) = .pointer (some ⟨cr, 0, none⟩) := h.old 2 (by kernel_rfl)
      have hrel := h.rel
      clear h
      refine gives_by rfl a.eval rfl ?_
      generalize a.eval = ρ at *
      intro hf hc
      go_simp
      exact ⟨relM_quiet (by decide) (Only.refl _ _), rfl⟩
    · intro a wx h
      obtain ⟨v198, e198, f198⟩ := h.val 0 198 (by kernel_rfl)
      obtain rfl : v198 = .pointer (some ⟨cr, 0, none⟩) := f198
      have hrel := h.rel
      clear h
      refine gives_by rfl a.eval rfl ?_
      generalize a.eval = ρ at *
      intro hf hc
      go_simp
      exact ⟨relM_quiet (by decide) (Only.refl _ _), rfl⟩
    · intro a wx h
      obtain ⟨v199, e199, f199⟩ := h.val 1 199 (by kernel_rfl)
      obtain rfl : v199 = .pointer (some ⟨cr, 0, none⟩) := f199
      have hrel := h.rel
      clear h
      refine gives_by rfl a.eval rfl ?_
      generalize a.eval = ρ at *
      intro hf hc
      go_simp
      exact ⟨relM_quiet (by decide) (Only.refl _ _), rfl⟩
    · intro a wx h
      obtain ⟨v200, e200, f200⟩ := h.val 2 200 (by kernel_rfl)
      obtain rfl : v200 = .pointer (some ⟨cr, 0, none⟩) := f200
      have hrel := h.rel
      clear h
      have cx := (HC.out wx hrel).1
      refine gives_by rfl a.eval rfl ?_
      generalize a.eval = ρ at *
      intro hf hc
      go_simp
      exact ⟨relM_quiet (by decide) (Only.refl _ _), rfl⟩
    · intro a wx h
      have e7 : a.eval (.tmp 7) = .pointer (some ⟨w.heap.size, 0, none⟩) := h.old 7 (by kernel_rfl)
      have hrel := h.rel
      clear h
      refine gives_by rfl a.eval rfl ?_
      generalize a.eval = ρ at *
      intro hf hc
      go_simp
      exact ⟨relM_quiet (by decide) (Only.refl _ _), rfl⟩
    · intro a wx h
      obtain ⟨v202, e202, f202⟩ := h.val 4 202 (by kernel_rfl)
      obtain rfl : v202 = .pointer (some ⟨w.heap.size, 2, none⟩) := f202
      have hrel := h.rel
      clear h
      have cx := (HC.out wx hrel).2.1
      refine gives_by rfl a.eval rfl ?_
      generalize a.eval = ρ at *
      intro hf hc
      go_simp
      exact ⟨relM_quiet (by decide) (Only.refl _ _), rfl⟩
    · intro a wx h
      have e7 : a.eval (.tmp 7) = .pointer (some ⟨w.heap.size, 0, none⟩) := h.old 7 (by kernel_rfl)
      have hrel := h.rel
      clear h
      refine gives_by rfl a.eval rfl ?_
      generalize a.eval = ρ at *
      intro hf hc
      go_simp
      exact ⟨relM_quiet (by decide) (Only.refl _ _), rfl⟩
    · intro a wx h
      obtain ⟨v204, e204, f204⟩ := h.val 6 204 (by kernel_rfl)
      obtain rfl : v204 = .pointer (some ⟨w.heap.size, 3, none⟩) := f204
      have hrel := h.rel
      clear h
      have cx := (HC.out wx hrel).2.2
      refine gives_by rfl a.eval rfl ?_
      generalize a.eval = ρ at *
      intro hf hc
      go_simp
      exact ⟨relM_quiet (by decide) (Only.refl _ _), rfl⟩
    · intro a wx h
      obtain ⟨v205, e205, f205⟩ := h.val 7 205 (by kernel_rfl)
      obtain rfl : v205 = .int .i64 o.n := f205
      have hrel := h.rel
      clear h
      refine gives_by rfl a.eval rfl ?_
      generalize a.eval = ρ at *
      intro hf hc
      go_simp
      exact ⟨relM_quiet (by decide) (Only.refl _ _), rfl⟩
    · intro a wx h
      obtain ⟨v203, e203, f203⟩ := h.val 5 203 (by kernel_rfl)
      obtain rfl : v203 = .int .u8 o.c := f203
      obtain ⟨v206, e206, f206⟩ := h.val 8 206 (by kernel_rfl)
      obtain rfl : v206 = .int .u8 N8 := f206
      have hrel := h.rel
      clear h
      refine gives_by rfl a.eval rfl ?_
      generalize a.eval = ρ at *
      intro hf hc
      go_simp
      exact ⟨relM_quiet (by decide) ((Only.refl _ _).alloc _), ⟨_, rfl, Blk.new wx _ _, (by have := hrel.size; omega)⟩⟩
  · intro oL hoL vals w3 ho3 hv
    simp only [List.getElem?_toArray, List.getElem?_cons_succ, List.getElem?_cons_zero, Option.some.injEq] at hoL
    subst hoL
    have hv3 : vals 3 = dp r := hv 3 201 (by decide) (by kernel_rfl)
    have hv9 : isB2 wA.heap.size o.c N8 (vals 9) w3 := hv 9 207 (by decide) (by kernel_rfl)
    clear hv
    generalize hact : putAll _ vals 0 _ = act
    obtain ⟨g, hg, hB, hgb⟩ := hv9
    have HK1 := hide (H1.out w3 g ho3 hB hgb)
    clear hB hgb
    subst hact
    simp only [List.dropLast, putAll, Act.put, List.setIfInBounds_toArray, List.set_cons_zero, List.set_cons_succ, hv3, hg, Nat.zero_add, Nat.reduceAdd]
    refine gives_by rfl _ rfl ?_
    intro hf hc
    go_simp
    refine HK1.out.mono ?_
    rintro e wy ⟨rfl, k1, k2, k3⟩
    obtain ⟨q2, q3, q4⟩ := H2.out w3 wy k3 k1 k2
    have HQ4 := hide (q4 wy.heap.size (wy.alloc (.cells #[.int .u8 o.c, .int .u8 N8] 5)) ((Below.refl _ wy).alloc (Nat.le_refl _) _) (Nat.le_refl _) (Blk.new wy _ _))
    refine ⟨_, rfl, ?_⟩
    clear q4 k1 k2 k3 HK1 H1 H2 HC hv3 hg q0 ho3 hf hc
    go_wp2_with (go_at_call 38; refine HQ4.out.mono ?_; rintro e w5 ⟨rfl, m1, m2⟩; have HE2 := hide (HEnd.out w5 m1 m2); clear HQ4 m1 m2 HEnd)
    go_ret
    exact ⟨rfl, HE2.out⟩
end

end Go.Proofs.YtoplhehcjgldeaaGreat
/- Contract: does (incipitlaw05): Get. -/
namespace Go.Proofs.YtoplhehcjgldeaaGreat
open Go.RowKit
set_option linter.unusedVariables false
set_option maxRecDepth 100000

theorem Duos.low {w0 w : World} {X : Nat → Prop} {c b : Nat} {ch : Ch} {d : Dv} (h : Duos w0 No X w c b ch d) : Duos w0 No (fun k => X k ∨ k < w0.heap.size) w c b ch d := by
  obtain ⟨H, G, h1, h2, h3, h4, h5, h6, h7⟩ := h
  have hs := h6.size
  refine ⟨H, G, h1, h2, h3, fun k hk => ⟨(h4 k hk).1, fun hx => hx.elim (h4 k hk).2.1 (fun hx => ?_), (h4 k hk).2.2⟩, fun k hk => hk.elim (h5 k) (fun hk => by omega), h6, h7⟩
  rcases (h4 k hk).1 with h | h
  · exact h.elim
  · omega

/-! ### got twice -/
theorem getC_room {ch : Ch} {d : Dv} {p : Int} (hp : 0 ≤ p ∧ p < d.st.length) (hx : findC ch.l p = none) : getC ch d p = if (roomC { ch with misses := ch.misses + 1 } d).1 = 0 then
        (if (roomC { ch with misses := ch.misses + 1 } d).2.2.off = true then (5, [], (roomC { ch with misses := ch.misses + 1 } d).2.1, (roomC { ch with misses := ch.misses + 1 } d).2.2)
          else (0, showsD (roomC { ch with misses := ch.misses + 1 } d).2.2 p.toNat, { (roomC { ch with misses := ch.misses + 1 } d).2.1 with l := ⟨p.toNat, showsD (roomC { ch with misses := ch.misses + 1 } d).2.2 p.toNat, false, 0⟩ :: (roomC { ch with misses := ch.misses + 1 } d).2.1.l }, (roomC { ch with misses := ch.misses + 1 } d).2.2))
        else ((roomC { ch with misses := ch.misses + 1 } d).1, [], (roomC { ch with misses := ch.misses + 1 } d).2.1, (roomC { ch with misses := ch.misses + 1 } d).2.2) := by
  unfold getC
  rw [if_pos hp, hx]
theorem getC_hit {ch : Ch} {d : Dv} {p : Int} (hp : 0 ≤ p ∧ p < d.st.length) {x : Hd} (hx : findC ch.l p = some x) : getC ch d p = (0, x.bs, { ch with l := useC ch.l x, hits := ch.hits + 1 }, d) := by
  unfold getC
  rw [if_pos hp, hx]
theorem get_twice {ch : Ch} {d : Dv} {p : Int} (h : (getC ch d p).1 = 0) : (getC (getC ch d p).2.2.1 (getC ch d p).2.2.2 p).1 = 0 ∧ (getC (getC ch d p).2.2.1 (getC ch d p).2.2.2 p).2.1 = (getC ch d p).2.1 := by
  by_cases hp : 0 ≤ p ∧ p < d.st.length
  · cases hx : findC ch.l p with
    | some x =>
      have e := getC_hit hp hx
      rw [e]
      have hxp : (x.p : Int) = p := (findC_some hx).2
      have h2 : findC (useC ch.l x) p = some x := by rw [← hxp]; exact findC_useC_same _ _
      rw [getC_hit (ch := { ch with l := useC ch.l x, hits := ch.hits + 1 }) hp h2]
      exact ⟨rfl, rfl⟩
    | none =>
      have e := getC_room hp hx
      rw [e] at h ⊢
      split at h
      · rename_i h0
        rw [if_pos h0]
        split at h
        · simp at h
        · rename_i hoff
          rw [if_neg hoff]
          have hst := roomC_st { ch with misses := ch.misses + 1 } d
          have h2 : findC ((⟨p.toNat, showsD (roomC { ch with misses := ch.misses + 1 } d).2.2 p.toNat, false, 0⟩ : Hd) :: (roomC { ch with misses := ch.misses + 1 } d).2.1.l) p = some ⟨p.toNat, showsD (roomC { ch with misses := ch.misses + 1 } d).2.2 p.toNat, false, 0⟩ := by
            unfold findC
            rw [List.find?_cons]
            have : decide (((p.toNat : Nat) : Int) = p) = true := by simp; omega
            rw [this]
          rw [getC_hit (by rw [hst]; exact hp) h2]
          exact ⟨rfl, rfl⟩
      · rename_i h0
        exact absurd h h0
  · have e : getC ch d p = (1, [], ch, d) := by unfold getC; rw [if_neg hp]
    rw [e] at h
    simp at h
theorem writeQ_bad {d : Dv} {p : Nat} {zs : List Int} (h : (writeQ d p zs).1 ≠ 0) : (writeQ d p zs).2.off = true := by
  unfold writeQ at h ⊢
  split
  · rename_i h1; exact h1
  · rename_i h1
    rw [if_neg h1] at h
    have hl : d.left = some 0 := by
      by_cases hh : d.left = some 0
      · exact hh
      · exact absurd (spendE_live { d with ws := d.ws ++ [(p, zs)] } hh |> fun e => (by unfold spendE at h; unfold spendE at e; exact e)) h
    unfold spendD
    simp only [hl]
theorem writeQ_off {d : Dv} (h : d.off = true) (p : Nat) (zs : List Int) : writeQ d p zs = (5, d) := by unfold writeQ; rw [if_pos h]
theorem get_never {n : Nat} {ch : Ch} {d : Dv} {p : Int} (ok : ChOk n ch) (h : (getC ch d p).1 ≠ 0) : (getC (getC ch d p).2.2.1 (getC ch d p).2.2.2 p).1 ≠ 0 := by
  by_cases hp : 0 ≤ p ∧ p < d.st.length
  · cases hx : findC ch.l p with
    | some x =>
      have e := getC_hit hp hx
      rw [e] at h
      exact absurd rfl h
    | none =>
      have e := getC_room hp hx
      have hst := roomC_st { ch with misses := ch.misses + 1 } d
      have hnf := roomC_find (c := { ch with misses := ch.misses + 1 }) (d := d) hx
      have ok1 : ChOk n { ch with misses := ch.misses + 1 } := ⟨ok.lo, ok.hi, ok.few, ok.nodup, ok.pages⟩
      rw [e] at h ⊢
      by_cases h0 : (roomC { ch with misses := ch.misses + 1 } d).1 = 0
      · rw [if_pos h0] at h ⊢
        by_cases hoff : (roomC { ch with misses := ch.misses + 1 } d).2.2.off = true
        · rw [if_pos hoff]
          -- there is room now, and no power
          have hroom := roomC_room ok1 h0
          have hsz := (roomC_size { ch with misses := ch.misses + 1 } d).1
          rw [getC_room (by rw [hst]; exact hp) hnf]
          have er : roomC { (roomC { ch with misses := ch.misses + 1 } d).2.1 with misses := (roomC { ch with misses := ch.misses + 1 } d).2.1.misses + 1 } (roomC { ch with misses := ch.misses + 1 } d).2.2 = (0, { (roomC { ch with misses := ch.misses + 1 } d).2.1 with misses := (roomC { ch with misses := ch.misses + 1 } d).2.1.misses + 1 }, (roomC { ch with misses := ch.misses + 1 } d).2.2) := by
            generalize roomC { ch with misses := ch.misses + 1 } d = R at *
            unfold roomC
            rw [if_pos (by show R.2.1.l.length < R.2.1.size; rw [hsz]; exact hroom)]
          rw [er, if_pos rfl, if_pos hoff]
          simp
        · rw [if_neg hoff] at h
          exact absurd rfl h
      · rw [if_neg h0] at h ⊢
        rw [getC_room (by rw [hst]; exact hp) hnf]
        -- the same page must go, and can't
        have key : (roomC { (roomC { ch with misses := ch.misses + 1 } d).2.1 with misses := (roomC { ch with misses := ch.misses + 1 } d).2.1.misses + 1 } (roomC { ch with misses := ch.misses + 1 } d).2.2).1 ≠ 0 := by
          by_cases hl : ch.l.length < ch.size
          · exfalso
            apply h0
            unfold roomC
            rw [if_pos hl]
          · cases hg : goesC ch.l with
            | none =>
              have er : roomC { ch with misses := ch.misses + 1 } d = (6, { ch with misses := ch.misses + 1 }, d) := by
                unfold roomC
                rw [if_neg hl]
                simp only [hg]
              rw [er]
              show (roomC { ch with misses := ch.misses + 1 + 1 } d).1 ≠ 0
              have er2 : roomC { ch with misses := ch.misses + 1 + 1 } d = (6, { ch with misses := ch.misses + 1 + 1 }, d) := by
                unfold roomC
                rw [if_neg hl]
                simp only [hg]
              rw [er2]
              simp
            | some y =>
              by_cases hc : y.ch = true
              · by_cases hw : (writeQ d y.p y.bs).1 = 0
                · exfalso
                  apply h0
                  unfold roomC
                  rw [if_neg hl]
                  simp only [hg]
                  rw [if_pos hc, if_pos hw]
                · have er : roomC { ch with misses := ch.misses + 1 } d = ((writeQ d y.p y.bs).1, { ch with misses := ch.misses + 1 }, (writeQ d y.p y.bs).2) := by
                    unfold roomC
                    rw [if_neg hl]
                    simp only [hg]
                    rw [if_pos hc, if_neg hw]
                  rw [er]
                  have ho := writeQ_bad hw
                  show (roomC { ch with misses := ch.misses + 1 + 1 } (writeQ d y.p y.bs).2).1 ≠ 0
                  have er2 : roomC { ch with misses := ch.misses + 1 + 1 } (writeQ d y.p y.bs).2 = (5, { ch with misses := ch.misses + 1 + 1 }, (writeQ d y.p y.bs).2) := by
                    unfold roomC
                    rw [if_neg hl]
                    simp only [hg]
                    rw [if_pos hc, writeQ_off ho, if_neg (by show ¬ ((5 : Int) = 0); decide)]
                  rw [er2]
                  simp
              · exfalso
                apply h0
                unfold roomC
                rw [if_neg hl]
                simp only [hg]
                rw [if_neg hc]
        rw [if_neg key]
        exact key
  · have e : getC ch d p = (1, [], ch, d) := by unfold getC; rw [if_neg hp]
    rw [e]
    show (getC ch d p).1 ≠ 0
    rw [e]
    simp

end Go.Proofs.YtoplhehcjgldeaaGreat
