/- Contract: does, the kind that writes a page. -/
import Derived.Test.YtofpngmabjpfhaaDDoesM
namespace Go.Proofs.Ytofpngmabjpfhaa
open Go.RowKit
set_option linter.unusedVariables false

theorem stS_isQ {E : Int} {Q : World → Prop} (hQ : ∀ w w', Only (fun _ => False) w w' → Q w → Q w') : StS (fun _ => False) (isQ E Q) := by
  rintro v w w' ho ⟨h1, h2⟩
  exact ⟨h1, hQ _ _ ho h2⟩

set_option maxHeartbeats 2000000 in
set_option maxRecDepth 20000 in
theorem does_write (w0 w : World) (b r n c q : Nat) (qs : List Value) (o : OpA) (hB : Both w0 w b r n c) (hq : Blk w q 35 qs) (ho : OpOk w0 o) (hc : c ≤ 1000) (hk : o.dO = 0) :
    Calls Try.prog 12 #[dp b, dp r, .agg (opc o).toArray] w fun e w' => e = .returned (.bool true) ∧ Both w0 w' b r n (c + 1) ∧ Blk w' q 35 qs := by
  obtain ⟨d, F, G, hD, hR, hFG, hF, hG, hW, hS, hnF, hnG⟩ := both_open hB hq
  have hqs := hq.lt
  have hbA : Below w.heap.size w (w.alloc (.cells (opc o).toArray 35)) := (Below.refl _ w).alloc (Nat.le_refl _) _
  have hN := Blk.new w 35 (opc o)
  have q0 : (w.alloc (.cells (opc o).toArray 35)).cell? ⟨w.heap.size, 0, none⟩ = some (.int .i64 o.dO) := Blk.cell hN 0
  have q1 : (w.alloc (.cells (opc o).toArray 35)).cell? ⟨w.heap.size, 1, none⟩ = some (.int .i64 o.p) := Blk.cell hN 1
  have q3 : (w.alloc (.cells (opc o).toArray 35)).cell? ⟨w.heap.size, 3, none⟩ = some o.bv := Blk.cell hN 3
  rw [hk] at q0
  obtain ⟨wA, hwA⟩ : ∃ wA, wA = w.alloc (.cells (opc o).toArray 35) := ⟨_, rfl⟩
  have hsA : wA.heap.size = w.heap.size + 1 := by rw [hwA]; simp
  rw [← hwA] at hbA hN
  have hWA : Below w0.heap.size w0 wA := below_then hW hbA (Nat.le_refl _)
  have hw0 := hW.size
  have hSb := ho.sb
  have hS2 := hS.2.1
  have hS3 := hS.2.2
  have hpo : PageOk (pageS o.b) := pageS_ok hSb.bytes
  have HP1 : Hid (Calls Try.prog 16 #[o.bv] (w.alloc (.cells (opc o).toArray 35)) fun e w' => e = .returned (.slice (some ⟨w.heap.size + 1, 0, none⟩) 256 256) ∧ Blk w' (w.heap.size + 1) 5 (pc (pageS o.b)) ∧ Below wA.heap.size wA w') := by
    have := page_any wA o.bv o.b (hSb.below hWA)
    rw [hsA] at this ⊢
    rw [← hwA]; exact this
  have HQ1 : Hid (∀ w1, Below wA.heap.size wA w1 → w1.cell? ⟨w.heap.size, 1, none⟩ = some (.int .i64 o.p)) := fun w1 h1 => (hN.below h1 (by omega)).cell 1
  have H1 : Hid (∀ w1, Below wA.heap.size wA w1 → Blk w1 (w.heap.size + 1) 5 (pc (pageS o.b)) → Calls Try.prog 15 #[dp b, .int .i64 o.p, .slice (some ⟨w.heap.size + 1, 0, none⟩) 256 256] w1 fun e w' => e = .returned (.int .i64 (writeR d o.p (pageS o.b)).1) ∧ Dev w' b (fun k => F k ∨ w1.heap.size ≤ k) (writeR d o.p (pageS o.b)).2 ∧ Only F w1 w') := fun w1 h1 hB1 =>
    write_all w1 b F d o.p _ _ ((hD.below hbA).below h1) (sl_page hB1 hpo) (by omega) (by omega)
  have HZ : Hid (∀ w1 w2 w3, Below wA.heap.size wA w1 → w.heap.size + 1 < w1.heap.size → Only F w1 w2 → Dev w2 b (fun k => F k ∨ w1.heap.size ≤ k) (writeR d o.p (pageS o.b)).2 → Only (· = w.heap.size + 1) w2 w3 → Dev w3 b (fun k => F k ∨ w1.heap.size ≤ k) (writeR d o.p (pageS o.b)).2 ∧ Ref w3 r G d ∧ Blk w3 w.heap.size 35 (opc o) ∧ Below w0.heap.size w0 w3 ∧ Blk w3 q 35 qs) := fun w1 w2 w3 h1 hlt h2 d2 h3 => by
    have hW1 := below_then hWA h1 (Nat.le_refl _)
    have hW2 := hW1.trans (h2.below hW1.size (fun k hk h => by have := hF k h; omega))
    have hW3 := hW2.trans (h3.below hW2.size (fun k hk e => by omega))
    refine ⟨d2.keep h3 (fun k hf e => ?_), (((hR.below hbA).below h1).keep h2 (fun k hg hf => hFG k hf hg)).keep h3 (fun k hg e => by have := hG k hg; omega), ((hN.below h1 (by omega)).only h2 (fun h => by have := hF _ h; omega)).only h3 (fun e => by omega), hW3, (((hq.below hbA hq.lt).below h1 (by omega)).only h2 hnF).only h3 (fun e => by omega)⟩
    rcases hf with h | h
    · have := hF k h; omega
    · omega
  have HG' := hide hG
  have HnG : Hid (¬ G q) := hnG
  have HFG' := hide hFG
  have HF' := hide hF
  have HSb := hide hSb
  have HSz := hide (sized_write hS o.p (pageS o.b))
  have HPO := hide hpo
  obtain ⟨ak, nk, ck, hkf⟩ := sl_form hSb
  rw [hkf] at HP1 q3 HSb
  have HKF := hide hkf
  have hz256 := hpo.1
  have hWs : d.ws.length < 1000000 := by omega
  have hDs : d.done < 1000000000 := by omega
  clear hD hR hFG hF hG hW hS hbA hN hWA hk hSb hpo hkf
  generalize hE : (writeR d o.p (pageS o.b)).1 = E at H1
  generalize hd' : (writeR d o.p (pageS o.b)).2 = d' at H1 HZ HSz
  have HE := hide hE
  have HD' := hide hd'
  have HWA := hide hwA
  clear hE hd' hwA
  go_enter Try.func12, Try.ntmps12
  go_wp2_with (first
    | (go_at_call 16; refine HP1.out.mono ?_; rintro e w1 ⟨rfl, hB1, hb1⟩; have HB1 := hide hB1; have Hb1 := hide hb1; have q11 := HQ1.out w1 hb1; clear HP1 hB1 hb1)
    | (go_at_call 15; refine (H1.out w1 Hb1.out HB1.out).mono ?_; rintro e w2 ⟨rfl, hd2, ho2⟩; have HD2 := hide hd2; have HO2 := hide ho2; clear H1 hd2 ho2))
  have hlt1 : w.heap.size + 1 < w1.heap.size := HB1.out.lt
  have hB2 : Blk w2 (w.heap.size + 1) 5 (pc (pageS o.b)) := HB1.out.only HO2.out (fun h => by have := HF'.out _ h; omega)
  have HB2 := hide hB2
  clear hB2 q11 q1 q3
  go_loopg [28] 256 (fun g i wr => ∃ (k : Nat) (cs : List Value), g + k = 256 ∧ i = .int .i64 k ∧ Blk wr (w.heap.size + 1) 5 cs ∧ isBytes cs ∧ Only (· = w.heap.size + 1) w2 wr)
  case atStart => exact ⟨0, _, rfl, rfl, HB2.out, isBytes_pc hz256, Only.refl _ _⟩
  case round =>
    obtain ⟨k, cs, hk, rfl, hB, hy, ho3⟩ := hrel
    cases gk with
    | succ g =>
      have hk2 : k < 256 := by omega
      have hki : (k : Int) < 256 := by omega
      obtain ⟨y, hyk⟩ := hy k hk2
      have cy := (hB.cell k).trans hyk
      have fy := hB.frozen k
      have HB := hide hB
      have HY := hide hy
      have HO := hide ho3
      clear hB hy ho3 hyk
      go_wp2
      go_roundg g
      case measure => omega
      case rel => exact ⟨k + 1, _, by omega, by go_num, HB.out.set k _, isBytes_set HY.out k _, HO.out.setCell ⟨w.heap.size + 1, k, none⟩ _ (fun _ => rfl)⟩
    | zero =>
      obtain rfl : k = 256 := by omega
      obtain ⟨w3, rfl⟩ : ∃ x, x = wr := ⟨_, rfl⟩
      obtain ⟨z1, z2, z3, z4, z5⟩ := HZ.out w1 w2 w3 Hb1.out hlt1 HO2.out HD2.out ho3
      have hs13 : w1.heap.size ≤ w3.heap.size := Nat.le_trans HO2.out.size ho3.size
      have HC : Hid (∀ wx, Only G w3 wx → wx.cell? ⟨w.heap.size, 1, none⟩ = some (.int .i64 o.p) ∧ wx.cell? ⟨w.heap.size, 3, none⟩ = some (.slice ak nk ck)) := fun wx hx => by
        have h1 := z3.only hx (fun h => by have := HG'.out _ h; omega)
        exact ⟨h1.cell 1, (h1.cell 3).trans (by rw [← HKF.out]; rfl)⟩
      have HPg : Hid (∀ wx, Only G w3 wx → Calls Try.prog 16 #[.slice ak nk ck] wx _) := fun wx hx => page_any wx (.slice ak nk ck) o.b (HSb.out.below (z4.trans (hx.below z4.size (fun k hk h => by have := HG'.out k h; omega))))
      have HWr : Hid (∀ wx g, Only (fun _ => False) w3 wx → Blk wx g 5 (pc (pageS o.b)) → w3.heap.size ≤ g → Calls Try.prog 31 #[dp r, .int .i64 o.p, .slice (some ⟨g, 0, none⟩) 256 256] wx fun e w' => e = .returned (.int .i64 E) ∧ Ref w' r (fun k => G k ∨ w3.heap.size ≤ k) d' ∧ Only G wx w') := fun wx g hx hBg hg => by
        have hsx := hx.size
        have := refWrite_all wx r G d o.p _ (pageS o.b) (z2.keep hx (fun _ _ h => h)) (sl_page hBg HPO.out) (fun _ k hk hh => by simp [Value.ownBlock] at hk; have := HG'.out k hh; omega) hWs hDs
        rw [HE.out, HD'.out] at this
        refine this.mono ?_
        rintro e w' ⟨rfl, h1, h2⟩
        exact ⟨rfl, h1.mono (fun k _ h => h.elim .inl (fun h => .inr (by omega))), h2⟩
      have HLt : Hid (∀ k, G k → k < w3.heap.size) := fun k hg => by have := HG'.out k hg; omega
      have HEnd : Hid (∀ w4, Only G w3 w4 → Ref w4 r (fun k => G k ∨ w3.heap.size ≤ k) d' → Both w0 w4 b r n (c + 1) ∧ Blk w4 q 35 qs) := fun w4 h4 d4 => by
        refine ⟨both_typed (z1.keep h4 (fun k hf hg => ?_)) d4 (fun k h => ?_) (fun k h => ?_) (z4.trans (h4.below z4.size (fun k hk h => by have := HG'.out k h; omega))) HSz.out, z5.only h4 HnG.out⟩
        · rcases hf with h | h
          · exact HFG'.out k h hg
          · have := HG'.out k hg; omega
        · rcases h with h | h
          · exact (HF'.out k h).1
          · omega
        · rcases h with h | h
          · exact (HG'.out k h).1
          · omega
      clear z1 z2 z3 z4 z5 ho3 hB hy HZ HO2 HD2 HB2 HB1 Hb1
      go_wp2
      refine wp_region_only G [isV (.int .i64 E), isV (.pointer (some ⟨r, 0, none⟩)), isV (.pointer (some ⟨w.heap.size, 1, none⟩)), isV (.int .i64 o.p), isV (.pointer (some ⟨w.heap.size, 3, none⟩)), isV (.slice ak nk ck), isPg w3.heap.size (pageS o.b), isQ E (fun wz => Ref wz r (fun k => G k ∨ w3.heap.size ≤ k) d'), isV (.bool true)] 7 152 9 (by kernel_rfl) (by kernel_rfl) (by kernel_rfl) (by kernel_rfl) rfl ?_ ?_ ?_
      · repeat (first | exact trivial | refine allStL_isV ?_ | refine ⟨stS_isPg _ _ _ (fun _ h => h.elim), fun _ => stS_isPg _ _ _ (fun k hk => HLt.out k hk), ?_⟩ | refine ⟨stS_isQ (fun wy wz hh hd => Ref.keep hd hh (fun _ _ h => h)), fun h => absurd rfl h, ?_⟩)
      · refine ⟨?_, ?_, ?_, ?_, ?_, ?_, ?_, ?_, ?_, trivial⟩
        · intro a wx h
          have e8 : a.eval (.tmp 8) = .int .i64 E := h.old 8 (by kernel_rfl)
          have hrel := h.rel
          clear h
          refine gives_by rfl a.eval rfl ?_
          generalize a.eval = ρ at *
          intro hf hc
          go_simp
          exact ⟨relM_quiet (by decide) (Only.refl _ _), rfl⟩
        · intro a wx h
          have e1 : a.eval (.tmp 1) = .pointer (some ⟨r, 0, none⟩) := h.old 1 (by kernel_rfl)
          have hrel := h.rel
          clear h
          refine gives_by rfl a.eval rfl ?_
          generalize a.eval = ρ at *
          intro hf hc
          go_simp
          exact ⟨relM_quiet (by decide) (Only.refl _ _), rfl⟩
        · intro a wx h
          have e5 : a.eval (.tmp 5) = .pointer (some ⟨w.heap.size, 0, none⟩) := h.old 5 (by kernel_rfl)
          have hrel := h.rel
          clear h
          refine gives_by rfl a.eval rfl ?_
          generalize a.eval = ρ at *
          intro hf hc
          go_simp
          exact ⟨relM_quiet (by decide) (Only.refl _ _), rfl⟩
        · intro a wx h
          obtain ⟨v40, e40, f40⟩ := h.val 2 40 (by kernel_rfl)
          obtain rfl : v40 = .pointer (some ⟨w.heap.size, 1, none⟩) := f40
          have hrel := h.rel
          clear h
          have cx := (HC.out wx hrel).1
          refine gives_by rfl a.eval rfl ?_
          generalize a.eval = ρ at *
          intro hf hc
          go_simp
          exact ⟨relM_quiet (by decide) (Only.refl _ _), rfl⟩
        · intro a wx h
          have e5 : a.eval (.tmp 5) = .pointer (some ⟨w.heap.size, 0, none⟩) := h.old 5 (by kernel_rfl)
          have hrel := h.rel
          clear h
          refine gives_by rfl a.eval rfl ?_
          generalize a.eval = ρ at *
          intro hf hc
          go_simp
          exact ⟨relM_quiet (by decide) (Only.refl _ _), rfl⟩
        · intro a wx h
          obtain ⟨v42, e42, f42⟩ := h.val 4 42 (by kernel_rfl)
          obtain rfl : v42 = .pointer (some ⟨w.heap.size, 3, none⟩) := f42
          have hrel := h.rel
          clear h
          have cx := (HC.out wx hrel).2
          refine gives_by rfl a.eval rfl ?_
          generalize a.eval = ρ at *
          intro hf hc
          go_simp
          exact ⟨relM_quiet (by decide) (Only.refl _ _), rfl⟩
        · intro a wx h
          obtain ⟨v43, e43, f43⟩ := h.val 5 43 (by kernel_rfl)
          obtain rfl : v43 = .slice ak nk ck := f43
          have hrel := h.rel
          clear h
          refine gives_by rfl a.eval rfl ?_
          generalize a.eval = ρ at *
          intro hf hc
          go_simp
          refine (HPg.out wx hrel).mono ?_
          rintro e wy ⟨rfl, hp, hb⟩
          have hsz := hrel.size
          exact ⟨_, rfl, relM_quiet (by decide) (Only.of_below _ hb), ⟨_, rfl, hp, hsz⟩⟩
        · intro a wx h
          obtain ⟨v39, e39, f39⟩ := h.val 1 39 (by kernel_rfl)
          obtain rfl : v39 = .pointer (some ⟨r, 0, none⟩) := f39
          obtain ⟨v41, e41, f41⟩ := h.val 3 41 (by kernel_rfl)
          obtain rfl : v41 = .int .i64 o.p := f41
          obtain ⟨v44, e44, f44⟩ := h.val 6 44 (by kernel_rfl)
          obtain ⟨g, rfl, hB, hg⟩ := f44
          have hrel := h.rel
          have hq := h.relq rfl
          clear h
          refine gives_by rfl a.eval rfl ?_
          generalize a.eval = ρ at *
          intro hf hc
          go_simp
          refine (HWr.out wx g hq hB hg).mono ?_
          rintro e wy ⟨rfl, hd, ho⟩
          exact ⟨_, rfl, relM_turn ho, rfl, hd⟩
        · intro a wx h
          obtain ⟨v38, e38, f38⟩ := h.val 0 38 (by kernel_rfl)
          obtain rfl : v38 = .int .i64 E := f38
          obtain ⟨v45, e45, f45⟩ := h.val 7 45 (by kernel_rfl)
          obtain ⟨rfl, _⟩ := f45
          have hrel := h.rel
          clear h
          refine gives_by rfl a.eval rfl ?_
          generalize a.eval = ρ at *
          intro hf hc
          go_simp
          exact ⟨relM_quiet (by decide) (Only.refl _ _), rfl⟩
      · intro oL hoL vals w4 ho4 hv
        simp only [List.getElem?_toArray, List.getElem?_cons_succ, List.getElem?_cons_zero, Option.some.injEq] at hoL
        subst hoL
        have hv7 : isQ E (fun wz => Ref wz r (fun k => G k ∨ w3.heap.size ≤ k) d') (vals 7) w4 := hv 7 45 (by decide) (by kernel_rfl)
        have hv8 : vals 8 = .bool true := hv 8 46 (by decide) (by kernel_rfl)
        clear hv
        generalize hact : putAll _ vals 0 _ = act
        have HE2 := hide (HEnd.out w4 ho4 hv7.2)
        clear hv7 ho4
        subst hact
        simp only [List.dropLast, putAll, Act.put, List.setIfInBounds_toArray, List.set_cons_zero, List.set_cons_succ, hv8]
        refine gives_of_run rfl (exec_assign (.tmp 46) rfl (.bool true) rfl) ?_
        clear hv8
        go_wp2
        go_ret
        exact ⟨rfl, HE2.out⟩

end Go.Proofs.Ytofpngmabjpfhaa
