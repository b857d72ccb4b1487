/- Contract: the document's Join. -/
import Derived.Test.YthnppkeifhnceaaJRegionK
import Derived.Test.YthnppkeifhnceaaJNRefCut
import Derived.Test.YthnppkeifhnceaaJNPutL
import Derived.Test.YthnppkeifhnceaaNFew
namespace Go.Proofs.Ythnppkeifhnceaa
set_option maxRecDepth 20000
open Go.RowKit Go.Shelf
set_option linter.unusedVariables false
set_option linter.unusedSimpArgs false
set_option maxRecDepth 100000
attribute [local go_sem] Oper.semAt_some

theorem JxB.put {w W : World} {A B X : List Value} {xb : Nat} (h : JxB w A B X xb W) (i : Nat) (u : Value) : JxB w A B (X.set i u) xb (W.setCell ⟨xb, i, none⟩ u) := by
  have ho : Only (· = xb) W (W.setCell ⟨xb, i, none⟩ u) := (Only.refl (· = xb) W).setCell ⟨xb, i, none⟩ _ (fun _ => rfl)
  obtain ⟨⟨h1, h2, h3, h4⟩, h5, h6⟩ := h
  exact ⟨⟨h1.trans (ho.below h1.size (fun j hj hs => by subst hs; omega)), h2.only ho (fun hs => by omega), h3.only ho (fun hs => by omega), h4.only ho (fun hs => by omega)⟩, h5.set i u, h6⟩
theorem jn_no {a b : Nd} (key : List Int) (h : mayN a = false ∨ mayN b = false ∨ a.lf ≠ b.lf) : joinN a key b = noNd ∧ joinE a key b = 100 := by
  have h1 : (leafB a && leafB b) = false := by
    cases ha : leafB a with
    | false => rfl
    | true =>
      cases hb : leafB b with
      | false => rfl
      | true =>
        rcases h with h | h | h
        · unfold mayN at h; rw [ha] at h; cases h
        · unfold mayN at h; rw [hb] at h; cases h
        · exact absurd ((leafB_lf ha).trans (leafB_lf hb).symm) h
  have h2 : (innerB a && innerB b) = false := by
    cases ha : innerB a with
    | false => rfl
    | true =>
      cases hb : innerB b with
      | false => rfl
      | true =>
        rcases h with h | h | h
        · unfold mayN at h; rw [ha, Bool.or_true] at h; cases h
        · unfold mayN at h; rw [hb, Bool.or_true] at h; cases h
        · exact absurd ((innerB_lf ha).trans (innerB_lf hb).symm) h
  unfold joinN joinE
  rw [h1, h2]
  exact ⟨rfl, rfl⟩
theorem jn_leaf {a b : Nd} (key : List Int) (ha : mayN a = true) (hb : mayN b = true) (h1 : a.lf = true) (h2 : b.lf = true) : joinN a key b = ownN (joinP a b) ∧ joinE a key b = ownE (joinP a b) ∧ a.ps.length ≤ 255 ∧ b.ps.length ≤ 255 := by
  rw [mayN_lf h1] at ha
  rw [mayN_lf h2] at hb
  unfold joinN joinE
  rw [ha, hb]
  exact ⟨rfl, rfl, (leafB_ps ha).1, (leafB_ps hb).1⟩
theorem jn_inner {a b : Nd} (key : List Int) (ha : mayN a = true) (hb : mayN b = true) (h1 : a.lf = false) (h2 : b.lf = false) : (joinN a key b = if keyB key then ownN (joinK a key b) else noNd) ∧ (joinE a key b = if keyB key then ownE (joinK a key b) else 1) ∧ a.ks.length ≤ 255 ∧ b.ks.length ≤ 255 ∧ a.cs.length ≤ 256 ∧ b.cs.length ≤ 256 := by
  have b1 := may_bounds ha
  have b2 := may_bounds hb
  rw [mayN_in h1] at ha
  rw [mayN_in h2] at hb
  have hl : leafB a = false := by
    cases hl : leafB a with
    | false => rfl
    | true => have := not_both hl; rw [ha] at this; cases this
  unfold joinN joinE
  rw [ha, hb, hl]
  exact ⟨rfl, rfl, by omega, by omega, by omega, by omega⟩

set_option maxHeartbeats 8000000 in
theorem refJoin_any (w : World) (va vb : Value) (a b : Nd) (kv : Value) (key : List Int) (ha : NdV w va a) (hb : NdV w vb b) (hk : Sl w kv key) (hqa : a.ks.length + a.cs.length ≤ 9223372036854775807) (hqb : b.ks.length + b.cs.length ≤ 9223372036854775807) :
    Calls Try.prog 44 #[va, kv, vb] w (GivesN w (joinN a key b) (joinE a key b)) := by
  have HMA : Hid (∀ w1, Below w.heap.size w w1 → Calls Try.prog 25 #[va] w1 fun e w' => e = .returned (.bool (mayN a)) ∧ Below w1.heap.size w1 w') := fun w1 hh => refMay_any w1 va a (ha.below hh) hqa
  have HMB : Hid (∀ w1, Below w.heap.size w w1 → Calls Try.prog 25 #[vb] w1 fun e w' => e = .returned (.bool (mayN b)) ∧ Below w1.heap.size w1 w') := fun w1 hh => refMay_any w1 vb b (hb.below hh) hqb
  have HKE : Hid (∀ w1, Below w.heap.size w w1 → Calls Try.prog 66 #[kv] w1 fun e w' => e = .returned (.bool (keyB key)) ∧ w' = w1) := fun w1 hh => refKey_any w1 kv key (hk.below hh)
  have HNO := hide (@jn_no a b key)
  have HLF := hide (@jn_leaf a b key)
  have HIN := hide (@jn_inner a b key)
  have HGD : Hid (∀ wx v n, NdV wx v n → n.ks.length + n.cs.length ≤ 9223372036854775807 → Calls Try.prog 75 #[v] wx fun e w' => ∃ l p m c kx mk kc' q mq qc, e = .returned (.tuple #[.agg #[.bool l, .slice p m c, .slice kx mk kc', .slice q mq qc], .int .i64 (ownE n)]) ∧ NdN w' wx.heap.size (.agg #[.bool l, .slice p m c, .slice kx mk kc', .slice q mq qc]) (ownN n) ∧ Below wx.heap.size wx w') := fun wx v n hv hq => by
    refine (good_any wx v n hv hq).mono ?_
    rintro e w' ⟨u, rfl, hn, hb'⟩
    obtain ⟨pa, np, pc, ka, nk, kc, ca, nc, cc, rfl⟩ := hn.form
    exact ⟨_, _, _, _, _, _, _, _, _, _, rfl, hn, hb'⟩
  have HKV := hide hk
  obtain ⟨pa, pc, ka, kc, ca, cc, xs, ys, rfl, hp1, hk1, hc1, hp2, hk2, hc2, hP, hK, hC⟩ := ha.open
  obtain ⟨pa', pc', ka', kc', ca', cc', xs', ys', rfl, hp1', hk1', hc1', hp2', hk2', hc2', hP', hK', hC'⟩ := hb.open
  have HP := hide hP
  have HK := hide hK
  have HC := hide hC
  have HP' := hide hP'
  have HK' := hide hK'
  have HC' := hide hC'
  have HXL := hide hP.1
  have HYL := hide hK.1
  obtain ⟨q1, m1, dq, rfl⟩ := sl_form hk
  unfold ndv at HMA HMB ⊢
  generalize hlf : a.lf = lf at *
  generalize hlf' : b.lf = lf' at *
  have hza : ∀ wx : World, (zeroValue 26).run Try.prog wx = .ok (.agg #[.bool false, .slice none 0 0, .slice none 0 0, .slice none 0 0]) wx := fun wx => by kernel_rfl
  obtain ⟨np, hnp⟩ : ∃ m, a.ps.length = m := ⟨_, rfl⟩
  obtain ⟨nk, hnk⟩ : ∃ m, a.ks.length = m := ⟨_, rfl⟩
  obtain ⟨nc, hnc⟩ : ∃ m, a.cs.length = m := ⟨_, rfl⟩
  obtain ⟨np', hnp'⟩ : ∃ m, b.ps.length = m := ⟨_, rfl⟩
  obtain ⟨nk', hnk'⟩ : ∃ m, b.ks.length = m := ⟨_, rfl⟩
  obtain ⟨nc', hnc'⟩ : ∃ m, b.cs.length = m := ⟨_, rfl⟩
  rw [hnp] at HP HMA ⊢
  rw [hnk] at HK HMA ⊢
  rw [hnc] at HC HMA ⊢
  rw [hnp'] at HP' HMB ⊢
  rw [hnk'] at HK' HMB ⊢
  rw [hnc'] at HC' HMB ⊢
  have HNP := hide hnp
  have HNP' := hide hnp'
  have HNK := hide hnk
  have HNK' := hide hnk'
  have HNC := hide hnc
  have HNC' := hide hnc'
  obtain ⟨w1, hw1⟩ : ∃ w1, ((w.alloc (.cells #[.bool lf, .slice pa np pc, .slice ka nk kc, .slice ca nc cc] 26)).alloc (.cells #[.bool lf', .slice pa' np' pc', .slice ka' nk' kc', .slice ca' nc' cc'] 26)).alloc (.cells #[.bool false, .slice none 0 0, .slice none 0 0, .slice none 0 0] 26) = w1 := ⟨_, rfl⟩
  have HJ1 : Hid (JnB w [.bool lf, .slice pa np pc, .slice ka nk kc, .slice ca nc cc] [.bool lf', .slice pa' np' pc', .slice ka' nk' kc', .slice ca' nc' cc'] zeroC w1) := by
    rw [← hw1]
    refine ⟨(((Below.refl _ w).alloc (Nat.le_refl _) _).alloc (by simp) _).alloc (by simp; omega) _, ((Blk.new w _ _).alloc _).alloc _, ?_, ?_⟩
    · have := (Blk.new (w.alloc (.cells #[.bool lf, .slice pa np pc, .slice ka nk kc, .slice ca nc cc] 26)) 26 [.bool lf', .slice pa' np' pc', .slice ka' nk' kc', .slice ca' nc' cc']).alloc (.cells #[.bool false, .slice none 0 0, .slice none 0 0, .slice none 0 0] 26)
      rw [World.size_alloc] at this
      exact this
    · have := Blk.new ((w.alloc (.cells #[.bool lf, .slice pa np pc, .slice ka nk kc, .slice ca nc cc] 26)).alloc (.cells #[.bool lf', .slice pa' np' pc', .slice ka' nk' kc', .slice ca' nc' cc'] 26)) 26 zeroC
      rw [World.size_alloc, World.size_alloc] at this
      exact this
  obtain ⟨⟨z0, z1, z2, z3⟩, _⟩ := node_cells HJ1.out.2.1
  clear ha hb hk hP hK hC hP' hK' hC' hnp hnk hnc hnp' hnk' hnc'
  clear hqa hqb
  cases hma : mayN a with
  | false =>
    obtain ⟨r1, r2⟩ := HNO.out (.inl hma)
    rw [hma] at HMA
    rw [r1, r2]
    clear HNO HLF HIN HGD HKE HMB r1 r2
    go_enter Try.func44, Try.ntmps44
    go_wp2_with (go_at_call 25; refine (HMA.out w1 HJ1.out.1).mono ?_; rintro e w2 ⟨rfl, hb2⟩; have HJ2 := hide (HJ1.out.keep (Only.of_below (fun _ => False) hb2)); clear z0 z1 z2 z3; obtain ⟨⟨z0, z1, z2, z3⟩, _⟩ := node_cells HJ2.out.2.1; obtain ⟨⟨y0, y1, y2, y3⟩, _⟩ := node_cells HJ2.out.2.2.1; obtain ⟨⟨d0, d1', d2, d3⟩, k0, k1, k2, k3⟩ := node_cells HJ2.out.2.2.2; clear HMA hb2)
    (try simp only [Exit.inBlock, Exit.then])
    refine bodyPost_ret (ret_node1 rfl _ _ (w.heap.size + 2) _ _ _ _ _ rfl rfl (laidN_blk HJ2.out.2.2.2 _ _ _ _)) rfl ?_
    skip
    exact GivesN.no 100 (HJ2.out.1.trans ((laidN_only w2 (w.heap.size + 2) _ _ _ _).below HJ2.out.1.size (fun j hj e => by omega)))
  | true =>
    cases hmb : mayN b with
    | false =>
      obtain ⟨r1, r2⟩ := HNO.out (.inr (.inl hmb))
      rw [hma] at HMA
      rw [hmb] at HMB
      rw [r1, r2]
      clear HNO HLF HIN HGD HKE r1 r2
      go_enter Try.func44, Try.ntmps44
      go_wp2_with (first | (go_at_call 25; refine (HMA.out w1 HJ1.out.1).mono ?_; rintro e w2 ⟨rfl, hb2⟩; have HJ2 := hide (HJ1.out.keep (Only.of_below (fun _ => False) hb2)); clear z0 z1 z2 z3; obtain ⟨⟨z0, z1, z2, z3⟩, _⟩ := node_cells HJ2.out.2.1; obtain ⟨⟨y0, y1, y2, y3⟩, _⟩ := node_cells HJ2.out.2.2.1; obtain ⟨⟨d0, d1', d2, d3⟩, k0, k1, k2, k3⟩ := node_cells HJ2.out.2.2.2; clear HMA hb2) | (go_at_call 25; refine (HMB.out w2 HJ2.out.1).mono ?_; rintro e w3 ⟨rfl, hb3⟩; have HJ3 := hide (HJ2.out.keep (Only.of_below (fun _ => False) hb3)); clear z0 z1 z2 z3 y0 y1 y2 y3 d0 d1' d2 d3 k0 k1 k2 k3; obtain ⟨⟨z0, z1, z2, z3⟩, _⟩ := node_cells HJ3.out.2.1; obtain ⟨⟨y0, y1, y2, y3⟩, _⟩ := node_cells HJ3.out.2.2.1; obtain ⟨⟨d0, d1', d2, d3⟩, k0, k1, k2, k3⟩ := node_cells HJ3.out.2.2.2; clear HMB hb3))
      (try simp only [Exit.inBlock, Exit.then])
      refine bodyPost_ret (ret_node1 rfl _ _ (w.heap.size + 2) _ _ _ _ _ rfl rfl (laidN_blk HJ3.out.2.2.2 _ _ _ _)) rfl ?_
      skip
      exact GivesN.no 100 (HJ3.out.1.trans ((laidN_only w3 (w.heap.size + 2) _ _ _ _).below HJ3.out.1.size (fun j hj e => by omega)))
    | true =>
      rw [hma] at HMA
      rw [hmb] at HMB
      by_cases hll : lf = lf'
      · subst hll
        cases lf with
        | true =>
        obtain ⟨r1, r2, hpa, hpb⟩ := HLF.out hma hmb rfl rfl
        rw [r1, r2]
        rw [HNP.out] at hpa
        rw [HNP'.out] at hpb
        clear HNO HLF HIN HKE r1 r2
        go_enter Try.func44, Try.ntmps44
        go_wp2_with (first | (go_at_call 25; refine (HMA.out w1 HJ1.out.1).mono ?_; rintro e w2 ⟨rfl, hb2⟩; have HJ2 := hide (HJ1.out.keep (Only.of_below (fun _ => False) hb2)); clear z0 z1 z2 z3; obtain ⟨⟨z0, z1, z2, z3⟩, _⟩ := node_cells HJ2.out.2.1; obtain ⟨⟨y0, y1, y2, y3⟩, _⟩ := node_cells HJ2.out.2.2.1; obtain ⟨⟨d0, d1', d2, d3⟩, k0, k1, k2, k3⟩ := node_cells HJ2.out.2.2.2; clear HMA hb2) | (go_at_call 25; refine (HMB.out w2 HJ2.out.1).mono ?_; rintro e w3 ⟨rfl, hb3⟩; have HJ3 := hide (HJ2.out.keep (Only.of_below (fun _ => False) hb3)); clear z0 z1 z2 z3 y0 y1 y2 y3 d0 d1' d2 d3 k0 k1 k2 k3; obtain ⟨⟨z0, z1, z2, z3⟩, _⟩ := node_cells HJ3.out.2.1; obtain ⟨⟨y0, y1, y2, y3⟩, _⟩ := node_cells HJ3.out.2.2.1; obtain ⟨⟨d0, d1', d2, d3⟩, k0, k1, k2, k3⟩ := node_cells HJ3.out.2.2.2; have za : ∀ o, (w3.alloc o).cell? ⟨w.heap.size, 0, none⟩ = some (.bool true) := (fun o => (HJ3.out.2.1.alloc o).cell 0); clear HMB hb3))
        obtain ⟨W, hW⟩ : ∃ W, W = w3.alloc (.cells #[.bool true, .slice none 0 0, .slice none 0 0, .slice none 0 0] 26) := ⟨_, rfl⟩
        obtain ⟨xb, hxb⟩ : ∃ x, x = w3.heap.size := ⟨_, rfl⟩
        have HX0 : Hid (JxB w [.bool true, .slice pa np pc, .slice ka nk kc, .slice ca nc cc] [.bool true, .slice pa' np' pc', .slice ka' nk' kc', .slice ca' nc' cc'] [.bool true, .slice none 0 0, .slice none 0 0, .slice none 0 0] xb W) := by
          have hon : Only (fun _ => False) w3 W := by rw [hW]; exact (Only.refl _ w3).alloc _
          exact ⟨HJ3.out.keep hon, by rw [hW, hxb]; exact Blk.new w3 _ _, by have := HJ3.out.2.2.2.lt; omega⟩
        simp only [← hxb, ← hW]
        have hxb3 : w.heap.size + 3 ≤ xb := HX0.out.2.2
        clear hW hxb za HJ3 HJ2 z0 z1 z2 z3 y0 y1 y2 y3 d0 d1' d2 d3 k0 k1 k2 k3
        obtain ⟨⟨z0, z1, z2, z3⟩, _⟩ := node_cells HX0.out.1.2.1
        (try go_wp2)
        clear z0 z1 z2 z3
        refine wp_region_chain [some (.pointer (some ⟨xb, 1, none⟩)), some (.slice none 0 0), some (.pointer (some ⟨w.heap.size, 1, none⟩)), some (.slice pa np pc), none, some (.pointer (some ⟨w.heap.size + 1, 1, none⟩)), some (.slice pa' np' pc'), none, some (.pointer (some ⟨xb, 1, none⟩)), none] [4, 7, 9] (JtS w [.bool true, .slice pa np pc, .slice ka nk kc, .slice ca nc cc] [.bool true, .slice pa' np' pc', .slice ka' nk' kc', .slice ca' nc' cc'] [.bool true, .slice none 0 0, .slice none 0 0, .slice none 0 0] [.bool true, .slice none 0 0, .slice none 0 0, .slice none 0 0] xb 36 2 (flatP xs) (flatP xs') (fun v => [.bool true, v, .slice none 0 0, .slice none 0 0]) (fun _ => True) 4 7) 72 (by kernel_rfl) (by kernel_rfl) (by kernel_rfl) (by kernel_rfl) rfl ?_ ?_ ?_
        · intro vals0
          exact (⟨HX0.out.same ((Only.refl (fun _ => False) W).drew), trivial⟩ : (JxB w [.bool true, .slice pa np pc, .slice ka nk kc, .slice ca nc cc] [.bool true, .slice pa' np' pc', .slice ka' nk' kc', .slice ca' nc' cc'] [.bool true, .slice none 0 0, .slice none 0 0, .slice none 0 0] xb W.drew ∧ True))
        · refine ⟨?_, ?_, ?_, ?_, ?_, ?_, ?_, ?_, ?_, ?_, trivial⟩
          · intro k vals act wx hk h hs
            have e8 : act.eval (.tmp 8) = .pointer (some ⟨xb, 0, none⟩) := h.old 8 (by kernel_rfl)
            clear h
            refine gives_by rfl act.eval rfl ?_
            generalize act.eval = ρ at *
            intro hf hc
            go_simp
            exact ⟨rfl, hs⟩
          · intro k vals act wx hk h hs
            have e30 : act.eval (.tmp 30) = .pointer (some ⟨xb, 1, none⟩) := h.q 0 30 (by kernel_rfl) rfl
            clear h
            have hj := (JtS.any hk hs).1
            have cx0 := hj.2.1.cell 1
            obtain ⟨⟨x0, x1, x2, x3⟩, _⟩ := node_cells hj.1.2.1
            obtain ⟨⟨u0, u1, u2, u3⟩, _⟩ := node_cells hj.1.2.2.1
            refine gives_by rfl act.eval rfl ?_
            generalize act.eval = ρ at *
            intro hf hc
            go_simp
            exact ⟨rfl, hs⟩
          · intro k vals act wx hk h hs
            have e3 : act.eval (.tmp 3) = .pointer (some ⟨w.heap.size, 0, none⟩) := h.old 3 (by kernel_rfl)
            clear h
            refine gives_by rfl act.eval rfl ?_
            generalize act.eval = ρ at *
            intro hf hc
            go_simp
            exact ⟨rfl, hs⟩
          · intro k vals act wx hk h hs
            have e32 : act.eval (.tmp 32) = .pointer (some ⟨w.heap.size, 1, none⟩) := h.q 2 32 (by kernel_rfl) rfl
            clear h
            have hj := (JtS.any hk hs).1
            have cx0 := hj.2.1.cell 1
            obtain ⟨⟨x0, x1, x2, x3⟩, _⟩ := node_cells hj.1.2.1
            obtain ⟨⟨u0, u1, u2, u3⟩, _⟩ := node_cells hj.1.2.2.1
            refine gives_by rfl act.eval rfl ?_
            generalize act.eval = ρ at *
            intro hf hc
            go_simp
            exact ⟨rfl, hs⟩
          · intro vals act wx h hs
            have e31 : act.eval (.tmp 31) = .slice none 0 0 := h.q 1 31 (by kernel_rfl) rfl
            have e33 : act.eval (.tmp 33) = .slice pa np pc := h.q 3 33 (by kernel_rfl) rfl
            clear h
            obtain ⟨hj, -⟩ : (JxB w [.bool true, .slice pa np pc, .slice ka nk kc, .slice ca nc cc] [.bool true, .slice pa' np' pc', .slice ka' nk' kc', .slice ca' nc' cc'] [.bool true, .slice none 0 0, .slice none 0 0, .slice none 0 0] xb wx ∧ True) := hs
            obtain ⟨aa, nn, cx, wy, hr, ho, hn, hj', -⟩ := jxP hj (.slice none 0 0) 0 [] (World.ownsRow_nil _ _ _ _) (by omega) (.slice pa np pc) (flatP xs) (RowR.of_prs (HP.out.below hj.1.1) (by rw [HNP.out]; omega))
            rw [List.nil_append] at ho
            refine gives_of_run rfl (exec_append (.tmp 31) (.tmp 33) 22 rfl _ _ e31 e33 _ hr) ?_
            exact (⟨⟨hj', trivial⟩, aa, nn, cx, rfl, by omega, ho⟩ : (JxB w [.bool true, .slice pa np pc, .slice ka nk kc, .slice ca nc cc] [.bool true, .slice pa' np' pc', .slice ka' nk' kc', .slice ca' nc' cc'] [.bool true, .slice none 0 0, .slice none 0 0, .slice none 0 0] xb wy ∧ True) ∧ ∃ ea en ec, (.slice aa nn cx : Value) = .slice ea en ec ∧ en ≤ 1000 ∧ wy.ownsRow (w.heap.size + 3) 36 2 (.slice ea en ec) en (flatP xs))
          · intro k vals act wx hk h hs
            have e5 : act.eval (.tmp 5) = .pointer (some ⟨w.heap.size + 1, 0, none⟩) := h.old 5 (by kernel_rfl)
            clear h
            refine gives_by rfl act.eval rfl ?_
            generalize act.eval = ρ at *
            intro hf hc
            go_simp
            exact ⟨rfl, hs⟩
          · intro k vals act wx hk h hs
            have e35 : act.eval (.tmp 35) = .pointer (some ⟨w.heap.size + 1, 1, none⟩) := h.q 5 35 (by kernel_rfl) rfl
            clear h
            have hj := (JtS.any hk hs).1
            have cx0 := hj.2.1.cell 1
            obtain ⟨⟨x0, x1, x2, x3⟩, _⟩ := node_cells hj.1.2.1
            obtain ⟨⟨u0, u1, u2, u3⟩, _⟩ := node_cells hj.1.2.2.1
            refine gives_by rfl act.eval rfl ?_
            generalize act.eval = ρ at *
            intro hf hc
            go_simp
            exact ⟨rfl, hs⟩
          · intro vals act wx h hs
            have e34 : act.eval (.tmp 34) = vals 4 := h.val 4 34 (by kernel_rfl)
            have e36 : act.eval (.tmp 36) = .slice pa' np' pc' := h.q 6 36 (by kernel_rfl) rfl
            clear h
            obtain ⟨⟨hj, -⟩, a4, n4, c4, h4, hn4, ho4⟩ : (JxB w [.bool true, .slice pa np pc, .slice ka nk kc, .slice ca nc cc] [.bool true, .slice pa' np' pc', .slice ka' nk' kc', .slice ca' nc' cc'] [.bool true, .slice none 0 0, .slice none 0 0, .slice none 0 0] xb wx ∧ True) ∧ ∃ ea en ec, vals 4 = .slice ea en ec ∧ en ≤ 1000 ∧ wx.ownsRow (w.heap.size + 3) 36 2 (.slice ea en ec) en (flatP xs) := hs
            rw [h4] at e34
            obtain ⟨aa, nn, cx, wy, hr, ho, hn, hj', -⟩ := jxP hj _ n4 _ ho4 (by omega) (.slice pa' np' pc') (flatP xs') (RowR.of_prs (HP'.out.below hj.1.1) (by rw [HNP'.out]; omega))
            refine gives_of_run rfl (exec_append (.tmp 34) (.tmp 36) 22 rfl _ _ e34 e36 _ hr) ?_
            exact (⟨⟨hj', trivial⟩, aa, nn, cx, rfl, by omega, ho⟩ : (JxB w [.bool true, .slice pa np pc, .slice ka nk kc, .slice ca nc cc] [.bool true, .slice pa' np' pc', .slice ka' nk' kc', .slice ca' nc' cc'] [.bool true, .slice none 0 0, .slice none 0 0, .slice none 0 0] xb wy ∧ True) ∧ ∃ ea en ec, (.slice aa nn cx : Value) = .slice ea en ec ∧ en ≤ 2000 ∧ wy.ownsRow (w.heap.size + 3) 36 2 (.slice ea en ec) en (flatP xs ++ flatP xs'))
          · intro k vals act wx hk h hs
            have e8 : act.eval (.tmp 8) = .pointer (some ⟨xb, 0, none⟩) := h.old 8 (by kernel_rfl)
            clear h
            refine gives_by rfl act.eval rfl ?_
            generalize act.eval = ρ at *
            intro hf hc
            go_simp
            exact ⟨rfl, hs⟩
          · intro vals act wx h hs
            have e38 : act.eval (.tmp 38) = .pointer (some ⟨xb, 1, none⟩) := h.q 8 38 (by kernel_rfl) rfl
            have e37 : act.eval (.tmp 37) = vals 7 := h.val 7 37 (by kernel_rfl)
            clear h
            obtain ⟨⟨hj, -⟩, a4, n4, c4, h4, hn4, ho4⟩ : (JxB w [.bool true, .slice pa np pc, .slice ka nk kc, .slice ca nc cc] [.bool true, .slice pa' np' pc', .slice ka' nk' kc', .slice ca' nc' cc'] [.bool true, .slice none 0 0, .slice none 0 0, .slice none 0 0] xb wx ∧ True) ∧ ∃ ea en ec, vals 7 = .slice ea en ec ∧ en ≤ 2000 ∧ wx.ownsRow (w.heap.size + 3) 36 2 (.slice ea en ec) en (flatP xs ++ flatP xs') := hs
            rw [h4] at e37
            have c0 : wx.cell? ⟨xb, 1, none⟩ = some (.slice none 0 0) := hj.2.1.cell 1
            have f0 : wx.frozen? ⟨xb, 1, none⟩ = false := hj.2.1.frozen 1
            have hon : Only (· = xb) wx (wx.setCell ⟨xb, 1, none⟩ (.slice a4 n4 c4)) := (Only.refl (· = xb) wx).setCell ⟨xb, 1, none⟩ _ (fun _ => rfl)
            have hfin : ∃ aa nn cx, (JxB w [.bool true, .slice pa np pc, .slice ka nk kc, .slice ca nc cc] [.bool true, .slice pa' np' pc', .slice ka' nk' kc', .slice ca' nc' cc'] [.bool true, .slice aa nn cx, .slice none 0 0, .slice none 0 0] xb (wx.setCell ⟨xb, 1, none⟩ (.slice a4 n4 c4)) ∧ True) ∧ nn ≤ 2000 ∧ (wx.setCell ⟨xb, 1, none⟩ (.slice a4 n4 c4)).ownsRow (w.heap.size + 3) 36 2 (.slice aa nn cx) nn (flatP xs ++ flatP xs') := ⟨a4, n4, c4, ⟨hj.put 1 (.slice a4 n4 c4), trivial⟩, hn4, ownsRow_only ho4 hon (fun j hh e => row_not_blk ho4 hj.2.1 (by decide) (e ▸ hh))⟩
            clear hj ho4 hon h4
            refine gives_by rfl act.eval rfl ?_
            generalize act.eval = ρ at *
            intro hf hc
            go_simp
            exact hfin
        · intro vals w5 hq hs
          obtain ⟨aa, nn, cx, ⟨hj, -⟩, hnn, ho⟩ : ∃ aa nn cx, (JxB w [.bool true, .slice pa np pc, .slice ka nk kc, .slice ca nc cc] [.bool true, .slice pa' np' pc', .slice ka' nk' kc', .slice ca' nc' cc'] [.bool true, .slice aa nn cx, .slice none 0 0, .slice none 0 0] xb w5 ∧ True) ∧ nn ≤ 2000 ∧ w5.ownsRow (w.heap.size + 3) 36 2 (.slice aa nn cx) nn (flatP xs ++ flatP xs') := hs
          have HJ5 := hide hj
          have HO5 := hide ho
          obtain ⟨⟨z0, z1, z2, z3⟩, _⟩ := node_cells hj.2.1
          obtain ⟨⟨y0, y1, y2, y3⟩, _⟩ := node_cells hj.1.2.1
          clear hq hj ho
          simp only [putAll, Act.put, List.setIfInBounds_toArray, List.set_cons_zero, List.set_cons_succ, Nat.zero_add, Nat.reduceAdd]
          have HNV : Hid (NdV w5 (.agg #[.bool true, .slice aa nn cx, .slice none 0 0, .slice none 0 0]) (joinP a b)) := by
            have hN : nn = (xs ++ xs').length := by
              have := HO5.out.1
              simp only [List.length_append, flatP_len] at this ⊢
              omega
            have ho' : w5.ownsRow (w.heap.size + 3) 36 2 (.slice aa nn cx) (xs ++ xs').length (flatP (xs ++ xs')) := by rw [flatP_append, ← hN]; exact HO5.out
            exact ⟨_, _, _, xs ++ xs', [], rfl, prs_own ho' (show (xs ++ xs').length = (a.ps ++ b.ps).length by rw [List.length_append, List.length_append, HP.out.1, HP'.out.1]) (texts_append HP.out.1 (HP.out.below HJ5.out.1.1).texts (HP'.out.below HJ5.out.1.1).texts), Bss.nil _, Is.nil' _⟩
          have HG5 := hide (HGD.out w5 _ (joinP a b) HNV.out (by simp [joinP]))
          generalize ownE (joinP a b) = OE at *
          generalize ownN (joinP a b) = ON at *
          go_wp2_with (go_at_call 75; refine HG5.out.mono ?_; rintro e w6 ⟨l6, p6, m6, c6, kx6, mk6, kc6, q6, mq6, qc6, rfl, hn6, hb6⟩; have HJ6 := hide (HJ5.out.1.keep (Only.of_below (fun _ => False) hb6)); have HN6 := hide (hn6.le HJ5.out.size); obtain ⟨⟨d0, d1', d2, d3⟩, k0, k1, k2, k3⟩ := node_cells HJ6.out.2.2.2; clear HG5 hb6 hn6)
          (try simp only [Exit.inBlock, Exit.then])
          refine bodyPost_ret (ret_node1 rfl _ _ (w.heap.size + 2) _ _ _ _ _ rfl rfl (laidN_blk HJ6.out.2.2.2 _ _ _ _)) rfl ?_
          exact ⟨_, rfl, (HN6.out.only (laidN_only w6 (w.heap.size + 2) _ _ _ _) (fun j hj => by omega)).le (by omega), HJ6.out.1.trans ((laidN_only w6 (w.heap.size + 2) _ _ _ _).below HJ6.out.1.size (fun j hj e => by omega))⟩
        | false =>
        obtain ⟨r1, r2, hqk, hqk', hqc, hqc'⟩ := HIN.out hma hmb rfl rfl
        rw [HNK.out] at hqk
        rw [HNK'.out] at hqk'
        rw [HNC.out] at hqc
        rw [HNC'.out] at hqc'
        clear HNO HLF HIN
        cases hkb : keyB key with
        | false =>
          rw [hkb] at r1 r2 HKE
          simp only [Bool.false_eq_true, if_false] at r1 r2
          rw [r1, r2]
          clear r1 r2 HGD
          go_enter Try.func44, Try.ntmps44
          go_wp2_with (first | (go_at_call 25; refine (HMA.out w1 HJ1.out.1).mono ?_; rintro e w2 ⟨rfl, hb2⟩; have HJ2 := hide (HJ1.out.keep (Only.of_below (fun _ => False) hb2)); clear z0 z1 z2 z3; obtain ⟨⟨z0, z1, z2, z3⟩, _⟩ := node_cells HJ2.out.2.1; obtain ⟨⟨y0, y1, y2, y3⟩, _⟩ := node_cells HJ2.out.2.2.1; obtain ⟨⟨d0, d1', d2, d3⟩, k0, k1, k2, k3⟩ := node_cells HJ2.out.2.2.2; clear HMA hb2) | (go_at_call 25; refine (HMB.out w2 HJ2.out.1).mono ?_; rintro e w3 ⟨rfl, hb3⟩; have HJ3 := hide (HJ2.out.keep (Only.of_below (fun _ => False) hb3)); clear z0 z1 z2 z3 y0 y1 y2 y3 d0 d1' d2 d3 k0 k1 k2 k3; obtain ⟨⟨z0, z1, z2, z3⟩, _⟩ := node_cells HJ3.out.2.1; obtain ⟨⟨y0, y1, y2, y3⟩, _⟩ := node_cells HJ3.out.2.2.1; obtain ⟨⟨d0, d1', d2, d3⟩, k0, k1, k2, k3⟩ := node_cells HJ3.out.2.2.2; have za : ∀ o, (w3.alloc o).cell? ⟨w.heap.size, 0, none⟩ = some (.bool false) := (fun o => (HJ3.out.2.1.alloc o).cell 0); clear HMB hb3))
          obtain ⟨W, hW⟩ : ∃ W, W = w3.alloc (.cells #[.bool false, .slice none 0 0, .slice none 0 0, .slice none 0 0] 26) := ⟨_, rfl⟩
          obtain ⟨xb, hxb⟩ : ∃ x, x = w3.heap.size := ⟨_, rfl⟩
          have HX0 : Hid (JxB w [.bool false, .slice pa np pc, .slice ka nk kc, .slice ca nc cc] [.bool false, .slice pa' np' pc', .slice ka' nk' kc', .slice ca' nc' cc'] [.bool false, .slice none 0 0, .slice none 0 0, .slice none 0 0] xb W) := by
            have hon : Only (fun _ => False) w3 W := by rw [hW]; exact (Only.refl _ w3).alloc _
            exact ⟨HJ3.out.keep hon, by rw [hW, hxb]; exact Blk.new w3 _ _, by have := HJ3.out.2.2.2.lt; omega⟩
          simp only [← hxb, ← hW]
          have hxb3 : w.heap.size + 3 ≤ xb := HX0.out.2.2
          clear hW hxb za HJ3 HJ2 z0 z1 z2 z3 y0 y1 y2 y3 d0 d1' d2 d3 k0 k1 k2 k3
          obtain ⟨⟨d0, d1', d2, d3⟩, k0, k1, k2, k3⟩ := node_cells HX0.out.1.2.2.2
          go_wp2_with (go_at_call 66; refine (HKE.out W HX0.out.1.1).mono ?_; rintro e w4 ⟨rfl, hw4⟩; subst w4; clear HKE)
          have HJ3 := hide HX0.out.1
          (try simp only [Exit.inBlock, Exit.then])
          refine bodyPost_ret (ret_node1 rfl _ _ (w.heap.size + 2) _ _ _ _ _ rfl rfl (laidN_blk HJ3.out.2.2.2 _ _ _ _)) rfl ?_
          skip
          exact GivesN.no 1 (HJ3.out.1.trans ((laidN_only W (w.heap.size + 2) _ _ _ _).below HJ3.out.1.size (fun j hj e => by omega)))
        | true =>
          rw [hkb] at r1 r2 HKE
          simp only [if_true] at r1 r2
          rw [r1, r2]
          clear r1 r2
          obtain ⟨IV, hIV⟩ : ∃ x, x = iv (a.cs ++ b.cs) := ⟨_, rfl⟩
          have HIV := hide hIV
          clear hIV
          have HND : Hid (∀ wx a1 n1 c1 a2 n2 c2, Below w.heap.size w wx → wx.ownsRow (w.heap.size + 3) 34 1 (.slice a1 n1 c1) n1 (ys ++ ([Value.slice q1 m1 dq] ++ ys')) → wx.ownsRow (w.heap.size + 3) 3 1 (.slice a2 n2 c2) n2 IV → NdV wx (.agg #[.bool false, .slice none 0 0, .slice a1 n1 c1, .slice a2 n2 c2]) (joinK a key b)) := fun wx a1 n1 c1 a2 n2 c2 hbw h1 h2 => by
            have e1 : n1 = (ys ++ ([Value.slice q1 m1 dq] ++ ys')).length := by have := h1.1; omega
            rw [HIV.out] at h2
            have e2 : n2 = (a.cs ++ b.cs).length := by have := h2.1; simp only [iv, List.length_map] at this; omega
            rw [e1] at h1 ⊢
            rw [e2] at h2 ⊢
            refine ⟨_, _, _, [], (ys ++ ([Value.slice q1 m1 dq] ++ ys')), rfl, Prs.nil _, bss_own h1 ?_ ?_, (show Ints wx _ _ _ from h2).is⟩
            · show _ = (a.ks ++ ([key] ++ b.ks)).length
              simp only [List.length_append, HK.out.1, HK'.out.1, List.length_cons, List.length_nil]
            · exact keys_append HK.out.1 (HK.out.below hbw).texts (keys_append (ys := [.slice q1 m1 dq]) (ks := [key]) rfl (fun i hi => by
                obtain rfl : i = 0 := by simp at hi; omega
                exact HKV.out.below hbw) (HK'.out.below hbw).texts)
          have HJB : Hid ((joinK a key b).ks.length + (joinK a key b).cs.length ≤ 9223372036854775807) := by
            have q1 := HNK.out
            have q2 := HNK'.out
            have q3 := HNC.out
            have q4 := HNC'.out
            show _ ≤ _
            simp only [joinK, List.length_append, List.length_cons, List.length_nil]
            omega
          go_enter Try.func44, Try.ntmps44
          go_wp2_with (first | (go_at_call 25; refine (HMA.out w1 HJ1.out.1).mono ?_; rintro e w2 ⟨rfl, hb2⟩; have HJ2 := hide (HJ1.out.keep (Only.of_below (fun _ => False) hb2)); clear z0 z1 z2 z3; obtain ⟨⟨z0, z1, z2, z3⟩, _⟩ := node_cells HJ2.out.2.1; obtain ⟨⟨y0, y1, y2, y3⟩, _⟩ := node_cells HJ2.out.2.2.1; obtain ⟨⟨d0, d1', d2, d3⟩, k0, k1, k2, k3⟩ := node_cells HJ2.out.2.2.2; clear HMA hb2) | (go_at_call 25; refine (HMB.out w2 HJ2.out.1).mono ?_; rintro e w3 ⟨rfl, hb3⟩; have HJ3 := hide (HJ2.out.keep (Only.of_below (fun _ => False) hb3)); clear z0 z1 z2 z3 y0 y1 y2 y3 d0 d1' d2 d3 k0 k1 k2 k3; obtain ⟨⟨z0, z1, z2, z3⟩, _⟩ := node_cells HJ3.out.2.1; obtain ⟨⟨y0, y1, y2, y3⟩, _⟩ := node_cells HJ3.out.2.2.1; obtain ⟨⟨d0, d1', d2, d3⟩, k0, k1, k2, k3⟩ := node_cells HJ3.out.2.2.2; have za : ∀ o, (w3.alloc o).cell? ⟨w.heap.size, 0, none⟩ = some (.bool false) := (fun o => (HJ3.out.2.1.alloc o).cell 0); clear HMB hb3))
          obtain ⟨W, hW⟩ : ∃ W, W = w3.alloc (.cells #[.bool false, .slice none 0 0, .slice none 0 0, .slice none 0 0] 26) := ⟨_, rfl⟩
          obtain ⟨xb, hxb⟩ : ∃ x, x = w3.heap.size := ⟨_, rfl⟩
          have HX0 : Hid (JxB w [.bool false, .slice pa np pc, .slice ka nk kc, .slice ca nc cc] [.bool false, .slice pa' np' pc', .slice ka' nk' kc', .slice ca' nc' cc'] [.bool false, .slice none 0 0, .slice none 0 0, .slice none 0 0] xb W) := by
            have hon : Only (fun _ => False) w3 W := by rw [hW]; exact (Only.refl _ w3).alloc _
            exact ⟨HJ3.out.keep hon, by rw [hW, hxb]; exact Blk.new w3 _ _, by have := HJ3.out.2.2.2.lt; omega⟩
          simp only [← hxb, ← hW]
          have hxb3 : w.heap.size + 3 ≤ xb := HX0.out.2.2
          clear hW hxb za HJ3 HJ2 z0 z1 z2 z3 y0 y1 y2 y3 d0 d1' d2 d3 k0 k1 k2 k3
          go_wp2_with (go_at_call 66; refine (HKE.out W HX0.out.1.1).mono ?_; rintro e w4 ⟨rfl, hw4⟩; subst w4; clear HKE)
          refine wp_region_first (fun _ => True) [some (isCk (.pointer (some ⟨xb, 2, none⟩))), some (isCk (.slice none 0 0)), some (isCk (.pointer (some ⟨w.heap.size, 2, none⟩))), some (isCk (.slice ka nk kc)), some (isFst (isRowO (w.heap.size + 3) 34 1 ys)), some (isCk (.slice q1 m1 dq)), some (isFst (isLit (w.heap.size + 3) 34 [.slice q1 m1 dq])), none, some (isCk (.pointer (some ⟨w.heap.size + 1, 2, none⟩))), some (isCk (.slice ka' nk' kc')), none, some (isCk (.pointer (some ⟨xb, 2, none⟩))), none] [7, 10, 12] (JtS w [.bool false, .slice pa np pc, .slice ka nk kc, .slice ca nc cc] [.bool false, .slice pa' np' pc', .slice ka' nk' kc', .slice ca' nc' cc'] [.bool false, .slice none 0 0, .slice none 0 0, .slice none 0 0] [.bool false, .slice none 0 0, .slice none 0 0, .slice none 0 0] xb 34 1 (ys ++ [Value.slice q1 m1 dq]) ys' (fun v => [.bool false, .slice none 0 0, v, .slice none 0 0]) (fun _ => True) 7 10) 72 (by kernel_rfl) (by kernel_rfl) (by kernel_rfl) (by kernel_rfl) rfl ?_ ?_ ?_ ?_ ?_ ?_
          · intro vals0
            exact (⟨HX0.out.same ((Only.refl (fun _ => False) W).drew), trivial⟩ : (JxB w [.bool false, .slice pa np pc, .slice ka nk kc, .slice ca nc cc] [.bool false, .slice pa' np' pc', .slice ka' nk' kc', .slice ca' nc' cc'] [.bool false, .slice none 0 0, .slice none 0 0, .slice none 0 0] xb W.drew ∧ True))
          · exact fun j F h => (allK_at (S := fun _ => True) _ (by repeat (first | exact trivial | refine allK_none ?_ | refine allK_isCk ?_ | refine allK_fst (st_isRowO (S := fun _ => False) _ _ _ (fun _ h => h.elim)) ?_ | refine allK_fst (st_isLit (S := fun _ => False) _ _ (fun _ h => h.elim)) ?_)) j F h).1
          · exact fun j F h => (allK_at (S := fun _ => True) _ (by repeat (first | exact trivial | refine allK_none ?_ | refine allK_isCk ?_ | refine allK_fst (st_isRowO (S := fun _ => False) _ _ _ (fun _ h => h.elim)) ?_ | refine allK_fst (st_isLit (S := fun _ => False) _ _ (fun _ h => h.elim)) ?_)) j F h).2
          · exact JtS.ind (by simp) (by simp)
          · refine ⟨?_, ?_, ?_, ?_, ?_, ?_, ?_, ?_, ?_, ?_, ?_, ?_, ?_, trivial⟩
            · intro k vals act wx hk h hs
              have e8 : act.eval (.tmp 8) = .pointer (some ⟨xb, 0, none⟩) := h.old 8 (by kernel_rfl)
              clear h
              refine gives_by rfl act.eval rfl ?_
              generalize act.eval = ρ at *
              intro hf hc
              go_simp
              exact ⟨rfl, Only.refl _ _, hs⟩
            · intro k vals act wx hk h hs
              obtain ⟨v47, e47, f47⟩ := h.f 0 47 (by kernel_rfl) rfl
              obtain rfl : v47 = .pointer (some ⟨xb, 2, none⟩) := f47
              clear h
              have hj := (JtS.any hk hs).1
              have cx0 := hj.2.1.cell 2
              obtain ⟨⟨x0, x1, x2, x3⟩, _⟩ := node_cells hj.1.2.1
              obtain ⟨⟨u0, u1, u2, u3⟩, _⟩ := node_cells hj.1.2.2.1
              refine gives_by rfl act.eval rfl ?_
              generalize act.eval = ρ at *
              intro hf hc
              go_simp
              exact ⟨rfl, Only.refl _ _, hs⟩
            · intro k vals act wx hk h hs
              have e3 : act.eval (.tmp 3) = .pointer (some ⟨w.heap.size, 0, none⟩) := h.old 3 (by kernel_rfl)
              clear h
              refine gives_by rfl act.eval rfl ?_
              generalize act.eval = ρ at *
              intro hf hc
              go_simp
              exact ⟨rfl, Only.refl _ _, hs⟩
            · intro k vals act wx hk h hs
              obtain ⟨v49, e49, f49⟩ := h.f 2 49 (by kernel_rfl) rfl
              obtain rfl : v49 = .pointer (some ⟨w.heap.size, 2, none⟩) := f49
              clear h
              have hj := (JtS.any hk hs).1
              have cx0 := hj.2.1.cell 2
              obtain ⟨⟨x0, x1, x2, x3⟩, _⟩ := node_cells hj.1.2.1
              obtain ⟨⟨u0, u1, u2, u3⟩, _⟩ := node_cells hj.1.2.2.1
              refine gives_by rfl act.eval rfl ?_
              generalize act.eval = ρ at *
              intro hf hc
              go_simp
              exact ⟨rfl, Only.refl _ _, hs⟩
            · intro k vals act wx hk h hs
              obtain ⟨v48, e48, f48⟩ := h.f 1 48 (by kernel_rfl) rfl
              obtain rfl : v48 = .slice none 0 0 := f48
              obtain ⟨v50, e50, f50⟩ := h.f 3 50 (by kernel_rfl) rfl
              obtain rfl : v50 = .slice ka nk kc := f50
              clear h
              have hj := (JtS.any hk hs).1
              obtain ⟨aa, nn, cx, wy, hr, ho, hn, hj', hon⟩ := jxK hj (.slice none 0 0) 0 [] (World.ownsRow_nil _ _ _ _) (by omega) (.slice ka nk kc) ys (RowR.of_bss (HK.out.below hj.1.1) (by rw [HNK.out]; omega))
              rw [List.nil_append] at ho
              have hof : Only (fun _ => False) wx wy := hon.mono (fun _ _ h => (by cases h))
              refine gives_of_run rfl (exec_append (.tmp 48) (.tmp 50) 23 rfl _ _ e48 e50 _ hr) ?_
              exact ⟨fun _ => ⟨aa, nn, cx, rfl, ho⟩, hof, JtS.keep hk hs hof (fun h => h)⟩
            · intro k vals act wx hk h hs
              have e1 : act.eval (.tmp 1) = .slice q1 m1 dq := h.old 1 (by kernel_rfl)
              clear h
              refine gives_by rfl act.eval rfl ?_
              generalize act.eval = ρ at *
              intro hf hc
              go_simp
              exact ⟨rfl, Only.refl _ _, hs⟩
            · intro k vals act wx hk h hs
              obtain ⟨v52, e52, f52⟩ := h.f 5 52 (by kernel_rfl) rfl
              obtain rfl : v52 = .slice q1 m1 dq := f52
              clear h
              have hj := (JtS.any hk hs).1
              have hof : Only (fun _ => False) wx (wx.alloc (.cells #[.slice q1 m1 dq] 34)) := (Only.refl _ wx).alloc _
              refine gives_of_run rfl (exec_buildSlice1 23 1 (.tmp 52) rfl _ _ e52 (build_row wx q1 m1 dq)) ?_
              exact ⟨fun _ => ⟨wx.heap.size, rfl, hj.size, Blk.new wx _ _⟩, hof, JtS.keep hk hs hof (fun h => h)⟩
            · intro vals act wx h hs
              obtain ⟨v51, e51, f51⟩ := h.f 4 51 (by kernel_rfl) rfl
              obtain ⟨a51, n51, c51, rfl, O51⟩ := f51 (by decide)
              obtain ⟨v53, e53, f53⟩ := h.f 6 53 (by kernel_rfl) rfl
              obtain ⟨g53, rfl, hg53, B53⟩ := f53 (by decide)
              clear h
              obtain ⟨hj, -⟩ : (JxB w [.bool false, .slice pa np pc, .slice ka nk kc, .slice ca nc cc] [.bool false, .slice pa' np' pc', .slice ka' nk' kc', .slice ca' nc' cc'] [.bool false, .slice none 0 0, .slice none 0 0, .slice none 0 0] xb wx ∧ True) := hs
              have hn51 : n51 ≤ 256 := by have := O51.1; rw [HYL.out, HNK.out] at this; omega
              obtain ⟨aa, nn, cx, wy, hr, ho, hn, hj', hon⟩ := jxK hj _ n51 _ O51 (by omega) (.slice (some ⟨g53, 0, none⟩) 1 1) [.slice q1 m1 dq] ⟨some ⟨g53, 0, none⟩, 1, 1, rfl, by simp, by omega, fun h => (by cases h), fun b hb j u hj => (by
                  obtain rfl := (Option.some.inj hb)
                  rw [Addr.add_mid, Nat.zero_add, B53.cell]
                  exact hj), fun u hu => (by simp at hu; subst hu; rfl)⟩
              refine gives_of_run rfl (exec_append (.tmp 51) (.tmp 53) 23 rfl _ _ e51 e53 _ hr) ?_
              exact ⟨hon.mono (fun _ _ _ => trivial), (⟨⟨hj', trivial⟩, aa, nn, cx, rfl, by have := ho.1; rw [List.length_append, HYL.out, HNK.out] at this; simp only [List.length_cons, List.length_nil] at this; omega, ho⟩ : (JxB w [.bool false, .slice pa np pc, .slice ka nk kc, .slice ca nc cc] [.bool false, .slice pa' np' pc', .slice ka' nk' kc', .slice ca' nc' cc'] [.bool false, .slice none 0 0, .slice none 0 0, .slice none 0 0] xb wy ∧ True) ∧ ∃ ea en ec, (.slice aa nn cx : Value) = .slice ea en ec ∧ en ≤ 1000 ∧ wy.ownsRow (w.heap.size + 3) 34 1 (.slice ea en ec) en ((ys ++ [Value.slice q1 m1 dq])))⟩
            · intro k vals act wx hk h hs
              have e5 : act.eval (.tmp 5) = .pointer (some ⟨w.heap.size + 1, 0, none⟩) := h.old 5 (by kernel_rfl)
              clear h
              refine gives_by rfl act.eval rfl ?_
              generalize act.eval = ρ at *
              intro hf hc
              go_simp
              exact ⟨rfl, Only.refl _ _, hs⟩
            · intro k vals act wx hk h hs
              obtain ⟨v55, e55, f55⟩ := h.f 8 55 (by kernel_rfl) rfl
              obtain rfl : v55 = .pointer (some ⟨w.heap.size + 1, 2, none⟩) := f55
              clear h
              have hj := (JtS.any hk hs).1
              have cx0 := hj.2.1.cell 2
              obtain ⟨⟨x0, x1, x2, x3⟩, _⟩ := node_cells hj.1.2.1
              obtain ⟨⟨u0, u1, u2, u3⟩, _⟩ := node_cells hj.1.2.2.1
              refine gives_by rfl act.eval rfl ?_
              generalize act.eval = ρ at *
              intro hf hc
              go_simp
              exact ⟨rfl, Only.refl _ _, hs⟩
            · intro vals act wx h hs
              have e54 : act.eval (.tmp 54) = vals 7 := h.val 7 54 (by kernel_rfl)
              obtain ⟨v56, e56, f56⟩ := h.f 9 56 (by kernel_rfl) rfl
              obtain rfl : v56 = .slice ka' nk' kc' := f56
              clear h
              obtain ⟨⟨hj, -⟩, a4, n4, c4, h4, hn4, ho4⟩ : (JxB w [.bool false, .slice pa np pc, .slice ka nk kc, .slice ca nc cc] [.bool false, .slice pa' np' pc', .slice ka' nk' kc', .slice ca' nc' cc'] [.bool false, .slice none 0 0, .slice none 0 0, .slice none 0 0] xb wx ∧ True) ∧ ∃ ea en ec, vals 7 = .slice ea en ec ∧ en ≤ 1000 ∧ wx.ownsRow (w.heap.size + 3) 34 1 (.slice ea en ec) en ((ys ++ [Value.slice q1 m1 dq])) := hs
              rw [h4] at e54
              obtain ⟨aa, nn, cx, wy, hr, ho, hn, hj', hon⟩ := jxK hj _ n4 _ ho4 (by omega) (.slice ka' nk' kc') ys' (RowR.of_bss (HK'.out.below hj.1.1) (by rw [HNK'.out]; omega))
              refine gives_of_run rfl (exec_append (.tmp 54) (.tmp 56) 23 rfl _ _ e54 e56 _ hr) ?_
              exact ⟨hon.mono (fun _ _ _ => trivial), (⟨⟨hj', trivial⟩, aa, nn, cx, rfl, by omega, ho⟩ : (JxB w [.bool false, .slice pa np pc, .slice ka nk kc, .slice ca nc cc] [.bool false, .slice pa' np' pc', .slice ka' nk' kc', .slice ca' nc' cc'] [.bool false, .slice none 0 0, .slice none 0 0, .slice none 0 0] xb wy ∧ True) ∧ ∃ ea en ec, (.slice aa nn cx : Value) = .slice ea en ec ∧ en ≤ 2000 ∧ wy.ownsRow (w.heap.size + 3) 34 1 (.slice ea en ec) en ((ys ++ [Value.slice q1 m1 dq]) ++ ys'))⟩
            · intro k vals act wx hk h hs
              have e8 : act.eval (.tmp 8) = .pointer (some ⟨xb, 0, none⟩) := h.old 8 (by kernel_rfl)
              clear h
              refine gives_by rfl act.eval rfl ?_
              generalize act.eval = ρ at *
              intro hf hc
              go_simp
              exact ⟨rfl, Only.refl _ _, hs⟩
            · intro vals act wx h hs
              obtain ⟨v58, e58, f58⟩ := h.f 11 58 (by kernel_rfl) rfl
              obtain rfl : v58 = .pointer (some ⟨xb, 2, none⟩) := f58
              have e57 : act.eval (.tmp 57) = vals 10 := h.val 10 57 (by kernel_rfl)
              clear h
              obtain ⟨⟨hj, -⟩, a4, n4, c4, h4, hn4, ho4⟩ : (JxB w [.bool false, .slice pa np pc, .slice ka nk kc, .slice ca nc cc] [.bool false, .slice pa' np' pc', .slice ka' nk' kc', .slice ca' nc' cc'] [.bool false, .slice none 0 0, .slice none 0 0, .slice none 0 0] xb wx ∧ True) ∧ ∃ ea en ec, vals 10 = .slice ea en ec ∧ en ≤ 2000 ∧ wx.ownsRow (w.heap.size + 3) 34 1 (.slice ea en ec) en ((ys ++ [Value.slice q1 m1 dq]) ++ ys') := hs
              rw [h4] at e57
              have c0 : wx.cell? ⟨xb, 2, none⟩ = some (.slice none 0 0) := hj.2.1.cell 2
              have f0 : wx.frozen? ⟨xb, 2, none⟩ = false := hj.2.1.frozen 2
              have hon : Only (· = xb) wx (wx.setCell ⟨xb, 2, none⟩ (.slice a4 n4 c4)) := (Only.refl (· = xb) wx).setCell ⟨xb, 2, none⟩ _ (fun _ => rfl)
              have hon2 : Only (fun _ => True) wx (wx.setCell ⟨xb, 2, none⟩ (.slice a4 n4 c4)) := hon.mono (fun _ _ _ => trivial)
              have hfin : ∃ ea en ec, (JxB w [.bool false, .slice pa np pc, .slice ka nk kc, .slice ca nc cc] [.bool false, .slice pa' np' pc', .slice ka' nk' kc', .slice ca' nc' cc'] [.bool false, .slice none 0 0, .slice ea en ec, .slice none 0 0] xb (wx.setCell ⟨xb, 2, none⟩ (.slice a4 n4 c4)) ∧ True) ∧ en ≤ 2000 ∧ (wx.setCell ⟨xb, 2, none⟩ (.slice a4 n4 c4)).ownsRow (w.heap.size + 3) 34 1 (.slice ea en ec) en ((ys ++ [Value.slice q1 m1 dq]) ++ ys') := ⟨a4, n4, c4, ⟨hj.put 2 (.slice a4 n4 c4), trivial⟩, hn4, ownsRow_only ho4 hon (fun j hh e => row_not_blk ho4 hj.2.1 (by decide) (e ▸ hh))⟩
              clear hj ho4 hon h4
              refine gives_by rfl act.eval rfl ?_
              generalize act.eval = ρ at *
              intro hf hc
              go_simp
              exact ⟨hon2, hfin⟩
          · intro vals w9 hv hs
            obtain ⟨k9, n9, c9, ⟨hj, -⟩, hn9, ho⟩ : ∃ ea en ec, (JxB w [.bool false, .slice pa np pc, .slice ka nk kc, .slice ca nc cc] [.bool false, .slice pa' np' pc', .slice ka' nk' kc', .slice ca' nc' cc'] [.bool false, .slice none 0 0, .slice ea en ec, .slice none 0 0] xb w9 ∧ True) ∧ en ≤ 2000 ∧ w9.ownsRow (w.heap.size + 3) 34 1 (.slice ea en ec) en ((ys ++ [Value.slice q1 m1 dq]) ++ ys') := hs
            obtain ⟨KL, hKL⟩ : ∃ x, x = (ys ++ [Value.slice q1 m1 dq]) ++ ys' := ⟨_, rfl⟩
            rw [← hKL] at ho
            have HKL := hide hKL
            clear hKL
            have HJ9 := hide hj
            have HO9 := hide ho
            clear hv hj ho
            simp only [putAll, Act.put, List.setIfInBounds_toArray, List.set_cons_zero, List.set_cons_succ, Nat.zero_add, Nat.reduceAdd]
            (try go_wp2)
            refine wp_region_chain [some (.pointer (some ⟨xb, 3, none⟩)), some (.slice none 0 0), some (.pointer (some ⟨w.heap.size, 3, none⟩)), some (.slice ca nc cc), none, some (.pointer (some ⟨w.heap.size + 1, 3, none⟩)), some (.slice ca' nc' cc'), none, some (.pointer (some ⟨xb, 3, none⟩)), none] [4, 7, 9] (JtS w [.bool false, .slice pa np pc, .slice ka nk kc, .slice ca nc cc] [.bool false, .slice pa' np' pc', .slice ka' nk' kc', .slice ca' nc' cc'] [.bool false, .slice none 0 0, .slice k9 n9 c9, .slice none 0 0] [.bool false, .slice none 0 0, .slice k9 n9 c9, .slice none 0 0] xb 3 1 (iv a.cs) (iv b.cs) (fun v => [.bool false, .slice none 0 0, .slice k9 n9 c9, v]) (fun W => W.ownsRow (w.heap.size + 3) 34 1 (.slice k9 n9 c9) n9 KL) 4 7) 72 (by kernel_rfl) (by kernel_rfl) (by kernel_rfl) (by kernel_rfl) rfl ?_ ?_ ?_
            · intro vals0
              have hdr := (Only.refl (fun _ => False) w9).drew
              exact (⟨HJ9.out.same hdr, ownsRow_only HO9.out hdr (fun _ _ h => h)⟩ : (JxB w [.bool false, .slice pa np pc, .slice ka nk kc, .slice ca nc cc] [.bool false, .slice pa' np' pc', .slice ka' nk' kc', .slice ca' nc' cc'] [.bool false, .slice none 0 0, .slice k9 n9 c9, .slice none 0 0] xb w9.drew ∧ w9.drew.ownsRow (w.heap.size + 3) 34 1 (.slice k9 n9 c9) n9 KL))
            · refine ⟨?_, ?_, ?_, ?_, ?_, ?_, ?_, ?_, ?_, ?_, trivial⟩
              · intro k vals act wx hk h hs
                have e8 : act.eval (.tmp 8) = .pointer (some ⟨xb, 0, none⟩) := h.old 8 (by kernel_rfl)
                clear h
                refine gives_by rfl act.eval rfl ?_
                generalize act.eval = ρ at *
                intro hf hc
                go_simp
                exact ⟨rfl, hs⟩
              · intro k vals act wx hk h hs
                have e59 : act.eval (.tmp 59) = .pointer (some ⟨xb, 3, none⟩) := h.q 0 59 (by kernel_rfl) rfl
                clear h
                have hj := (JtS.any hk hs).1
                have cx0 := hj.2.1.cell 3
                obtain ⟨⟨x0, x1, x2, x3⟩, _⟩ := node_cells hj.1.2.1
                obtain ⟨⟨u0, u1, u2, u3⟩, _⟩ := node_cells hj.1.2.2.1
                refine gives_by rfl act.eval rfl ?_
                generalize act.eval = ρ at *
                intro hf hc
                go_simp
                exact ⟨rfl, hs⟩
              · intro k vals act wx hk h hs
                have e3 : act.eval (.tmp 3) = .pointer (some ⟨w.heap.size, 0, none⟩) := h.old 3 (by kernel_rfl)
                clear h
                refine gives_by rfl act.eval rfl ?_
                generalize act.eval = ρ at *
                intro hf hc
                go_simp
                exact ⟨rfl, hs⟩
              · intro k vals act wx hk h hs
                have e61 : act.eval (.tmp 61) = .pointer (some ⟨w.heap.size, 3, none⟩) := h.q 2 61 (by kernel_rfl) rfl
                clear h
                have hj := (JtS.any hk hs).1
                have cx0 := hj.2.1.cell 3
                obtain ⟨⟨x0, x1, x2, x3⟩, _⟩ := node_cells hj.1.2.1
                obtain ⟨⟨u0, u1, u2, u3⟩, _⟩ := node_cells hj.1.2.2.1
                refine gives_by rfl act.eval rfl ?_
                generalize act.eval = ρ at *
                intro hf hc
                go_simp
                exact ⟨rfl, hs⟩
              · intro vals act wx h hs
                have e60 : act.eval (.tmp 60) = .slice none 0 0 := h.q 1 60 (by kernel_rfl) rfl
                have e62 : act.eval (.tmp 62) = .slice ca nc cc := h.q 3 62 (by kernel_rfl) rfl
                clear h
                obtain ⟨hj, hO⟩ : (JxB w [.bool false, .slice pa np pc, .slice ka nk kc, .slice ca nc cc] [.bool false, .slice pa' np' pc', .slice ka' nk' kc', .slice ca' nc' cc'] [.bool false, .slice none 0 0, .slice k9 n9 c9, .slice none 0 0] xb wx ∧ wx.ownsRow (w.heap.size + 3) 34 1 (.slice k9 n9 c9) n9 KL) := hs
                obtain ⟨aa, nn, cx, wy, hr, ho, hn, hj', hon⟩ := jxI hj (.slice none 0 0) 0 [] (World.ownsRow_nil _ _ _ _) (by omega) (.slice ca nc cc) (iv a.cs) (RowR.of_is (HC.out.below hj.1.1) (by rw [HNC.out]; omega))
                rw [List.nil_append] at ho
                refine gives_of_run rfl (exec_append (.tmp 60) (.tmp 62) 24 rfl _ _ e60 e62 _ hr) ?_
                exact (⟨⟨hj', ownsRow_only hO hon (fun j h1 h2 => (by cases h2))⟩, aa, nn, cx, rfl, by omega, ho⟩ : (JxB w [.bool false, .slice pa np pc, .slice ka nk kc, .slice ca nc cc] [.bool false, .slice pa' np' pc', .slice ka' nk' kc', .slice ca' nc' cc'] [.bool false, .slice none 0 0, .slice k9 n9 c9, .slice none 0 0] xb wy ∧ wy.ownsRow (w.heap.size + 3) 34 1 (.slice k9 n9 c9) n9 KL) ∧ ∃ ea en ec, (.slice aa nn cx : Value) = .slice ea en ec ∧ en ≤ 1000 ∧ wy.ownsRow (w.heap.size + 3) 3 1 (.slice ea en ec) en (iv a.cs))
              · intro k vals act wx hk h hs
                have e5 : act.eval (.tmp 5) = .pointer (some ⟨w.heap.size + 1, 0, none⟩) := h.old 5 (by kernel_rfl)
                clear h
                refine gives_by rfl act.eval rfl ?_
                generalize act.eval = ρ at *
                intro hf hc
                go_simp
                exact ⟨rfl, hs⟩
              · intro k vals act wx hk h hs
                have e64 : act.eval (.tmp 64) = .pointer (some ⟨w.heap.size + 1, 3, none⟩) := h.q 5 64 (by kernel_rfl) rfl
                clear h
                have hj := (JtS.any hk hs).1
                have cx0 := hj.2.1.cell 3
                obtain ⟨⟨x0, x1, x2, x3⟩, _⟩ := node_cells hj.1.2.1
                obtain ⟨⟨u0, u1, u2, u3⟩, _⟩ := node_cells hj.1.2.2.1
                refine gives_by rfl act.eval rfl ?_
                generalize act.eval = ρ at *
                intro hf hc
                go_simp
                exact ⟨rfl, hs⟩
              · intro vals act wx h hs
                have e63 : act.eval (.tmp 63) = vals 4 := h.val 4 63 (by kernel_rfl)
                have e65 : act.eval (.tmp 65) = .slice ca' nc' cc' := h.q 6 65 (by kernel_rfl) rfl
                clear h
                obtain ⟨⟨hj, hO⟩, a4, n4, c4, h4, hn4, ho4⟩ : (JxB w [.bool false, .slice pa np pc, .slice ka nk kc, .slice ca nc cc] [.bool false, .slice pa' np' pc', .slice ka' nk' kc', .slice ca' nc' cc'] [.bool false, .slice none 0 0, .slice k9 n9 c9, .slice none 0 0] xb wx ∧ wx.ownsRow (w.heap.size + 3) 34 1 (.slice k9 n9 c9) n9 KL) ∧ ∃ ea en ec, vals 4 = .slice ea en ec ∧ en ≤ 1000 ∧ wx.ownsRow (w.heap.size + 3) 3 1 (.slice ea en ec) en (iv a.cs) := hs
                rw [h4] at e63
                obtain ⟨aa, nn, cx, wy, hr, ho, hn, hj', hon⟩ := jxI hj _ n4 _ ho4 (by omega) (.slice ca' nc' cc') (iv b.cs) (RowR.of_is (HC'.out.below hj.1.1) (by rw [HNC'.out]; omega))
                refine gives_of_run rfl (exec_append (.tmp 63) (.tmp 65) 24 rfl _ _ e63 e65 _ hr) ?_
                exact (⟨⟨hj', ownsRow_only hO hon (fun j h1 h2 => rows_ne hO ho4 (by decide) h1 h2)⟩, aa, nn, cx, rfl, by omega, ho⟩ : (JxB w [.bool false, .slice pa np pc, .slice ka nk kc, .slice ca nc cc] [.bool false, .slice pa' np' pc', .slice ka' nk' kc', .slice ca' nc' cc'] [.bool false, .slice none 0 0, .slice k9 n9 c9, .slice none 0 0] xb wy ∧ wy.ownsRow (w.heap.size + 3) 34 1 (.slice k9 n9 c9) n9 KL) ∧ ∃ ea en ec, (.slice aa nn cx : Value) = .slice ea en ec ∧ en ≤ 2000 ∧ wy.ownsRow (w.heap.size + 3) 3 1 (.slice ea en ec) en (iv a.cs ++ iv b.cs))
              · intro k vals act wx hk h hs
                have e8 : act.eval (.tmp 8) = .pointer (some ⟨xb, 0, none⟩) := h.old 8 (by kernel_rfl)
                clear h
                refine gives_by rfl act.eval rfl ?_
                generalize act.eval = ρ at *
                intro hf hc
                go_simp
                exact ⟨rfl, hs⟩
              · intro vals act wx h hs
                have e67 : act.eval (.tmp 67) = .pointer (some ⟨xb, 3, none⟩) := h.q 8 67 (by kernel_rfl) rfl
                have e66 : act.eval (.tmp 66) = vals 7 := h.val 7 66 (by kernel_rfl)
                clear h
                obtain ⟨⟨hj, hO⟩, a4, n4, c4, h4, hn4, ho4⟩ : (JxB w [.bool false, .slice pa np pc, .slice ka nk kc, .slice ca nc cc] [.bool false, .slice pa' np' pc', .slice ka' nk' kc', .slice ca' nc' cc'] [.bool false, .slice none 0 0, .slice k9 n9 c9, .slice none 0 0] xb wx ∧ wx.ownsRow (w.heap.size + 3) 34 1 (.slice k9 n9 c9) n9 KL) ∧ ∃ ea en ec, vals 7 = .slice ea en ec ∧ en ≤ 2000 ∧ wx.ownsRow (w.heap.size + 3) 3 1 (.slice ea en ec) en (iv a.cs ++ iv b.cs) := hs
                rw [h4] at e66
                have c0 : wx.cell? ⟨xb, 3, none⟩ = some (.slice none 0 0) := hj.2.1.cell 3
                have f0 : wx.frozen? ⟨xb, 3, none⟩ = false := hj.2.1.frozen 3
                have hon : Only (· = xb) wx (wx.setCell ⟨xb, 3, none⟩ (.slice a4 n4 c4)) := (Only.refl (· = xb) wx).setCell ⟨xb, 3, none⟩ _ (fun _ => rfl)
                have hfin : ∃ ea en ec, (JxB w [.bool false, .slice pa np pc, .slice ka nk kc, .slice ca nc cc] [.bool false, .slice pa' np' pc', .slice ka' nk' kc', .slice ca' nc' cc'] [.bool false, .slice none 0 0, .slice k9 n9 c9, .slice ea en ec] xb (wx.setCell ⟨xb, 3, none⟩ (.slice a4 n4 c4)) ∧ (wx.setCell ⟨xb, 3, none⟩ (.slice a4 n4 c4)).ownsRow (w.heap.size + 3) 34 1 (.slice k9 n9 c9) n9 KL) ∧ en ≤ 2000 ∧ (wx.setCell ⟨xb, 3, none⟩ (.slice a4 n4 c4)).ownsRow (w.heap.size + 3) 3 1 (.slice ea en ec) en (iv a.cs ++ iv b.cs) := ⟨a4, n4, c4, ⟨hj.put 3 (.slice a4 n4 c4), ownsRow_only hO hon (fun j hh e => row_not_blk hO hj.2.1 (by decide) (e ▸ hh))⟩, hn4, ownsRow_only ho4 hon (fun j hh e => row_not_blk ho4 hj.2.1 (by decide) (e ▸ hh))⟩
                clear hj ho4 hon h4 hO
                refine gives_by rfl act.eval rfl ?_
                generalize act.eval = ρ at *
                intro hf hc
                go_simp
                exact hfin
            · intro vals w5 hq hs
              obtain ⟨aa, nn, cx, ⟨hj, hO⟩, hnn, ho⟩ : ∃ ea en ec, (JxB w [.bool false, .slice pa np pc, .slice ka nk kc, .slice ca nc cc] [.bool false, .slice pa' np' pc', .slice ka' nk' kc', .slice ca' nc' cc'] [.bool false, .slice none 0 0, .slice k9 n9 c9, .slice ea en ec] xb w5 ∧ w5.ownsRow (w.heap.size + 3) 34 1 (.slice k9 n9 c9) n9 KL) ∧ en ≤ 2000 ∧ w5.ownsRow (w.heap.size + 3) 3 1 (.slice ea en ec) en (iv a.cs ++ iv b.cs) := hs
              have HJ5 := hide hj
              have HNV := hide (HND.out w5 k9 n9 c9 aa nn cx hj.1.1 (by rw [← List.append_assoc, ← HKL.out]; exact hO) (by rw [HIV.out, show iv (a.cs ++ b.cs) = iv a.cs ++ iv b.cs by simp [iv]]; exact ho))
              obtain ⟨⟨z0, z1, z2, z3⟩, _⟩ := node_cells hj.2.1
              clear hq hj ho hO
              simp only [putAll, Act.put, List.setIfInBounds_toArray, List.set_cons_zero, List.set_cons_succ, Nat.zero_add, Nat.reduceAdd]
              have HG5 := hide (HGD.out w5 _ (joinK a key b) HNV.out HJB.out)
              generalize ownE (joinK a key b) = OE at *
              generalize ownN (joinK a key b) = ON at *
              go_wp2_with (go_at_call 75; refine HG5.out.mono ?_; rintro e w6 ⟨l6, p6, m6, c6, kx6, mk6, kc6, q6, mq6, qc6, rfl, hn6, hb6⟩; have HJ6 := hide (HJ5.out.1.keep (Only.of_below (fun _ => False) hb6)); have HN6 := hide (hn6.le HJ5.out.size); obtain ⟨⟨d0, d1', d2, d3⟩, k0, k1, k2, k3⟩ := node_cells HJ6.out.2.2.2; clear HG5 hb6 hn6)
              (try simp only [Exit.inBlock, Exit.then])
              refine bodyPost_ret (ret_node1 rfl _ _ (w.heap.size + 2) _ _ _ _ _ rfl rfl (laidN_blk HJ6.out.2.2.2 _ _ _ _)) rfl ?_
              exact ⟨_, rfl, (HN6.out.only (laidN_only w6 (w.heap.size + 2) _ _ _ _) (fun j hj => by omega)).le (by omega), HJ6.out.1.trans ((laidN_only w6 (w.heap.size + 2) _ _ _ _).below HJ6.out.1.size (fun j hj e => by omega))⟩
      · obtain ⟨r1, r2⟩ := HNO.out (.inr (.inr hll))
        rw [r1, r2]
        clear HNO HLF HIN HGD HKE r1 r2
        have hlb : (lf == lf') = false := by simp [hll]
        go_enter Try.func44, Try.ntmps44
        go_wp2_with (first | (go_at_call 25; refine (HMA.out w1 HJ1.out.1).mono ?_; rintro e w2 ⟨rfl, hb2⟩; have HJ2 := hide (HJ1.out.keep (Only.of_below (fun _ => False) hb2)); clear z0 z1 z2 z3; obtain ⟨⟨z0, z1, z2, z3⟩, _⟩ := node_cells HJ2.out.2.1; obtain ⟨⟨y0, y1, y2, y3⟩, _⟩ := node_cells HJ2.out.2.2.1; obtain ⟨⟨d0, d1', d2, d3⟩, k0, k1, k2, k3⟩ := node_cells HJ2.out.2.2.2; clear HMA hb2) | (go_at_call 25; refine (HMB.out w2 HJ2.out.1).mono ?_; rintro e w3 ⟨rfl, hb3⟩; have HJ3 := hide (HJ2.out.keep (Only.of_below (fun _ => False) hb3)); clear z0 z1 z2 z3 y0 y1 y2 y3 d0 d1' d2 d3 k0 k1 k2 k3; obtain ⟨⟨z0, z1, z2, z3⟩, _⟩ := node_cells HJ3.out.2.1; obtain ⟨⟨y0, y1, y2, y3⟩, _⟩ := node_cells HJ3.out.2.2.1; obtain ⟨⟨d0, d1', d2, d3⟩, k0, k1, k2, k3⟩ := node_cells HJ3.out.2.2.2; clear HMB hb3))
        (try simp only [Exit.inBlock, Exit.then])
        refine bodyPost_ret (ret_node1 rfl _ _ (w.heap.size + 2) _ _ _ _ _ rfl rfl (laidN_blk HJ3.out.2.2.2 _ _ _ _)) rfl ?_
        skip
        exact GivesN.no 100 (HJ3.out.1.trans ((laidN_only w3 (w.heap.size + 2) _ _ _ _).below HJ3.out.1.size (fun j hj e => by omega)))

end Go.Proofs.Ythnppkeifhnceaa
/- NodeCuts, walked. -/
namespace Go.Proofs.Ythnppkeifhnceaa
set_option maxRecDepth 20000
open Go.RowKit Go.Shelf
set_option linter.unusedVariables false
set_option linter.unusedSimpArgs false
set_option maxRecDepth 100000
attribute [local go_sem] Oper.semAt_some

theorem nds_three {w : World} {a b c : Nd} {l1 l2 l3 : Bool} {p1 k1 c1 p2 k2 c2 p3 k3 c3 : Value} (h1 : NdV w (.agg #[.bool l1, p1, k1, c1]) a) (h2 : NdV w (.agg #[.bool l2, p2, k2, c2]) b) (h3 : NdV w (.agg #[.bool l3, p3, k3, c3]) c) : Nds (w.alloc (.cells #[.bool l1, p1, k1, c1, .bool l2, p2, k2, c2, .bool l3, p3, k3, c3] 26)) w.heap.size [.agg #[.bool l1, p1, k1, c1], .agg #[.bool l2, p2, k2, c2], .agg #[.bool l3, p3, k3, c3]] [a, b, c] := by
  have hB := Blk.new w 26 [.bool l1, p1, k1, c1, .bool l2, p2, k2, c2, .bool l3, p3, k3, c3]
  refine ⟨rfl, fun i hi => ?_⟩
  have hi2 : i < 3 := by simpa using hi
  match i, hi2 with
  | 0, _ => exact ⟨h1.alloc _, hB.range 0 [.bool l1, p1, k1, c1] (fun j hj => by rcases j with _ | _ | _ | _ | j <;> first | rfl | (simp at hj; omega))⟩
  | 1, _ => exact ⟨h2.alloc _, hB.range 4 [.bool l2, p2, k2, c2] (fun j hj => by rcases j with _ | _ | _ | _ | j <;> first | rfl | (simp at hj; omega))⟩
  | 2, _ => exact ⟨h3.alloc _, hB.range 8 [.bool l3, p3, k3, c3] (fun j hj => by rcases j with _ | _ | _ | _ | j <;> first | rfl | (simp at hj; omega))⟩
/-- boxes of nodes stay -/
def Bxs (w W : World) (l : List (Nat × List Value)) : Prop := Below w.heap.size w W ∧ ∀ x ∈ l, Blk W x.1 26 x.2
theorem Bxs.keep {w W W' : World} {l : List (Nat × List Value)} (h : Bxs w W l) (hb : Below W.heap.size W W') : Bxs w W' l := ⟨h.1.trans (hb.mono h.1.size), fun x hx => (h.2 x hx).below hb (h.2 x hx).lt⟩
theorem Bxs.more {w W : World} {l : List (Nat × List Value)} (h : Bxs w W l) (V : List Value) : Bxs w (W.alloc (.cells V.toArray 26)) ((W.heap.size, V) :: l) := by
  have hb : Below W.heap.size W (W.alloc (.cells V.toArray 26)) := (Below.refl _ W).alloc (Nat.le_refl _) _
  refine ⟨(h.keep hb).1, fun x hx => ?_⟩
  rcases List.mem_cons.1 hx with rfl | hx
  · exact Blk.new W _ _
  · exact (h.keep hb).2 x hx
theorem sameN_id (a : Nd) : sameN a a = true := by simp [sameN]

set_option maxHeartbeats 8000000 in
theorem nodeCuts_walk (w : World) (v : Value) (n : Nd) (va : Value) (a : Nd) (vb : Value) (b : Nd) (kv : Value) (key : List Int) (hv : NdV w v n) (ha : NdV w va a) (hb : NdV w vb b) (hk : Sl w kv key) :
    Calls Try.prog 7 #[v, va, vb, kv] w fun e w' => e = .returned (.bool true) ∧ Below w.heap.size w w' := by
  have HLV := hide live_any
  obtain ⟨lf, pa, np, pc, ka, nk, kc, ca, nc, cc, rfl, -⟩ := nd_open hv
  obtain ⟨lf1, pa1, np1, pc1, ka1, nk1, kc1, ca1, nc1, cc1, rfl, -⟩ := nd_open ha
  obtain ⟨lf2, pa2, np2, pc2, ka2, nk2, kc2, ca2, nc2, cc2, rfl, -⟩ := nd_open hb
  obtain ⟨q1, dq, rfl⟩ := sl_form' hk
  obtain ⟨m1, hm1⟩ : ∃ m, key.length = m := ⟨_, rfl⟩
  rw [hm1] at hk ⊢
  have HFW : Hid (∀ W, Below w.heap.size w W → Calls Try.prog 9 #[.slice (some ⟨W.heap.size, 0, none⟩) 3 3] (W.alloc (.cells #[.bool lf, .slice pa np pc, .slice ka nk kc, .slice ca nc cc, .bool lf1, .slice pa1 np1 pc1, .slice ka1 nk1 kc1, .slice ca1 nc1 cc1, .bool lf2, .slice pa2 np2 pc2, .slice ka2 nk2 kc2, .slice ca2 nc2 cc2] 26)) fun e w' => e = .returned (.bool (fewN [n, a, b])) ∧ Below W.heap.size W w') := fun W hW =>
    (few_any _ _ 3 _ [n, a, b] (nds_three (hv.below hW) (ha.below hW) (hb.below hW)) (by simp)).mono fun e w' ⟨h1, h2⟩ => ⟨h1, after_alloc h2⟩
  have HFS : Hid (fewN [n, a, b] = true → (n.ks.length + n.cs.length ≤ 9223372036854775807) ∧ (a.ks.length + a.cs.length ≤ 9223372036854775807) ∧ (b.ks.length + b.cs.length ≤ 9223372036854775807)) := fun hf => by
    simp only [fewN, List.all_cons, List.all_nil, Bool.and_true, Bool.and_eq_true] at hf
    exact ⟨few_sum hf.1, few_sum hf.2.1, few_sum hf.2.2⟩
  have HCT : Hid (∀ W, Below w.heap.size w W → Calls Try.prog 41 #[.agg #[.bool lf, .slice pa np pc, .slice ka nk kc, .slice ca nc cc]] W fun e w' => ∃ lx px mx cx kxx mkx kcx qx mqx qcx k1 k2 k3 ly py my cy kxy mky kcy qy mqy qcy, e = .returned (.tuple #[.agg #[.bool lx, .slice px mx cx, .slice kxx mkx kcx, .slice qx mqx qcx], .slice k1 k2 k3, .agg #[.bool ly, .slice py my cy, .slice kxy mky kcy, .slice qy mqy qcy], .int .i64 (cutE n)]) ∧ NdV w' (.agg #[.bool lx, .slice px mx cx, .slice kxx mkx kcx, .slice qx mqx qcx]) (cutA n) ∧ Sl w' (.slice k1 k2 k3) (cutK n) ∧ NdV w' (.agg #[.bool ly, .slice py my cy, .slice kxy mky kcy, .slice qy mqy qcy]) (cutB n) ∧ Below W.heap.size W w') := fun W hW => (cut_any W _ n (hv.below hW)).mono (by
    rintro e w' ⟨u1, k1, k2, k3, u2, rfl, h1, h2, h3, h4⟩
    obtain ⟨pa5, np5, pc5, ka5, nk5, kc5, ca5, nc5, cc5, rfl⟩ := h1.form
    obtain ⟨pa6, np6, pc6, ka6, nk6, kc6, ca6, nc6, cc6, rfl⟩ := h3.form
    exact ⟨_, _, _, _, _, _, _, _, _, _, k1, k2, k3, _, _, _, _, _, _, _, _, _, _, rfl, h1.val, h2, h3.val, h4⟩)
  have HRC : Hid (fewN [n, a, b] = true → ∀ W, Below w.heap.size w W → Calls Try.prog 42 #[.agg #[.bool lf, .slice pa np pc, .slice ka nk kc, .slice ca nc cc]] W fun e w' => ∃ lx px mx cx kxx mkx kcx qx mqx qcx k1 k2 k3 ly py my cy kxy mky kcy qy mqy qcy, e = .returned (.tuple #[.agg #[.bool lx, .slice px mx cx, .slice kxx mkx kcx, .slice qx mqx qcx], .slice k1 k2 k3, .agg #[.bool ly, .slice py my cy, .slice kxy mky kcy, .slice qy mqy qcy], .int .i64 (cutE n)]) ∧ NdV w' (.agg #[.bool lx, .slice px mx cx, .slice kxx mkx kcx, .slice qx mqx qcx]) (cutA n) ∧ Sl w' (.slice k1 k2 k3) (cutK n) ∧ NdV w' (.agg #[.bool ly, .slice py my cy, .slice kxy mky kcy, .slice qy mqy qcy]) (cutB n) ∧ Below W.heap.size W w') := fun hf W hW => (refCut_any W _ n (hv.below hW) (HFS.out hf).1).mono (by
    rintro e w' ⟨u1, k1, k2, k3, u2, rfl, h1, h2, h3, h4⟩
    obtain ⟨pa5, np5, pc5, ka5, nk5, kc5, ca5, nc5, cc5, rfl⟩ := h1.form
    obtain ⟨pa6, np6, pc6, ka6, nk6, kc6, ca6, nc6, cc6, rfl⟩ := h3.form
    exact ⟨_, _, _, _, _, _, _, _, _, _, k1, k2, k3, _, _, _, _, _, _, _, _, _, _, rfl, h1.val, h2, h3.val, h4⟩)
  have HJN : Hid (∀ W, Below w.heap.size w W → Calls Try.prog 43 #[.agg #[.bool lf1, .slice pa1 np1 pc1, .slice ka1 nk1 kc1, .slice ca1 nc1 cc1], .slice q1 m1 dq, .agg #[.bool lf2, .slice pa2 np2 pc2, .slice ka2 nk2 kc2, .slice ca2 nc2 cc2]] W fun e w' => ∃ lx px mx cx kxx mkx kcx qx mqx qcx, e = .returned (.tuple #[.agg #[.bool lx, .slice px mx cx, .slice kxx mkx kcx, .slice qx mqx qcx], .int .i64 (joinE a key b)]) ∧ NdV w' (.agg #[.bool lx, .slice px mx cx, .slice kxx mkx kcx, .slice qx mqx qcx]) (joinN a key b) ∧ Below W.heap.size W w') := fun W hW => (join_any W _ _ a b _ key (ha.below hW) (hb.below hW) (hk.below hW)).mono (by
    rintro e w' ⟨u1, rfl, h1, h4⟩
    obtain ⟨pa5, np5, pc5, ka5, nk5, kc5, ca5, nc5, cc5, rfl⟩ := h1.form
    exact ⟨_, _, _, _, _, _, _, _, _, _, rfl, h1.val, h4⟩)
  have HRJ : Hid (fewN [n, a, b] = true → ∀ W, Below w.heap.size w W → Calls Try.prog 44 #[.agg #[.bool lf1, .slice pa1 np1 pc1, .slice ka1 nk1 kc1, .slice ca1 nc1 cc1], .slice q1 m1 dq, .agg #[.bool lf2, .slice pa2 np2 pc2, .slice ka2 nk2 kc2, .slice ca2 nc2 cc2]] W fun e w' => ∃ lx px mx cx kxx mkx kcx qx mqx qcx, e = .returned (.tuple #[.agg #[.bool lx, .slice px mx cx, .slice kxx mkx kcx, .slice qx mqx qcx], .int .i64 (joinE a key b)]) ∧ NdV w' (.agg #[.bool lx, .slice px mx cx, .slice kxx mkx kcx, .slice qx mqx qcx]) (joinN a key b) ∧ Below W.heap.size W w') := fun hf W hW => (refJoin_any W _ _ a b _ key (ha.below hW) (hb.below hW) (hk.below hW) (HFS.out hf).2.1 (HFS.out hf).2.2).mono (by
    rintro e w' ⟨u1, rfl, h1, h4⟩
    obtain ⟨pa5, np5, pc5, ka5, nk5, kc5, ca5, nc5, cc5, rfl⟩ := h1.form
    exact ⟨_, _, _, _, _, _, _, _, _, _, rfl, h1.val, h4⟩)
  have HSM : Hid (∀ wx u1 u2 m, NdV wx u1 m → NdV wx u2 m → Calls Try.prog 17 #[u1, u2] wx fun e w' => e = .returned (.bool true) ∧ Below wx.heap.size wx w') := fun wx u1 u2 m h1 h2 => by rw [← sameN_id m]; exact refSame_any wx _ _ _ _ h1 h2
  have HEQ : Hid (∀ w1 u1 u2 zs, Sl w1 u1 zs → Sl w1 u2 zs → Calls Try.prog 22 #[u1, u2] w1 fun e w' => e = .returned (.bool true) ∧ w' = w1) := fun w1 u1 u2 zs h1 h2 => by
    have := equal_any w1 u1 u2 _ _ h1 h2
    rw [decide_eq_true rfl] at this
    exact this
  clear hm1 HFS
  generalize fewN [n, a, b] = FW at *
  generalize cutA n = CA at *
  generalize cutB n = CB at *
  generalize cutK n = CK at *
  generalize cutE n = CE at *
  generalize joinN a key b = JV at *
  generalize joinE a key b = JE at *
  obtain ⟨w1, hw1⟩ : ∃ w1, ((w.alloc (.cells #[.bool lf, .slice pa np pc, .slice ka nk kc, .slice ca nc cc] 26)).alloc (.cells #[.bool lf1, .slice pa1 np1 pc1, .slice ka1 nk1 kc1, .slice ca1 nc1 cc1] 26)).alloc (.cells #[.bool lf2, .slice pa2 np2 pc2, .slice ka2 nk2 kc2, .slice ca2 nc2 cc2] 26) = w1 := ⟨_, rfl⟩
  have HX1 : Hid (Bxs w w1 [(w.heap.size + 2, [.bool lf2, .slice pa2 np2 pc2, .slice ka2 nk2 kc2, .slice ca2 nc2 cc2]), (w.heap.size + 1, [.bool lf1, .slice pa1 np1 pc1, .slice ka1 nk1 kc1, .slice ca1 nc1 cc1]), (w.heap.size, [.bool lf, .slice pa np pc, .slice ka nk kc, .slice ca nc cc])]) := by
    have h0 : Bxs w w [] := ⟨Below.refl _ w, fun x hx => by cases hx⟩
    have := ((h0.more [.bool lf, .slice pa np pc, .slice ka nk kc, .slice ca nc cc]).more [.bool lf1, .slice pa1 np1 pc1, .slice ka1 nk1 kc1, .slice ca1 nc1 cc1]).more [.bool lf2, .slice pa2 np2 pc2, .slice ka2 nk2 kc2, .slice ca2 nc2 cc2]
    simp only [World.size_alloc] at this
    rw [← hw1]
    exact this
  clear hv ha hb hk
  cases FW with
  | false =>
    clear HCT HRC HJN HRJ HSM HEQ
    go_enter Try.func7, Try.ntmps7
    go_wp2_with (first | (go_at_call 9; refine (HFW.out w2 HX2.out.1).mono ?_; rintro e w3 ⟨rfl, hb3⟩; have HX3 := hide (HX2.out.keep hb3); obtain ⟨⟨z4a, z4b, z4c, z4d⟩, _⟩ := node_cells (HX3.out.2 (w.heap.size, [.bool lf, .slice pa np pc, .slice ka nk kc, .slice ca nc cc]) (by simp)); obtain ⟨⟨z5a, z5b, z5c, z5d⟩, _⟩ := node_cells (HX3.out.2 (w.heap.size + 1, [.bool lf1, .slice pa1 np1 pc1, .slice ka1 nk1 kc1, .slice ca1 nc1 cc1]) (by simp)); obtain ⟨⟨z6a, z6b, z6c, z6d⟩, _⟩ := node_cells (HX3.out.2 (w.heap.size + 2, [.bool lf2, .slice pa2 np2 pc2, .slice ka2 nk2 kc2, .slice ca2 nc2 cc2]) (by simp)); clear HFW hb3) | (go_at_call 8; refine (HLV.out w3).mono ?_; rintro e w4 ⟨rfl, hb4⟩; have HX4 := hide (HX3.out.keep hb4); clear hb4) | (go_at_call 8; refine (HLV.out w1).mono ?_; rintro e w2 ⟨rfl, hb2⟩; have HX2 := hide (HX1.out.keep hb2); obtain ⟨⟨z1a, z1b, z1c, z1d⟩, _⟩ := node_cells (HX2.out.2 (w.heap.size, [.bool lf, .slice pa np pc, .slice ka nk kc, .slice ca nc cc]) (by simp)); obtain ⟨⟨z2a, z2b, z2c, z2d⟩, _⟩ := node_cells (HX2.out.2 (w.heap.size + 1, [.bool lf1, .slice pa1 np1 pc1, .slice ka1 nk1 kc1, .slice ca1 nc1 cc1]) (by simp)); obtain ⟨⟨z3a, z3b, z3c, z3d⟩, _⟩ := node_cells (HX2.out.2 (w.heap.size + 2, [.bool lf2, .slice pa2 np2 pc2, .slice ka2 nk2 kc2, .slice ca2 nc2 cc2]) (by simp)); clear hb2))
    go_ret
    exact ⟨rfl, HX4.out.1⟩
  | true =>
    have HRC1 := hide (HRC.out rfl)
    have HRJ1 := hide (HRJ.out rfl)
    clear HRC HRJ
    by_cases hL : m1 ≤ 300
    · have iL : ¬ (300 : Int) < (m1 : Int) := by omega
      go_enter Try.func7, Try.ntmps7
      go_wp2_with (first | (go_at_call 8; refine (HLV.out w1).mono ?_; rintro e w2 ⟨rfl, hb2⟩; have HX2 := hide (HX1.out.keep hb2); obtain ⟨⟨z1a, z1b, z1c, z1d⟩, _⟩ := node_cells (HX2.out.2 (w.heap.size, [.bool lf, .slice pa np pc, .slice ka nk kc, .slice ca nc cc]) (by simp)); obtain ⟨⟨z2a, z2b, z2c, z2d⟩, _⟩ := node_cells (HX2.out.2 (w.heap.size + 1, [.bool lf1, .slice pa1 np1 pc1, .slice ka1 nk1 kc1, .slice ca1 nc1 cc1]) (by simp)); obtain ⟨⟨z3a, z3b, z3c, z3d⟩, _⟩ := node_cells (HX2.out.2 (w.heap.size + 2, [.bool lf2, .slice pa2 np2 pc2, .slice ka2 nk2 kc2, .slice ca2 nc2 cc2]) (by simp)); clear hb2) | (go_at_call 9; refine (HFW.out w2 HX2.out.1).mono ?_; rintro e w3 ⟨rfl, hb3⟩; have HX3 := hide (HX2.out.keep hb3); obtain ⟨⟨z4a, z4b, z4c, z4d⟩, _⟩ := node_cells (HX3.out.2 (w.heap.size, [.bool lf, .slice pa np pc, .slice ka nk kc, .slice ca nc cc]) (by simp)); obtain ⟨⟨z5a, z5b, z5c, z5d⟩, _⟩ := node_cells (HX3.out.2 (w.heap.size + 1, [.bool lf1, .slice pa1 np1 pc1, .slice ka1 nk1 kc1, .slice ca1 nc1 cc1]) (by simp)); obtain ⟨⟨z6a, z6b, z6c, z6d⟩, _⟩ := node_cells (HX3.out.2 (w.heap.size + 2, [.bool lf2, .slice pa2 np2 pc2, .slice ka2 nk2 kc2, .slice ca2 nc2 cc2]) (by simp)); clear HFW hb3) | (go_at_call 41; refine (HCT.out w3 HX3.out.1).mono ?_; rintro e w4 ⟨l5x, p5x, m5x, c5x, kx5x, mk5x, kc5x, q5x, mq5x, qc5x, k15, k25, k35, l5y, p5y, m5y, c5y, kx5y, mk5y, kc5y, q5y, mq5y, qc5y, rfl, hva, hsk, hvb, hb⟩; obtain ⟨W5, hW5⟩ : ∃ W, (w4.alloc (.cells #[.bool l5x, .slice p5x m5x c5x, .slice kx5x mk5x kc5x, .slice q5x mq5x qc5x] 26)).alloc (.cells #[.bool l5y, .slice p5y m5y c5y, .slice kx5y mk5y kc5y, .slice q5y mq5y qc5y] 26) = W := ⟨_, rfl⟩; have hx := ((HX3.out.keep hb).more [.bool l5x, .slice p5x m5x c5x, .slice kx5x mk5x kc5x, .slice q5x mq5x qc5x]).more [.bool l5y, .slice p5y m5y c5y, .slice kx5y mk5y kc5y, .slice q5y mq5y qc5y]; rw [World.size_alloc, hW5] at hx; have HX5 := hide hx; have hbb : Below w4.heap.size w4 W5 := (by rw [← hW5]; exact ((Below.refl _ w4).alloc (Nat.le_refl _) _).alloc (by simp) _); have HA5 := hide (hva.below hbb); have HK5 := hide (hsk.below hbb); have HB5 := hide (hvb.below hbb); have hmv := hb.trans (hbb.mono hb.size); obtain ⟨⟨z7a, z7b, z7c, z7d⟩, _⟩ := node_cells (HX5.out.2 (w.heap.size, [.bool lf, .slice pa np pc, .slice ka nk kc, .slice ca nc cc]) (by simp)); obtain ⟨⟨z8a, z8b, z8c, z8d⟩, _⟩ := node_cells (HX5.out.2 (w.heap.size + 1, [.bool lf1, .slice pa1 np1 pc1, .slice ka1 nk1 kc1, .slice ca1 nc1 cc1]) (by simp)); obtain ⟨⟨z9a, z9b, z9c, z9d⟩, _⟩ := node_cells (HX5.out.2 (w.heap.size + 2, [.bool lf2, .slice pa2 np2 pc2, .slice ka2 nk2 kc2, .slice ca2 nc2 cc2]) (by simp)); obtain ⟨⟨z10a, z10b, z10c, z10d⟩, _⟩ := node_cells (HX5.out.2 (w4.heap.size, [.bool l5x, .slice p5x m5x c5x, .slice kx5x mk5x kc5x, .slice q5x mq5x qc5x]) (by simp)); obtain ⟨⟨z11a, z11b, z11c, z11d⟩, _⟩ := node_cells (HX5.out.2 (w4.heap.size + 1, [.bool l5y, .slice p5y m5y c5y, .slice kx5y mk5y kc5y, .slice q5y mq5y qc5y]) (by simp)); clear HCT hx hva hvb hsk hb hbb hmv) | (go_at_call 42; refine (HRC1.out W5 HX5.out.1).mono ?_; rintro e w6 ⟨l7x, p7x, m7x, c7x, kx7x, mk7x, kc7x, q7x, mq7x, qc7x, k17, k27, k37, l7y, p7y, m7y, c7y, kx7y, mk7y, kc7y, q7y, mq7y, qc7y, rfl, hva, hsk, hvb, hb⟩; obtain ⟨W7, hW7⟩ : ∃ W, (w6.alloc (.cells #[.bool l7x, .slice p7x m7x c7x, .slice kx7x mk7x kc7x, .slice q7x mq7x qc7x] 26)).alloc (.cells #[.bool l7y, .slice p7y m7y c7y, .slice kx7y mk7y kc7y, .slice q7y mq7y qc7y] 26) = W := ⟨_, rfl⟩; have hx := ((HX5.out.keep hb).more [.bool l7x, .slice p7x m7x c7x, .slice kx7x mk7x kc7x, .slice q7x mq7x qc7x]).more [.bool l7y, .slice p7y m7y c7y, .slice kx7y mk7y kc7y, .slice q7y mq7y qc7y]; rw [World.size_alloc, hW7] at hx; have HX7 := hide hx; have hbb : Below w6.heap.size w6 W7 := (by rw [← hW7]; exact ((Below.refl _ w6).alloc (Nat.le_refl _) _).alloc (by simp) _); have HA7 := hide (hva.below hbb); have HK7 := hide (hsk.below hbb); have HB7 := hide (hvb.below hbb); have hmv := hb.trans (hbb.mono hb.size); have HA5' := hide (HA5.out.below hmv); have HK5' := hide (HK5.out.below hmv); have HB5' := hide (HB5.out.below hmv); clear HA5 HK5 HB5; have HA5 := hide HA5'.out; have HK5 := hide HK5'.out; have HB5 := hide HB5'.out; clear HA5' HK5' HB5'; obtain ⟨⟨z12a, z12b, z12c, z12d⟩, _⟩ := node_cells (HX7.out.2 (w.heap.size, [.bool lf, .slice pa np pc, .slice ka nk kc, .slice ca nc cc]) (by simp)); obtain ⟨⟨z13a, z13b, z13c, z13d⟩, _⟩ := node_cells (HX7.out.2 (w.heap.size + 1, [.bool lf1, .slice pa1 np1 pc1, .slice ka1 nk1 kc1, .slice ca1 nc1 cc1]) (by simp)); obtain ⟨⟨z14a, z14b, z14c, z14d⟩, _⟩ := node_cells (HX7.out.2 (w.heap.size + 2, [.bool lf2, .slice pa2 np2 pc2, .slice ka2 nk2 kc2, .slice ca2 nc2 cc2]) (by simp)); obtain ⟨⟨z15a, z15b, z15c, z15d⟩, _⟩ := node_cells (HX7.out.2 (w4.heap.size, [.bool l5x, .slice p5x m5x c5x, .slice kx5x mk5x kc5x, .slice q5x mq5x qc5x]) (by simp)); obtain ⟨⟨z16a, z16b, z16c, z16d⟩, _⟩ := node_cells (HX7.out.2 (w4.heap.size + 1, [.bool l5y, .slice p5y m5y c5y, .slice kx5y mk5y kc5y, .slice q5y mq5y qc5y]) (by simp)); obtain ⟨⟨z17a, z17b, z17c, z17d⟩, _⟩ := node_cells (HX7.out.2 (w6.heap.size, [.bool l7x, .slice p7x m7x c7x, .slice kx7x mk7x kc7x, .slice q7x mq7x qc7x]) (by simp)); obtain ⟨⟨z18a, z18b, z18c, z18d⟩, _⟩ := node_cells (HX7.out.2 (w6.heap.size + 1, [.bool l7y, .slice p7y m7y c7y, .slice kx7y mk7y kc7y, .slice q7y mq7y qc7y]) (by simp)); clear HRC1 hx hva hvb hsk hb hbb hmv) | (go_at_call 43; refine (HJN.out W7 HX7.out.1).mono ?_; rintro e w8 ⟨l9x, p9x, m9x, c9x, kx9x, mk9x, kc9x, q9x, mq9x, qc9x, rfl, hva, hb⟩; obtain ⟨W9, hW9⟩ : ∃ W, w8.alloc (.cells #[.bool l9x, .slice p9x m9x c9x, .slice kx9x mk9x kc9x, .slice q9x mq9x qc9x] 26) = W := ⟨_, rfl⟩; have hx := (HX7.out.keep hb).more [.bool l9x, .slice p9x m9x c9x, .slice kx9x mk9x kc9x, .slice q9x mq9x qc9x]; rw [hW9] at hx; have HX9 := hide hx; have hbb : Below w8.heap.size w8 W9 := (by rw [← hW9]; exact (Below.refl _ w8).alloc (Nat.le_refl _) _); have HA9 := hide (hva.below hbb); have hmv := hb.trans (hbb.mono hb.size); have HA5' := hide (HA5.out.below hmv); have HK5' := hide (HK5.out.below hmv); have HB5' := hide (HB5.out.below hmv); clear HA5 HK5 HB5; have HA5 := hide HA5'.out; have HK5 := hide HK5'.out; have HB5 := hide HB5'.out; clear HA5' HK5' HB5'; have HA7' := hide (HA7.out.below hmv); have HK7' := hide (HK7.out.below hmv); have HB7' := hide (HB7.out.below hmv); clear HA7 HK7 HB7; have HA7 := hide HA7'.out; have HK7 := hide HK7'.out; have HB7 := hide HB7'.out; clear HA7' HK7' HB7'; obtain ⟨⟨z19a, z19b, z19c, z19d⟩, _⟩ := node_cells (HX9.out.2 (w.heap.size, [.bool lf, .slice pa np pc, .slice ka nk kc, .slice ca nc cc]) (by simp)); obtain ⟨⟨z20a, z20b, z20c, z20d⟩, _⟩ := node_cells (HX9.out.2 (w.heap.size + 1, [.bool lf1, .slice pa1 np1 pc1, .slice ka1 nk1 kc1, .slice ca1 nc1 cc1]) (by simp)); obtain ⟨⟨z21a, z21b, z21c, z21d⟩, _⟩ := node_cells (HX9.out.2 (w.heap.size + 2, [.bool lf2, .slice pa2 np2 pc2, .slice ka2 nk2 kc2, .slice ca2 nc2 cc2]) (by simp)); obtain ⟨⟨z22a, z22b, z22c, z22d⟩, _⟩ := node_cells (HX9.out.2 (w4.heap.size, [.bool l5x, .slice p5x m5x c5x, .slice kx5x mk5x kc5x, .slice q5x mq5x qc5x]) (by simp)); obtain ⟨⟨z23a, z23b, z23c, z23d⟩, _⟩ := node_cells (HX9.out.2 (w4.heap.size + 1, [.bool l5y, .slice p5y m5y c5y, .slice kx5y mk5y kc5y, .slice q5y mq5y qc5y]) (by simp)); obtain ⟨⟨z24a, z24b, z24c, z24d⟩, _⟩ := node_cells (HX9.out.2 (w6.heap.size, [.bool l7x, .slice p7x m7x c7x, .slice kx7x mk7x kc7x, .slice q7x mq7x qc7x]) (by simp)); obtain ⟨⟨z25a, z25b, z25c, z25d⟩, _⟩ := node_cells (HX9.out.2 (w6.heap.size + 1, [.bool l7y, .slice p7y m7y c7y, .slice kx7y mk7y kc7y, .slice q7y mq7y qc7y]) (by simp)); obtain ⟨⟨z26a, z26b, z26c, z26d⟩, _⟩ := node_cells (HX9.out.2 (w8.heap.size, [.bool l9x, .slice p9x m9x c9x, .slice kx9x mk9x kc9x, .slice q9x mq9x qc9x]) (by simp)); clear HJN hx hva hb hbb hmv) | (go_at_call 44; refine (HRJ1.out W9 HX9.out.1).mono ?_; rintro e w10 ⟨l11x, p11x, m11x, c11x, kx11x, mk11x, kc11x, q11x, mq11x, qc11x, rfl, hva, hb⟩; obtain ⟨W11, hW11⟩ : ∃ W, w10.alloc (.cells #[.bool l11x, .slice p11x m11x c11x, .slice kx11x mk11x kc11x, .slice q11x mq11x qc11x] 26) = W := ⟨_, rfl⟩; have hx := (HX9.out.keep hb).more [.bool l11x, .slice p11x m11x c11x, .slice kx11x mk11x kc11x, .slice q11x mq11x qc11x]; rw [hW11] at hx; have HX11 := hide hx; have hbb : Below w10.heap.size w10 W11 := (by rw [← hW11]; exact (Below.refl _ w10).alloc (Nat.le_refl _) _); have HA11 := hide (hva.below hbb); have hmv := hb.trans (hbb.mono hb.size); have HA5' := hide (HA5.out.below hmv); have HK5' := hide (HK5.out.below hmv); have HB5' := hide (HB5.out.below hmv); clear HA5 HK5 HB5; have HA5 := hide HA5'.out; have HK5 := hide HK5'.out; have HB5 := hide HB5'.out; clear HA5' HK5' HB5'; have HA7' := hide (HA7.out.below hmv); have HK7' := hide (HK7.out.below hmv); have HB7' := hide (HB7.out.below hmv); clear HA7 HK7 HB7; have HA7 := hide HA7'.out; have HK7 := hide HK7'.out; have HB7 := hide HB7'.out; clear HA7' HK7' HB7'; have HA9' := hide (HA9.out.below hmv); clear HA9; have HA9 := hide HA9'.out; clear HA9'; obtain ⟨⟨z27a, z27b, z27c, z27d⟩, _⟩ := node_cells (HX11.out.2 (w.heap.size, [.bool lf, .slice pa np pc, .slice ka nk kc, .slice ca nc cc]) (by simp)); obtain ⟨⟨z28a, z28b, z28c, z28d⟩, _⟩ := node_cells (HX11.out.2 (w.heap.size + 1, [.bool lf1, .slice pa1 np1 pc1, .slice ka1 nk1 kc1, .slice ca1 nc1 cc1]) (by simp)); obtain ⟨⟨z29a, z29b, z29c, z29d⟩, _⟩ := node_cells (HX11.out.2 (w.heap.size + 2, [.bool lf2, .slice pa2 np2 pc2, .slice ka2 nk2 kc2, .slice ca2 nc2 cc2]) (by simp)); obtain ⟨⟨z30a, z30b, z30c, z30d⟩, _⟩ := node_cells (HX11.out.2 (w4.heap.size, [.bool l5x, .slice p5x m5x c5x, .slice kx5x mk5x kc5x, .slice q5x mq5x qc5x]) (by simp)); obtain ⟨⟨z31a, z31b, z31c, z31d⟩, _⟩ := node_cells (HX11.out.2 (w4.heap.size + 1, [.bool l5y, .slice p5y m5y c5y, .slice kx5y mk5y kc5y, .slice q5y mq5y qc5y]) (by simp)); obtain ⟨⟨z32a, z32b, z32c, z32d⟩, _⟩ := node_cells (HX11.out.2 (w6.heap.size, [.bool l7x, .slice p7x m7x c7x, .slice kx7x mk7x kc7x, .slice q7x mq7x qc7x]) (by simp)); obtain ⟨⟨z33a, z33b, z33c, z33d⟩, _⟩ := node_cells (HX11.out.2 (w6.heap.size + 1, [.bool l7y, .slice p7y m7y c7y, .slice kx7y mk7y kc7y, .slice q7y mq7y qc7y]) (by simp)); obtain ⟨⟨z34a, z34b, z34c, z34d⟩, _⟩ := node_cells (HX11.out.2 (w8.heap.size, [.bool l9x, .slice p9x m9x c9x, .slice kx9x mk9x kc9x, .slice q9x mq9x qc9x]) (by simp)); obtain ⟨⟨z35a, z35b, z35c, z35d⟩, _⟩ := node_cells (HX11.out.2 (w10.heap.size, [.bool l11x, .slice p11x m11x c11x, .slice kx11x mk11x kc11x, .slice q11x mq11x qc11x]) (by simp)); clear HRJ1 hx hva hb hbb hmv) | (go_at_call 17; refine (HSM.out w13 _ _ _ HA9s.out HA11s.out).mono ?_; rintro e w14 ⟨rfl, hmv⟩; have HX14 := hide (HX13.out.keep hmv); obtain ⟨⟨z54a, z54b, z54c, z54d⟩, _⟩ := node_cells (HX14.out.2 (w.heap.size, [.bool lf, .slice pa np pc, .slice ka nk kc, .slice ca nc cc]) (by simp)); obtain ⟨⟨z55a, z55b, z55c, z55d⟩, _⟩ := node_cells (HX14.out.2 (w.heap.size + 1, [.bool lf1, .slice pa1 np1 pc1, .slice ka1 nk1 kc1, .slice ca1 nc1 cc1]) (by simp)); obtain ⟨⟨z56a, z56b, z56c, z56d⟩, _⟩ := node_cells (HX14.out.2 (w.heap.size + 2, [.bool lf2, .slice pa2 np2 pc2, .slice ka2 nk2 kc2, .slice ca2 nc2 cc2]) (by simp)); obtain ⟨⟨z57a, z57b, z57c, z57d⟩, _⟩ := node_cells (HX14.out.2 (w4.heap.size, [.bool l5x, .slice p5x m5x c5x, .slice kx5x mk5x kc5x, .slice q5x mq5x qc5x]) (by simp)); obtain ⟨⟨z58a, z58b, z58c, z58d⟩, _⟩ := node_cells (HX14.out.2 (w4.heap.size + 1, [.bool l5y, .slice p5y m5y c5y, .slice kx5y mk5y kc5y, .slice q5y mq5y qc5y]) (by simp)); obtain ⟨⟨z59a, z59b, z59c, z59d⟩, _⟩ := node_cells (HX14.out.2 (w6.heap.size, [.bool l7x, .slice p7x m7x c7x, .slice kx7x mk7x kc7x, .slice q7x mq7x qc7x]) (by simp)); obtain ⟨⟨z60a, z60b, z60c, z60d⟩, _⟩ := node_cells (HX14.out.2 (w6.heap.size + 1, [.bool l7y, .slice p7y m7y c7y, .slice kx7y mk7y kc7y, .slice q7y mq7y qc7y]) (by simp)); obtain ⟨⟨z61a, z61b, z61c, z61d⟩, _⟩ := node_cells (HX14.out.2 (w8.heap.size, [.bool l9x, .slice p9x m9x c9x, .slice kx9x mk9x kc9x, .slice q9x mq9x qc9x]) (by simp)); obtain ⟨⟨z62a, z62b, z62c, z62d⟩, _⟩ := node_cells (HX14.out.2 (w10.heap.size, [.bool l11x, .slice p11x m11x c11x, .slice kx11x mk11x kc11x, .slice q11x mq11x qc11x]) (by simp)); have T3 : Hid True := trivial; clear hmv) | (go_at_call 17; refine (HSM.out w12 _ _ _ HB5'.out HB7'.out).mono ?_; rintro e w13 ⟨rfl, hmv⟩; have HX13 := hide (HX12.out.keep hmv); have HA9s := hide (HA9'.out.below hmv); have HA11s := hide (HA11'.out.below hmv); obtain ⟨⟨z45a, z45b, z45c, z45d⟩, _⟩ := node_cells (HX13.out.2 (w.heap.size, [.bool lf, .slice pa np pc, .slice ka nk kc, .slice ca nc cc]) (by simp)); obtain ⟨⟨z46a, z46b, z46c, z46d⟩, _⟩ := node_cells (HX13.out.2 (w.heap.size + 1, [.bool lf1, .slice pa1 np1 pc1, .slice ka1 nk1 kc1, .slice ca1 nc1 cc1]) (by simp)); obtain ⟨⟨z47a, z47b, z47c, z47d⟩, _⟩ := node_cells (HX13.out.2 (w.heap.size + 2, [.bool lf2, .slice pa2 np2 pc2, .slice ka2 nk2 kc2, .slice ca2 nc2 cc2]) (by simp)); obtain ⟨⟨z48a, z48b, z48c, z48d⟩, _⟩ := node_cells (HX13.out.2 (w4.heap.size, [.bool l5x, .slice p5x m5x c5x, .slice kx5x mk5x kc5x, .slice q5x mq5x qc5x]) (by simp)); obtain ⟨⟨z49a, z49b, z49c, z49d⟩, _⟩ := node_cells (HX13.out.2 (w4.heap.size + 1, [.bool l5y, .slice p5y m5y c5y, .slice kx5y mk5y kc5y, .slice q5y mq5y qc5y]) (by simp)); obtain ⟨⟨z50a, z50b, z50c, z50d⟩, _⟩ := node_cells (HX13.out.2 (w6.heap.size, [.bool l7x, .slice p7x m7x c7x, .slice kx7x mk7x kc7x, .slice q7x mq7x qc7x]) (by simp)); obtain ⟨⟨z51a, z51b, z51c, z51d⟩, _⟩ := node_cells (HX13.out.2 (w6.heap.size + 1, [.bool l7y, .slice p7y m7y c7y, .slice kx7y mk7y kc7y, .slice q7y mq7y qc7y]) (by simp)); obtain ⟨⟨z52a, z52b, z52c, z52d⟩, _⟩ := node_cells (HX13.out.2 (w8.heap.size, [.bool l9x, .slice p9x m9x c9x, .slice kx9x mk9x kc9x, .slice q9x mq9x qc9x]) (by simp)); obtain ⟨⟨z53a, z53b, z53c, z53d⟩, _⟩ := node_cells (HX13.out.2 (w10.heap.size, [.bool l11x, .slice p11x m11x c11x, .slice kx11x mk11x kc11x, .slice q11x mq11x qc11x]) (by simp)); have T2 : Hid True := trivial; clear hmv) | (go_at_call 17; refine (HSM.out W11 _ _ _ HA5.out HA7.out).mono ?_; rintro e w12 ⟨rfl, hmv⟩; have HX12 := hide (HX11.out.keep hmv); clear HA5 HA7; have HK5' := hide (HK5.out.below hmv); have HK7' := hide (HK7.out.below hmv); have HB5' := hide (HB5.out.below hmv); have HB7' := hide (HB7.out.below hmv); have HA9' := hide (HA9.out.below hmv); have HA11' := hide (HA11.out.below hmv); obtain ⟨⟨z36a, z36b, z36c, z36d⟩, _⟩ := node_cells (HX12.out.2 (w.heap.size, [.bool lf, .slice pa np pc, .slice ka nk kc, .slice ca nc cc]) (by simp)); obtain ⟨⟨z37a, z37b, z37c, z37d⟩, _⟩ := node_cells (HX12.out.2 (w.heap.size + 1, [.bool lf1, .slice pa1 np1 pc1, .slice ka1 nk1 kc1, .slice ca1 nc1 cc1]) (by simp)); obtain ⟨⟨z38a, z38b, z38c, z38d⟩, _⟩ := node_cells (HX12.out.2 (w.heap.size + 2, [.bool lf2, .slice pa2 np2 pc2, .slice ka2 nk2 kc2, .slice ca2 nc2 cc2]) (by simp)); obtain ⟨⟨z39a, z39b, z39c, z39d⟩, _⟩ := node_cells (HX12.out.2 (w4.heap.size, [.bool l5x, .slice p5x m5x c5x, .slice kx5x mk5x kc5x, .slice q5x mq5x qc5x]) (by simp)); obtain ⟨⟨z40a, z40b, z40c, z40d⟩, _⟩ := node_cells (HX12.out.2 (w4.heap.size + 1, [.bool l5y, .slice p5y m5y c5y, .slice kx5y mk5y kc5y, .slice q5y mq5y qc5y]) (by simp)); obtain ⟨⟨z41a, z41b, z41c, z41d⟩, _⟩ := node_cells (HX12.out.2 (w6.heap.size, [.bool l7x, .slice p7x m7x c7x, .slice kx7x mk7x kc7x, .slice q7x mq7x qc7x]) (by simp)); obtain ⟨⟨z42a, z42b, z42c, z42d⟩, _⟩ := node_cells (HX12.out.2 (w6.heap.size + 1, [.bool l7y, .slice p7y m7y c7y, .slice kx7y mk7y kc7y, .slice q7y mq7y qc7y]) (by simp)); obtain ⟨⟨z43a, z43b, z43c, z43d⟩, _⟩ := node_cells (HX12.out.2 (w8.heap.size, [.bool l9x, .slice p9x m9x c9x, .slice kx9x mk9x kc9x, .slice q9x mq9x qc9x]) (by simp)); obtain ⟨⟨z44a, z44b, z44c, z44d⟩, _⟩ := node_cells (HX12.out.2 (w10.heap.size, [.bool l11x, .slice p11x m11x c11x, .slice kx11x mk11x kc11x, .slice q11x mq11x qc11x]) (by simp)); have T1 : Hid True := trivial; clear hmv) | (go_at_call 22; refine (HEQ.out w12 _ _ _ HK5'.out HK7'.out).mono ?_; rintro e w12b ⟨rfl, hwe⟩; subst w12b; clear HEQ))
      go_ret
      exact ⟨rfl, HX14.out.1⟩
    · have iL : (300 : Int) < (m1 : Int) := by omega
      clear HCT HRC1 HJN HRJ1 HSM HEQ
      go_enter Try.func7, Try.ntmps7
      go_wp2_with (first | (go_at_call 9; refine (HFW.out w2 HX2.out.1).mono ?_; rintro e w3 ⟨rfl, hb3⟩; have HX3 := hide (HX2.out.keep hb3); obtain ⟨⟨z4a, z4b, z4c, z4d⟩, _⟩ := node_cells (HX3.out.2 (w.heap.size, [.bool lf, .slice pa np pc, .slice ka nk kc, .slice ca nc cc]) (by simp)); obtain ⟨⟨z5a, z5b, z5c, z5d⟩, _⟩ := node_cells (HX3.out.2 (w.heap.size + 1, [.bool lf1, .slice pa1 np1 pc1, .slice ka1 nk1 kc1, .slice ca1 nc1 cc1]) (by simp)); obtain ⟨⟨z6a, z6b, z6c, z6d⟩, _⟩ := node_cells (HX3.out.2 (w.heap.size + 2, [.bool lf2, .slice pa2 np2 pc2, .slice ka2 nk2 kc2, .slice ca2 nc2 cc2]) (by simp)); clear HFW hb3) | (go_at_call 8; refine (HLV.out w3).mono ?_; rintro e w4 ⟨rfl, hb4⟩; have HX4 := hide (HX3.out.keep hb4); clear hb4) | (go_at_call 8; refine (HLV.out w1).mono ?_; rintro e w2 ⟨rfl, hb2⟩; have HX2 := hide (HX1.out.keep hb2); obtain ⟨⟨z1a, z1b, z1c, z1d⟩, _⟩ := node_cells (HX2.out.2 (w.heap.size, [.bool lf, .slice pa np pc, .slice ka nk kc, .slice ca nc cc]) (by simp)); obtain ⟨⟨z2a, z2b, z2c, z2d⟩, _⟩ := node_cells (HX2.out.2 (w.heap.size + 1, [.bool lf1, .slice pa1 np1 pc1, .slice ka1 nk1 kc1, .slice ca1 nc1 cc1]) (by simp)); obtain ⟨⟨z3a, z3b, z3c, z3d⟩, _⟩ := node_cells (HX2.out.2 (w.heap.size + 2, [.bool lf2, .slice pa2 np2 pc2, .slice ka2 nk2 kc2, .slice ca2 nc2 cc2]) (by simp)); clear hb2))
      go_ret
      exact ⟨rfl, HX4.out.1⟩

end Go.Proofs.Ythnppkeifhnceaa
