/- Contract: the node of what a page bears (node.Get). -/
import Derived.Test.YthnppkeifhnceaaNReadI
namespace Go.Proofs.Ythnppkeifhnceaa
set_option maxRecDepth 20000
open Go.RowKit Go.Shelf
set_option linter.unusedVariables false
set_option linter.unusedSimpArgs false
set_option maxRecDepth 100000
attribute [local go_sem] Oper.semAt_some

abbrev zeroC : List Value := [.bool false, .slice none 0 0, .slice none 0 0, .slice none 0 0]
theorem load_node (w : World) (b : Nat) (x0 x1 x2 x3 : Value) (hB : Blk w b 26 [x0, x1, x2, x3]) : (loadVar 26 ⟨b, 0, none⟩).run Try.prog w = .ok (.agg #[x0, x1, x2, x3]) w :=
  run_loadVar_row (P := Try.prog) w b 26 26 #[x0, x1, x2, x3] (0, 0) _ hB Try.underlying26 rfl sizeNode
theorem ret_node1 {fn : Func} {p u : Tmp} (h : fn.results = #[.cell p 26, .tmp u]) (tmps : Array Value) (w : World) (b : Nat) (x0 x1 x2 x3 er : Value) (hp : tmps.getD p undef = .pointer (some ⟨b, 0, none⟩)) (hu : tmps.getD u undef = er) (hB : Blk w b 26 [x0, x1, x2, x3]) :
    (results fn tmps).run Try.prog w = .ok (.tuple #[.agg #[x0, x1, x2, x3], er]) w := by
  rw [results_cell_tmp h, hp, hu]
  simp only [asAddr, Sem.run_pure, Result.andThen_ok]
  rw [load_node w b x0 x1 x2 x3 hB]
  rfl
/-- four cells, one behind the other -/
def laidN (w : World) (b : Nat) (x0 x1 x2 x3 : Value) : World := (((w.setCell ⟨b, 0, none⟩ x0).setCell ⟨b, 1, none⟩ x1).setCell ⟨b, 2, none⟩ x2).setCell ⟨b, 3, none⟩ x3
theorem laidN_blk {w : World} {b : Nat} {y0 y1 y2 y3 : Value} (h : Blk w b 26 [y0, y1, y2, y3]) (x0 x1 x2 x3 : Value) : Blk (laidN w b x0 x1 x2 x3) b 26 [x0, x1, x2, x3] :=
  (((h.set 0 x0).set 1 x1).set 2 x2).set 3 x3
theorem laidN_only (w : World) (b : Nat) (x0 x1 x2 x3 : Value) : Only (fun k => k = b) w (laidN w b x0 x1 x2 x3) :=
  ((((Only.refl (· = b) w).setCell ⟨b, 0, none⟩ _ (fun _ => rfl)).setCell ⟨b, 1, none⟩ _ (fun _ => rfl)).setCell ⟨b, 2, none⟩ _ (fun _ => rfl)).setCell ⟨b, 3, none⟩ _ (fun _ => rfl)
theorem node_cells {w : World} {b : Nat} {x0 x1 x2 x3 : Value} (h : Blk w b 26 [x0, x1, x2, x3]) : (w.cell? ⟨b, 0, none⟩ = some x0 ∧ w.cell? ⟨b, 1, none⟩ = some x1 ∧ w.cell? ⟨b, 2, none⟩ = some x2 ∧ w.cell? ⟨b, 3, none⟩ = some x3) ∧
    w.frozen? ⟨b, 0, none⟩ = false ∧ w.frozen? ⟨b, 1, none⟩ = false ∧ w.frozen? ⟨b, 2, none⟩ = false ∧ w.frozen? ⟨b, 3, none⟩ = false :=
  ⟨⟨h.cell 0, h.cell 1, h.cell 2, h.cell 3⟩, h.frozen 0, h.frozen 1, h.frozen 2, h.frozen 3⟩
theorem NdN.only {S : Nat → Prop} {w w' : World} {base : Nat} {v : Value} {n : Nd} (h : NdN w base v n) (ho : Only S w w') (hS : ∀ j, S j → j < base) : NdN w' base v n := by
  obtain ⟨vp, vk, vc, xs, ys, sv, rfl, h1, h2, h3, h4, h5, h6⟩ := h
  have hn : ∀ {e : TypeId} {size m : Nat} {u : Value} {zs : List Value}, w.ownsRow base e size u m zs → ∀ j, u.ownBlock = some j → ¬ S j := fun hr j hj hs => by have := (row_blk hr hj).1; have := hS j hs; omega
  have hx : ∀ u zs, Sl w u zs → Held w base sv u → Sl w' u zs ∧ Held w' base sv u := fun u zs a b => by
    have hk : ∀ j, u.ownBlock = some j → ¬ S j := fun j hj hs => by have := (b j hj).1; have := hS j hs; omega
    refine ⟨a.only ho hk, fun j hj => ?_⟩
    obtain ⟨c1, ⟨cs, c2⟩, c3⟩ := b j hj
    exact ⟨c1, ⟨cs, c2.only ho (hk j hj)⟩, c3⟩
  exact ⟨vp, vk, vc, xs, ys, sv, rfl, ownsRow_only h1 ho (hn h1), ownsRow_only h2 ho (hn h2), h3.only ho (hn h3), h4, fun i hi => ⟨hx _ _ (h5 i hi).1.1 (h5 i hi).1.2, hx _ _ (h5 i hi).2.1 (h5 i hi).2.2⟩, fun i hi => hx _ _ (h6 i hi).1 (h6 i hi).2⟩
theorem NdN.below {w w' : World} {base : Nat} {v : Value} {n : Nd} (h : NdN w base v n) (hb : Below w.heap.size w w') : NdN w' base v n := h.only (Only.of_below (fun _ => False) hb) (fun _ h => h.elim)
theorem NdN.le {w : World} {base base' : Nat} {v : Value} {n : Nd} (h : NdN w base v n) (hb : base' ≤ base) : NdN w base' v n := by
  obtain ⟨vp, vk, vc, xs, ys, sv, rfl, h1, h2, h3, h4, h5, h6⟩ := h
  have hx : ∀ u, Held w base sv u → Held w base' sv u := fun u b j hj => ⟨Nat.le_trans hb (b j hj).1, (b j hj).2⟩
  exact ⟨vp, vk, vc, xs, ys, sv, rfl, own_le' h1 hb, own_le' h2 hb, h3.base hb, h4, fun i hi => ⟨⟨(h5 i hi).1.1, hx _ (h5 i hi).1.2⟩, (h5 i hi).2.1, hx _ (h5 i hi).2.2⟩, fun i hi => ⟨(h6 i hi).1, hx _ (h6 i hi).2⟩⟩
theorem NdN.none (w : World) (base : Nat) : NdN w base (.agg #[.bool false, .slice none 0 0, .slice none 0 0, .slice none 0 0]) noNd :=
  ⟨nilS, nilS, nilS, [], [], nilS, rfl, World.ownsRow_nil _ _ _ _, World.ownsRow_nil _ _ _ _, Ints.nil _ _, rfl, fun i hi => absurd hi (by simp [noNd]), fun i hi => absurd hi (by simp [noNd])⟩
theorem putB_ok {w : World} {v : Value} {n : Nd} (h : NdV w v n) : ByteOk (putB n) := by
  unfold putB
  split
  · rename_i hc
    obtain ⟨hm, hs⟩ := checkN_zero.1 hc
    obtain ⟨_, _, _, _, _, _, xs, ys, _, _, _, _, _, _, _, hP, hK, _⟩ := h.open
    have hb := may_bounds hm
    have hB : ByteOk (bytesN n) := by
      unfold bytesN
      split
      · refine lefT_ok n.ps hb.1 (fun p hp => ?_) _
        obtain ⟨i, hi, rfl⟩ := List.getElem_of_mem hp
        obtain ⟨_, _, _, _, h1, h2⟩ := hP.at i hi
        have hpe : n.ps.getD i ([], []) = n.ps[i] := by simp [List.getD, hi]
        rw [hpe] at h1 h2
        have := hb.2.2.2.1 _ (List.getElem_mem hi)
        exact ⟨h1.bytes, h2.bytes, by omega, by omega⟩
      · refine innT_ok n.ks n.cs hb.2.1 (fun p hp => ?_) _
        obtain ⟨i, hi, rfl⟩ := List.getElem_of_mem hp
        obtain ⟨_, _, _, _, h1⟩ := hK.at i hi
        have hpe : n.ks.getD i [] = n.ks[i] := by simp [List.getD, hi]
        rw [hpe] at h1
        exact ⟨h1.bytes, by have := hb.2.2.2.2 _ (List.getElem_mem hi); omega⟩
    unfold padN
    refine hB.append' (fun z hz => ?_)
    have := List.eq_of_mem_replicate hz
    omega
  · intro z hz; cases hz
theorem NdN.form {w : World} {base : Nat} {v : Value} {n : Nd} (h : NdN w base v n) : ∃ pa np pc ka nk kc ca nc cc, v = .agg #[.bool n.lf, .slice pa np pc, .slice ka nk kc, .slice ca nc cc] := by
  obtain ⟨pa, pc, ka, kc, ca, cc, xs, ys, rfl, _⟩ := h.val.open
  exact ⟨pa, _, pc, ka, _, kc, ca, _, cc, rfl⟩

/-- a node that was answered, with an error -/
def GivesN (w : World) (n : Nd) (er : Int) (r : Ending) (w' : World) : Prop := ∃ u, r = .returned (.tuple #[u, .int .i64 er]) ∧ NdN w' w.heap.size u n ∧ Below w.heap.size w w'
theorem GivesN.no {w w' : World} (er : Int) (hb : Below w.heap.size w w') : GivesN w noNd er (.returned (.tuple #[.agg #[.bool false, .slice none 0 0, .slice none 0 0, .slice none 0 0], .int .i64 er])) w' := ⟨_, rfl, NdN.none _ _, hb⟩

set_option maxHeartbeats 4000000 in
theorem get_any (w : World) (kind : Int) (v : Value) (zs : List Int) (h : Sl w v zs) (hl : zs.length ≤ 50000) :
    Calls Try.prog 20 #[.int .i64 kind, v] w (GivesN w (getN kind zs) (getE kind zs)) := by
  have HRL : Hid (∀ w1, Below w.heap.size w w1 → Calls Try.prog 58 #[v] w1 fun e w' => ∃ u, e = .returned u ∧ NdN w' w1.heap.size u (rdLeaf zs) ∧ Below w1.heap.size w1 w') := fun w1 hb => readLeaf_any w1 v zs (h.below hb) hl
  have HRI : Hid (∀ w1, Below w.heap.size w w1 → Calls Try.prog 59 #[v] w1 fun e w' => ∃ u, e = .returned u ∧ NdN w' w1.heap.size u (rdInner zs) ∧ Below w1.heap.size w1 w') := fun w1 hb => readInner_any w1 v zs (h.below hb) hl
  have HEQ : Hid (∀ w1 u bs, Below w.heap.size w w1 → Sl w1 u bs → Calls Try.prog 22 #[u, v] w1 fun e w' => e = .returned (.bool (decide (bs = zs))) ∧ w' = w1) := fun w1 u bs hb hs => equal_any w1 u v bs zs hs (h.below hb)
  have HGN : Hid (getN kind zs = if getE kind zs = 0 then rdN kind zs else noNd) := rfl
  have HGE : Hid (getE kind zs = if kind = 3 ∨ kind = 4 then (if checkN (rdN kind zs) = 0 ∧ putB (rdN kind zs) = zs then 0 else 100) else 42) := rfl
  have HR3 : Hid (rdN 3 zs = rdLeaf zs) := by show rdN 3 zs = _; rw [rdN, if_pos rfl]
  have HR4 : Hid (rdN 4 zs = rdInner zs) := by show rdN 4 zs = _; rw [rdN, if_neg (by omega)]
  obtain ⟨ao, cap, rfl⟩ := sl_form' h
  have hza : ∀ wx : World, (zeroValue 26).run Try.prog wx = .ok (.agg #[.bool false, .slice none 0 0, .slice none 0 0, .slice none 0 0]) wx := fun wx => by kernel_rfl
  obtain ⟨w1, hw1⟩ : ∃ w1, (w.alloc (.cells #[.bool false, .slice none 0 0, .slice none 0 0, .slice none 0 0] 26)).alloc (.cells #[.bool false, .slice none 0 0, .slice none 0 0, .slice none 0 0] 26) = w1 := ⟨_, rfl⟩
  have HA : Hid (Blk w1 w.heap.size 26 zeroC) := by rw [← hw1]; exact (Blk.new w _ zeroC).alloc _
  have HB : Hid (Blk w1 (w.heap.size + 1) 26 zeroC) := by
    have := Blk.new (w.alloc (.cells #[.bool false, .slice none 0 0, .slice none 0 0, .slice none 0 0] 26)) 26 zeroC
    rw [World.size_alloc] at this
    rw [← hw1]; exact this
  have HBL : Hid (Below w.heap.size w w1) := by rw [← hw1]; exact ((Below.refl _ w).alloc (Nat.le_refl _) _).alloc (by simp) _
  have HS1 : Hid (w1.heap.size = w.heap.size + 2) := by show _ = _; rw [← hw1]; simp
  generalize hnz : zs.length = nz at *
  clear h hnz
  by_cases k3 : kind = 3
  · subst k3
    have HCA := hide (fun w1 hb => HRL.out w1 hb)
    have HRD := HR3
    rw [HR3.out] at HGN HGE
    have HLF : Hid ((rdLeaf zs).lf = true) := rfl
    generalize rdLeaf zs = n at *
    generalize getE 3 zs = E at *
    generalize getN 3 zs = G at *
    rw [if_pos (by omega)] at HGE
    clear HRL HRI HR3 HR4 HRD
    by_cases hc : checkN n = 0
    · by_cases hz : putB n = zs
      · rw [if_pos ⟨hc, hz⟩] at HGE
        rw [HGE.out, if_pos rfl] at HGN
        rw [HGE.out, HGN.out]
        have HPU : Hid (∀ wx u, NdV wx u n → Calls Try.prog 18 #[u] wx fun e w' => ∃ r, e = .returned (.tuple #[.int .i64 (putK n), r, .int .i64 (checkN n)]) ∧ ownsB w' wx.heap.size r (putB n) ∧ Below wx.heap.size wx w') := fun wx u hu => put_any wx u n hu
        rw [hc] at HPU
        generalize putK n = PK at *
        have HZ := hide hz
        clear HGE HGN hz
        go_enter Try.func20, Try.ntmps20
        go_wp2_with (first | (go_at_call 58; refine (HCA.out w1 HBL.out).mono ?_; rintro e3 w2 ⟨u2, rfl, hn2, bel2⟩; obtain ⟨pa, np, pc, ka, nk, kc, ca, nc, cc, rfl⟩ := hn2.form; rw [HLF.out] at hn2 ⊢; have hA2 := HA.out.below bel2 HA.out.lt; have hB2 := HB.out.below bel2 HB.out.lt; have hbl2 := HBL.out.trans (bel2.mono HBL.out.size); obtain ⟨⟨c0, c1, c2, c3⟩, f0, f1, f2, f3⟩ := node_cells hB2; have hB3 := laidN_blk hB2 (.bool true) (.slice pa np pc) (.slice ka nk kc) (.slice ca nc cc); have oX := laidN_only w2 (w.heap.size + 1) (.bool true) (.slice pa np pc) (.slice ka nk kc) (.slice ca nc cc); have hA3 := hA2.only oX (by omega); have hbl3 := hbl2.trans (oX.below hbl2.size (fun j hj e => by omega)); have hn3 := hn2.only oX (fun j hj => by have := HS1.out; omega); have hX : ∃ X, X = laidN w2 (w.heap.size + 1) (.bool true) (.slice pa np pc) (.slice ka nk kc) (.slice ca nc cc) := ⟨_, rfl⟩; obtain ⟨X, hX⟩ := hX; rw [← hX] at hB3 hA3 hbl3 hn3; obtain ⟨⟨q0, q1, q2, q3⟩, _⟩ := node_cells hB3; rw [hX] at q0 q1 q2 q3; unfold laidN at q0 q1 q2 q3; have HB3 := hide hB3; have HA3 := hide hA3; have HBL3 := hide hbl3; have HN3 := hide hn3; have HX := hide hX; clear HCA HA HB HBL hn2 bel2 hA2 hB2 hbl2 hB3 hA3 hbl3 hn3 oX hX) | (go_at_call 18; refine Calls.mono (P := Try.prog) (HX.out ▸ HPU.out X _ HN3.out.val) ?_; rintro e3 w4 ⟨r4, rfl, ho4, bel4⟩; rw [← HX.out] at ho4 bel4; obtain ⟨ra, rc, rfl⟩ := own_form' ho4; have hA4 := HA3.out.below bel4 HA3.out.lt; have hB4 := HB3.out.below bel4 HB3.out.lt; have hbl4 := HBL3.out.trans (bel4.mono HBL3.out.size); have hn4 := HN3.out.below bel4; have HOK := hide (putB_ok HN3.out.val); clear c0 c1 c2 c3 f0 f1 f2 f3 q0 q1 q2 q3; obtain ⟨⟨c0, c1, c2, c3⟩, _⟩ := node_cells hB4; obtain ⟨⟨d0, d1, d2, d3⟩, k0, k1, k2, k3⟩ := node_cells hA4; have HO4 := hide ho4; have HA4 := hide hA4; have HBL4 := hide hbl4; have HN4 := hide hn4; clear HPU HA3 HB3 HBL3 HN3 HX ho4 bel4 hA4 hB4 hbl4 hn4) | (go_at_call 22; have hEQ := HEQ.out w4 _ _ HBL4.out (sl_of_own_len HO4.out HOK.out); rw [decide_eq_true HZ.out] at hEQ; refine hEQ.mono ?_; rintro e3 w5 ⟨rfl, hw5⟩; subst w5; clear HEQ hEQ HOK))
        (try simp only [Exit.inBlock, Exit.then])
        refine bodyPost_ret (ret_node1 rfl _ _ w.heap.size _ _ _ _ _ rfl rfl (laidN_blk HA4.out _ _ _ _)) rfl ?_
        exact ⟨_, rfl, (HN4.out.only (laidN_only w4 w.heap.size _ _ _ _) (fun j hj => by have := HS1.out; omega)).le (by have := HS1.out; omega), HBL4.out.trans ((laidN_only w4 w.heap.size _ _ _ _).below HBL4.out.size (fun j hj e => by omega))⟩
      · rw [if_neg (fun h => hz h.2)] at HGE
        rw [HGE.out, if_neg (by omega)] at HGN
        rw [HGE.out, HGN.out]
        have HPU : Hid (∀ wx u, NdV wx u n → Calls Try.prog 18 #[u] wx fun e w' => ∃ r, e = .returned (.tuple #[.int .i64 (putK n), r, .int .i64 (checkN n)]) ∧ ownsB w' wx.heap.size r (putB n) ∧ Below wx.heap.size wx w') := fun wx u hu => put_any wx u n hu
        rw [hc] at HPU
        generalize putK n = PK at *
        have HZ := hide hz
        clear HGE HGN hz
        go_enter Try.func20, Try.ntmps20
        go_wp2_with (first | (go_at_call 58; refine (HCA.out w1 HBL.out).mono ?_; rintro e3 w2 ⟨u2, rfl, hn2, bel2⟩; obtain ⟨pa, np, pc, ka, nk, kc, ca, nc, cc, rfl⟩ := hn2.form; rw [HLF.out] at hn2 ⊢; have hA2 := HA.out.below bel2 HA.out.lt; have hB2 := HB.out.below bel2 HB.out.lt; have hbl2 := HBL.out.trans (bel2.mono HBL.out.size); obtain ⟨⟨c0, c1, c2, c3⟩, f0, f1, f2, f3⟩ := node_cells hB2; have hB3 := laidN_blk hB2 (.bool true) (.slice pa np pc) (.slice ka nk kc) (.slice ca nc cc); have oX := laidN_only w2 (w.heap.size + 1) (.bool true) (.slice pa np pc) (.slice ka nk kc) (.slice ca nc cc); have hA3 := hA2.only oX (by omega); have hbl3 := hbl2.trans (oX.below hbl2.size (fun j hj e => by omega)); have hn3 := hn2.only oX (fun j hj => by have := HS1.out; omega); have hX : ∃ X, X = laidN w2 (w.heap.size + 1) (.bool true) (.slice pa np pc) (.slice ka nk kc) (.slice ca nc cc) := ⟨_, rfl⟩; obtain ⟨X, hX⟩ := hX; rw [← hX] at hB3 hA3 hbl3 hn3; obtain ⟨⟨q0, q1, q2, q3⟩, _⟩ := node_cells hB3; rw [hX] at q0 q1 q2 q3; unfold laidN at q0 q1 q2 q3; have HB3 := hide hB3; have HA3 := hide hA3; have HBL3 := hide hbl3; have HN3 := hide hn3; have HX := hide hX; clear HCA HA HB HBL hn2 bel2 hA2 hB2 hbl2 hB3 hA3 hbl3 hn3 oX hX) | (go_at_call 18; refine Calls.mono (P := Try.prog) (HX.out ▸ HPU.out X _ HN3.out.val) ?_; rintro e3 w4 ⟨r4, rfl, ho4, bel4⟩; rw [← HX.out] at ho4 bel4; obtain ⟨ra, rc, rfl⟩ := own_form' ho4; have hA4 := HA3.out.below bel4 HA3.out.lt; have hB4 := HB3.out.below bel4 HB3.out.lt; have hbl4 := HBL3.out.trans (bel4.mono HBL3.out.size); have hn4 := HN3.out.below bel4; have HOK := hide (putB_ok HN3.out.val); clear c0 c1 c2 c3 f0 f1 f2 f3 q0 q1 q2 q3; obtain ⟨⟨c0, c1, c2, c3⟩, _⟩ := node_cells hB4; obtain ⟨⟨d0, d1, d2, d3⟩, k0, k1, k2, k3⟩ := node_cells hA4; have HO4 := hide ho4; have HA4 := hide hA4; have HBL4 := hide hbl4; have HN4 := hide hn4; clear HPU HA3 HB3 HBL3 HN3 HX ho4 bel4 hA4 hB4 hbl4 hn4) | (go_at_call 22; have hEQ := HEQ.out w4 _ _ HBL4.out (sl_of_own_len HO4.out HOK.out); rw [decide_eq_false HZ.out] at hEQ; refine hEQ.mono ?_; rintro e3 w5 ⟨rfl, hw5⟩; subst w5; clear HEQ hEQ HOK))
        (try simp only [Exit.inBlock, Exit.then])
        refine bodyPost_ret (ret_node1 rfl _ _ w.heap.size _ _ _ _ _ rfl rfl (laidN_blk HA4.out _ _ _ _)) rfl ?_
        exact GivesN.no 100 (HBL4.out.trans ((laidN_only w4 w.heap.size _ _ _ _).below HBL4.out.size (fun j hj e => by omega)))
    · rw [if_neg (fun h => hc h.1)] at HGE
      rw [HGE.out, if_neg (by omega)] at HGN
      have hcb : (checkN n == 0) = false := by simpa using hc
      rw [HGE.out, HGN.out]
      have HPU : Hid (∀ wx u, NdV wx u n → Calls Try.prog 18 #[u] wx fun e w' => ∃ r, e = .returned (.tuple #[.int .i64 (putK n), r, .int .i64 (checkN n)]) ∧ ownsB w' wx.heap.size r (putB n) ∧ Below wx.heap.size wx w') := fun wx u hu => put_any wx u n hu
      generalize putK n = PK at *
      generalize checkN n = C at *
      clear HGE HGN
      go_enter Try.func20, Try.ntmps20
      go_wp2_with (first | (go_at_call 58; refine (HCA.out w1 HBL.out).mono ?_; rintro e3 w2 ⟨u2, rfl, hn2, bel2⟩; obtain ⟨pa, np, pc, ka, nk, kc, ca, nc, cc, rfl⟩ := hn2.form; rw [HLF.out] at hn2 ⊢; have hA2 := HA.out.below bel2 HA.out.lt; have hB2 := HB.out.below bel2 HB.out.lt; have hbl2 := HBL.out.trans (bel2.mono HBL.out.size); obtain ⟨⟨c0, c1, c2, c3⟩, f0, f1, f2, f3⟩ := node_cells hB2; have hB3 := laidN_blk hB2 (.bool true) (.slice pa np pc) (.slice ka nk kc) (.slice ca nc cc); have oX := laidN_only w2 (w.heap.size + 1) (.bool true) (.slice pa np pc) (.slice ka nk kc) (.slice ca nc cc); have hA3 := hA2.only oX (by omega); have hbl3 := hbl2.trans (oX.below hbl2.size (fun j hj e => by omega)); have hn3 := hn2.only oX (fun j hj => by have := HS1.out; omega); have hX : ∃ X, X = laidN w2 (w.heap.size + 1) (.bool true) (.slice pa np pc) (.slice ka nk kc) (.slice ca nc cc) := ⟨_, rfl⟩; obtain ⟨X, hX⟩ := hX; rw [← hX] at hB3 hA3 hbl3 hn3; obtain ⟨⟨q0, q1, q2, q3⟩, _⟩ := node_cells hB3; rw [hX] at q0 q1 q2 q3; unfold laidN at q0 q1 q2 q3; have HB3 := hide hB3; have HA3 := hide hA3; have HBL3 := hide hbl3; have HN3 := hide hn3; have HX := hide hX; clear HCA HA HB HBL hn2 bel2 hA2 hB2 hbl2 hB3 hA3 hbl3 hn3 oX hX) | (go_at_call 18; refine Calls.mono (P := Try.prog) (HX.out ▸ HPU.out X _ HN3.out.val) ?_; rintro e3 w4 ⟨r4, rfl, ho4, bel4⟩; rw [← HX.out] at ho4 bel4; obtain ⟨ra, rc, rfl⟩ := own_form' ho4; have hA4 := HA3.out.below bel4 HA3.out.lt; have hB4 := HB3.out.below bel4 HB3.out.lt; have hbl4 := HBL3.out.trans (bel4.mono HBL3.out.size); have hn4 := HN3.out.below bel4; have HOK := hide (putB_ok HN3.out.val); clear c0 c1 c2 c3 f0 f1 f2 f3 q0 q1 q2 q3; obtain ⟨⟨c0, c1, c2, c3⟩, _⟩ := node_cells hB4; obtain ⟨⟨d0, d1, d2, d3⟩, k0, k1, k2, k3⟩ := node_cells hA4; have HO4 := hide ho4; have HA4 := hide hA4; have HBL4 := hide hbl4; have HN4 := hide hn4; clear HPU HA3 HB3 HBL3 HN3 HX ho4 bel4 hA4 hB4 hbl4 hn4))
      (try simp only [Exit.inBlock, Exit.then])
      refine bodyPost_ret (ret_node1 rfl _ _ w.heap.size _ _ _ _ _ rfl rfl (laidN_blk HA4.out _ _ _ _)) rfl ?_
      exact GivesN.no 100 (HBL4.out.trans ((laidN_only w4 w.heap.size _ _ _ _).below HBL4.out.size (fun j hj e => by omega)))
  · by_cases k4 : kind = 4
    · subst k4
      have HCA := hide (fun w1 hb => HRI.out w1 hb)
      have HRD := HR4
      rw [HR4.out] at HGN HGE
      have HLF : Hid ((rdInner zs).lf = false) := rfl
      generalize rdInner zs = n at *
      generalize getE 4 zs = E at *
      generalize getN 4 zs = G at *
      rw [if_pos (by omega)] at HGE
      clear HRL HRI HR3 HR4 HRD
      by_cases hc : checkN n = 0
      · by_cases hz : putB n = zs
        · rw [if_pos ⟨hc, hz⟩] at HGE
          rw [HGE.out, if_pos rfl] at HGN
          rw [HGE.out, HGN.out]
          have HPU : Hid (∀ wx u, NdV wx u n → Calls Try.prog 18 #[u] wx fun e w' => ∃ r, e = .returned (.tuple #[.int .i64 (putK n), r, .int .i64 (checkN n)]) ∧ ownsB w' wx.heap.size r (putB n) ∧ Below wx.heap.size wx w') := fun wx u hu => put_any wx u n hu
          rw [hc] at HPU
          generalize putK n = PK at *
          have HZ := hide hz
          clear HGE HGN hz
          go_enter Try.func20, Try.ntmps20
          go_wp2_with (first | (go_at_call 59; refine (HCA.out w1 HBL.out).mono ?_; rintro e3 w2 ⟨u2, rfl, hn2, bel2⟩; obtain ⟨pa, np, pc, ka, nk, kc, ca, nc, cc, rfl⟩ := hn2.form; rw [HLF.out] at hn2 ⊢; have hA2 := HA.out.below bel2 HA.out.lt; have hB2 := HB.out.below bel2 HB.out.lt; have hbl2 := HBL.out.trans (bel2.mono HBL.out.size); obtain ⟨⟨c0, c1, c2, c3⟩, f0, f1, f2, f3⟩ := node_cells hB2; have hB3 := laidN_blk hB2 (.bool false) (.slice pa np pc) (.slice ka nk kc) (.slice ca nc cc); have oX := laidN_only w2 (w.heap.size + 1) (.bool false) (.slice pa np pc) (.slice ka nk kc) (.slice ca nc cc); have hA3 := hA2.only oX (by omega); have hbl3 := hbl2.trans (oX.below hbl2.size (fun j hj e => by omega)); have hn3 := hn2.only oX (fun j hj => by have := HS1.out; omega); have hX : ∃ X, X = laidN w2 (w.heap.size + 1) (.bool false) (.slice pa np pc) (.slice ka nk kc) (.slice ca nc cc) := ⟨_, rfl⟩; obtain ⟨X, hX⟩ := hX; rw [← hX] at hB3 hA3 hbl3 hn3; obtain ⟨⟨q0, q1, q2, q3⟩, _⟩ := node_cells hB3; rw [hX] at q0 q1 q2 q3; unfold laidN at q0 q1 q2 q3; have HB3 := hide hB3; have HA3 := hide hA3; have HBL3 := hide hbl3; have HN3 := hide hn3; have HX := hide hX; clear HCA HA HB HBL hn2 bel2 hA2 hB2 hbl2 hB3 hA3 hbl3 hn3 oX hX) | (go_at_call 18; refine Calls.mono (P := Try.prog) (HX.out ▸ HPU.out X _ HN3.out.val) ?_; rintro e3 w4 ⟨r4, rfl, ho4, bel4⟩; rw [← HX.out] at ho4 bel4; obtain ⟨ra, rc, rfl⟩ := own_form' ho4; have hA4 := HA3.out.below bel4 HA3.out.lt; have hB4 := HB3.out.below bel4 HB3.out.lt; have hbl4 := HBL3.out.trans (bel4.mono HBL3.out.size); have hn4 := HN3.out.below bel4; have HOK := hide (putB_ok HN3.out.val); clear c0 c1 c2 c3 f0 f1 f2 f3 q0 q1 q2 q3; obtain ⟨⟨c0, c1, c2, c3⟩, _⟩ := node_cells hB4; obtain ⟨⟨d0, d1, d2, d3⟩, k0, k1, k2, k3⟩ := node_cells hA4; have HO4 := hide ho4; have HA4 := hide hA4; have HBL4 := hide hbl4; have HN4 := hide hn4; clear HPU HA3 HB3 HBL3 HN3 HX ho4 bel4 hA4 hB4 hbl4 hn4) | (go_at_call 22; have hEQ := HEQ.out w4 _ _ HBL4.out (sl_of_own_len HO4.out HOK.out); rw [decide_eq_true HZ.out] at hEQ; refine hEQ.mono ?_; rintro e3 w5 ⟨rfl, hw5⟩; subst w5; clear HEQ hEQ HOK))
          (try simp only [Exit.inBlock, Exit.then])
          refine bodyPost_ret (ret_node1 rfl _ _ w.heap.size _ _ _ _ _ rfl rfl (laidN_blk HA4.out _ _ _ _)) rfl ?_
          exact ⟨_, rfl, (HN4.out.only (laidN_only w4 w.heap.size _ _ _ _) (fun j hj => by have := HS1.out; omega)).le (by have := HS1.out; omega), HBL4.out.trans ((laidN_only w4 w.heap.size _ _ _ _).below HBL4.out.size (fun j hj e => by omega))⟩
        · rw [if_neg (fun h => hz h.2)] at HGE
          rw [HGE.out, if_neg (by omega)] at HGN
          rw [HGE.out, HGN.out]
          have HPU : Hid (∀ wx u, NdV wx u n → Calls Try.prog 18 #[u] wx fun e w' => ∃ r, e = .returned (.tuple #[.int .i64 (putK n), r, .int .i64 (checkN n)]) ∧ ownsB w' wx.heap.size r (putB n) ∧ Below wx.heap.size wx w') := fun wx u hu => put_any wx u n hu
          rw [hc] at HPU
          generalize putK n = PK at *
          have HZ := hide hz
          clear HGE HGN hz
          go_enter Try.func20, Try.ntmps20
          go_wp2_with (first | (go_at_call 59; refine (HCA.out w1 HBL.out).mono ?_; rintro e3 w2 ⟨u2, rfl, hn2, bel2⟩; obtain ⟨pa, np, pc, ka, nk, kc, ca, nc, cc, rfl⟩ := hn2.form; rw [HLF.out] at hn2 ⊢; have hA2 := HA.out.below bel2 HA.out.lt; have hB2 := HB.out.below bel2 HB.out.lt; have hbl2 := HBL.out.trans (bel2.mono HBL.out.size); obtain ⟨⟨c0, c1, c2, c3⟩, f0, f1, f2, f3⟩ := node_cells hB2; have hB3 := laidN_blk hB2 (.bool false) (.slice pa np pc) (.slice ka nk kc) (.slice ca nc cc); have oX := laidN_only w2 (w.heap.size + 1) (.bool false) (.slice pa np pc) (.slice ka nk kc) (.slice ca nc cc); have hA3 := hA2.only oX (by omega); have hbl3 := hbl2.trans (oX.below hbl2.size (fun j hj e => by omega)); have hn3 := hn2.only oX (fun j hj => by have := HS1.out; omega); have hX : ∃ X, X = laidN w2 (w.heap.size + 1) (.bool false) (.slice pa np pc) (.slice ka nk kc) (.slice ca nc cc) := ⟨_, rfl⟩; obtain ⟨X, hX⟩ := hX; rw [← hX] at hB3 hA3 hbl3 hn3; obtain ⟨⟨q0, q1, q2, q3⟩, _⟩ := node_cells hB3; rw [hX] at q0 q1 q2 q3; unfold laidN at q0 q1 q2 q3; have HB3 := hide hB3; have HA3 := hide hA3; have HBL3 := hide hbl3; have HN3 := hide hn3; have HX := hide hX; clear HCA HA HB HBL hn2 bel2 hA2 hB2 hbl2 hB3 hA3 hbl3 hn3 oX hX) | (go_at_call 18; refine Calls.mono (P := Try.prog) (HX.out ▸ HPU.out X _ HN3.out.val) ?_; rintro e3 w4 ⟨r4, rfl, ho4, bel4⟩; rw [← HX.out] at ho4 bel4; obtain ⟨ra, rc, rfl⟩ := own_form' ho4; have hA4 := HA3.out.below bel4 HA3.out.lt; have hB4 := HB3.out.below bel4 HB3.out.lt; have hbl4 := HBL3.out.trans (bel4.mono HBL3.out.size); have hn4 := HN3.out.below bel4; have HOK := hide (putB_ok HN3.out.val); clear c0 c1 c2 c3 f0 f1 f2 f3 q0 q1 q2 q3; obtain ⟨⟨c0, c1, c2, c3⟩, _⟩ := node_cells hB4; obtain ⟨⟨d0, d1, d2, d3⟩, k0, k1, k2, k3⟩ := node_cells hA4; have HO4 := hide ho4; have HA4 := hide hA4; have HBL4 := hide hbl4; have HN4 := hide hn4; clear HPU HA3 HB3 HBL3 HN3 HX ho4 bel4 hA4 hB4 hbl4 hn4) | (go_at_call 22; have hEQ := HEQ.out w4 _ _ HBL4.out (sl_of_own_len HO4.out HOK.out); rw [decide_eq_false HZ.out] at hEQ; refine hEQ.mono ?_; rintro e3 w5 ⟨rfl, hw5⟩; subst w5; clear HEQ hEQ HOK))
          (try simp only [Exit.inBlock, Exit.then])
          refine bodyPost_ret (ret_node1 rfl _ _ w.heap.size _ _ _ _ _ rfl rfl (laidN_blk HA4.out _ _ _ _)) rfl ?_
          exact GivesN.no 100 (HBL4.out.trans ((laidN_only w4 w.heap.size _ _ _ _).below HBL4.out.size (fun j hj e => by omega)))
      · rw [if_neg (fun h => hc h.1)] at HGE
        rw [HGE.out, if_neg (by omega)] at HGN
        have hcb : (checkN n == 0) = false := by simpa using hc
        rw [HGE.out, HGN.out]
        have HPU : Hid (∀ wx u, NdV wx u n → Calls Try.prog 18 #[u] wx fun e w' => ∃ r, e = .returned (.tuple #[.int .i64 (putK n), r, .int .i64 (checkN n)]) ∧ ownsB w' wx.heap.size r (putB n) ∧ Below wx.heap.size wx w') := fun wx u hu => put_any wx u n hu
        generalize putK n = PK at *
        generalize checkN n = C at *
        clear HGE HGN
        go_enter Try.func20, Try.ntmps20
        go_wp2_with (first | (go_at_call 59; refine (HCA.out w1 HBL.out).mono ?_; rintro e3 w2 ⟨u2, rfl, hn2, bel2⟩; obtain ⟨pa, np, pc, ka, nk, kc, ca, nc, cc, rfl⟩ := hn2.form; rw [HLF.out] at hn2 ⊢; have hA2 := HA.out.below bel2 HA.out.lt; have hB2 := HB.out.below bel2 HB.out.lt; have hbl2 := HBL.out.trans (bel2.mono HBL.out.size); obtain ⟨⟨c0, c1, c2, c3⟩, f0, f1, f2, f3⟩ := node_cells hB2; have hB3 := laidN_blk hB2 (.bool false) (.slice pa np pc) (.slice ka nk kc) (.slice ca nc cc); have oX := laidN_only w2 (w.heap.size + 1) (.bool false) (.slice pa np pc) (.slice ka nk kc) (.slice ca nc cc); have hA3 := hA2.only oX (by omega); have hbl3 := hbl2.trans (oX.below hbl2.size (fun j hj e => by omega)); have hn3 := hn2.only oX (fun j hj => by have := HS1.out; omega); have hX : ∃ X, X = laidN w2 (w.heap.size + 1) (.bool false) (.slice pa np pc) (.slice ka nk kc) (.slice ca nc cc) := ⟨_, rfl⟩; obtain ⟨X, hX⟩ := hX; rw [← hX] at hB3 hA3 hbl3 hn3; obtain ⟨⟨q0, q1, q2, q3⟩, _⟩ := node_cells hB3; rw [hX] at q0 q1 q2 q3; unfold laidN at q0 q1 q2 q3; have HB3 := hide hB3; have HA3 := hide hA3; have HBL3 := hide hbl3; have HN3 := hide hn3; have HX := hide hX; clear HCA HA HB HBL hn2 bel2 hA2 hB2 hbl2 hB3 hA3 hbl3 hn3 oX hX) | (go_at_call 18; refine Calls.mono (P := Try.prog) (HX.out ▸ HPU.out X _ HN3.out.val) ?_; rintro e3 w4 ⟨r4, rfl, ho4, bel4⟩; rw [← HX.out] at ho4 bel4; obtain ⟨ra, rc, rfl⟩ := own_form' ho4; have hA4 := HA3.out.below bel4 HA3.out.lt; have hB4 := HB3.out.below bel4 HB3.out.lt; have hbl4 := HBL3.out.trans (bel4.mono HBL3.out.size); have hn4 := HN3.out.below bel4; have HOK := hide (putB_ok HN3.out.val); clear c0 c1 c2 c3 f0 f1 f2 f3 q0 q1 q2 q3; obtain ⟨⟨c0, c1, c2, c3⟩, _⟩ := node_cells hB4; obtain ⟨⟨d0, d1, d2, d3⟩, k0, k1, k2, k3⟩ := node_cells hA4; have HO4 := hide ho4; have HA4 := hide hA4; have HBL4 := hide hbl4; have HN4 := hide hn4; clear HPU HA3 HB3 HBL3 HN3 HX ho4 bel4 hA4 hB4 hbl4 hn4))
        (try simp only [Exit.inBlock, Exit.then])
        refine bodyPost_ret (ret_node1 rfl _ _ w.heap.size _ _ _ _ _ rfl rfl (laidN_blk HA4.out _ _ _ _)) rfl ?_
        exact GivesN.no 100 (HBL4.out.trans ((laidN_only w4 w.heap.size _ _ _ _).below HBL4.out.size (fun j hj e => by omega)))
    · have hE : getE kind zs = 42 := by rw [HGE.out, if_neg (by omega)]
      rw [HGN.out, hE, if_neg (by omega)]
      obtain ⟨⟨d0, d1, d2, d3⟩, k0, k1, k2, k3'⟩ := node_cells HA.out
      have b3 : (kind == 3) = false := by simpa using k3
      have b4 : (kind == 4) = false := by simpa using k4
      clear HRL HRI HEQ HGN HGE HR3 HR4 hE
      go_enter Try.func20, Try.ntmps20
      go_wp2
      (try simp only [Exit.inBlock, Exit.then])
      refine bodyPost_ret (ret_node1 rfl _ _ w.heap.size _ _ _ _ _ rfl rfl (laidN_blk HA.out _ _ _ _)) rfl ?_
      exact GivesN.no 42 (HBL.out.trans ((laidN_only w1 w.heap.size _ _ _ _).below HBL.out.size (fun j hj e => by omega)))

end Go.Proofs.Ythnppkeifhnceaa
