/- Contract: the document's SameAll (incipitref15). -/
import Derived.Test.YtfihnmdhclnhgaaPoSame
import Derived.Test.YtfihnmdhclnhgaaRegion
namespace Go.Proofs.Ytfihnmdhclnhgaa
set_option maxRecDepth 20000
open Go.RowKit
set_option linter.unusedVariables false
set_option linter.unusedSimpArgs false
set_option maxRecDepth 100000

theorem take_stepP {xs ys : List Po} {k : Nat} (h1 : k < xs.length) (h2 : k < ys.length) (h : xs.take k = ys.take k) (e : xs.getD k noPo = ys.getD k noPo) : xs.take (k + 1) = ys.take (k + 1) := by
  rw [List.take_succ_eq_append_getElem h1, List.take_succ_eq_append_getElem h2, h]
  simp only [List.getD, List.getElem?_eq_getElem h1, List.getElem?_eq_getElem h2, Option.getD_some] at e
  rw [e]

theorem call_gives {P : Program} {f : FuncId} {args : Array Value} {wx : World} {v : Value} {F : Value → World → Prop} (h : Calls P f args wx fun r w' => r = .returned v ∧ Below wx.heap.size wx w') (hF : ∀ w', F v w') :
    Calls P f args wx fun e w' => ∃ u, e = .returned u ∧ Below wx.heap.size wx w' ∧ F u w' := h.mono fun e w' ⟨he, hb⟩ => ⟨v, he, hb, hF w'⟩
theorem cell_below {w w' : World} {a : Addr} {v : Value} (hb : Below w.heap.size w w') (h : w.cell? a = some v) : w'.cell? a = some v := by
  rw [World.cell?_of_block (w := w) (hb.block a.block (World.block_lt_of_cell? w _ h))]
  exact h

def sameAllP : List Po → List Po → Bool
  | [], [] => true
  | p :: ps, q :: qs => sameP p q && sameAllP ps qs
  | [], _ :: _ => false
  | _ :: _, [] => false
theorem sameAllP_refl : ∀ (ps : List Po), sameAllP ps ps = true
  | [] => rfl
  | p :: ps => by rw [sameAllP, sameP_refl, sameAllP_refl ps]; rfl
theorem sameAllP_eq : ∀ {ps qs : List Po}, sameAllP ps qs = true → ps = qs
  | [], [], _ => rfl
  | p :: ps, q :: qs, h => by
    rw [sameAllP, Bool.and_eq_true] at h
    rw [sameP_eq h.1, sameAllP_eq h.2]
  | [], _ :: _, h => by cases h
  | _ :: _, [], h => by cases h
theorem sameAllP_ne {ps qs : List Po} (h : ps ≠ qs) : sameAllP ps qs = false := by
  cases hs : sameAllP ps qs with
  | false => rfl
  | true => exact absurd (sameAllP_eq hs) h

set_option maxHeartbeats 2000000 in
theorem refSameAll_any (w : World) (va vb : Value) (us vs : List Value) (ps qs : List Po) (hp : Pps w va us ps) (hq : Pps w vb vs qs) :
    Calls Try.prog 33 #[va, vb] w fun e w' => e = .returned (.bool (sameAllP ps qs)) ∧ Below w.heap.size w w' := by
  generalize hR : sameAllP ps qs = R
  have HRE := hide hR
  clear hR
  obtain ⟨ao, ca, rfl, h11, h12⟩ := hp.shape
  obtain ⟨bo, cb, rfl, h21, h22⟩ := hq.shape
  have HP := hide hp
  have HQ := hide hq
  obtain ⟨m, hm⟩ : ∃ m, ps.length = m := ⟨_, rfl⟩
  obtain ⟨n, hn⟩ : ∃ n, qs.length = n := ⟨_, rfl⟩
  have HM := hide hm
  have HN := hide hn
  rw [hm] at HP h11 ⊢
  rw [hn] at HQ h21 ⊢
  clear hp hq hm hn
  by_cases hmn : m = n
  · subst hmn
    go_enter Try.func33, Try.ntmps33
    go_wp2
    go_loopg [5] m (fun g i wr => ∃ k : Nat, g + k = m ∧ i = .int .i64 k ∧ ps.take k = qs.take k ∧ Below w.heap.size w wr)
    case atStart => exact ⟨0, by omega, rfl, rfl, Below.refl _ _⟩
    case round =>
      obtain ⟨k, hg, rfl, ht, hbq⟩ := hrel
      have HT := hide ht
      have HBQ := hide hbq
      clear ht hbq
      by_cases hkm : k < m
      · obtain ⟨g1, o1, rfl, c1, c2, hd1, hi1⟩ := (HP.out.below HBQ.out).at k (by have := HM.out; omega)
        obtain ⟨g2, o2, rfl, c3, c4, hd2, hi2⟩ := (HQ.out.below HBQ.out).at k (by have := HN.out; omega)
        obtain ⟨x, hx⟩ : ∃ x, ps.getD k noPo = x := ⟨_, rfl⟩
        obtain ⟨y, hy⟩ : ∃ y, qs.getD k noPo = y := ⟨_, rfl⟩
        rw [hx] at c1 hd1 hi1
        rw [hy] at c3 hd2 hi2
        obtain ⟨xo, xc, hxv, _, _⟩ := hi1.shape
        obtain ⟨yo, yc, hyv, _, _⟩ := hi2.shape
        rw [hxv] at c2 hi1
        rw [hyv] at c4 hi2
        have hs := refSameP_any
        have hsm : ∀ wx, Below wr.heap.size wr wx → Calls Try.prog 62 #[.agg #[.int .u32 (x.doc : Int), .slice xo x.pos.length xc], .agg #[.int .u32 (y.doc : Int), .slice yo y.pos.length yc]] wx fun e w' => e = .returned (.bool (sameP x y)) ∧ Below wx.heap.size wx w' := fun wx hb =>
          refSameP_any wx _ _ x y ⟨hd1, _, rfl, hi1.below hb⟩ ⟨hd2, _, rfl, hi2.below hb⟩
        have HCX : Hid (∀ wx, Below wr.heap.size wr wx → wx.cell? ⟨g1, o1 + k * 2, none⟩ = some (.int .u32 (x.doc : Int)) ∧ wx.cell? ⟨g1, o1 + k * 2 + 1, none⟩ = some (.slice xo x.pos.length xc)) := fun wx hb => ⟨cell_below hb c1, cell_below hb c2⟩
        have HCY : Hid (∀ wx, Below wr.heap.size wr wx → wx.cell? ⟨g2, o2 + k * 2, none⟩ = some (.int .u32 (y.doc : Int)) ∧ wx.cell? ⟨g2, o2 + k * 2 + 1, none⟩ = some (.slice yo y.pos.length yc)) := fun wx hb => ⟨cell_below hb c3, cell_below hb c4⟩
        have i1 : (k : Int) < (m : Int) := by omega
        cases hsp : sameP x y with
        | true =>
          have hxy := sameP_eq hsp
          have HNEXT : Hid (ps.take (k + 1) = qs.take (k + 1)) := take_stepP (by have := HM.out; omega) (by have := HN.out; omega) HT.out (by rw [hx, hy, hxy])
          rw [hsp] at hsm
          have HSM := hide hsm
          generalize x.pos.length = xn at *
          generalize y.pos.length = yn at *
          generalize x.doc = d1 at *
          generalize y.doc = d2 at *
          clear hsm hsp hxy hx hy hs hxv hyv hi1 hi2 c1 c2 c3 c4 hd1 hd2
          go_wp2
          refine wp_region_facts (FL [isV (.slice (some ⟨g1, o1, none⟩) m ca), isV (.int .i64 (k : Int)), isV (.pointer (some ⟨g1, o1 + k * 2, none⟩)), isV (.agg #[.int .u32 (d1 : Int), .slice xo xn xc]), isV (.slice (some ⟨g2, o2, none⟩) m cb), isV (.int .i64 (k : Int)), isV (.pointer (some ⟨g2, o2 + k * 2, none⟩)), isV (.agg #[.int .u32 (d2 : Int), .slice yo yn yc]), isV (.bool true), isV (.bool false)]) 27 (by kernel_rfl) (by kernel_rfl) (by kernel_rfl) rfl (FL_stable _ (by repeat (first | exact trivial | refine ⟨stable_isV _, ?_⟩))) ?_ ?_
          · refine ⟨?_, ?_, ?_, ?_, ?_, ?_, ?_, ?_, ?_, ?_, trivial⟩
            · intro act wx h
              have e0 : act.eval (.tmp 0) = .slice (some ⟨g1, o1, none⟩) m ca := h.old 0 (by kernel_rfl)
              have hbel := h.below
              clear h
              refine gives_by rfl act.eval rfl ?_
              generalize act.eval = ρ at *
              intro hf hc
              go_simp
              exact ⟨Below.refl _ _, rfl⟩
            · intro act wx h
              have e5 : act.eval (.tmp 5) = .int .i64 (k : Int) := h.old 5 (by kernel_rfl)
              have hbel := h.below
              clear h
              refine gives_by rfl act.eval rfl ?_
              generalize act.eval = ρ at *
              intro hf hc
              go_simp
              exact ⟨Below.refl _ _, rfl⟩
            · intro act wx h
              obtain ⟨v17, e17, f17⟩ := h.val 0 17 (by kernel_rfl)
              obtain rfl : v17 = .slice (some ⟨g1, o1, none⟩) m ca := f17
              obtain ⟨v18, e18, f18⟩ := h.val 1 18 (by kernel_rfl)
              obtain rfl : v18 = .int .i64 (k : Int) := f18
              have hbel := h.below
              clear h
              refine gives_by rfl act.eval rfl ?_
              generalize act.eval = ρ at *
              intro hf hc
              go_simp
              exact ⟨Below.refl _ _, rfl⟩
            · intro act wx h
              obtain ⟨v19, e19, f19⟩ := h.val 2 19 (by kernel_rfl)
              obtain rfl : v19 = .pointer (some ⟨g1, o1 + k * 2, none⟩) := f19
              have hbel := h.below
              clear h
              obtain ⟨cx, cy⟩ := HCX.out wx hbel
              refine gives_by rfl act.eval rfl ?_
              generalize act.eval = ρ at *
              intro hf hc
              go_simp
              exact ⟨Below.refl _ _, rfl⟩
            · intro act wx h
              have e1 : act.eval (.tmp 1) = .slice (some ⟨g2, o2, none⟩) m cb := h.old 1 (by kernel_rfl)
              have hbel := h.below
              clear h
              refine gives_by rfl act.eval rfl ?_
              generalize act.eval = ρ at *
              intro hf hc
              go_simp
              exact ⟨Below.refl _ _, rfl⟩
            · intro act wx h
              have e5 : act.eval (.tmp 5) = .int .i64 (k : Int) := h.old 5 (by kernel_rfl)
              have hbel := h.below
              clear h
              refine gives_by rfl act.eval rfl ?_
              generalize act.eval = ρ at *
              intro hf hc
              go_simp
              exact ⟨Below.refl _ _, rfl⟩
            · intro act wx h
              obtain ⟨v21, e21, f21⟩ := h.val 4 21 (by kernel_rfl)
              obtain rfl : v21 = .slice (some ⟨g2, o2, none⟩) m cb := f21
              obtain ⟨v22, e22, f22⟩ := h.val 5 22 (by kernel_rfl)
              obtain rfl : v22 = .int .i64 (k : Int) := f22
              have hbel := h.below
              clear h
              refine gives_by rfl act.eval rfl ?_
              generalize act.eval = ρ at *
              intro hf hc
              go_simp
              exact ⟨Below.refl _ _, rfl⟩
            · intro act wx h
              obtain ⟨v23, e23, f23⟩ := h.val 6 23 (by kernel_rfl)
              obtain rfl : v23 = .pointer (some ⟨g2, o2 + k * 2, none⟩) := f23
              have hbel := h.below
              clear h
              obtain ⟨cx, cy⟩ := HCY.out wx hbel
              refine gives_by rfl act.eval rfl ?_
              generalize act.eval = ρ at *
              intro hf hc
              go_simp
              exact ⟨Below.refl _ _, rfl⟩
            · intro act wx h
              obtain ⟨v20, e20, f20⟩ := h.val 3 20 (by kernel_rfl)
              obtain rfl : v20 = .agg #[.int .u32 (d1 : Int), .slice xo xn xc] := f20
              obtain ⟨v24, e24, f24⟩ := h.val 7 24 (by kernel_rfl)
              obtain rfl : v24 = .agg #[.int .u32 (d2 : Int), .slice yo yn yc] := f24
              have hbel := h.below
              clear h
              refine gives_by rfl act.eval rfl ?_
              generalize act.eval = ρ at *
              intro hf hc
              go_simp
              exact call_gives (HSM.out wx hbel) (fun _ => rfl)
            · intro act wx h
              obtain ⟨v25, e25, f25⟩ := h.val 8 25 (by kernel_rfl)
              obtain rfl : v25 = .bool true := f25
              have hbel := h.below
              clear h
              refine gives_by rfl act.eval rfl ?_
              generalize act.eval = ρ at *
              intro hf hc
              go_simp
              exact ⟨Below.refl _ _, rfl⟩
          · intro vals w8 hb8 hv
            have hv26 : vals 9 = .bool false := hv 9 26 (by kernel_rfl)
            clear hv
            generalize hact : putAll _ vals 0 _ = act
            have HB8 := hide hb8
            clear hb8
            subst hact
            simp only [putAll, Act.put, List.setIfInBounds_toArray, List.set_cons_zero, List.set_cons_succ, hv26, Nat.zero_add, Nat.reduceAdd]
            clear hv26
            go_wp2
            go_roundg (gk - 1)
            case measure => omega
            case rel => exact ⟨k + 1, by omega, by go_num, HNEXT.out, HBQ.out.trans (HB8.out.mono HBQ.out.size)⟩
        | false =>
          have HBAD : Hid (R = false) := by
            show _ = _
            rw [← HRE.out]
            apply sameAllP_ne
            intro e
            rw [← hx, ← hy, e, sameP_refl] at hsp
            cases hsp
          rw [hsp] at hsm
          have HSM := hide hsm
          generalize x.pos.length = xn at *
          generalize y.pos.length = yn at *
          generalize x.doc = d1 at *
          generalize y.doc = d2 at *
          clear hsm hsp hx hy hs hxv hyv hi1 hi2 c1 c2 c3 c4 hd1 hd2
          go_wp2
          refine wp_region_facts (FL [isV (.slice (some ⟨g1, o1, none⟩) m ca), isV (.int .i64 (k : Int)), isV (.pointer (some ⟨g1, o1 + k * 2, none⟩)), isV (.agg #[.int .u32 (d1 : Int), .slice xo xn xc]), isV (.slice (some ⟨g2, o2, none⟩) m cb), isV (.int .i64 (k : Int)), isV (.pointer (some ⟨g2, o2 + k * 2, none⟩)), isV (.agg #[.int .u32 (d2 : Int), .slice yo yn yc]), isV (.bool false), isV (.bool true)]) 27 (by kernel_rfl) (by kernel_rfl) (by kernel_rfl) rfl (FL_stable _ (by repeat (first | exact trivial | refine ⟨stable_isV _, ?_⟩))) ?_ ?_
          · refine ⟨?_, ?_, ?_, ?_, ?_, ?_, ?_, ?_, ?_, ?_, trivial⟩
            · intro act wx h
              have e0 : act.eval (.tmp 0) = .slice (some ⟨g1, o1, none⟩) m ca := h.old 0 (by kernel_rfl)
              have hbel := h.below
              clear h
              refine gives_by rfl act.eval rfl ?_
              generalize act.eval = ρ at *
              intro hf hc
              go_simp
              exact ⟨Below.refl _ _, rfl⟩
            · intro act wx h
              have e5 : act.eval (.tmp 5) = .int .i64 (k : Int) := h.old 5 (by kernel_rfl)
              have hbel := h.below
              clear h
              refine gives_by rfl act.eval rfl ?_
              generalize act.eval = ρ at *
              intro hf hc
              go_simp
              exact ⟨Below.refl _ _, rfl⟩
            · intro act wx h
              obtain ⟨v17, e17, f17⟩ := h.val 0 17 (by kernel_rfl)
              obtain rfl : v17 = .slice (some ⟨g1, o1, none⟩) m ca := f17
              obtain ⟨v18, e18, f18⟩ := h.val 1 18 (by kernel_rfl)
              obtain rfl : v18 = .int .i64 (k : Int) := f18
              have hbel := h.below
              clear h
              refine gives_by rfl act.eval rfl ?_
              generalize act.eval = ρ at *
              intro hf hc
              go_simp
              exact ⟨Below.refl _ _, rfl⟩
            · intro act wx h
              obtain ⟨v19, e19, f19⟩ := h.val 2 19 (by kernel_rfl)
              obtain rfl : v19 = .pointer (some ⟨g1, o1 + k * 2, none⟩) := f19
              have hbel := h.below
              clear h
              obtain ⟨cx, cy⟩ := HCX.out wx hbel
              refine gives_by rfl act.eval rfl ?_
              generalize act.eval = ρ at *
              intro hf hc
              go_simp
              exact ⟨Below.refl _ _, rfl⟩
            · intro act wx h
              have e1 : act.eval (.tmp 1) = .slice (some ⟨g2, o2, none⟩) m cb := h.old 1 (by kernel_rfl)
              have hbel := h.below
              clear h
              refine gives_by rfl act.eval rfl ?_
              generalize act.eval = ρ at *
              intro hf hc
              go_simp
              exact ⟨Below.refl _ _, rfl⟩
            · intro act wx h
              have e5 : act.eval (.tmp 5) = .int .i64 (k : Int) := h.old 5 (by kernel_rfl)
              have hbel := h.below
              clear h
              refine gives_by rfl act.eval rfl ?_
              generalize act.eval = ρ at *
              intro hf hc
              go_simp
              exact ⟨Below.refl _ _, rfl⟩
            · intro act wx h
              obtain ⟨v21, e21, f21⟩ := h.val 4 21 (by kernel_rfl)
              obtain rfl : v21 = .slice (some ⟨g2, o2, none⟩) m cb := f21
              obtain ⟨v22, e22, f22⟩ := h.val 5 22 (by kernel_rfl)
              obtain rfl : v22 = .int .i64 (k : Int) := f22
              have hbel := h.below
              clear h
              refine gives_by rfl act.eval rfl ?_
              generalize act.eval = ρ at *
              intro hf hc
              go_simp
              exact ⟨Below.refl _ _, rfl⟩
            · intro act wx h
              obtain ⟨v23, e23, f23⟩ := h.val 6 23 (by kernel_rfl)
              obtain rfl : v23 = .pointer (some ⟨g2, o2 + k * 2, none⟩) := f23
              have hbel := h.below
              clear h
              obtain ⟨cx, cy⟩ := HCY.out wx hbel
              refine gives_by rfl act.eval rfl ?_
              generalize act.eval = ρ at *
              intro hf hc
              go_simp
              exact ⟨Below.refl _ _, rfl⟩
            · intro act wx h
              obtain ⟨v20, e20, f20⟩ := h.val 3 20 (by kernel_rfl)
              obtain rfl : v20 = .agg #[.int .u32 (d1 : Int), .slice xo xn xc] := f20
              obtain ⟨v24, e24, f24⟩ := h.val 7 24 (by kernel_rfl)
              obtain rfl : v24 = .agg #[.int .u32 (d2 : Int), .slice yo yn yc] := f24
              have hbel := h.below
              clear h
              refine gives_by rfl act.eval rfl ?_
              generalize act.eval = ρ at *
              intro hf hc
              go_simp
              exact call_gives (HSM.out wx hbel) (fun _ => rfl)
            · intro act wx h
              obtain ⟨v25, e25, f25⟩ := h.val 8 25 (by kernel_rfl)
              obtain rfl : v25 = .bool false := f25
              have hbel := h.below
              clear h
              refine gives_by rfl act.eval rfl ?_
              generalize act.eval = ρ at *
              intro hf hc
              go_simp
              exact ⟨Below.refl _ _, rfl⟩
          · intro vals w8 hb8 hv
            have hv26 : vals 9 = .bool true := hv 9 26 (by kernel_rfl)
            clear hv
            generalize hact : putAll _ vals 0 _ = act
            have HB8 := hide hb8
            clear hb8
            subst hact
            simp only [putAll, Act.put, List.setIfInBounds_toArray, List.set_cons_zero, List.set_cons_succ, hv26, Nat.zero_add, Nat.reduceAdd]
            clear hv26
            go_wp2
            go_ret
            exact ⟨ret_bool HBAD.out.symm, HBQ.out.trans (HB8.out.mono HBQ.out.size)⟩
      · obtain rfl : k = m := by omega
        go_wp2
        go_ret
        refine ⟨ret_bool ?_, HBQ.out⟩
        have := HT.out
        rw [List.take_of_length_le (Nat.le_of_eq HM.out), List.take_of_length_le (Nat.le_of_eq HN.out)] at this
        rw [← HRE.out, this, sameAllP_refl]
  · have hmn' : ((m : Int) == (n : Int)) = false := by simp; omega
    go_enter Try.func33, Try.ntmps33
    go_wp2
    go_ret
    refine ⟨ret_bool ?_, Below.refl _ _⟩
    rw [← HRE.out]
    symm
    apply sameAllP_ne
    intro e
    have h1 := HM.out
    have h2 := HN.out
    rw [e] at h1
    omega

end Go.Proofs.Ytfihnmdhclnhgaa
