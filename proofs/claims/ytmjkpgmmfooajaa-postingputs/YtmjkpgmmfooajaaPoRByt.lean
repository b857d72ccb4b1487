/- Contract: the document's bytes of a posting (incipitref15.Bytes). -/
import Derived.Test.YtmjkpgmmfooajaaPoForm
import Derived.Test.YtmjkpgmmfooajaaPoRVar
import Derived.Test.YtmjkpgmmfooajaaRJoin
import Derived.Test.YtmjkpgmmfooajaaRegion
namespace Go.Proofs.Ytmjkpgmmfooajaa
set_option maxRecDepth 20000
open Go.RowKit
set_option linter.unusedVariables false
set_option linter.unusedSimpArgs false
set_option maxRecDepth 100000

def isSlF (XS : List Int) : Value → World → Prop := fun v w => ∃ a n c, v = .slice a n c ∧ Sl w v XS
theorem stable_isSlF (XS : List Int) : ∀ v w w', Below w.heap.size w w' → isSlF XS v w → isSlF XS v w' := fun v w w' hb ⟨a, n, c, h, hs⟩ => ⟨a, n, c, h, hs.keep (fun j _ hlt => hb.block j hlt)⟩
def isJo (w0 : World) (B : Nat) (XS : List Int) : Value → World → Prop := fun v w => ∃ a n c, v = .slice a n c ∧ Ob w0 B w v XS
theorem stable_isJo (w0 : World) (B : Nat) (XS : List Int) : ∀ v w w', Below w.heap.size w w' → isJo w0 B XS v w → isJo w0 B XS v w' := fun v w w' hb ⟨a, n, c, h, hs⟩ => ⟨a, n, c, h, hs.below hb⟩

/-- a short number behind bytes of the call's own: the call, then the append -/
theorem rVarApp (w0 : World) (B : Nat) (w : World) (v : Value) (XS : List Int) (h : Ob w0 B w v XS) (hl : XS.length ≤ 500000) (x : Nat) (hx : x < 4294967296) (y : Int) (hy : y = (x : Int)) :
    Calls Try.prog 46 #[.int .u32 y] w fun e w1 => ∃ ao m cap v' w2, e = .returned (.slice ao m cap) ∧
      (Builtin.append_ #[23, 23] 23 #[v, .slice ao m cap]).run Try.prog w1 = .ok v' w2 ∧ Ob w0 B w2 v' (XS ++ varBytes x) := by
  subst hy
  refine (refVar_any w x hx).mono ?_
  rintro e w1 ⟨u, rfl, ho, hb, _⟩
  obtain ⟨ao, m, cap, rfl⟩ := sl_form (sl_of_own_len ho (varBytes_ok x))
  have hv := (varLen_le5 hx).2
  unfold varLen at hv
  obtain ⟨v', w2, hr, hO⟩ := (h.below hb).append ao m cap (varBytes x) (sl_of_own_len ho (varBytes_ok x)) (by omega)
  exact ⟨ao, m, cap, v', w2, rfl, hr, hO⟩

set_option maxHeartbeats 2000000 in
theorem refBytes_any (w : World) (prev : Nat) (v : Value) (p : Po) (h : PoV w v p) (hm : mayB prev p = true) :
    Calls Try.prog 32 #[.int .u32 (prev : Int), v] w fun e w' => ∃ u, e = .returned u ∧ w'.ownsRow w.heap.size 5 1 u (formP prev p).length ((formP prev p).map (Value.int .u8)) ∧ Below w.heap.size w w' := by
  obtain ⟨h0, u, rfl, hu⟩ := h
  obtain ⟨m1, m2, m3, m4, m5⟩ := may_parts hm
  have hFL := (form_len hm).2.1
  have HF : Hid (formP prev p = varBytes (p.doc - prev) ++ varBytes p.pos.length ++ deltas (prevL p.pos 0) (p.pos.drop 0)) := rfl
  generalize formP prev p = F at HF hFL ⊢
  obtain ⟨d, zs⟩ := p
  simp only at h0 hu HF m1 m2 m3 m4 m5 ⊢
  obtain ⟨w1, hw1⟩ : ∃ w1, w.alloc (.cells #[.int .u32 (d : Int), u] 34) = w1 := ⟨_, rfl⟩
  have hb1 : Below w.heap.size w w1 := by rw [← hw1]; exact (Below.refl _ w).alloc (Nat.le_refl _) _
  have hs1 : w1.heap.size = w.heap.size + 1 := by rw [← hw1]; simp
  have hu1 := hu.below hb1
  have hB1 : Blk w1 w.heap.size 34 [.int .u32 (d : Int), u] := by rw [← hw1]; exact Blk.new w _ _
  obtain ⟨ao, cap, rfl, hc1, hc2, hc3⟩ := hu1
  unfold maxLen at hc2
  obtain ⟨pb, po, rfl, hcc⟩ := hc3 (by intro e; rw [e] at m3; simp at m3)
  have HCC : Hid (∀ k, k < zs.length → ∀ W, Below w1.heap.size w1 W → W.cell? ⟨pb, po + k, none⟩ = some (.int .i64 (zs.getD k 0))) := fun k hk W hb => (hb.cell (p := ⟨pb, po + k, none⟩) (World.block_lt_of_cell? w1 _ (hcc k hk))).trans (hcc k hk)
  have HBX : Hid (∀ W, Below w1.heap.size w1 W → W.cell? ⟨w.heap.size, 0, none⟩ = some (.int .u32 (d : Int)) ∧ W.cell? ⟨w.heap.size, 1, none⟩ = some (.slice (some ⟨pb, po, none⟩) zs.length cap)) := fun W hb => by
    have := hB1.below hb hB1.lt
    exact ⟨this.cell 0, this.cell 1⟩
  have HPG : Hid (∀ k, k < zs.length → ∃ X L : Nat, zs.getD k 0 = (X : Int) ∧ prevL zs k = (L : Int) ∧ L ≤ X ∧ X ≤ 1048576) := fun k hk => pos_get m5 hk
  have HDS : Hid (∀ k, k < zs.length → deltas (prevL zs k) (zs.drop k) = varBytes (zs.getD k 0 - prevL zs k).toNat ++ deltas (prevL zs (k + 1)) (zs.drop (k + 1))) := fun k hk => deltas_step zs k hk
  have HVA := hide (rVarApp w1 w1.heap.size)
  have HB1 := hide hb1
  have HS1 := hide hs1
  obtain ⟨n, hn⟩ : ∃ n, zs.length = n := ⟨_, rfl⟩
  rw [hn] at m3 m4 hc1 HF HCC HBX HPG HDS hw1 ⊢
  have HN := hide hn
  have hv1 := (varLen_le5 (v := d - prev) (by omega)).2
  have hv2 := (varLen_le5 (v := n) (by omega)).2
  unfold varLen at hv1 hv2
  have HVR : Hid (∀ x, x < 4294967296 → ∀ wx, Calls Try.prog 46 #[.int .u32 (x : Nat)] wx fun e w' => ∃ u, e = .returned u ∧ Below wx.heap.size wx w' ∧ isSlF (varBytes x) u w') := fun x hx wx => by
    refine (refVar_any wx x hx).mono ?_
    rintro e w1 ⟨u, rfl, ho, hb, _⟩
    have hs := sl_of_own_len ho (varBytes_ok x)
    obtain ⟨ao, m, cap, rfl⟩ := sl_form hs
    exact ⟨_, rfl, hb, ao, m, cap, rfl, hs⟩
  obtain ⟨D, hD⟩ : ∃ D, d - prev = D := ⟨_, rfl⟩
  have HDD : Hid ((d : Int) - (prev : Int) = (D : Int)) := by show _ = _; omega
  have HWR : Hid (IntKind.u32.wrap (D : Int) = (D : Int) ∧ IntKind.u32.wrap (n : Int) = (n : Int)) := ⟨IntWalk.u32_in _ (by omega), IntWalk.u32_in _ (by omega)⟩
  have HDL : Hid (D < 4294967296) := by show _ < _; omega
  have HNL : Hid (n < 4294967296) := by show _ < _; omega
  rw [hD] at HF hv1
  have HV1 := hide (HVR.out D HDL.out)
  have HV2 := hide (HVR.out n HNL.out)
  have HJ : Hid (∀ wx u1 u2, Below w1.heap.size w1 wx → Sl wx u1 (varBytes D) → Sl wx u2 (varBytes n) → Calls Try.prog 36 #[u1, u2] wx fun e w' => ∃ x, e = .returned x ∧ Below wx.heap.size wx w' ∧ isJo w1 w1.heap.size (varBytes D ++ varBytes n) x w') := fun wx u1 u2 hb h1 h2 => by
    refine (refJoin_any wx u1 u2 _ _ h1 h2 (by omega)).mono ?_
    rintro e w2 ⟨x, rfl, ho, _, hbb, _⟩
    have hO : Ob w1 w1.heap.size w2 x (varBytes D ++ varBytes n) := ⟨ownsRow_le' ho hb.size, hb.trans (hbb.mono hb.size), Nat.le_trans hb.size hbb.size⟩
    obtain ⟨a, c, rfl⟩ := hO.form
    exact ⟨_, rfl, hbb, a, _, c, rfl, hO⟩
  have HOWN : Hid (∀ (w' : World) (u : Value) (xs : List Int), w'.ownsRow w1.heap.size 5 1 u xs.length (xs.map (Value.int .u8)) → w'.ownsRow w.heap.size 5 1 u xs.length (xs.map (Value.int .u8))) := fun w' u xs h => ownsRow_le' h (by omega)
  clear hb1 hu hB1 hcc hn hs1 hm m5 hc3 hD HVR hv1 hv2
  have e1 : (n : Int) ≤ 2000 := by omega
  go_enter Try.func32, Try.ntmps32
  go_wp2
  try rw [hw1]
  clear hw1
  refine wp_region_facts (FL [isV (.pointer (some ⟨w.heap.size, 0, none⟩)), isV (.int .u32 (d : Int)), isV (.int .u32 (prev : Int)), isV (.int .u32 (D : Int)), isSlF (varBytes D), isV (.pointer (some ⟨w.heap.size, 1, none⟩)), isV (.slice (some ⟨pb, po, none⟩) n cap), isV (.int .i64 (n : Int)), isV (.int .u32 (n : Int)), isSlF (varBytes n), isJo w1 w1.heap.size (varBytes D ++ varBytes n), isJo w1 w1.heap.size (varBytes D ++ varBytes n)]) 43 (by kernel_rfl) (by kernel_rfl) (by kernel_rfl) rfl (FL_stable _ (by repeat (first | exact trivial | refine ⟨stable_isV _, ?_⟩ | refine ⟨stable_isSlF _, ?_⟩ | refine ⟨stable_isJo _ _ _, ?_⟩))) ?_ ?_
  · refine ⟨?_, ?_, ?_, ?_, ?_, ?_, ?_, ?_, ?_, ?_, ?_, ?_, trivial⟩
    · intro act wx h
      have e3 : act.eval (.tmp 3) = .pointer (some ⟨w.heap.size, 0, none⟩) := h.old 3 (by kernel_rfl)
      have hbel := h.below
      clear h
      refine gives_by rfl act.eval rfl ?_
      generalize act.eval = ρ at *
      intro hf hc
      go_simp
      exact ⟨Below.refl _ _, rfl⟩
    · intro act wx h
      obtain ⟨v8, e8, f8⟩ := h.val 0 8 (by kernel_rfl)
      obtain rfl : v8 = .pointer (some ⟨w.heap.size, 0, none⟩) := f8
      have hbel := h.below
      clear h
      obtain ⟨cx, cy⟩ := HBX.out wx hbel
      refine gives_by rfl act.eval rfl ?_
      generalize act.eval = ρ at *
      intro hf hc
      go_simp
      exact ⟨Below.refl _ _, rfl⟩
    · intro act wx h
      have e0 : act.eval (.tmp 0) = .int .u32 (prev : Int) := h.old 0 (by kernel_rfl)
      have hbel := h.below
      clear h
      refine gives_by rfl act.eval rfl ?_
      generalize act.eval = ρ at *
      intro hf hc
      go_simp
      exact ⟨Below.refl _ _, rfl⟩
    · intro act wx h
      obtain ⟨v9, e9, f9⟩ := h.val 1 9 (by kernel_rfl)
      obtain rfl : v9 = .int .u32 (d : Int) := f9
      obtain ⟨v10, e10, f10⟩ := h.val 2 10 (by kernel_rfl)
      obtain rfl : v10 = .int .u32 (prev : Int) := f10
      have hbel := h.below
      clear h
      have hdd := HDD.out
      have hdl := HWR.out.1
      refine gives_by rfl act.eval rfl ?_
      generalize act.eval = ρ at *
      intro hf hc
      go_simp
      exact ⟨Below.refl _ _, rfl⟩
    · intro act wx h
      obtain ⟨v11, e11, f11⟩ := h.val 3 11 (by kernel_rfl)
      obtain rfl : v11 = .int .u32 (D : Int) := f11
      have hbel := h.below
      clear h
      refine gives_by rfl act.eval rfl ?_
      generalize act.eval = ρ at *
      intro hf hc
      go_simp
      exact HV1.out wx
    · intro act wx h
      have e3 : act.eval (.tmp 3) = .pointer (some ⟨w.heap.size, 0, none⟩) := h.old 3 (by kernel_rfl)
      have hbel := h.below
      clear h
      refine gives_by rfl act.eval rfl ?_
      generalize act.eval = ρ at *
      intro hf hc
      go_simp
      exact ⟨Below.refl _ _, rfl⟩
    · intro act wx h
      obtain ⟨v13, e13, f13⟩ := h.val 5 13 (by kernel_rfl)
      obtain rfl : v13 = .pointer (some ⟨w.heap.size, 1, none⟩) := f13
      have hbel := h.below
      clear h
      obtain ⟨cx, cy⟩ := HBX.out wx hbel
      refine gives_by rfl act.eval rfl ?_
      generalize act.eval = ρ at *
      intro hf hc
      go_simp
      exact ⟨Below.refl _ _, rfl⟩
    · intro act wx h
      obtain ⟨v14, e14, f14⟩ := h.val 6 14 (by kernel_rfl)
      obtain rfl : v14 = .slice (some ⟨pb, po, none⟩) n cap := f14
      have hbel := h.below
      clear h
      refine gives_by rfl act.eval rfl ?_
      generalize act.eval = ρ at *
      intro hf hc
      go_simp
      exact ⟨Below.refl _ _, rfl⟩
    · intro act wx h
      obtain ⟨v15, e15, f15⟩ := h.val 7 15 (by kernel_rfl)
      obtain rfl : v15 = .int .i64 (n : Int) := f15
      have hbel := h.below
      clear h
      have hnl := HWR.out.2
      refine gives_by rfl act.eval rfl ?_
      generalize act.eval = ρ at *
      intro hf hc
      go_simp
      exact ⟨Below.refl _ _, rfl⟩
    · intro act wx h
      obtain ⟨v16, e16, f16⟩ := h.val 8 16 (by kernel_rfl)
      obtain rfl : v16 = .int .u32 (n : Int) := f16
      have hbel := h.below
      clear h
      refine gives_by rfl act.eval rfl ?_
      generalize act.eval = ρ at *
      intro hf hc
      go_simp
      exact HV2.out wx
    · intro act wx h
      obtain ⟨v12, e12, f12⟩ := h.val 4 12 (by kernel_rfl)
      obtain ⟨a12, n12, c12, rfl, S12⟩ := f12
      obtain ⟨v17, e17, f17⟩ := h.val 9 17 (by kernel_rfl)
      obtain ⟨a17, n17, c17, rfl, S17⟩ := f17
      have hbel := h.below
      clear h
      refine gives_by rfl act.eval rfl ?_
      generalize act.eval = ρ at *
      intro hf hc
      go_simp
      exact HJ.out wx _ _ hbel S12 S17
    · intro act wx h
      obtain ⟨v18, e18, f18⟩ := h.val 10 18 (by kernel_rfl)
      obtain ⟨a18, n18, c18, rfl, O18⟩ := f18
      have hbel := h.below
      clear h
      refine gives_by rfl act.eval rfl ?_
      generalize act.eval = ρ at *
      intro hf hc
      go_simp
      exact ⟨Below.refl _ _, ⟨a18, n18, c18, rfl, O18⟩⟩
  · intro vals w8 hb8 hv
    obtain ⟨a5, n5, c5, hv5, O5⟩ := hv 11 5 (by kernel_rfl)
    clear hv
    rw [hv5] at O5
    generalize hact : putAll _ vals 0 _ = act
    have HB8 := hide hb8
    have HO5 := hide O5
    have HV5 := hide O5.form
    clear hb8 O5
    subst hact
    simp only [putAll, Act.put, List.setIfInBounds_toArray, List.set_cons_zero, List.set_cons_succ, hv5, Nat.zero_add, Nat.reduceAdd]
    clear hv5
    obtain ⟨d0, d1⟩ := HBX.out w8 HB8.out
    go_wp2
    go_loopg [5, 6, 7] n (fun g bv lv i wr => ∃ (k : Nat) (L : Nat) (XS : List Int) (a : Option Addr) (c : Nat), g + k = n ∧ lv = .int .i64 (L : Int) ∧ i = .int .i64 (k : Int) ∧ prevL zs k = (L : Int) ∧ bv = .slice a XS.length c ∧ Ob w1 w1.heap.size wr bv XS ∧ F = XS ++ deltas (prevL zs k) (zs.drop k))
    case atStart =>
      obtain ⟨a, c, hv⟩ := HV5.out
      exact ⟨0, 0, _, a, c, by omega, rfl, rfl, rfl, hv, HO5.out, HF.out⟩
    case round =>
      obtain ⟨k, L, XS, a, c, hg, rfl, rfl, hL, rfl, hO, hFF⟩ := hrel
      have HO := hide hO
      have HFF := hide hFF
      clear hO hFF HV5 HO5 HF d0 d1
      obtain ⟨d0, d1⟩ := HBX.out wr HO.out.2.1
      by_cases hk : k < n
      · obtain ⟨X, L', hX, hL', hLX, hX2⟩ := HPG.out k hk
        obtain rfl : L = L' := by omega
        have q := HCC.out k hk wr HO.out.2.1
        have hds := HDS.out k hk
        rw [hX] at q hds
        rw [hL, show (((X : Int) - (L : Int))).toNat = X - L by omega] at hds
        have hE : F = (XS ++ varBytes (X - L)) ++ deltas (prevL zs (k + 1)) (zs.drop (k + 1)) := by rw [HFF.out, hL, hds, List.append_assoc]
        have hXL : XS.length ≤ 10010 := by have := HFF.out; have := congrArg List.length this; rw [List.length_append] at this; omega
        have HCX : Hid (∀ W, Below w1.heap.size w1 W → W.cell? ⟨pb, po + k, none⟩ = some (.int .i64 (X : Nat))) := fun W hb => by rw [← hX]; exact HCC.out k hk W hb
        have HX := hide hX
        have HE := hide hE
        have HVB := hide (fun y hy => HVA.out wr _ _ HO.out (by omega) (X - L) (by omega) y hy)
        clear hX hE hds hL hL' HFF
        go_wp2_with (first
          | (go_at_call 46; refine (HVB.out _ (by omega)).mono ?_; rintro e w3 ⟨a3, m3', c3, v4, w4, rfl, hr, hO4⟩; have HR := hide hr; have HO4 := hide hO4; have HV4 := hide hO4.form; clear q d0 d1; have q := HCX.out w4 hO4.2.1; obtain ⟨d0, d1⟩ := HBX.out w4 hO4.2.1; clear HVB hr hO4)
          | (at_builtin; (with_reducible refine wpList_append_run _ rfl (.tmp 26) (.tmp 35) 23 rfl _ _ ?_ ?_ _ _ HR.out ?_); exact rfl; exact rfl; clear HR))
        go_roundg (gk - 1)
        case measure => omega
        case rel =>
          obtain ⟨a4, c4, hv⟩ := HV4.out
          exact ⟨k + 1, X, _, a4, c4, by omega, rfl, by go_num, HX.out, hv, HO4.out, HE.out⟩
      · go_wp2
        go_ret
        have hz : zs.drop k = [] := List.drop_eq_nil_of_le (by have := HN.out; omega)
        have hF : F = XS := by rw [HFF.out, hz, deltas, List.append_nil]
        rw [hF]
        exact ⟨_, rfl, HOWN.out _ _ _ HO.out.1, HB1.out.trans (HO.out.2.1.mono (by have := HS1.out; omega))⟩

end Go.Proofs.Ytmjkpgmmfooajaa
