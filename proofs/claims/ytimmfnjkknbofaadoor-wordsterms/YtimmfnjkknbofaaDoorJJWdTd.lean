/- Contract: the document's Terms (incipitref14.Terms). -/
import Derived.Test.YtimmfnjkknbofaaDoorJJWdCd
import Derived.Test.YtimmfnjkknbofaaDoorJJWdTP
import Derived.BigQuiet
namespace Go.Proofs.YtimmfnjkknbofaaDoor
set_option maxRecDepth 20000
open Go.RowKit
set_option linter.unusedVariables false
set_option linter.unusedSimpArgs false
set_option maxRecDepth 100000

theorem enc_uB (z : List Int) : encStr (uB z) = .string (strOfNums z) := rfl
theorem cell_belowT {w w' : World} {a : Addr} {v : Value} (hb : Below w.heap.size w w') (h : w.cell? a = some v) : w'.cell? a = some v := by
  rw [World.cell?_of_block (w := w) (hb.block a.block (World.block_lt_of_cell? w _ h))]
  exact h

set_option maxHeartbeats 4000000 in
theorem termsD_any (w : World) (v : Value) (C : Cn) (h : CnfV w v C) (hok : CnOk C) (vt : Value) (zs : List Int) (hz : Sl w vt zs) (hl : zs.length ≤ 100000) :
    Calls Tryd.prog 21 #[v, vt] w fun e w' => ∃ u, e = .returned u ∧ StU w' w.heap.size u (insA ((tokC C (rs zs)).map fun x => uB x.1)) ∧ Below w.heap.size w w' := by
  obtain ⟨fo, fc, so, sc, w1, rfl, hw1, hb1, hB, hT, hS⟩ := box_cnf w v C h
  have HTD := hide (tokensD_any w1 _ C (h.below hb1) hok vt zs (hz.below hb1) hl)
  have HLN : Hid ((tokC C (rs zs)).length ≤ 100000) := by
    have h1 : (tokC C (rs zs)).length ≤ (rs zs).length := by
      unfold tokC
      split
      · exact tokL_len _ _ _ _
      · simp
    have := rs_len zs
    show _ ≤ _
    omega
  obtain ⟨to, tn, tc, rfl⟩ := sl_form hz
  have HB1 := hide hb1
  have c0 : w1.cell? ⟨w.heap.size, 0, none⟩ = some (.slice fo C.fs.length fc) := hB.cell 0
  have c1 : w1.cell? ⟨w.heap.size, 1, none⟩ = some (.slice so C.ss.length sc) := hB.cell 1
  have c2 : w1.cell? ⟨w.heap.size, 2, none⟩ = some (.int .i64 C.cap) := hB.cell 2
  generalize tokC C (rs zs) = T at *
  obtain ⟨us, hus⟩ : ∃ us, (T.map fun x => uB x.1) = us := ⟨_, rfl⟩
  rw [hus]
  have HUS := hide hus
  obtain ⟨fn, hfn⟩ : ∃ n, C.fs.length = n := ⟨_, rfl⟩
  obtain ⟨sn, hsn⟩ : ∃ n, C.ss.length = n := ⟨_, rfl⟩
  obtain ⟨K, hK⟩ : ∃ n, C.cap = n := ⟨_, rfl⟩
  rw [hfn] at hw1 c0 HTD ⊢
  rw [hsn] at hw1 c1 HTD ⊢
  rw [hK] at hw1 c2 HTD ⊢
  clear h hT hS hB hb1 hok hz hfn hsn hK hl hus
  go_enter Tryd.func21, Tryd.ntmps21
  go_wp2_with (go_at_call 50; refine HTD.out.mono ?_; rintro e w3 ⟨u, rfl, htk, hb⟩; have hB3 : Below w.heap.size w w3 := HB1.out.trans (hb.mono HB1.out.size); have hR := htk.read (by have := HLN.out; omega); obtain ⟨lo, lc, rfl⟩ := hR.len; have HR3 := hide hR; have HB3 := hide hB3; clear HTD hb htk hR hB3 c0 c1 c2 hw1)
  obtain ⟨tl, htl⟩ : ∃ n, T.length = n := ⟨_, rfl⟩
  have HTL := hide htl
  rw [htl] at HR3 HLN ⊢
  have HCP : Hid (tl ≤ lc ∧ (lc : Int) ≤ 9223372036854775807) := by
    obtain ⟨ao', cap', he, q1, q2, q3, _⟩ := HR3.out
    simp only [Value.slice.injEq] at he
    obtain ⟨rfl, e2, rfl⟩ := he
    unfold maxLen at q3
    show _ ∧ _
    omega
  have hul : us.length = tl := by rw [← HUS.out]; simpa using htl
  have HUL := hide hul
  clear htl hul
  go_loopg [5, 7, 8, 9] tl (fun g l5 l7 l8 l9 wr => ∃ (i : Nat) (v : Value), g + i = tl ∧ l5 = v ∧ l7 = .int .i64 (i : Int) ∧ Below w3.heap.size w3 wr ∧ StU wr w.heap.size v (insA (us.take i)) ∧ (insA (us.take i)).length ≤ i)
  case atStart => exact ⟨0, _, by omega, rfl, rfl, Below.refl _ _, StU.nil _ _, Nat.le_refl _⟩
  case round =>
    obtain ⟨i, v, hg, rfl, rfl, hbw, hSt, hin⟩ := hrel
    obtain ⟨W, hW⟩ : ∃ x, x = wr := ⟨_, rfl⟩
    subst hW
    have HBW := hide hbw
    have HST := hide hSt
    obtain ⟨U, hU⟩ : ∃ U, insA (us.take i) = U := ⟨_, rfl⟩
    rw [hU] at HST hSt hin
    obtain ⟨oo, oc, rfl⟩ := hSt.shape
    obtain ⟨on, hon⟩ : ∃ n, U.length = n := ⟨_, rfl⟩
    rw [hon] at HST hin ⊢
    have HON := hide hon
    have HU := hide hU
    have HI : Hid (on ≤ i) := hin
    have HG : Hid (gk + i = tl) := hg
    obtain ⟨GK, hGK⟩ : ∃ x, gk = x := ⟨_, rfl⟩
    have HGK := hide hGK
    clear hbw hSt hU hon
    by_cases hi : i < tl
    · have hii : (i : Int) < (tl : Int) := by omega
      have hiw : IntKind.i64.wrap ((i : Int) + 1) = (i : Int) + 1 := IntWalk.i64_in _ (by have := HLN.out; omega)
      obtain ⟨tb, toff, x, hto, hx, t0, t1⟩ := HR3.out.at i (by rw [HTL.out]; exact hi)
      subst hto
      have hux : us[i]? = some (uB x.1) := by rw [← HUS.out, List.getElem?_map, hx]; rfl
      have HTK : Hid (us.take (i + 1) = us.take i ++ [uB x.1]) := by
        have hil : i < us.length := by rw [HUL.out]; exact hi
        have e := List.take_succ_eq_append_getElem hil
        rw [List.getElem?_eq_getElem hil] at hux
        rw [Option.some.inj hux] at e
        exact e
      have HT0 : Hid (∀ W', Below w3.heap.size w3 W' → W'.cell? ⟨tb, toff + i * 2, none⟩ = some (.string (strOfNums x.1))) := fun W' hb => cell_belowT hb t0
      have hs0 := HT0.out W HBW.out
      obtain ⟨xb, hxb⟩ : ∃ xb, uB x.1 = xb := ⟨_, rfl⟩
      obtain ⟨sb, hsb⟩ : ∃ s, strOfNums x.1 = s := ⟨_, rfl⟩
      have HSB : Hid (Value.string sb = encStr xb) := by show _ = _; rw [← hxb, ← hsb, enc_uB]
      have HXB := hide hxb
      have HSBE := hide hsb
      rw [hsb] at hs0 HT0
      rw [hxb] at HTK
      obtain ⟨hc1, hc2⟩ := HCP.out
      have hc1' : (tl : Int) ≤ (lc : Int) := by omega
      clear hx t0 t1 hux hxb hsb
      go_wp2
      go_loopg [8] on (fun g l8 wx => ∃ (k q : Nat), g + k = on ∧ l8 = .int .i64 (k : Int) ∧ wx = W.drewN q ∧ ∀ j (hj : j < U.length), j < k → U[j] < xb)
      case atStart => exact ⟨0, 0, by omega, rfl, rfl, fun j _ hj => absurd hj (Nat.not_lt_zero _)⟩
      case round =>
        obtain ⟨k, q, hgk, rfl, rfl, hlow⟩ := hrel
        have HSU : Hid (SU W (.slice oo on oc) U) := HST.out.su
        have hoc : on ≤ oc ∧ (oc : Int) ≤ 9223372036854775807 := by
          obtain ⟨ao', cap', he, q1, q2, _⟩ := HSU.out
          simp only [Value.slice.injEq] at he
          obtain ⟨rfl, e2, rfl⟩ := he
          unfold maxLen at q2
          omega
        obtain ⟨hoc1, hoc2⟩ := hoc
        have hoc1' : (on : Int) ≤ (oc : Int) := by omega
        have HINS := hide (insU_at U xb k)
        by_cases hk : k < on
        · have hkU : k < U.length := by have := HON.out; omega
          have hkk : (k : Int) < (on : Int) := by omega
          have hkw : IntKind.i64.wrap ((k : Int) + 1) = (k : Int) + 1 := IntWalk.i64_in _ (by have := HLN.out; omega)
          obtain ⟨ob, ooff, rfl, hoc3⟩ : ∃ b off, oo = some ⟨b, off, none⟩ ∧ W.cell? ⟨b, off + k, none⟩ = some (encStr U[k]) := by
            obtain ⟨ao', cap', he, q1, q2, q3⟩ := HSU.out
            simp only [Value.slice.injEq] at he
            obtain ⟨rfl, e2, rfl⟩ := he
            obtain ⟨b, off, e, hc⟩ := q3 (by intro e; rw [e] at hkU; simp at hkU)
            have := hc k hkU
            rw [show U.getD k [] = U[k] by simp [List.getD, hkU]] at this
            exact ⟨b, off, e, this⟩
          obtain ⟨sa, hsa⟩ : ∃ sa : ByteArray, sa = ⟨U[k].toArray⟩ := ⟨_, rfl⟩
          have hsb : sb = ⟨xb.toArray⟩ := by have := HSB.out; simpa using this
          have hoc4 : W.cell? ⟨ob, ooff + k, none⟩ = some (.string sa) := by rw [hsa]; exact hoc3
          have hless : Op.bytesLess sa.toList sb.toList = decide (U[k] < xb) := by
            rw [bytesLess_eq, Lib.toList_data, Lib.toList_data, hsa, hsb]
          have heq : (sa = sb) ↔ U[k] = xb := by
            rw [hsa, hsb]
            constructor
            · intro e
              have := congrArg (fun b : ByteArray => b.data.toList) e
              simpa using this
            · intro e; rw [e]
          have hbeq : (sa.toList == sb.toList) = decide (U[k] = xb) := by
            rw [Lib.toList_data, Lib.toList_data, hsa, hsb, Bool.eq_iff_iff]
            simp
          have HSA := hide hsa
          clear hoc3 hsa hsb
          by_cases hlt : U[k] < xb
          · rw [decide_eq_true hlt] at hless
            have HLO : Hid (∀ j (hj : j < U.length), j < k + 1 → U[j] < xb) := fun j hj hjk => by
              rcases Nat.lt_or_ge j k with h | h
              · exact hlow j hj h
              · obtain rfl : j = k := by omega
                exact hlt
            clear hlow hlt heq hbeq
            go_wp2
            go_quiet (fail)
            go_wp2
            go_roundg (gk - 1)
            case measure => omega
            case rel => exact ⟨k + 1, _, by omega, by go_num, rfl, HLO.out⟩
          · rw [decide_eq_false hlt] at hless
            have HLO := hide hlow
            have HNL := hide hlt
            by_cases he : U[k] = xb
            · have hse := heq.2 he
              have HEQ : Hid (insU U xb = U) := by
                show _ = _
                rw [HINS.out HLO.out (by omega) (fun _ => HNL.out), if_pos (by rw [List.getElem?_eq_getElem hkU, he])]
              clear heq hlow hlt HINS he hbeq
              subst hse
              go_wp2
              go_quiet (fail)
              go_wp2
              go_quiet (fail)
              go_wp2
              go_roundg (GK - 1)
              case measure => have := HGK.out; have := HG.out; omega
              case rel => exact ⟨i + 1, _, by have := HGK.out; have := HG.out; omega, rfl, by go_num, below_drewT HBW.out _, by rw [HTK.out, insA_snoc, HU.out, HEQ.out]; exact HST.out.only (Only.of_below (fun _ => False) (below_drewT (Below.refl _ W) _)) (fun _ _ h => h), by rw [HTK.out, insA_snoc, HU.out, HEQ.out, HON.out]; have := HI.out; omega⟩
            · rw [decide_eq_false he] at hbeq
              clear heq hlow hlt
              go_wp2
              go_quiet (fail)
              go_wp2
              go_quiet (fail)
              go_wp2
              have HFI : Hid (insA (us.take (i + 1)) = U.take k ++ xb :: U.drop k) := by
                show _ = _
                rw [HTK.out, insA_snoc, HU.out, HINS.out HLO.out (by omega) (fun _ => HNL.out), if_neg (by rw [List.getElem?_eq_getElem hkU]; simpa using he)]
              clear HINS HLO HNL he hless hbeq
              have hwz : w.heap.size ≤ W.heap.size := (HB3.out.trans (HBW.out.mono HB3.out.size)).size
              have hUl : U.length ≤ 1000000 := by have := HON.out; have := HI.out; have := HLN.out; omega
              have hkU2 : k ≤ U.length := by have := HON.out; omega
              have hkl : (U.take k).length = k := by rw [List.length_take]; omega
              have hSU0 : SU W (.slice (some ⟨ob, ooff, none⟩) U.length oc) U := by rw [HON.out]; exact HSU.out
              have HSUK : Hid (∀ wx, Below W.heap.size W wx → SU wx (.slice (some ⟨ob, ooff, none⟩) k oc) (U.take k)) := fun wx hb => (hSU0.take k hkU2).below hb
              have HCUT := hide (cut_hS (some ⟨ob, ooff, none⟩) on oc k (by omega) hoc1 (by omega))
              have HNU : Hid ((U.take k).length ≤ 1000000 ∧ (U.take k).length = k ∧ w.heap.size ≤ W.heap.size) := ⟨by omega, hkl, hwz⟩
              obtain ⟨ad, cd, hcl, hcd⟩ := cut_lS (some ⟨ob, ooff, none⟩) U oc k hkU2 (by have := HON.out; omega) (by omega)
              rw [HON.out] at hcl
              have hrl : (U.drop k).length = (on - k) := by rw [List.length_drop, HON.out]
              have HAP : Hid (∀ X a c, Below W.heap.size W X → StU X w.heap.size (.slice a (k + 1) c) (U.take k ++ [xb]) → (∀ j, (Value.slice a (k + 1) c).ownBlock = some j → W.heap.size ≤ j) → ∃ v3 X3, (Builtin.append_ #[23, 23] 23 #[.slice a (k + 1) c, .slice ad (on - k) cd]).run Tryd.prog X = .ok v3 X3 ∧ StU X3 w.heap.size v3 (insA (us.take (i + 1))) ∧ Below w3.heap.size w3 X3) := fun X a c hb hs ho => by
                have hsd : SU X (.slice ad (on - k) cd) (U.drop k) := by
                  have := hcd X (hSU0.below hb)
                  rw [HON.out] at this
                  exact this
                obtain ⟨v3, X3, h1, h2, h3, _, _⟩ := app_u X w.heap.size _ (U.take k ++ [xb]) hs ad (on - k) cd (U.drop k) hsd (by simp; have := HI.out; have := HLN.out; omega) (by rw [hrl]; have := HON.out; omega) (by have := hb.size; omega)
                refine ⟨v3, X3, h1, ?_, HBW.out.trans ((hb.trans (((Only.refl (fun j => (Value.slice a (k + 1) c).ownBlock = some j) X).grown h3 (fun j e _ => e)).below hb.size (fun j hj e => by have := ho j e; omega))).mono HBW.out.size)⟩
                rw [HFI.out]
                rw [List.append_assoc] at h2
                exact h2
              have HRL : Hid ((insA (us.take (i + 1))).length ≤ i + 1) := by
                show _ ≤ _
                rw [HFI.out, List.length_append, List.length_cons, hkl, hrl]
                have := HI.out
                omega
              clear hwz hUl hkU2 hSU0 hcd hrl
              refine wp_region_set [some (.slice none 0 0), some (.slice (some ⟨ob, ooff, none⟩) on oc), some (.int .i64 (k : Int)), some (.slice (some ⟨ob, ooff, none⟩) k oc), none, some (.slice (some ⟨tb, toff, none⟩) tl lc), some (.int .i64 (i : Int)), some (.pointer (some ⟨tb, toff + i * 2, none⟩)), some (.pointer (some ⟨tb, toff + i * 2, none⟩)), some (.string sb), none, none, none] [4, 10, 11, 12] (inS W w.heap.size (U.take k) xb) 71 (by kernel_rfl) (by kernel_rfl) (by kernel_rfl) (by kernel_rfl) rfl ?_ ?_ ?_ ?_
              · exact fun vals0 => inS.start (by first | exact (below_drewT (Below.refl _ W) _).drew | exact (below_drewN (below_drewN (below_drewN (Below.refl _ W) _) _) _).drew)
              · exact fun D D' vals vals' X hv hs => hs.ind hv
              · refine ⟨?_, ?_, ?_, ?_, ?_, ?_, ?_, ?_, ?_, ?_, ?_, ?_, ?_, trivial⟩
                · intro D vals act wx hu h hs
                  have e9 : act.eval (.tmp 9) = .slice none 0 0 := h.old 9 (by kernel_rfl)
                  clear h
                  refine gives_by rfl act.eval rfl ?_
                  generalize act.eval = ρ at *
                  intro hf hc
                  go_simp
                  exact ⟨rfl, hs⟩
                · intro D vals act wx hu h hs
                  have e5 : act.eval (.tmp 5) = .slice (some ⟨ob, ooff, none⟩) on oc := h.old 5 (by kernel_rfl)
                  clear h
                  refine gives_by rfl act.eval rfl ?_
                  generalize act.eval = ρ at *
                  intro hf hc
                  go_simp
                  exact ⟨rfl, hs⟩
                · intro D vals act wx hu h hs
                  have e8 : act.eval (.tmp 8) = .int .i64 (k : Int) := h.old 8 (by kernel_rfl)
                  clear h
                  refine gives_by rfl act.eval rfl ?_
                  generalize act.eval = ρ at *
                  intro hf hc
                  go_simp
                  exact ⟨rfl, hs⟩
                · intro D vals act wx hu h hs
                  have e54 : act.eval (.tmp 54) = .slice (some ⟨ob, ooff, none⟩) on oc := h.q 1 54 (by kernel_rfl) rfl
                  have e55 : act.eval (.tmp 55) = .int .i64 (k : Int) := h.q 2 55 (by kernel_rfl) rfl
                  clear h
                  exact gives_of_run rfl (exec_slice_hi 23 tyStr (.tmp 54) (.tmp 55) rfl _ _ _ e54 e55 (HCUT.out wx)) ⟨rfl, hs⟩
                · intro D vals act wx hu h hs
                  have e53 : act.eval (.tmp 53) = .slice none 0 0 := h.q 0 53 (by kernel_rfl) rfl
                  have e56 : act.eval (.tmp 56) = .slice (some ⟨ob, ooff, none⟩) k oc := h.q 3 56 (by kernel_rfl) rfl
                  clear h
                  obtain ⟨v1, X1, hr1, hs1, hg1, ho1, _⟩ := app_u wx w.heap.size (.slice none 0 0) [] (StU.nil _ _) (some ⟨ob, ooff, none⟩) k oc (U.take k) (HSUK.out wx hs.1) (by simp) HNU.out.1 (by have := hs.1.size; have := HNU.out.2.2; omega)
                  rw [List.nil_append] at hs1
                  exact gives_of_run rfl (exec_appR 23 (.tmp 53) (.tmp 56) rfl _ _ _ e53 e56 hr1) (inS.app1 hs (hu.not 11 (by decide) (by kernel_rfl)) (hu.not 12 (by decide) (by kernel_rfl)) hs1 hg1 ho1)
                · intro D vals act wx hu h hs
                  have e6 : act.eval (.tmp 6) = .slice (some ⟨tb, toff, none⟩) tl lc := h.old 6 (by kernel_rfl)
                  clear h
                  refine gives_by rfl act.eval rfl ?_
                  generalize act.eval = ρ at *
                  intro hf hc
                  go_simp
                  exact ⟨rfl, hs⟩
                · intro D vals act wx hu h hs
                  have e7 : act.eval (.tmp 7) = .int .i64 (i : Int) := h.old 7 (by kernel_rfl)
                  clear h
                  refine gives_by rfl act.eval rfl ?_
                  generalize act.eval = ρ at *
                  intro hf hc
                  go_simp
                  exact ⟨rfl, hs⟩
                · intro D vals act wx hu h hs
                  have e58 : act.eval (.tmp 58) = .slice (some ⟨tb, toff, none⟩) tl lc := h.q 5 58 (by kernel_rfl) rfl
                  have e59 : act.eval (.tmp 59) = .int .i64 (i : Int) := h.q 6 59 (by kernel_rfl) rfl
                  clear h
                  refine gives_by rfl act.eval rfl ?_
                  generalize act.eval = ρ at *
                  intro hf hc
                  go_simp
                  exact ⟨rfl, hs⟩
                · intro D vals act wx hu h hs
                  have e60 : act.eval (.tmp 60) = .pointer (some ⟨tb, toff + i * 2, none⟩) := h.q 7 60 (by kernel_rfl) rfl
                  clear h
                  refine gives_by rfl act.eval rfl ?_
                  generalize act.eval = ρ at *
                  intro hf hc
                  go_simp
                  exact ⟨rfl, hs⟩
                · intro D vals act wx hu h hs
                  have e61 : act.eval (.tmp 61) = .pointer (some ⟨tb, toff + i * 2, none⟩) := h.q 8 61 (by kernel_rfl) rfl
                  clear h
                  have cx := HT0.out wx (HBW.out.trans (hs.1.mono HBW.out.size))
                  refine gives_by rfl act.eval rfl ?_
                  generalize act.eval = ρ at *
                  intro hf hc
                  go_simp
                  exact ⟨rfl, hs⟩
                · intro D vals act wx hu h hs
                  have e62 : act.eval (.tmp 62) = .string sb := h.q 9 62 (by kernel_rfl) rfl
                  clear h
                  refine gives_by rfl act.eval rfl ?_
                  generalize act.eval = ρ at *
                  intro hf hc
                  go_simp
                  exact inS.build hs (hu.not 11 (by decide) (by kernel_rfl)) (hu.not 12 (by decide) (by kernel_rfl)) HSB.out rfl
                · intro D vals act wx hu h hs
                  have e57 : act.eval (.tmp 57) = vals 4 := h.val 4 57 (by kernel_rfl)
                  have e63 : act.eval (.tmp 63) = vals 10 := h.val 10 63 (by kernel_rfl)
                  clear h
                  obtain ⟨g1, g2⟩ := hs.2.1 (hu.done 4 (by kernel_rfl)) hu.self
                  obtain ⟨g3, a9, c9, h9⟩ := hs.2.2.1 (hu.done 10 (by kernel_rfl)) hu.self
                  rw [h9] at g3 e63
                  obtain ⟨v2, X2, hr2, hs2, hg2, ho2, _⟩ := app_u wx w.heap.size (vals 4) (U.take k) g1 a9 1 c9 [xb] g3 HNU.out.1 (by simp) (by have := hs.1.size; have := HNU.out.2.2; omega)
                  exact gives_of_run rfl (exec_appR 23 (.tmp 57) (.tmp 63) rfl _ _ _ e57 e63 hr2) (inS.app2 hs (hu.done 4 (by kernel_rfl)) hu.self (hu.not 12 (by decide) (by kernel_rfl)) hs2 hg2 ho2)
                · intro D vals act wx hu h hs
                  have e64 : act.eval (.tmp 64) = vals 11 := h.val 11 64 (by kernel_rfl)
                  clear h
                  exact gives_of_run rfl (exec_assign (.tmp 64) rfl _ e64) (inS.asg hs (hu.done 11 (by kernel_rfl)))
              · intro D vals w5 hq hD hs
                obtain ⟨p1, _, _, p4, p5⟩ := hs
                obtain ⟨s1, s2⟩ := p4 (hD 11 (by decide))
                have hv12 := p5 (hD 12 (by decide))
                obtain ⟨a2, c2, hv⟩ := s1.shape
                rw [List.length_append, HNU.out.2.1, List.length_singleton] at hv
                rw [hv] at s1 s2 hv12
                obtain ⟨v3, X3, hr3, hs3, hb3⟩ := HAP.out w5 a2 c2 p1 s1 s2
                have HR3 := hide hr3
                have HX3 : Hid (StU X3 w.heap.size v3 (insA (us.take (i + 1))) ∧ Below w3.heap.size w3 X3) := ⟨hs3, hb3⟩
                simp only [putAll, Act.put, List.setIfInBounds_toArray, List.set_cons_zero, List.set_cons_succ, Nat.zero_add, Nat.reduceAdd]
                rw [hv12]
                clear hv12 hv s1 s2 p1 p4 p5 hq hD hr3 hs3 hb3 HAP HNU HSUK HCUT
                generalize vals 0 = x0 at *
                generalize vals 1 = x1 at *
                generalize vals 2 = x2 at *
                generalize vals 3 = x3 at *
                generalize vals 4 = x4 at *
                generalize vals 5 = x5 at *
                generalize vals 6 = x6 at *
                generalize vals 7 = x7 at *
                generalize vals 8 = x8 at *
                generalize vals 9 = x9 at *
                generalize vals 10 = x10 at *
                generalize vals 11 = x11 at *
                go_wp2_with (at_builtin; (with_reducible refine wpList_append_run _ rfl (.tmp 65) (.tmp 68) 23 rfl _ _ ?_ ?_ _ _ HR3.out ?_); exact rfl; exact rfl; clear HR3)
                go_roundg (GK - 1)
                case measure => have := HGK.out; have := HG.out; omega
                case rel => exact ⟨i + 1, _, by have := HGK.out; have := HG.out; omega, rfl, by go_num, HX3.out.2, HX3.out.1, HRL.out⟩
        · obtain rfl : k = on := by omega
          have hkk : ¬ (k : Int) < (k : Int) := by omega
          go_wp2
          go_quiet (fail)
          go_wp2
          obtain ⟨nqa, hnqa⟩ : ∃ x, x = nq := ⟨_, rfl⟩
          subst hnqa
          go_quiet (fail)
          go_wp2
          obtain ⟨nqb, hnqb⟩ : ∃ x, x = nq := ⟨_, rfl⟩
          subst hnqb
          have HFI : Hid (insA (us.take (i + 1)) = U.take k ++ xb :: U.drop k) := by
            show _ = _
            rw [HTK.out, insA_snoc, HU.out, HINS.out hlow (by have := HON.out; omega) (fun h => by have := HON.out; omega), if_neg (by rw [List.getElem?_eq_none (by have := HON.out; omega)]; simp)]
          clear hlow HINS
          have hwz : w.heap.size ≤ W.heap.size := (HB3.out.trans (HBW.out.mono HB3.out.size)).size
          have hUl : U.length ≤ 1000000 := by have := HON.out; have := HI.out; have := HLN.out; omega
          have hkU2 : k ≤ U.length := by have := HON.out; omega
          have hkl : (U.take k).length = k := by rw [List.length_take]; omega
          have hSU0 : SU W (.slice oo U.length oc) U := by rw [HON.out]; exact HSU.out
          have HSUK : Hid (∀ wx, Below W.heap.size W wx → SU wx (.slice oo k oc) (U.take k)) := fun wx hb => (hSU0.take k hkU2).below hb
          have HCUT := hide (cut_hS oo k oc k (by omega) hoc1 (by omega))
          have HNU : Hid ((U.take k).length ≤ 1000000 ∧ (U.take k).length = k ∧ w.heap.size ≤ W.heap.size) := ⟨by omega, hkl, hwz⟩
          obtain ⟨ad, cd, hcl, hcd⟩ := cut_lS oo U oc k hkU2 (by have := HON.out; omega) (by omega)
          rw [HON.out, Nat.sub_self] at hcl
          have hrl : (U.drop k).length = 0 := by rw [List.length_drop, HON.out, Nat.sub_self]
          have HAP : Hid (∀ X a c, Below W.heap.size W X → StU X w.heap.size (.slice a (k + 1) c) (U.take k ++ [xb]) → (∀ j, (Value.slice a (k + 1) c).ownBlock = some j → W.heap.size ≤ j) → ∃ v3 X3, (Builtin.append_ #[23, 23] 23 #[.slice a (k + 1) c, .slice ad 0 cd]).run Tryd.prog X = .ok v3 X3 ∧ StU X3 w.heap.size v3 (insA (us.take (i + 1))) ∧ Below w3.heap.size w3 X3) := fun X a c hb hs ho => by
            have hsd : SU X (.slice ad 0 cd) (U.drop k) := by
              have := hcd X (hSU0.below hb)
              rw [HON.out, Nat.sub_self] at this
              exact this
            obtain ⟨v3, X3, h1, h2, h3, _, _⟩ := app_u X w.heap.size _ (U.take k ++ [xb]) hs ad 0 cd (U.drop k) hsd (by simp; have := HI.out; have := HLN.out; omega) (by rw [hrl]; have := HON.out; omega) (by have := hb.size; omega)
            refine ⟨v3, X3, h1, ?_, HBW.out.trans ((hb.trans (((Only.refl (fun j => (Value.slice a (k + 1) c).ownBlock = some j) X).grown h3 (fun j e _ => e)).below hb.size (fun j hj e => by have := ho j e; omega))).mono HBW.out.size)⟩
            rw [HFI.out]
            rw [List.append_assoc] at h2
            exact h2
          have HRL : Hid ((insA (us.take (i + 1))).length ≤ i + 1) := by
            show _ ≤ _
            rw [HFI.out, List.length_append, List.length_cons, hkl, hrl]
            have := HI.out
            omega
          clear hwz hUl hkU2 hSU0 hcd hrl
          refine wp_region_set [some (.slice none 0 0), some (.slice oo k oc), some (.int .i64 (k : Int)), some (.slice oo k oc), none, some (.slice (some ⟨tb, toff, none⟩) tl lc), some (.int .i64 (i : Int)), some (.pointer (some ⟨tb, toff + i * 2, none⟩)), some (.pointer (some ⟨tb, toff + i * 2, none⟩)), some (.string sb), none, none, none] [4, 10, 11, 12] (inS W w.heap.size (U.take k) xb) 71 (by kernel_rfl) (by kernel_rfl) (by kernel_rfl) (by kernel_rfl) rfl ?_ ?_ ?_ ?_
          · exact fun vals0 => inS.start (by first | exact (below_drewT (Below.refl _ W) _).drew | exact (below_drewN (below_drewN (below_drewN (Below.refl _ W) _) _) _).drew)
          · exact fun D D' vals vals' X hv hs => hs.ind hv
          · refine ⟨?_, ?_, ?_, ?_, ?_, ?_, ?_, ?_, ?_, ?_, ?_, ?_, ?_, trivial⟩
            · intro D vals act wx hu h hs
              have e9 : act.eval (.tmp 9) = .slice none 0 0 := h.old 9 (by kernel_rfl)
              clear h
              refine gives_by rfl act.eval rfl ?_
              generalize act.eval = ρ at *
              intro hf hc
              go_simp
              exact ⟨rfl, hs⟩
            · intro D vals act wx hu h hs
              have e5 : act.eval (.tmp 5) = .slice oo k oc := h.old 5 (by kernel_rfl)
              clear h
              refine gives_by rfl act.eval rfl ?_
              generalize act.eval = ρ at *
              intro hf hc
              go_simp
              exact ⟨rfl, hs⟩
            · intro D vals act wx hu h hs
              have e8 : act.eval (.tmp 8) = .int .i64 (k : Int) := h.old 8 (by kernel_rfl)
              clear h
              refine gives_by rfl act.eval rfl ?_
              generalize act.eval = ρ at *
              intro hf hc
              go_simp
              exact ⟨rfl, hs⟩
            · intro D vals act wx hu h hs
              have e54 : act.eval (.tmp 54) = .slice oo k oc := h.q 1 54 (by kernel_rfl) rfl
              have e55 : act.eval (.tmp 55) = .int .i64 (k : Int) := h.q 2 55 (by kernel_rfl) rfl
              clear h
              exact gives_of_run rfl (exec_slice_hi 23 tyStr (.tmp 54) (.tmp 55) rfl _ _ _ e54 e55 (HCUT.out wx)) ⟨rfl, hs⟩
            · intro D vals act wx hu h hs
              have e53 : act.eval (.tmp 53) = .slice none 0 0 := h.q 0 53 (by kernel_rfl) rfl
              have e56 : act.eval (.tmp 56) = .slice oo k oc := h.q 3 56 (by kernel_rfl) rfl
              clear h
              obtain ⟨v1, X1, hr1, hs1, hg1, ho1, _⟩ := app_u wx w.heap.size (.slice none 0 0) [] (StU.nil _ _) oo k oc (U.take k) (HSUK.out wx hs.1) (by simp) HNU.out.1 (by have := hs.1.size; have := HNU.out.2.2; omega)
              rw [List.nil_append] at hs1
              exact gives_of_run rfl (exec_appR 23 (.tmp 53) (.tmp 56) rfl _ _ _ e53 e56 hr1) (inS.app1 hs (hu.not 11 (by decide) (by kernel_rfl)) (hu.not 12 (by decide) (by kernel_rfl)) hs1 hg1 ho1)
            · intro D vals act wx hu h hs
              have e6 : act.eval (.tmp 6) = .slice (some ⟨tb, toff, none⟩) tl lc := h.old 6 (by kernel_rfl)
              clear h
              refine gives_by rfl act.eval rfl ?_
              generalize act.eval = ρ at *
              intro hf hc
              go_simp
              exact ⟨rfl, hs⟩
            · intro D vals act wx hu h hs
              have e7 : act.eval (.tmp 7) = .int .i64 (i : Int) := h.old 7 (by kernel_rfl)
              clear h
              refine gives_by rfl act.eval rfl ?_
              generalize act.eval = ρ at *
              intro hf hc
              go_simp
              exact ⟨rfl, hs⟩
            · intro D vals act wx hu h hs
              have e58 : act.eval (.tmp 58) = .slice (some ⟨tb, toff, none⟩) tl lc := h.q 5 58 (by kernel_rfl) rfl
              have e59 : act.eval (.tmp 59) = .int .i64 (i : Int) := h.q 6 59 (by kernel_rfl) rfl
              clear h
              refine gives_by rfl act.eval rfl ?_
              generalize act.eval = ρ at *
              intro hf hc
              go_simp
              exact ⟨rfl, hs⟩
            · intro D vals act wx hu h hs
              have e60 : act.eval (.tmp 60) = .pointer (some ⟨tb, toff + i * 2, none⟩) := h.q 7 60 (by kernel_rfl) rfl
              clear h
              refine gives_by rfl act.eval rfl ?_
              generalize act.eval = ρ at *
              intro hf hc
              go_simp
              exact ⟨rfl, hs⟩
            · intro D vals act wx hu h hs
              have e61 : act.eval (.tmp 61) = .pointer (some ⟨tb, toff + i * 2, none⟩) := h.q 8 61 (by kernel_rfl) rfl
              clear h
              have cx := HT0.out wx (HBW.out.trans (hs.1.mono HBW.out.size))
              refine gives_by rfl act.eval rfl ?_
              generalize act.eval = ρ at *
              intro hf hc
              go_simp
              exact ⟨rfl, hs⟩
            · intro D vals act wx hu h hs
              have e62 : act.eval (.tmp 62) = .string sb := h.q 9 62 (by kernel_rfl) rfl
              clear h
              refine gives_by rfl act.eval rfl ?_
              generalize act.eval = ρ at *
              intro hf hc
              go_simp
              exact inS.build hs (hu.not 11 (by decide) (by kernel_rfl)) (hu.not 12 (by decide) (by kernel_rfl)) HSB.out rfl
            · intro D vals act wx hu h hs
              have e57 : act.eval (.tmp 57) = vals 4 := h.val 4 57 (by kernel_rfl)
              have e63 : act.eval (.tmp 63) = vals 10 := h.val 10 63 (by kernel_rfl)
              clear h
              obtain ⟨g1, g2⟩ := hs.2.1 (hu.done 4 (by kernel_rfl)) hu.self
              obtain ⟨g3, a9, c9, h9⟩ := hs.2.2.1 (hu.done 10 (by kernel_rfl)) hu.self
              rw [h9] at g3 e63
              obtain ⟨v2, X2, hr2, hs2, hg2, ho2, _⟩ := app_u wx w.heap.size (vals 4) (U.take k) g1 a9 1 c9 [xb] g3 HNU.out.1 (by simp) (by have := hs.1.size; have := HNU.out.2.2; omega)
              exact gives_of_run rfl (exec_appR 23 (.tmp 57) (.tmp 63) rfl _ _ _ e57 e63 hr2) (inS.app2 hs (hu.done 4 (by kernel_rfl)) hu.self (hu.not 12 (by decide) (by kernel_rfl)) hs2 hg2 ho2)
            · intro D vals act wx hu h hs
              have e64 : act.eval (.tmp 64) = vals 11 := h.val 11 64 (by kernel_rfl)
              clear h
              exact gives_of_run rfl (exec_assign (.tmp 64) rfl _ e64) (inS.asg hs (hu.done 11 (by kernel_rfl)))
          · intro D vals w5 hq hD hs
            obtain ⟨p1, _, _, p4, p5⟩ := hs
            obtain ⟨s1, s2⟩ := p4 (hD 11 (by decide))
            have hv12 := p5 (hD 12 (by decide))
            obtain ⟨a2, c2, hv⟩ := s1.shape
            rw [List.length_append, HNU.out.2.1, List.length_singleton] at hv
            rw [hv] at s1 s2 hv12
            obtain ⟨v3, X3, hr3, hs3, hb3⟩ := HAP.out w5 a2 c2 p1 s1 s2
            have HR3 := hide hr3
            have HX3 : Hid (StU X3 w.heap.size v3 (insA (us.take (i + 1))) ∧ Below w3.heap.size w3 X3) := ⟨hs3, hb3⟩
            simp only [putAll, Act.put, List.setIfInBounds_toArray, List.set_cons_zero, List.set_cons_succ, Nat.zero_add, Nat.reduceAdd]
            rw [hv12]
            clear hv12 hv s1 s2 p1 p4 p5 hq hD hr3 hs3 hb3 HAP HNU HSUK HCUT
            generalize vals 0 = x0 at *
            generalize vals 1 = x1 at *
            generalize vals 2 = x2 at *
            generalize vals 3 = x3 at *
            generalize vals 4 = x4 at *
            generalize vals 5 = x5 at *
            generalize vals 6 = x6 at *
            generalize vals 7 = x7 at *
            generalize vals 8 = x8 at *
            generalize vals 9 = x9 at *
            generalize vals 10 = x10 at *
            generalize vals 11 = x11 at *
            go_wp2_with (at_builtin; (with_reducible refine wpList_append_run _ rfl (.tmp 65) (.tmp 68) 23 rfl _ _ ?_ ?_ _ _ HR3.out ?_); exact rfl; exact rfl; clear HR3)
            go_roundg (GK - 1)
            case measure => have := HGK.out; have := HG.out; omega
            case rel => exact ⟨i + 1, _, by have := HGK.out; have := HG.out; omega, rfl, by go_num, HX3.out.2, HX3.out.1, HRL.out⟩
    · obtain rfl : i = tl := by omega
      go_wp2
      go_ret
      have hU := HU.out
      rw [List.take_of_length_le (by rw [HUL.out]; exact Nat.le_refl _)] at hU
      exact ⟨_, rfl, by rw [hU]; exact HST.out, HB3.out.trans (HBW.out.mono HB3.out.size)⟩

end Go.Proofs.YtimmfnjkknbofaaDoor
