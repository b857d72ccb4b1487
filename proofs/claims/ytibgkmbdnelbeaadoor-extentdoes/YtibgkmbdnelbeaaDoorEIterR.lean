/- Contracts: package extent's Runs, as an iterator; of sets that no call made. -/
import Derived.Test.YtibgkmbdnelbeaaDoorEIter
namespace Go.Proofs.YtibgkmbdnelbeaaDoor
set_option maxRecDepth 20000
open Go.RowKit Go.Shelf
set_option linter.unusedVariables false
set_option maxRecDepth 100000
attribute [local go_sem] Oper.semAt_some

def isSet (B n : Nat) (f : Nat → Bool) : Value → World → Prop := fun v w => ∃ c, v = dp c ∧ B ≤ c ∧ SetB w c n f
theorem stable_isSet (B n : Nat) (f : Nat → Bool) : ∀ v w w', Below w.heap.size w w' → isSet B n f v w → isSet B n f v w' := fun v w w' hb ⟨c, h1, h2, h3⟩ => ⟨c, h1, h2, h3.below hb⟩

set_option maxHeartbeats 2000000 in
theorem runs_iter (Bs b n : Nat) (f : Nat → Bool) : Iter Tryd.prog 40 #[.pointer (some ⟨Bs, 0, none⟩)] encR (runsF f n) (SetV Bs b n f) := by
  intro l J Jx hJ hV hY Y W h0
  obtain ⟨hT, hz⟩ := hV Y 0 W h0
  obtain ⟨hc, hs⟩ := hz rfl
  have hbs : Bs < W.heap.size := World.block_lt_of_cell? W _ hc
  have HV0 : Hid (∀ w, Below W.heap.size W w → w.cell? ⟨Bs, 0, none⟩ = some (dp b) ∧ SetB w b n f) := fun w hb => ⟨(hb.cell (p := ⟨Bs, 0, none⟩) hbs).trans hc, hs.below hb⟩
  have HT := hide hT
  have hn := hs.hi
  have HJ := hide hJ
  have HV := hide hV
  have HY := hide hY
  have H0 := hide h0
  clear hT hz hs hJ hV hY h0 hc hbs
  refine callsIn_of_wp Tryd.func40 rfl trivial ?_ rfl
  simp only [Tryd.ntmps40, List.size_toArray, List.length_cons, List.length_nil, Nat.reduceAdd, Nat.reduceSub, Array.replicate_succ, Array.replicate_zero, List.push_toArray, List.append_toArray, List.nil_append, List.cons_append]
  gi_wp2
  refine wpIn_wide.2 ?_
  refine wp_region_facts (FL [isV (dp b), isSet W.heap.size n f, isV (dp b), isSet W.heap.size n (ntF n f), isSet W.heap.size n f, isSet W.heap.size n (ntF n f)]) 32 (by kernel_rfl) (by kernel_rfl) (by kernel_rfl) rfl (FL_stable _ (by repeat (first | exact trivial | refine ⟨stable_isV _, ?_⟩ | refine ⟨stable_isSet _ _ _, ?_⟩))) ?_ ?_
  · refine ⟨?_, ?_, ?_, ?_, ?_, ?_, trivial⟩
    · intro a w h
      have e1 : a.eval (.tmp 1) = .pointer (some ⟨Bs, 0, none⟩) := h.old 1 (by kernel_rfl)
      have hbel := h.below
      clear h
      have c0 := (HV0.out w hbel).1
      refine gives_by rfl a.eval rfl ?_
      generalize a.eval = ρ at *
      intro hf hc
      go_simp
      exact ⟨Below.refl _ _, rfl⟩
    · intro a w h
      obtain ⟨v7, e7, f7⟩ := h.val 0 7 (by kernel_rfl)
      obtain rfl : v7 = dp b := f7
      have hbel := h.below
      clear h
      refine gives_by rfl a.eval rfl ?_
      generalize a.eval = ρ at *
      intro hf hc
      go_simp
      refine (clone_any w b n f (HV0.out w hbel).2).mono ?_
      rintro e wy ⟨rfl, hw⟩
      have hbw : Below w.heap.size w wy := by rw [hw]; exact (Below.refl _ w).alloc (Nat.le_refl _) _
      exact ⟨_, rfl, hbw, _, rfl, hbel.size, ⟨by rw [hw]; exact Blk.new w _ _, (HV0.out w hbel).2.lo, (HV0.out w hbel).2.hi, (HV0.out w hbel).2.out⟩⟩
    · intro a w h
      have e1 : a.eval (.tmp 1) = .pointer (some ⟨Bs, 0, none⟩) := h.old 1 (by kernel_rfl)
      have hbel := h.below
      clear h
      have c0 := (HV0.out w hbel).1
      refine gives_by rfl a.eval rfl ?_
      generalize a.eval = ρ at *
      intro hf hc
      go_simp
      exact ⟨Below.refl _ _, rfl⟩
    · intro a w h
      obtain ⟨v9, e9, f9⟩ := h.val 2 9 (by kernel_rfl)
      obtain rfl : v9 = dp b := f9
      have hbel := h.below
      clear h
      refine gives_by rfl a.eval rfl ?_
      generalize a.eval = ρ at *
      intro hf hc
      go_simp
      refine (not_any w b n f (HV0.out w hbel).2).mono ?_
      rintro e wy ⟨rfl, hs, hb⟩
      exact ⟨_, rfl, hb, _, rfl, hbel.size, hs⟩
    · intro a w h
      obtain ⟨v8, e8, f8⟩ := h.val 1 8 (by kernel_rfl)
      obtain _ := f8
      have hbel := h.below
      clear h
      refine gives_by rfl a.eval rfl ?_
      generalize a.eval = ρ at *
      intro hf hc
      go_simp
      exact ⟨Below.refl _ _, f8⟩
    · intro a w h
      obtain ⟨v10, e10, f10⟩ := h.val 3 10 (by kernel_rfl)
      obtain _ := f10
      have hbel := h.below
      clear h
      refine gives_by rfl a.eval rfl ?_
      generalize a.eval = ρ at *
      intro hf hc
      go_simp
      exact ⟨Below.refl _ _, f10⟩
  · intro vals W1 hb1 hv
    have hv4 : isSet W.heap.size n f (vals 4) W1 := hv 4 3 (by kernel_rfl)
    have hv5 : isSet W.heap.size n (ntF n f) (vals 5) W1 := hv 5 4 (by kernel_rfl)
    clear hv
    generalize hact : putAll _ vals 0 _ = act
    obtain ⟨c, hq4, hc1, hs1⟩ := hv4
    obtain ⟨d, hq5, hd1, hg1⟩ := hv5
    have HJ1 := hide (HJ.out Y 0 W W1 H0.out hb1)
    have HZ1 : Hid (more Y W W1 c ∧ more Y W W1 d) := ⟨.inr ⟨hc1, hs1.lt⟩, .inr ⟨hd1, hg1.lt⟩⟩
    have HF := hide (first_any W1 c n f 0 hs1 (HT.out.below hb1))
    have HS1 := hide hs1
    have HG1 := hide hg1
    clear hb1 hc1 hd1 hs1 hg1 HV0 H0
    subst hact
    simp only [putAll, Act.put, List.setIfInBounds_toArray, List.set_cons_zero, List.set_cons_succ, hq4, hq5, Nat.zero_add, Nat.reduceAdd]
    clear hq4 hq5
    gi_wp2_with (first
      | (refine ⟨trivial, ?_⟩; gi_at_call 27; refine (callsIn_wide.2 HF.out).mono ?_; rintro e w1 ⟨r, rfl, hr, hw⟩; subst w1; have HR := hide hr; clear HF hr))
    gi_loopw [5, 6] (fun pv ev wr => ∃ (P k u : Nat) (Z : Nat → Prop), pv = .int .i64 (fstI (fstN f n P)) ∧ n < u + P ∧ k ≤ (runsF f n).length ∧ rl f n u P = (runsF f n).drop k ∧ J Z k wr ∧ SetB wr c n f ∧ SetB wr d n (ntF n f) ∧ Z c ∧ Z d) (fun pv _ _ => pvM n pv)
    case atStart => exact ⟨0, 0, n + 1, _, by rw [IsFst.eq (p := 0) HR.out], by omega, Nat.zero_le _, rfl, HJ1.out, HS1.out, HG1.out, HZ1.out.1, HZ1.out.2⟩
    case round =>
      obtain ⟨P, k, u, Z, rfl, hu, hk, hd, hj, hs, hg, hz, hz2⟩ := hrel
      have HJJ := hide hj
      have HS := hide hs
      have HG := hide hg
      have HZ := hide hz
      have HZ2 := hide hz2
      have HD := hide hd
      clear hj hs hg hz hz2 hd HR HJ1 HS1 HG1 HZ1
      cases hq : fstN f n P with
      | none =>
        have he : (runsF f n).drop k = [] := by rw [← HD.out, rl_none hq]
        have hkl : k = (runsF f n).length := by
          have := List.drop_eq_nil_iff.1 he
          omega
        subst hkl
        simp only [fstI_none]
        clear he hq
        gi_wp2
        go_end0
        exact ⟨⟨_, rfl⟩, Z, .inl HJJ.out⟩
      | some q =>
        obtain ⟨h1, h2, h3, h4⟩ := fstN_some hq
        obtain ⟨e1, e2, e3, e4⟩ := endN_spec h2 h3
        obtain ⟨u, rfl⟩ : ∃ u', u = u' + 1 := ⟨u - 1, by omega⟩
        have he := HD.out
        rw [rl_some hq] at he
        have hkl : k < (runsF f n).length := by
          rcases Nat.lt_or_ge k (runsF f n).length with h | h
          · exact h
          · rw [List.drop_of_length_le h] at he; cases he
        have hx : (runsF f n)[k] = (q, endN f n q - q) ∧ (runsF f n).drop (k + 1) = rl f n u (endN f n q) := by
          rw [List.drop_eq_getElem_cons hkl] at he
          simp only [List.cons.injEq] at he
          exact ⟨he.1.symm, he.2.symm⟩
        have HG0 := hide (first_any wr d n (ntF n f) (q : Int) HG.out (HV.out Z k wr HJJ.out).1)
        have hy0 := HY.out Z k hkl wr HJJ.out
        rw [hx.1] at hy0
        have HE := hide hx.2
        obtain ⟨E, hE⟩ : ∃ E, endN f n q = E := ⟨_, rfl⟩
        have hEE : fstN (ntF n f) n q = none ∧ E = n ∨ fstN (ntF n f) n q = some E := by
          unfold endN at hE
          cases hg : fstN (ntF n f) n q with
          | none => rw [hg] at hE; exact .inl ⟨rfl, hE.symm⟩
          | some e => rw [hg] at hE; exact .inr (congrArg some hE)
        rw [hE] at e1 e2 HE hy0
        obtain ⟨fn, tmps, assign, body, hyy, hR⟩ := hy0
        have HRR := hide hR
        have HSZ := hide (size_any wr c n f HS.out)
        have hsub : (E : Int) - (q : Int) = ((E - q : Nat) : Int) := by omega
        obtain ⟨M, hM⟩ : ∃ M, E - q = M := ⟨_, rfl⟩
        rw [hM] at hsub hyy
        have HMX := hide hM
        have HU : Hid (n < u + E) := by show _ < _; omega
        simp only [fstI_some]
        -- behind the yield
        have HN : Hid (∀ W3, J Z (k + 1) W3 → KeepsY Z wr W3 → (Calls Tryd.prog 27 #[dp c, .int .i64 (E : Int)] W3 fun e w' => ∃ r, e = .returned (.int .i64 r) ∧ IsFst f n (E : Int) r ∧ w' = W3) ∧ SetB W3 c n f ∧ SetB W3 d n (ntF n f)) := fun W3 hj hk => by
          have hs3 := HS.out.keepY hk HZ.out
          exact ⟨first_any W3 c n f (E : Int) hs3 (HV.out Z (k + 1) W3 hj).1, hs3, HG.out.keepY hk HZ2.out⟩
        clear hR he hx h1 h3 h4 hq e3 e4 hE hM
        rcases hEE with ⟨hg, rfl⟩ | hg
        all_goals
          have HGQ := hide hg
          clear hg
          gi_wp2_with (first
            | (refine ⟨trivial, ?_⟩; gi_at_call 27; refine (callsIn_wide.2 HG0.out).mono ?_; rintro e w1 ⟨r, rfl, hr, hw⟩; subst w1; have hr := IsFst.eq (p := q) hr; rw [HGQ.out] at hr; simp only [fstI_none, fstI_some] at hr; subst hr; clear HG0)
            | (refine ⟨trivial, ?_⟩; gi_at_call 25; refine (callsIn_wide.2 HSZ.out).mono ?_; rintro e w1 ⟨rfl, hw⟩; subst w1; clear HSZ))
          refine HRR.out.mono ?_
          rintro e W3 (⟨rfl, hJ3, hkY⟩ | ⟨rfl, hJx3⟩)
          · have HJ3 := hide hJ3
            obtain ⟨hF, hs3, hg3⟩ := HN.out W3 hJ3 hkY
            have HF := hide hF
            have HS3 := hide hs3
            have HG3 := hide hg3
            clear hJ3 hkY HRR hyy hs3 hg3 hF HN
            gi_wp2_with (first
              | (refine ⟨trivial, ?_⟩; gi_at_call 27; refine (callsIn_wide.2 HF.out).mono ?_; rintro e w1 ⟨r, rfl, hr, hw⟩; subst w1; have HR := hide hr; clear HF hr))
            have hr := IsFst.eq HR.out
            go_roundw
            case rel => exact ⟨_, k + 1, u, Z, by rw [hr], HU.out, by omega, HE.out.symm, HJ3.out, HS3.out, HG3.out, HZ.out, HZ2.out⟩
            case measure =>
              rw [hr]
              exact pvM_lt f _ q _ (by omega) h2
          · have HJ3 := hide hJx3
            clear hJx3 HRR hyy
            gi_wp2
            refine bodyPost_ret (results_none rfl _ _ _) rfl ?_
            exact ⟨⟨_, rfl⟩, Z, .inr ⟨k, hkl, HJ3.out⟩⟩

/-- a set that no call made -/
structure Unmade (w : World) (pv : Option Addr) : Prop where
  clone : Calls Tryd.prog 11 #[.pointer pv] w fun e w' => e = .returned (.pointer none) ∧ w' = w
  nt : Calls Tryd.prog 24 #[.pointer pv] w fun e w' => e = .returned (.pointer none) ∧ w' = w
theorem unmade_nil (w : World) : Unmade w none := ⟨clone_nil w, not_nil w⟩
theorem unmade_zero (w : World) (b : Nat) (c0 : w.cell? ⟨b, 0, none⟩ = some (.int .i64 0)) : Unmade w (some ⟨b, 0, none⟩) := ⟨clone_zero w b c0, not_zero w b c0⟩
def NoV (Bs : Nat) (pv : Option Addr) (k : Nat) (W : World) : Prop := k = 0 → ∀ W', Below W.heap.size W W' → W'.cell? ⟨Bs, 0, none⟩ = some (.pointer pv) ∧ Unmade W' pv

set_option maxHeartbeats 2000000 in
theorem all_iter_none (Bs : Nat) (pv : Option Addr) : Iter Tryd.prog 45 #[.pointer (some ⟨Bs, 0, none⟩)] encP [] (NoV Bs pv) := by
  intro l J Jx hJ hV hY Y W h0
  obtain ⟨hc, hu⟩ := hV Y 0 W h0 rfl W (Below.refl _ _)
  have HCL := hide hu.clone
  have HF := hide (first_nil W 0)
  have H0 := hide h0
  clear hJ hV hY h0 hu
  refine callsIn_of_wp Tryd.func45 rfl trivial ?_ rfl
  simp only [Tryd.ntmps45, List.size_toArray, List.length_cons, List.length_nil, Nat.reduceAdd, Nat.reduceSub, Array.replicate_succ, Array.replicate_zero, List.push_toArray, List.append_toArray, List.nil_append, List.cons_append]
  gi_wp2_with (first
    | (refine ⟨trivial, ?_⟩; gi_at_call 11; refine (callsIn_wide.2 HCL.out).mono ?_; rintro e w1 ⟨rfl, hw⟩; subst w1; clear HCL)
    | (refine ⟨trivial, ?_⟩; gi_at_call 27; refine (callsIn_wide.2 HF.out).mono ?_; rintro e w1 ⟨rfl, hw⟩; subst w1; clear HF))
  gi_loopw [4] (fun p wr => p = .int .i64 (-1) ∧ W = wr) (fun _ _ => 0)
  case atStart => exact ⟨rfl, rfl⟩
  case round =>
    obtain ⟨rfl, rfl⟩ := hrel
    gi_wp2
    go_end0
    exact ⟨⟨_, rfl⟩, Y, .inl H0.out⟩

set_option maxHeartbeats 2000000 in
theorem runs_iter_none (Bs : Nat) (pv : Option Addr) : Iter Tryd.prog 40 #[.pointer (some ⟨Bs, 0, none⟩)] encR [] (NoV Bs pv) := by
  intro l J Jx hJ hV hY Y W h0
  have HV0 := hide (hV Y 0 W h0 rfl)
  have HJ := hide hJ
  have H0 := hide h0
  clear hJ hV hY h0
  refine callsIn_of_wp Tryd.func40 rfl trivial ?_ rfl
  simp only [Tryd.ntmps40, List.size_toArray, List.length_cons, List.length_nil, Nat.reduceAdd, Nat.reduceSub, Array.replicate_succ, Array.replicate_zero, List.push_toArray, List.append_toArray, List.nil_append, List.cons_append]
  gi_wp2
  refine wpIn_wide.2 ?_
  refine wp_region_facts (FL [isV (.pointer pv), isV (.pointer none), isV (.pointer pv), isV (.pointer none), isV (.pointer none), isV (.pointer none)]) 32 (by kernel_rfl) (by kernel_rfl) (by kernel_rfl) rfl (FL_stable _ (by repeat (first | exact trivial | refine ⟨stable_isV _, ?_⟩))) ?_ ?_
  · refine ⟨?_, ?_, ?_, ?_, ?_, ?_, trivial⟩
    · intro a w h
      have e1 : a.eval (.tmp 1) = .pointer (some ⟨Bs, 0, none⟩) := h.old 1 (by kernel_rfl)
      have hbel := h.below
      clear h
      have c0 := (HV0.out w hbel).1
      refine gives_by rfl a.eval rfl ?_
      generalize a.eval = ρ at *
      intro hf hc
      go_simp
      exact ⟨Below.refl _ _, rfl⟩
    · intro a w h
      obtain ⟨v7, e7, f7⟩ := h.val 0 7 (by kernel_rfl)
      obtain rfl : v7 = .pointer pv := f7
      have hbel := h.below
      clear h
      refine gives_by rfl a.eval rfl ?_
      generalize a.eval = ρ at *
      intro hf hc
      go_simp
      refine ((HV0.out w hbel).2.clone).mono ?_
      rintro e wy ⟨rfl, hw⟩
      subst wy
      exact ⟨_, rfl, Below.refl _ _, rfl⟩
    · intro a w h
      have e1 : a.eval (.tmp 1) = .pointer (some ⟨Bs, 0, none⟩) := h.old 1 (by kernel_rfl)
      have hbel := h.below
      clear h
      have c0 := (HV0.out w hbel).1
      refine gives_by rfl a.eval rfl ?_
      generalize a.eval = ρ at *
      intro hf hc
      go_simp
      exact ⟨Below.refl _ _, rfl⟩
    · intro a w h
      obtain ⟨v9, e9, f9⟩ := h.val 2 9 (by kernel_rfl)
      obtain rfl : v9 = .pointer pv := f9
      have hbel := h.below
      clear h
      refine gives_by rfl a.eval rfl ?_
      generalize a.eval = ρ at *
      intro hf hc
      go_simp
      refine ((HV0.out w hbel).2.nt).mono ?_
      rintro e wy ⟨rfl, hw⟩
      subst wy
      exact ⟨_, rfl, Below.refl _ _, rfl⟩
    · intro a w h
      obtain ⟨v8, e8, f8⟩ := h.val 1 8 (by kernel_rfl)
      obtain rfl : v8 = .pointer none := f8
      have hbel := h.below
      clear h
      refine gives_by rfl a.eval rfl ?_
      generalize a.eval = ρ at *
      intro hf hc
      go_simp
      exact ⟨Below.refl _ _, rfl⟩
    · intro a w h
      obtain ⟨v10, e10, f10⟩ := h.val 3 10 (by kernel_rfl)
      obtain rfl : v10 = .pointer none := f10
      have hbel := h.below
      clear h
      refine gives_by rfl a.eval rfl ?_
      generalize a.eval = ρ at *
      intro hf hc
      go_simp
      exact ⟨Below.refl _ _, rfl⟩
  · intro vals W1 hb1 hv
    have hv4 : vals 4 = .pointer none := hv 4 3 (by kernel_rfl)
    have hv5 : vals 5 = .pointer none := hv 5 4 (by kernel_rfl)
    clear hv
    generalize hact : putAll _ vals 0 _ = act
    have HJ1 := hide (HJ.out Y 0 W W1 H0.out hb1)
    have HF := hide (first_nil W1 0)
    clear hb1 HV0 H0
    subst hact
    simp only [putAll, Act.put, List.setIfInBounds_toArray, List.set_cons_zero, List.set_cons_succ, hv4, hv5, Nat.zero_add, Nat.reduceAdd]
    clear hv4 hv5
    gi_wp2_with (first
      | (refine ⟨trivial, ?_⟩; gi_at_call 27; refine (callsIn_wide.2 HF.out).mono ?_; rintro e w1 ⟨rfl, hw⟩; subst w1; clear HF))
    gi_loopw [5, 6] (fun p _ wr => p = .int .i64 (-1) ∧ W1 = wr) (fun _ _ _ => 0)
    case atStart => exact ⟨rfl, rfl⟩
    case round =>
      obtain ⟨rfl, rfl⟩ := hrel
      gi_wp2
      go_end0
      exact ⟨⟨_, rfl⟩, _, .inl HJ1.out⟩

end Go.Proofs.YtibgkmbdnelbeaaDoor
