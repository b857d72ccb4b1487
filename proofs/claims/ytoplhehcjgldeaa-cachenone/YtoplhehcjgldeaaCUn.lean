/- Contracts: rising; unwritten, as an iterator. -/
import Derived.Test.YtoplhehcjgldeaaCIter2
import Derived.Test.YtoplhehcjgldeaaCRoom
namespace Go.Proofs.Ytoplhehcjgldeaa
open Go.RowKit Go.Shelf Go.Sort
set_option linter.unusedVariables false
set_option maxRecDepth 100000
attribute [local go_sem] Oper.semAt_some

abbrev srt (os : List Int) : List Int := os.mergeSort fun x y => decide (x ≤ y)

theorem enters_val : ∀ args w, (callFunc 64 args).run Try.prog w = .ok (.enter 64 args) w := enters_of Try.func64 (by kernel_rfl) rfl
theorem enters_un : ∀ args w, (callFunc 53 args).run Try.prog w = .ok (.enter 53 args) w := enters_of Try.func53 (by kernel_rfl) rfl

section
variable (w : World) (c b : Nat) (H : Nat → Prop) (size : Nat) (os : List Int) (l : List Hd) (hits misses : Nat)
theorem rising_any (h : CachH w c b H size os l hits misses) :
    Calls Try.prog 49 #[dp c] w fun e w' => ∃ v, e = .returned v ∧ Ints w' w.heap.size v (srt os) ∧ Below w.heap.size w w' := by
  obtain ⟨mb, vo, D, sl, h⟩ := h
  have HM := hide (cmade_any w c b h.blk.c0)
  have c3 := h.blk.c3
  have hfew := h.few
  obtain ⟨ao, cap, rfl⟩ := h.order.shape
  have HS : Hid (Calls Try.prog 57 #[.func (.func 64) #[] #[.pointer (some ⟨w.heap.size, 0, none⟩)]] (w.alloc (.cells #[.slice ao os.length cap] 38)) fun e w' => ∃ v, e = .returned v ∧ Ints w' w.heap.size v (srt os) ∧ Below w.heap.size w w') := by
    have hb := (Below.refl w.heap.size w).alloc (Nat.le_refl _) (.cells #[.slice ao os.length cap] 38)
    have hB := Blk.new w 38 [.slice ao os.length cap]
    refine (sorted_any _ 64 #[.pointer (some ⟨w.heap.size, 0, none⟩)] os (ValV w.heap.size (.slice ao os.length cap) os) enters_val (values_iter _ _ _ (by omega)) (fun k W' ho => ⟨(hB.only ho (fun h => h)).cell 0, (h.order.below hb).only ho (fun _ _ h => h)⟩) (by omega)).mono ?_
    rintro e w' ⟨v, rfl, hi, hb'⟩
    exact ⟨v, rfl, hi.base (by simp), after_alloc hb'⟩
  clear h hfew
  generalize os.length = n at *
  go_enter Try.func49, Try.ntmps49
  go_wp2_with (first
    | (go_at_call 29; refine HM.out.mono ?_; rintro e w1 ⟨rfl, hw⟩; subst w1; clear HM)
    | (go_at_call 58; refine (values_any w ao n cap).mono ?_; rintro e w1 ⟨rfl, hw⟩; subst w1)
    | (go_at_call 57; refine HS.out.mono ?_; rintro e w2 ⟨v2, rfl, hi2, hb2⟩; have HI2 := hide hi2; have HB2 := hide hb2; clear HS hi2 hb2))
  go_ret
  exact ⟨_, rfl, HI2.out, HB2.out⟩
end

theorem unwritten_any (w : World) (p : Option Addr) : Calls Try.prog 35 #[.pointer p] w fun e w' => e = .returned (.func (.func 53) #[] #[.pointer (some ⟨w.heap.size, 0, none⟩)]) ∧ w' = w.alloc (.cells #[.pointer p] 27) := by
  go_enter Try.func35, Try.ntmps35
  go_wp2
  go_ret
  exact ⟨rfl, rfl⟩

/-- what the iterator over changed pages reads, k of them having been told -/
def UnV (Bc c b : Nat) (os : List Int) (f : Int → Bool) (k : Nat) (W : World) : Prop := W.cell? ⟨Bc, 0, none⟩ = some (dp c) ∧ ∃ H size l hits misses, CachH W c b H size os l hits misses ∧ (∀ p ∈ os, ∃ h ∈ l, (h.p : Int) = p) ∧ (∀ h ∈ l, (h.p : Int) ∈ ((srt os).filter f).drop k → h.ch = true) ∧ (∀ h ∈ l, f h.p = false → h.ch = false)

theorem filt_step (R : List Int) (f : Int → Bool) (j : Nat) (hj : j < R.length) : (R.take (j + 1)).filter f = (R.take j).filter f ++ (if f R[j] = true then [R[j]] else []) := by
  rw [List.take_succ_eq_append_getElem hj, List.filter_append]
  congr 1
  rw [List.filter_cons]
  split <;> rfl
theorem filt_at (R : List Int) (f : Int → Bool) (j : Nat) (hj : j < R.length) (hf : f R[j] = true) : ∃ hk : ((R.take j).filter f).length < (R.filter f).length, (R.filter f)[((R.take j).filter f).length] = R[j] := by
  have e : R.filter f = (R.take j).filter f ++ (R[j] :: (R.drop (j + 1)).filter f) := by
    conv => lhs; rw [← List.take_append_drop j R, List.drop_eq_getElem_cons hj, List.filter_append, List.filter_cons, if_pos hf]
  have hk : ((R.take j).filter f).length < (R.filter f).length := by rw [e]; simp
  refine ⟨hk, ?_⟩
  have : (R.filter f)[((R.take j).filter f).length]? = some R[j] := by
    rw [e, List.getElem?_append_right (Nat.le_refl _)]; simp
  rw [List.getElem?_eq_getElem hk] at this
  exact Option.some.inj this

set_option maxHeartbeats 2000000 in
theorem un_iter (Bc c b : Nat) (os : List Int) (f : Int → Bool) : Iter Try.prog 53 #[.pointer (some ⟨Bc, 0, none⟩)] enc1 ((srt os).filter f) (UnV Bc c b os f) := by
  intro l J Jx hJ hV hY Y W h0
  obtain ⟨hc, H, size, ls, hits, misses, hC, _⟩ := hV Y 0 W h0
  have HR := hide (rising_any W c b H size os ls hits misses hC)
  have HJ := hide hJ
  have HV := hide hV
  have HY := hide hY
  have H0 := hide h0
  have hlen : os.length ≤ 1000 := by obtain ⟨_, _, _, _, h⟩ := hC; exact h.few
  clear hC hJ hV hY h0
  refine callsIn_of_wp Try.func53 rfl trivial ?_ rfl
  simp only [Try.ntmps53, List.size_toArray, List.length_cons, List.length_nil, Nat.reduceAdd, Nat.reduceSub, Array.replicate_succ, Array.replicate_zero, List.push_toArray, List.append_toArray, List.nil_append, List.cons_append]
  obtain ⟨R, hR⟩ : ∃ R, srt os = R := ⟨_, rfl⟩
  have hRl : R.length ≤ 1000 := by rw [← hR, List.length_mergeSort]; exact hlen
  have hRm : ∀ x ∈ R, x ∈ os := fun x hx => by rw [← hR] at hx; exact (List.mem_mergeSort).1 hx
  rw [hR] at HR HY ⊢
  have HRM := hide hRm
  have HRE := hide hR
  clear hRm hR
  gi_wp2_with (first
    | (refine ⟨trivial, ?_⟩; gi_at_call 49; refine (callsIn_wide.2 HR.out).mono ?_; rintro e W1 ⟨v1, rfl, hi1, hb1⟩; have hJ1 := HJ.out Y 0 W W1 H0.out hb1; obtain ⟨ao, cap, rfl⟩ := hi1.shape; have HI1 := hide hi1; have HB1 := hide hb1; have HJ1 := hide hJ1; clear HR hi1 hb1 hJ1))
  have hcap : R.length ≤ cap ∧ cap ≤ 9223372036854775807 := by
    have := own_len HI1.out
    unfold maxLen at this
    exact this
  obtain ⟨hcap1, hcap2⟩ := hcap
  clear hc HJ H0
  gi_loopw [4, 8] (fun pp i wr => ∃ (j k : Nat) (Z : Nat → Prop), j ≤ R.length ∧ i = .int .i64 j ∧ k = ((R.take j).filter f).length ∧ J Z k wr ∧ Ints wr W.heap.size (.slice ao R.length cap) R ∧ (∀ q, (Value.slice ao R.length cap).ownBlock = some q → Z q)) (fun _ i _ => R.length - (intOf i).toNat)
  case atStart =>
    refine ⟨0, 0, _, Nat.zero_le _, rfl, by simp, HJ1.out, HI1.out, fun q hq => .inr ?_⟩
    have := HI1.out.lt q hq
    exact this
  case round =>
    obtain ⟨j, k, Z, hj, rfl, hkj, hjz, hi, hz⟩ := hrel
    have HJZ := hide hjz
    have HI := hide hi
    have HZ := hide hz
    have HK := hide hkj
    clear hjz hi hz hkj HJ1 HI1 HB1
    by_cases hjl : j < R.length
    · have hji : (j : Int) < (R.length : Int) := by omega
      obtain ⟨x, hx⟩ : ∃ x, R[j] = x := ⟨_, rfl⟩
      obtain ⟨hc, H', size', l', hits', misses', hC', hall, hyes, hno⟩ := HV.out Z k wr HJZ.out
      obtain ⟨y, hy, hyp⟩ := hall x (HRM.out x (hx ▸ List.getElem_mem hjl))
      obtain ⟨mb, vo, D, sl, hC⟩ := hC'
      have c2 := hC.blk.c2
      have hlk := hC.slots.look hy
      rw [hyp] at hlk
      have hB := hC.slots.slot y hy
      have hok := (hC.slots.ok y hy).2
      have c256 : wr.cell? ⟨sl y.p, 256, none⟩ = some (.bool y.ch) := (hB.cell 256).trans (sc_ch hok)
      obtain ⟨s, hs⟩ : ∃ s, sl y.p = s := ⟨_, rfl⟩
      rw [hs] at hlk c256
      obtain ⟨g, rfl, hcell⟩ : ∃ g, ao = some ⟨g, 0, none⟩ ∧ wr.cell? ⟨g, j, none⟩ = some (.int .i64 x) := by
        rcases HI.out.form with ⟨e, e2⟩ | ⟨g, cap', sp, e, _, _, _, hBR, _⟩
        · rw [e2] at hjl; simp at hjl
        · simp only [Value.slice.injEq] at e
          refine ⟨g, e.1, ?_⟩
          have := iv_cell hBR j hjl
          rw [Nat.zero_add, getD_lt R hjl, hx] at this
          exact this
      cases hfx : f x with
      | true =>
        obtain ⟨hk1, hk2⟩ := filt_at R f j hjl (by rw [hx]; exact hfx)
        have hk1' : k < (R.filter f).length := by rw [HK.out]; exact hk1
        have hk2' : (R.filter f)[k] = x := by rw [← hx, ← hk2]; congr 1
        have hych : y.ch = true := hyes y hy (by
          rw [HRE.out, hyp, ← hk2']
          exact List.mem_iff_getElem.2 ⟨0, by simp; omega, by simp⟩)
        rw [hych] at c256
        have hy0 := HY.out Z k hk1' wr HJZ.out
        rw [hk2'] at hy0
        obtain ⟨fn, tmps, assign, body, hyy, hR⟩ := hy0
        have HRR := hide hR
        have HKN : Hid (k + 1 = ((R.take (j + 1)).filter f).length) := by show _ = _; rw [filt_step R f j hjl, hx, if_pos hfx, HK.out]; simp
        clear hR hC hB hok hall hyes hno hx hk1 hk2 hk2' hych hyp hy hs
        gi_wp2
        refine HRR.out.mono ?_
        rintro e W3 (⟨rfl, hJ3, hkY⟩ | ⟨rfl, hJx3⟩)
        · have HJ3 := hide hJ3
          have HI3 : Hid (Ints W3 W.heap.size (.slice (some ⟨g, 0, none⟩) R.length cap) R) := by
            show Ints _ _ _ _
            refine ⟨HI.out.1, ?_⟩
            rcases HI.out.2 with h | ⟨g', cap', cur, e, hb, hg, r⟩
            · exact .inl h
            · refine .inr ⟨g', cap', cur, e, hb, (hkY g' (HZ.out g' (by rw [e]; rfl))).trans hg, r⟩
          clear hJ3 hkY HRR hyy c2 c256 hlk hcell hc
          gi_wp2
          go_roundw
          case rel => exact ⟨j + 1, k + 1, Z, by omega, by go_num, HKN.out, HJ3.out, HI3.out, HZ.out⟩
          case measure => simp [intOf]; omega
        · have HJ3 := hide hJx3
          clear hJx3 HRR hyy c2 c256 hlk hcell hc
          gi_wp2
          refine bodyPost_ret (results_none rfl _ _ _) rfl ?_
          exact ⟨⟨_, rfl⟩, Z, .inr ⟨k, hk1', HJ3.out⟩⟩
      | false =>
        have hych : y.ch = false := hno y hy (by rw [hyp]; exact hfx)
        rw [hych] at c256
        have HKN : Hid (k = ((R.take (j + 1)).filter f).length) := by show _ = _; rw [filt_step R f j hjl, hx, if_neg (by rw [hfx]; decide), HK.out]; simp
        clear hC hB hok hall hyes hno hx hych hyp hy hs
        gi_wp2
        refine ⟨fun _ h => (by cases h), ?_⟩
        gi_wp2
        go_roundw
        case rel => exact ⟨j + 1, k, Z, by omega, by go_num, HKN.out, HJZ.out, HI.out, HZ.out⟩
        case measure => simp [intOf]; omega
    · obtain rfl : j = R.length := by omega
      have hkk : k = (R.filter f).length := by rw [HK.out, List.take_of_length_le (Nat.le_refl _)]
      subst hkk
      gi_wp2
      go_end0
      exact ⟨⟨_, rfl⟩, Z, .inl HJZ.out⟩

end Go.Proofs.Ytoplhehcjgldeaa
