/- Contract: whether a set is what it must be (incipitlaw07.same). -/
import Derived.Test.YtibgkmbdnelbeaaDoorERefRuns
import Derived.Test.YtibgkmbdnelbeaaDoorWERuns
namespace Go.Proofs.YtibgkmbdnelbeaaDoor
set_option maxRecDepth 20000
open Go.RowKit
set_option linter.unusedVariables false
set_option maxRecDepth 100000

theorem call_gives {P : Program} {f : FuncId} {args : Array Value} {wx : World} {v : Value} {F : Value → World → Prop} (h : Calls P f args wx fun r w' => r = .returned v ∧ Below wx.heap.size wx w') (hF : ∀ w', F v w') :
    Calls P f args wx fun e w' => ∃ u, e = .returned u ∧ Below wx.heap.size wx w' ∧ F u w' := h.mono fun e w' ⟨he, hb⟩ => ⟨v, he, hb, hF w'⟩
def isAll (B b : Nat) : Value → World → Prop := fun v w => ∃ ga, v = .func (.func 45) #[] #[.pointer (some ⟨ga, 0, none⟩)] ∧ B ≤ ga ∧ Blk w ga 23 [dp b]
theorem stable_isAll (B b : Nat) : ∀ v w w', Below w.heap.size w w' → isAll B b v w → isAll B b v w' := fun v w w' hb ⟨ga, h1, h2, h3⟩ => ⟨ga, h1, h2, h3.below hb h3.lt⟩
def isIn (B : Nat) (zs : List Int) : Value → World → Prop := fun v w => Ints w B v zs
theorem stable_isIn (B : Nat) (zs : List Int) : ∀ v w w', Below w.heap.size w w' → isIn B zs v w → isIn B zs v w' := fun v w w' hb h => Ints.below h hb
def isInS (B : Nat) (zs : List Int) (m : Nat) : Value → World → Prop := fun v w => ∃ a c, v = .slice a m c ∧ Ints w B (.slice a m c) zs
theorem stable_isInS (B : Nat) (zs : List Int) (m : Nat) : ∀ v w w', Below w.heap.size w w' → isInS B zs m v w → isInS B zs m v w' := fun v w w' hb ⟨a, c, h1, h2⟩ => ⟨a, c, h1, h2.below hb⟩
theorem fst_exists (f : Nat → Bool) (n : Nat) (p : Int) : ∃ F1, IsFst f n p F1 := by
  refine ⟨fstI (fstN f n p.toNat), ?_⟩
  rcases fstN_is f n p.toNat with ⟨h1, h2⟩ | ⟨q, h1, h2, h3, h4, h5⟩
  · exact .inl ⟨h1, fun q hq hn => h2 q (by omega) hn⟩
  · exact .inr ⟨q, h1, by omega, h3, h4, fun q' k1 k2 => h5 q' (by omega) k2⟩
theorem RRow.at {w : World} {base n cp : Nat} {a : Option Addr} {L : List (Nat × Nat)} {G : Nat → Nat} (h : RRow w base (.slice a n cp) L G) (i : Nat) (hi : i < L.length) : ∃ gr, a = some ⟨gr, 0, none⟩ ∧ n = L.length ∧ n ≤ cp ∧ cp ≤ 9223372036854775807 ∧ w.cell? ⟨gr, i, none⟩ = some (.slice (some ⟨G i, 0, none⟩) 2 2) ∧ w.cell? ⟨G i, 0, none⟩ = some (.int .i64 (L[i].1 : Int)) ∧ w.cell? ⟨G i, 1, none⟩ = some (.int .i64 (L[i].2 : Int)) := by
  have hB := (h.inn i L[i] (List.getElem?_eq_getElem hi)).2
  have hr := h.row
  rcases hr.2 with ⟨he, h0⟩ | ⟨gr, cp', cur, he, _⟩
  · omega
  · simp only [Value.slice.injEq] at he
    obtain ⟨rfl, rfl, rfl⟩ := he
    obtain ⟨k1, k2, k3, k4, sp, kB, _⟩ := own_blk hr
    unfold maxLen at k3
    refine ⟨gr, rfl, rfl, k2, k3, ?_, hB.cell 0, hB.cell 1⟩
    rw [kB.cell, List.getElem?_append_left (by rw [gs_len]; omega)]
    exact gs_get G _ _ hi
theorem below_eq {w w' : World} (h : w' = w) : Below w.heap.size w w' := by rw [h]; exact Below.refl _ _

set_option maxHeartbeats 4000000 in
theorem same_law (w : World) (b r g n : Nat) (f : Nat → Bool) (K : Int) (hK : K ≤ 9223372036854775807) (hS : SetB w b n f) (hR : RefAt w r g n f) (hT : TabB w) :
    Calls Tryd.prog 16 #[dp b, dp r, .int .i64 K] w fun e w' => e = .returned (.bool true) ∧ Below w.heap.size w w' := by
  have hn := hS.hi
  obtain ⟨C, hC⟩ : ∃ C, cntF f n = C := ⟨_, rfl⟩
  have hCn : C ≤ n := by rw [← hC]; exact cntF_le f n
  have hPL : (pagesF f n).length = C := by rw [pagesF_len, hC]
  have HRA := hide (refAll_any w r g n f hR)
  have HSw := hide hS
  have HRw := hide hR
  have HTw := hide hT
  have HCC := hide hC
  have HPLL := hide hPL
  obtain ⟨L, hL⟩ : ∃ L, runsF f n = L := ⟨_, rfl⟩
  have hLn : L.length ≤ n := by rw [← hL]; exact runsF_len f n
  have HLL := hide hL
  obtain ⟨M, hM⟩ : ∃ M, L.length = M := ⟨_, rfl⟩
  rw [hM] at hLn
  have HM := hide hM
  have hK2 := hK
  clear hS hR hT hC hPL hL hM hK
  go_enter Tryd.func16, Tryd.ntmps16
  go_wp2_with (go_at_call 35; refine HRA.out.mono ?_; rintro e w1 ⟨v1, rfl, hi1, hb1⟩; have HI1 := hide hi1; have HB1 := hide hb1; clear HRA hi1 hb1)
  obtain ⟨al, cl, hv1⟩ := HI1.out.shape
  rw [ci_length, HPLL.out] at hv1
  subst hv1
  have HIL : Hid (∀ wx, Below w1.heap.size w1 wx → Ints wx w.heap.size (.slice al C cl) (ci (pagesF f n))) := fun wx hb => HI1.out.below hb
  have HS : Hid (∀ wx, Below w1.heap.size w1 wx → SetB wx b n f) := fun wx hb => (HSw.out.below HB1.out).below hb
  have HR : Hid (∀ wx, Below w1.heap.size w1 wx → RefAt wx r g n f) := fun wx hb => (HRw.out.below HB1.out).below hb
  have HT : Hid (∀ wx, Below w1.heap.size w1 wx → TabB wx) := fun wx hb => (HTw.out.below HB1.out).below hb
  have HRC : Hid (∀ wx, Below w1.heap.size w1 wx → wx.cell? ⟨r, 0, none⟩ = some (.slice (some ⟨g, 0, none⟩) n n)) := fun wx hb => (HR.out wx hb).c0
  have HSZ : Hid (∀ wx, Below w1.heap.size w1 wx → Calls Tryd.prog 25 #[dp b] wx fun r w' => r = .returned (.int .i64 (n : Int)) ∧ Below wx.heap.size wx w') := fun wx hb => (size_any wx b n f (HS.out wx hb)).mono fun e w' ⟨h1, h2⟩ => ⟨h1, below_eq h2⟩
  have HLE : Hid (∀ wx, Below w1.heap.size w1 wx → Calls Tryd.prog 22 #[dp b] wx fun r w' => r = .returned (.int .i64 (C : Int)) ∧ Below wx.heap.size wx w') := fun wx hb => (len_any wx b n f (HS.out wx hb)).mono fun e w' ⟨h1, h2⟩ => ⟨by rw [h1, HCC.out], below_eq h2⟩
  obtain ⟨hb, hhb⟩ : ∃ hb, hasI f K = hb := ⟨_, rfl⟩
  have HHA : Hid (∀ wx, Below w1.heap.size w1 wx → Calls Tryd.prog 21 #[dp b, .int .i64 K] wx fun r w' => r = .returned (.bool hb) ∧ Below wx.heap.size wx w') := fun wx h => (has_any wx b n f K (HS.out wx h)).mono fun e w' ⟨h1, m, h2⟩ => ⟨by rw [h1, hhb], by rw [h2]; exact below_drewN (Below.refl _ wx) m⟩
  have HHR : Hid (∀ wx, Below w1.heap.size w1 wx → Calls Tryd.prog 36 #[dp r, .int .i64 K] wx fun r w' => r = .returned (.bool hb) ∧ Below wx.heap.size wx w') := fun wx h => (refHas_any wx r g n f K (HR.out wx h)).mono fun e w' ⟨h1, h2⟩ => ⟨by rw [h1, hhb], below_eq h2⟩
  obtain ⟨F1, hF1⟩ := fst_exists f n K
  have HFI : Hid (∀ wx, Below w1.heap.size w1 wx → Calls Tryd.prog 27 #[dp b, .int .i64 K] wx fun r w' => r = .returned (.int .i64 F1) ∧ Below wx.heap.size wx w') := fun wx h => (first_any wx b n f K (HS.out wx h) (HT.out wx h)).mono fun e w' ⟨x, h1, h2, h3⟩ => ⟨by rw [h1, h2.uniq hF1], below_eq h3⟩
  have HFR : Hid (∀ wx, Below w1.heap.size w1 wx → Calls Tryd.prog 37 #[dp r, .int .i64 K] wx fun r w' => r = .returned (.int .i64 F1) ∧ Below wx.heap.size wx w') := fun wx h => (refFirst_any wx r g n f K (HR.out wx h)).mono fun e w' ⟨x, h1, h2, h3⟩ => ⟨by rw [h1, h2.uniq hF1], below_eq h3⟩
  obtain ⟨R1, hR1⟩ : ∃ R1, runR (runsF f n) K = R1 := ⟨_, rfl⟩
  have HRU : Hid (∀ wx, Below w1.heap.size w1 wx → Calls Tryd.prog 23 #[dp b, .int .i64 K] wx fun r w' => r = .returned (.int .i64 R1) ∧ Below wx.heap.size wx w') := fun wx h => (run_set wx b n f (HS.out wx h) (HT.out wx h) K).mono fun e w' ⟨h1, h2⟩ => ⟨by rw [h1, hR1], h2⟩
  have HRR : Hid (∀ wx, Below w1.heap.size w1 wx → Calls Tryd.prog 38 #[dp r, .int .i64 K] wx fun r w' => r = .returned (.int .i64 R1) ∧ Below wx.heap.size wx w') := fun wx h => (refRun_any wx r g n f K hK2 (HR.out wx h)).mono fun e w' ⟨x, h1, h2, h3⟩ => ⟨by
    rw [h1, ← hR1]
    congr 2
    rcases h2 with ⟨h2, h4⟩ | ⟨k, rfl, hk1, h4⟩
    · rw [h4, runR, if_pos h2]
    · rw [runR, if_neg (by omega)]
      exact h4.uniq (runsF_run hk1), below_eq h3⟩
  have HSV : Hid (∀ wx ga, Below w1.heap.size w1 wx → Blk wx ga 23 [dp b] → ∀ k W', Only (fun _ => False) wx W' → SetV ga b n f k W') := fun wx ga h hB k W' ho => ⟨(HT.out wx h).only ho, fun _ => ⟨(hB.only ho (fun h => h)).cell 0, (HS.out wx h).only ho (fun h => h)⟩⟩
  have HPG : Hid (∀ wx, Below w1.heap.size w1 wx → ∀ ga, w1.heap.size ≤ ga → Blk wx ga 23 [dp b] → Calls Tryd.prog 28 #[.func (.func 45) #[] #[.pointer (some ⟨ga, 0, none⟩)], .int .i64 1048576] wx fun e w' => ∃ a c, e = .returned (.slice a C c) ∧ Ints w' w1.heap.size (.slice a C c) (ci (pagesF f n)) ∧ Below wx.heap.size wx w') := fun wx h ga _ hB => by
    refine (pages_any wx _ _ (pagesF f n) _ enters_all (all_iter ga b n f) (HSV.out wx ga h hB) (by rw [HPLL.out]; omega) 1048576 (by decide)).mono ?_
    rintro e w' ⟨v, rfl, h1, h3⟩
    rw [List.take_of_length_le (by rw [HPLL.out]; omega)] at h1
    have h2 := h1.base h.size
    obtain ⟨a, c, rfl⟩ := h2.shape
    have hl : (ci (pagesF f n)).length = C := by rw [ci_length, HPLL.out]
    rw [hl] at h2 ⊢
    exact ⟨a, c, rfl, h2, h3⟩
  obtain ⟨C2, hC2⟩ : ∃ C2, min 2 C = C2 := ⟨_, rfl⟩
  have HPH : Hid (∀ wx, Below w1.heap.size w1 wx → ∀ ga, w1.heap.size ≤ ga → Blk wx ga 23 [dp b] → Calls Tryd.prog 28 #[.func (.func 45) #[] #[.pointer (some ⟨ga, 0, none⟩)], .int .i64 2] wx fun e w' => ∃ a c, e = .returned (.slice a C2 c) ∧ Ints w' w1.heap.size (.slice a C2 c) (ci ((pagesF f n).take 2)) ∧ Below wx.heap.size wx w') := fun wx h ga _ hB => by
    refine (pages_any wx _ _ (pagesF f n) _ enters_all (all_iter ga b n f) (HSV.out wx ga h hB) (by rw [HPLL.out]; omega) 2 (by decide)).mono ?_
    rintro e w' ⟨v, rfl, h1, h3⟩
    have h2 := h1.base h.size
    obtain ⟨a, c, rfl⟩ := h2.shape
    have hl : (ci ((pagesF f n).take 2)).length = C2 := by rw [ci_length, List.length_take, HPLL.out, hC2]
    rw [hl] at h2 ⊢
    exact ⟨a, c, rfl, h2, h3⟩
  have HMI : Hid ((if (C : Int) < 2 then (C : Int) else 2) = (C2 : Int)) := by show _ = _; split <;> omega
  clear hhb hF1 hR1 hC2
  refine wp_region_facts (FL [isV (.pointer (some ⟨b, 0, none⟩)), isV (.int .i64 (n : Int)), isV (.pointer (some ⟨r, 0, none⟩)), isV (.pointer (some ⟨r, 0, none⟩)), isV (.pointer (some ⟨r, 0, none⟩)), isV (.slice (some ⟨g, 0, none⟩) n n), isV (.int .i64 (n : Int)), isV (.bool false), isV (.bool false), isV (.pointer (some ⟨b, 0, none⟩)), isV (.int .i64 (C : Int)), isV (.slice al C cl), isV (.int .i64 (C : Int)), isV (.bool false), isV (.bool false), isV (.bool false), isV (.pointer (some ⟨b, 0, none⟩)), isV (.int .i64 K), isV (.bool hb), isV (.pointer (some ⟨r, 0, none⟩)), isV (.int .i64 K), isV (.bool hb), isV (.bool false), isV (.bool false), isV (.bool false), isV (.pointer (some ⟨b, 0, none⟩)), isV (.int .i64 K), isV (.int .i64 F1), isV (.pointer (some ⟨r, 0, none⟩)), isV (.int .i64 K), isV (.int .i64 F1), isV (.bool false), isV (.bool false), isV (.bool false), isV (.pointer (some ⟨b, 0, none⟩)), isV (.int .i64 K), isV (.int .i64 R1), isV (.pointer (some ⟨r, 0, none⟩)), isV (.int .i64 K), isV (.int .i64 R1), isV (.bool false), isV (.bool false), isV (.bool false), isV (.pointer (some ⟨b, 0, none⟩)), isAll w1.heap.size b, isInS w1.heap.size (ci (pagesF f n)) C, isV (.slice al C cl), isV (.bool true), isV (.bool false), isV (.bool false), isV (.bool false), isV (.pointer (some ⟨b, 0, none⟩)), isAll w1.heap.size b, isInS w1.heap.size (ci ((pagesF f n).take 2)) C2, isV (.int .i64 (C2 : Int)), isV (.slice al C cl), isV (.int .i64 (C : Int)), isV (.int .i64 (C2 : Int)), isV (.bool false), isV (.bool false)]) 129 (by kernel_rfl) (by kernel_rfl) (by kernel_rfl) rfl (FL_stable _ (by repeat (first | exact trivial | refine ⟨stable_isV _, ?_⟩ | refine ⟨stable_isAll _ _, ?_⟩ | refine ⟨stable_isIn _ _, ?_⟩ | refine ⟨stable_isInS _ _ _, ?_⟩))) ?_ ?_
  · refine ⟨?_, ?_, ?_, ?_, ?_, ?_, ?_, ?_, ?_, ?_, ?_, ?_, ?_, ?_, ?_, ?_, ?_, ?_, ?_, ?_, ?_, ?_, ?_, ?_, ?_, ?_, ?_, ?_, ?_, ?_, ?_, ?_, ?_, ?_, ?_, ?_, ?_, ?_, ?_, ?_, ?_, ?_, ?_, ?_, ?_, ?_, ?_, ?_, ?_, ?_, ?_, ?_, ?_, ?_, ?_, ?_, ?_, ?_, ?_, ?_, trivial⟩
    · intro act wx h
      have e0 : act.eval (.tmp 0) = .pointer (some ⟨b, 0, none⟩) := h.old 0 (by kernel_rfl)
      have hbel := h.below
      clear h
      refine gives_by rfl act.eval rfl ?_
      generalize act.eval = ρ at *
      intro hf hc
      go_simp
      exact ⟨Below.refl _ _, rfl⟩
    · intro act wx h
      obtain ⟨v14, e14, f14⟩ := h.val 0 14 (by kernel_rfl)
      obtain rfl : v14 = .pointer (some ⟨b, 0, none⟩) := f14
      have hbel := h.below
      clear h
      refine gives_by rfl act.eval rfl ?_
      generalize act.eval = ρ at *
      intro hf hc
      go_simp
      exact call_gives (HSZ.out wx hbel) (fun _ => rfl)
    · intro act wx h
      have e1 : act.eval (.tmp 1) = .pointer (some ⟨r, 0, none⟩) := h.old 1 (by kernel_rfl)
      have hbel := h.below
      clear h
      refine gives_by rfl act.eval rfl ?_
      generalize act.eval = ρ at *
      intro hf hc
      go_simp
      exact ⟨Below.refl _ _, rfl⟩
    · intro act wx h
      obtain ⟨v16, e16, f16⟩ := h.val 2 16 (by kernel_rfl)
      obtain rfl : v16 = .pointer (some ⟨r, 0, none⟩) := f16
      have hbel := h.below
      clear h
      refine gives_by rfl act.eval rfl ?_
      generalize act.eval = ρ at *
      intro hf hc
      go_simp
      exact ⟨Below.refl _ _, rfl⟩
    · intro act wx h
      obtain ⟨v17, e17, f17⟩ := h.val 3 17 (by kernel_rfl)
      obtain rfl : v17 = .pointer (some ⟨r, 0, none⟩) := f17
      have hbel := h.below
      clear h
      refine gives_by rfl act.eval rfl ?_
      generalize act.eval = ρ at *
      intro hf hc
      go_simp
      exact ⟨Below.refl _ _, rfl⟩
    · intro act wx h
      obtain ⟨v18, e18, f18⟩ := h.val 4 18 (by kernel_rfl)
      obtain rfl : v18 = .pointer (some ⟨r, 0, none⟩) := f18
      have hbel := h.below
      clear h
      have cx := HRC.out wx hbel
      refine gives_by rfl act.eval rfl ?_
      generalize act.eval = ρ at *
      intro hf hc
      go_simp
      exact ⟨Below.refl _ _, rfl⟩
    · intro act wx h
      obtain ⟨v19, e19, f19⟩ := h.val 5 19 (by kernel_rfl)
      obtain rfl : v19 = .slice (some ⟨g, 0, none⟩) n n := f19
      have hbel := h.below
      clear h
      refine gives_by rfl act.eval rfl ?_
      generalize act.eval = ρ at *
      intro hf hc
      go_simp
      exact ⟨Below.refl _ _, rfl⟩
    · intro act wx h
      obtain ⟨v15, e15, f15⟩ := h.val 1 15 (by kernel_rfl)
      obtain rfl : v15 = .int .i64 (n : Int) := f15
      obtain ⟨v20, e20, f20⟩ := h.val 6 20 (by kernel_rfl)
      obtain rfl : v20 = .int .i64 (n : Int) := f20
      have hbel := h.below
      clear h
      refine gives_by rfl act.eval rfl ?_
      generalize act.eval = ρ at *
      intro hf hc
      go_simp
      exact ⟨Below.refl _ _, rfl⟩
    · intro act wx h
      obtain ⟨v21, e21, f21⟩ := h.val 7 21 (by kernel_rfl)
      obtain rfl : v21 = .bool false := f21
      have hbel := h.below
      clear h
      refine gives_by rfl act.eval rfl ?_
      generalize act.eval = ρ at *
      intro hf hc
      go_simp
      exact ⟨Below.refl _ _, rfl⟩
    · intro act wx h
      have e0 : act.eval (.tmp 0) = .pointer (some ⟨b, 0, none⟩) := h.old 0 (by kernel_rfl)
      have hg := h.guard 8 22 (by kernel_rfl) false (fun v hv => hv)
      have hbel := h.below
      clear h
      refine gives_by (by simp only [Region.wanted, hg]; rfl) act.eval rfl ?_
      generalize act.eval = ρ at *
      intro hf hc
      go_simp
      exact ⟨Below.refl _ _, rfl⟩
    · intro act wx h
      obtain ⟨v23, e23, f23⟩ := h.val 9 23 (by kernel_rfl)
      obtain rfl : v23 = .pointer (some ⟨b, 0, none⟩) := f23
      have hg := h.guard 8 22 (by kernel_rfl) false (fun v hv => hv)
      have hbel := h.below
      clear h
      refine gives_by (by simp only [Region.wanted, hg]; rfl) act.eval rfl ?_
      generalize act.eval = ρ at *
      intro hf hc
      go_simp
      exact call_gives (HLE.out wx hbel) (fun _ => rfl)
    · intro act wx h
      have e7 : act.eval (.tmp 7) = .slice al C cl := h.old 7 (by kernel_rfl)
      have hg := h.guard 8 22 (by kernel_rfl) false (fun v hv => hv)
      have hbel := h.below
      clear h
      refine gives_by (by simp only [Region.wanted, hg]; rfl) act.eval rfl ?_
      generalize act.eval = ρ at *
      intro hf hc
      go_simp
      exact ⟨Below.refl _ _, rfl⟩
    · intro act wx h
      obtain ⟨v25, e25, f25⟩ := h.val 11 25 (by kernel_rfl)
      obtain rfl : v25 = .slice al C cl := f25
      have hg := h.guard 8 22 (by kernel_rfl) false (fun v hv => hv)
      have hbel := h.below
      clear h
      refine gives_by (by simp only [Region.wanted, hg]; rfl) act.eval rfl ?_
      generalize act.eval = ρ at *
      intro hf hc
      go_simp
      exact ⟨Below.refl _ _, rfl⟩
    · intro act wx h
      obtain ⟨v24, e24, f24⟩ := h.val 10 24 (by kernel_rfl)
      obtain rfl : v24 = .int .i64 (C : Int) := f24
      obtain ⟨v26, e26, f26⟩ := h.val 12 26 (by kernel_rfl)
      obtain rfl : v26 = .int .i64 (C : Int) := f26
      have hg := h.guard 8 22 (by kernel_rfl) false (fun v hv => hv)
      have hbel := h.below
      clear h
      refine gives_by (by simp only [Region.wanted, hg]; rfl) act.eval rfl ?_
      generalize act.eval = ρ at *
      intro hf hc
      go_simp
      exact ⟨Below.refl _ _, rfl⟩
    · intro act wx h
      obtain ⟨v22, e22, f22⟩ := h.val 8 22 (by kernel_rfl)
      obtain rfl : v22 = .bool false := f22
      obtain ⟨v27, e27, f27⟩ := h.val 13 27 (by kernel_rfl)
      obtain rfl : v27 = .bool false := f27
      have hbel := h.below
      clear h
      refine gives_by rfl act.eval rfl ?_
      generalize act.eval = ρ at *
      intro hf hc
      go_simp
      exact ⟨Below.refl _ _, rfl⟩
    · intro act wx h
      obtain ⟨v28, e28, f28⟩ := h.val 14 28 (by kernel_rfl)
      obtain rfl : v28 = .bool false := f28
      have hbel := h.below
      clear h
      refine gives_by rfl act.eval rfl ?_
      generalize act.eval = ρ at *
      intro hf hc
      go_simp
      exact ⟨Below.refl _ _, rfl⟩
    · intro act wx h
      have e0 : act.eval (.tmp 0) = .pointer (some ⟨b, 0, none⟩) := h.old 0 (by kernel_rfl)
      have hg := h.guard 15 29 (by kernel_rfl) false (fun v hv => hv)
      have hbel := h.below
      clear h
      refine gives_by (by simp only [Region.wanted, hg]; rfl) act.eval rfl ?_
      generalize act.eval = ρ at *
      intro hf hc
      go_simp
      exact ⟨Below.refl _ _, rfl⟩
    · intro act wx h
      have e2 : act.eval (.tmp 2) = .int .i64 K := h.old 2 (by kernel_rfl)
      have hg := h.guard 15 29 (by kernel_rfl) false (fun v hv => hv)
      have hbel := h.below
      clear h
      refine gives_by (by simp only [Region.wanted, hg]; rfl) act.eval rfl ?_
      generalize act.eval = ρ at *
      intro hf hc
      go_simp
      exact ⟨Below.refl _ _, rfl⟩
    · intro act wx h
      obtain ⟨v30, e30, f30⟩ := h.val 16 30 (by kernel_rfl)
      obtain rfl : v30 = .pointer (some ⟨b, 0, none⟩) := f30
      obtain ⟨v31, e31, f31⟩ := h.val 17 31 (by kernel_rfl)
      obtain rfl : v31 = .int .i64 K := f31
      have hg := h.guard 15 29 (by kernel_rfl) false (fun v hv => hv)
      have hbel := h.below
      clear h
      refine gives_by (by simp only [Region.wanted, hg]; rfl) act.eval rfl ?_
      generalize act.eval = ρ at *
      intro hf hc
      go_simp
      exact call_gives (HHA.out wx hbel) (fun _ => rfl)
    · intro act wx h
      have e1 : act.eval (.tmp 1) = .pointer (some ⟨r, 0, none⟩) := h.old 1 (by kernel_rfl)
      have hg := h.guard 15 29 (by kernel_rfl) false (fun v hv => hv)
      have hbel := h.below
      clear h
      refine gives_by (by simp only [Region.wanted, hg]; rfl) act.eval rfl ?_
      generalize act.eval = ρ at *
      intro hf hc
      go_simp
      exact ⟨Below.refl _ _, rfl⟩
    · intro act wx h
      have e2 : act.eval (.tmp 2) = .int .i64 K := h.old 2 (by kernel_rfl)
      have hg := h.guard 15 29 (by kernel_rfl) false (fun v hv => hv)
      have hbel := h.below
      clear h
      refine gives_by (by simp only [Region.wanted, hg]; rfl) act.eval rfl ?_
      generalize act.eval = ρ at *
      intro hf hc
      go_simp
      exact ⟨Below.refl _ _, rfl⟩
    · intro act wx h
      obtain ⟨v33, e33, f33⟩ := h.val 19 33 (by kernel_rfl)
      obtain rfl : v33 = .pointer (some ⟨r, 0, none⟩) := f33
      obtain ⟨v34, e34, f34⟩ := h.val 20 34 (by kernel_rfl)
      obtain rfl : v34 = .int .i64 K := f34
      have hg := h.guard 15 29 (by kernel_rfl) false (fun v hv => hv)
      have hbel := h.below
      clear h
      refine gives_by (by simp only [Region.wanted, hg]; rfl) act.eval rfl ?_
      generalize act.eval = ρ at *
      intro hf hc
      go_simp
      exact call_gives (HHR.out wx hbel) (fun _ => rfl)
    · intro act wx h
      obtain ⟨v32, e32, f32⟩ := h.val 18 32 (by kernel_rfl)
      obtain rfl : v32 = .bool hb := f32
      obtain ⟨v35, e35, f35⟩ := h.val 21 35 (by kernel_rfl)
      obtain rfl : v35 = .bool hb := f35
      have hg := h.guard 15 29 (by kernel_rfl) false (fun v hv => hv)
      have hbel := h.below
      clear h
      refine gives_by (by simp only [Region.wanted, hg]; rfl) act.eval rfl ?_
      generalize act.eval = ρ at *
      intro hf hc
      go_simp
      exact ⟨Below.refl _ _, rfl⟩
    · intro act wx h
      obtain ⟨v29, e29, f29⟩ := h.val 15 29 (by kernel_rfl)
      obtain rfl : v29 = .bool false := f29
      obtain ⟨v36, e36, f36⟩ := h.val 22 36 (by kernel_rfl)
      obtain rfl : v36 = .bool false := f36
      have hbel := h.below
      clear h
      refine gives_by rfl act.eval rfl ?_
      generalize act.eval = ρ at *
      intro hf hc
      go_simp
      exact ⟨Below.refl _ _, rfl⟩
    · intro act wx h
      obtain ⟨v37, e37, f37⟩ := h.val 23 37 (by kernel_rfl)
      obtain rfl : v37 = .bool false := f37
      have hbel := h.below
      clear h
      refine gives_by rfl act.eval rfl ?_
      generalize act.eval = ρ at *
      intro hf hc
      go_simp
      exact ⟨Below.refl _ _, rfl⟩
    · intro act wx h
      have e0 : act.eval (.tmp 0) = .pointer (some ⟨b, 0, none⟩) := h.old 0 (by kernel_rfl)
      have hg := h.guard 24 38 (by kernel_rfl) false (fun v hv => hv)
      have hbel := h.below
      clear h
      refine gives_by (by simp only [Region.wanted, hg]; rfl) act.eval rfl ?_
      generalize act.eval = ρ at *
      intro hf hc
      go_simp
      exact ⟨Below.refl _ _, rfl⟩
    · intro act wx h
      have e2 : act.eval (.tmp 2) = .int .i64 K := h.old 2 (by kernel_rfl)
      have hg := h.guard 24 38 (by kernel_rfl) false (fun v hv => hv)
      have hbel := h.below
      clear h
      refine gives_by (by simp only [Region.wanted, hg]; rfl) act.eval rfl ?_
      generalize act.eval = ρ at *
      intro hf hc
      go_simp
      exact ⟨Below.refl _ _, rfl⟩
    · intro act wx h
      obtain ⟨v39, e39, f39⟩ := h.val 25 39 (by kernel_rfl)
      obtain rfl : v39 = .pointer (some ⟨b, 0, none⟩) := f39
      obtain ⟨v40, e40, f40⟩ := h.val 26 40 (by kernel_rfl)
      obtain rfl : v40 = .int .i64 K := f40
      have hg := h.guard 24 38 (by kernel_rfl) false (fun v hv => hv)
      have hbel := h.below
      clear h
      refine gives_by (by simp only [Region.wanted, hg]; rfl) act.eval rfl ?_
      generalize act.eval = ρ at *
      intro hf hc
      go_simp
      exact call_gives (HFI.out wx hbel) (fun _ => rfl)
    · intro act wx h
      have e1 : act.eval (.tmp 1) = .pointer (some ⟨r, 0, none⟩) := h.old 1 (by kernel_rfl)
      have hg := h.guard 24 38 (by kernel_rfl) false (fun v hv => hv)
      have hbel := h.below
      clear h
      refine gives_by (by simp only [Region.wanted, hg]; rfl) act.eval rfl ?_
      generalize act.eval = ρ at *
      intro hf hc
      go_simp
      exact ⟨Below.refl _ _, rfl⟩
    · intro act wx h
      have e2 : act.eval (.tmp 2) = .int .i64 K := h.old 2 (by kernel_rfl)
      have hg := h.guard 24 38 (by kernel_rfl) false (fun v hv => hv)
      have hbel := h.below
      clear h
      refine gives_by (by simp only [Region.wanted, hg]; rfl) act.eval rfl ?_
      generalize act.eval = ρ at *
      intro hf hc
      go_simp
      exact ⟨Below.refl _ _, rfl⟩
    · intro act wx h
      obtain ⟨v42, e42, f42⟩ := h.val 28 42 (by kernel_rfl)
      obtain rfl : v42 = .pointer (some ⟨r, 0, none⟩) := f42
      obtain ⟨v43, e43, f43⟩ := h.val 29 43 (by kernel_rfl)
      obtain rfl : v43 = .int .i64 K := f43
      have hg := h.guard 24 38 (by kernel_rfl) false (fun v hv => hv)
      have hbel := h.below
      clear h
      refine gives_by (by simp only [Region.wanted, hg]; rfl) act.eval rfl ?_
      generalize act.eval = ρ at *
      intro hf hc
      go_simp
      exact call_gives (HFR.out wx hbel) (fun _ => rfl)
    · intro act wx h
      obtain ⟨v41, e41, f41⟩ := h.val 27 41 (by kernel_rfl)
      obtain rfl : v41 = .int .i64 F1 := f41
      obtain ⟨v44, e44, f44⟩ := h.val 30 44 (by kernel_rfl)
      obtain rfl : v44 = .int .i64 F1 := f44
      have hg := h.guard 24 38 (by kernel_rfl) false (fun v hv => hv)
      have hbel := h.below
      clear h
      refine gives_by (by simp only [Region.wanted, hg]; rfl) act.eval rfl ?_
      generalize act.eval = ρ at *
      intro hf hc
      go_simp
      exact ⟨Below.refl _ _, rfl⟩
    · intro act wx h
      obtain ⟨v38, e38, f38⟩ := h.val 24 38 (by kernel_rfl)
      obtain rfl : v38 = .bool false := f38
      obtain ⟨v45, e45, f45⟩ := h.val 31 45 (by kernel_rfl)
      obtain rfl : v45 = .bool false := f45
      have hbel := h.below
      clear h
      refine gives_by rfl act.eval rfl ?_
      generalize act.eval = ρ at *
      intro hf hc
      go_simp
      exact ⟨Below.refl _ _, rfl⟩
    · intro act wx h
      obtain ⟨v46, e46, f46⟩ := h.val 32 46 (by kernel_rfl)
      obtain rfl : v46 = .bool false := f46
      have hbel := h.below
      clear h
      refine gives_by rfl act.eval rfl ?_
      generalize act.eval = ρ at *
      intro hf hc
      go_simp
      exact ⟨Below.refl _ _, rfl⟩
    · intro act wx h
      have e0 : act.eval (.tmp 0) = .pointer (some ⟨b, 0, none⟩) := h.old 0 (by kernel_rfl)
      have hg := h.guard 33 47 (by kernel_rfl) false (fun v hv => hv)
      have hbel := h.below
      clear h
      refine gives_by (by simp only [Region.wanted, hg]; rfl) act.eval rfl ?_
      generalize act.eval = ρ at *
      intro hf hc
      go_simp
      exact ⟨Below.refl _ _, rfl⟩
    · intro act wx h
      have e2 : act.eval (.tmp 2) = .int .i64 K := h.old 2 (by kernel_rfl)
      have hg := h.guard 33 47 (by kernel_rfl) false (fun v hv => hv)
      have hbel := h.below
      clear h
      refine gives_by (by simp only [Region.wanted, hg]; rfl) act.eval rfl ?_
      generalize act.eval = ρ at *
      intro hf hc
      go_simp
      exact ⟨Below.refl _ _, rfl⟩
    · intro act wx h
      obtain ⟨v48, e48, f48⟩ := h.val 34 48 (by kernel_rfl)
      obtain rfl : v48 = .pointer (some ⟨b, 0, none⟩) := f48
      obtain ⟨v49, e49, f49⟩ := h.val 35 49 (by kernel_rfl)
      obtain rfl : v49 = .int .i64 K := f49
      have hg := h.guard 33 47 (by kernel_rfl) false (fun v hv => hv)
      have hbel := h.below
      clear h
      refine gives_by (by simp only [Region.wanted, hg]; rfl) act.eval rfl ?_
      generalize act.eval = ρ at *
      intro hf hc
      go_simp
      exact call_gives (HRU.out wx hbel) (fun _ => rfl)
    · intro act wx h
      have e1 : act.eval (.tmp 1) = .pointer (some ⟨r, 0, none⟩) := h.old 1 (by kernel_rfl)
      have hg := h.guard 33 47 (by kernel_rfl) false (fun v hv => hv)
      have hbel := h.below
      clear h
      refine gives_by (by simp only [Region.wanted, hg]; rfl) act.eval rfl ?_
      generalize act.eval = ρ at *
      intro hf hc
      go_simp
      exact ⟨Below.refl _ _, rfl⟩
    · intro act wx h
      have e2 : act.eval (.tmp 2) = .int .i64 K := h.old 2 (by kernel_rfl)
      have hg := h.guard 33 47 (by kernel_rfl) false (fun v hv => hv)
      have hbel := h.below
      clear h
      refine gives_by (by simp only [Region.wanted, hg]; rfl) act.eval rfl ?_
      generalize act.eval = ρ at *
      intro hf hc
      go_simp
      exact ⟨Below.refl _ _, rfl⟩
    · intro act wx h
      obtain ⟨v51, e51, f51⟩ := h.val 37 51 (by kernel_rfl)
      obtain rfl : v51 = .pointer (some ⟨r, 0, none⟩) := f51
      obtain ⟨v52, e52, f52⟩ := h.val 38 52 (by kernel_rfl)
      obtain rfl : v52 = .int .i64 K := f52
      have hg := h.guard 33 47 (by kernel_rfl) false (fun v hv => hv)
      have hbel := h.below
      clear h
      refine gives_by (by simp only [Region.wanted, hg]; rfl) act.eval rfl ?_
      generalize act.eval = ρ at *
      intro hf hc
      go_simp
      exact call_gives (HRR.out wx hbel) (fun _ => rfl)
    · intro act wx h
      obtain ⟨v50, e50, f50⟩ := h.val 36 50 (by kernel_rfl)
      obtain rfl : v50 = .int .i64 R1 := f50
      obtain ⟨v53, e53, f53⟩ := h.val 39 53 (by kernel_rfl)
      obtain rfl : v53 = .int .i64 R1 := f53
      have hg := h.guard 33 47 (by kernel_rfl) false (fun v hv => hv)
      have hbel := h.below
      clear h
      refine gives_by (by simp only [Region.wanted, hg]; rfl) act.eval rfl ?_
      generalize act.eval = ρ at *
      intro hf hc
      go_simp
      exact ⟨Below.refl _ _, rfl⟩
    · intro act wx h
      obtain ⟨v47, e47, f47⟩ := h.val 33 47 (by kernel_rfl)
      obtain rfl : v47 = .bool false := f47
      obtain ⟨v54, e54, f54⟩ := h.val 40 54 (by kernel_rfl)
      obtain rfl : v54 = .bool false := f54
      have hbel := h.below
      clear h
      refine gives_by rfl act.eval rfl ?_
      generalize act.eval = ρ at *
      intro hf hc
      go_simp
      exact ⟨Below.refl _ _, rfl⟩
    · intro act wx h
      obtain ⟨v55, e55, f55⟩ := h.val 41 55 (by kernel_rfl)
      obtain rfl : v55 = .bool false := f55
      have hbel := h.below
      clear h
      refine gives_by rfl act.eval rfl ?_
      generalize act.eval = ρ at *
      intro hf hc
      go_simp
      exact ⟨Below.refl _ _, rfl⟩
    · intro act wx h
      have e0 : act.eval (.tmp 0) = .pointer (some ⟨b, 0, none⟩) := h.old 0 (by kernel_rfl)
      have hg := h.guard 42 56 (by kernel_rfl) false (fun v hv => hv)
      have hbel := h.below
      clear h
      refine gives_by (by simp only [Region.wanted, hg]; rfl) act.eval rfl ?_
      generalize act.eval = ρ at *
      intro hf hc
      go_simp
      exact ⟨Below.refl _ _, rfl⟩
    · intro act wx h
      obtain ⟨v57, e57, f57⟩ := h.val 43 57 (by kernel_rfl)
      obtain rfl : v57 = .pointer (some ⟨b, 0, none⟩) := f57
      have hg := h.guard 42 56 (by kernel_rfl) false (fun v hv => hv)
      have hbel := h.below
      clear h
      refine gives_by (by simp only [Region.wanted, hg]; rfl) act.eval rfl ?_
      generalize act.eval = ρ at *
      intro hf hc
      go_simp
      refine (all_any wx (some ⟨b, 0, none⟩)).mono ?_
      rintro e wy ⟨rfl, hw⟩
      subst wy
      exact ⟨_, rfl, (Below.refl _ wx).alloc (Nat.le_refl _) _, _, rfl, hbel.size, Blk.new wx _ [dp b]⟩
    · intro act wx h
      obtain ⟨v58, e58, f58⟩ := h.val 44 58 (by kernel_rfl)
      obtain ⟨ga58, rfl, hga58, hB58⟩ := f58
      have hg := h.guard 42 56 (by kernel_rfl) false (fun v hv => hv)
      have hbel := h.below
      clear h
      refine gives_by (by simp only [Region.wanted, hg]; rfl) act.eval rfl ?_
      generalize act.eval = ρ at *
      intro hf hc
      go_simp
      refine (HPG.out wx hbel ga58 hga58 hB58).mono ?_
      rintro e wy ⟨a, c, rfl, hi, hb⟩
      exact ⟨_, rfl, hb, a, c, rfl, hi⟩
    · intro act wx h
      have e7 : act.eval (.tmp 7) = .slice al C cl := h.old 7 (by kernel_rfl)
      have hg := h.guard 42 56 (by kernel_rfl) false (fun v hv => hv)
      have hbel := h.below
      clear h
      refine gives_by (by simp only [Region.wanted, hg]; rfl) act.eval rfl ?_
      generalize act.eval = ρ at *
      intro hf hc
      go_simp
      exact ⟨Below.refl _ _, rfl⟩
    · intro act wx h
      obtain ⟨v59, e59, f59⟩ := h.val 45 59 (by kernel_rfl)
      obtain ⟨a59, c59, rfl, hi59⟩ := f59
      obtain ⟨v60, e60, f60⟩ := h.val 46 60 (by kernel_rfl)
      obtain rfl : v60 = .slice al C cl := f60
      have hg := h.guard 42 56 (by kernel_rfl) false (fun v hv => hv)
      have hbel := h.below
      clear h
      refine gives_by (by simp only [Region.wanted, hg]; rfl) act.eval rfl ?_
      generalize act.eval = ρ at *
      intro hf hc
      go_simp
      refine (refInts_any wx _ _ _ _ _ _ hi59 (HIL.out wx hbel)).mono ?_
      rw [decide_eq_true rfl]
      rintro e wy ⟨rfl, hb⟩
      exact ⟨_, rfl, hb, rfl⟩
    · intro act wx h
      obtain ⟨v61, e61, f61⟩ := h.val 47 61 (by kernel_rfl)
      obtain rfl : v61 = .bool true := f61
      have hg := h.guard 42 56 (by kernel_rfl) false (fun v hv => hv)
      have hbel := h.below
      clear h
      refine gives_by (by simp only [Region.wanted, hg]; rfl) act.eval rfl ?_
      generalize act.eval = ρ at *
      intro hf hc
      go_simp
      exact ⟨Below.refl _ _, rfl⟩
    · intro act wx h
      obtain ⟨v56, e56, f56⟩ := h.val 42 56 (by kernel_rfl)
      obtain rfl : v56 = .bool false := f56
      obtain ⟨v62, e62, f62⟩ := h.val 48 62 (by kernel_rfl)
      obtain rfl : v62 = .bool false := f62
      have hbel := h.below
      clear h
      refine gives_by rfl act.eval rfl ?_
      generalize act.eval = ρ at *
      intro hf hc
      go_simp
      exact ⟨Below.refl _ _, rfl⟩
    · intro act wx h
      obtain ⟨v63, e63, f63⟩ := h.val 49 63 (by kernel_rfl)
      obtain rfl : v63 = .bool false := f63
      have hbel := h.below
      clear h
      refine gives_by rfl act.eval rfl ?_
      generalize act.eval = ρ at *
      intro hf hc
      go_simp
      exact ⟨Below.refl _ _, rfl⟩
    · intro act wx h
      have e0 : act.eval (.tmp 0) = .pointer (some ⟨b, 0, none⟩) := h.old 0 (by kernel_rfl)
      have hg := h.guard 50 64 (by kernel_rfl) false (fun v hv => hv)
      have hbel := h.below
      clear h
      refine gives_by (by simp only [Region.wanted, hg]; rfl) act.eval rfl ?_
      generalize act.eval = ρ at *
      intro hf hc
      go_simp
      exact ⟨Below.refl _ _, rfl⟩
    · intro act wx h
      obtain ⟨v65, e65, f65⟩ := h.val 51 65 (by kernel_rfl)
      obtain rfl : v65 = .pointer (some ⟨b, 0, none⟩) := f65
      have hg := h.guard 50 64 (by kernel_rfl) false (fun v hv => hv)
      have hbel := h.below
      clear h
      refine gives_by (by simp only [Region.wanted, hg]; rfl) act.eval rfl ?_
      generalize act.eval = ρ at *
      intro hf hc
      go_simp
      refine (all_any wx (some ⟨b, 0, none⟩)).mono ?_
      rintro e wy ⟨rfl, hw⟩
      subst wy
      exact ⟨_, rfl, (Below.refl _ wx).alloc (Nat.le_refl _) _, _, rfl, hbel.size, Blk.new wx _ [dp b]⟩
    · intro act wx h
      obtain ⟨v66, e66, f66⟩ := h.val 52 66 (by kernel_rfl)
      obtain ⟨ga66, rfl, hga66, hB66⟩ := f66
      have hg := h.guard 50 64 (by kernel_rfl) false (fun v hv => hv)
      have hbel := h.below
      clear h
      refine gives_by (by simp only [Region.wanted, hg]; rfl) act.eval rfl ?_
      generalize act.eval = ρ at *
      intro hf hc
      go_simp
      refine (HPH.out wx hbel ga66 hga66 hB66).mono ?_
      rintro e wy ⟨a, c, rfl, hi, hb⟩
      exact ⟨_, rfl, hb, a, c, rfl, hi⟩
    · intro act wx h
      obtain ⟨v67, e67, f67⟩ := h.val 53 67 (by kernel_rfl)
      obtain ⟨a67, c67, rfl, hi67⟩ := f67
      have hg := h.guard 50 64 (by kernel_rfl) false (fun v hv => hv)
      have hbel := h.below
      clear h
      refine gives_by (by simp only [Region.wanted, hg]; rfl) act.eval rfl ?_
      generalize act.eval = ρ at *
      intro hf hc
      go_simp
      exact ⟨Below.refl _ _, rfl⟩
    · intro act wx h
      have e7 : act.eval (.tmp 7) = .slice al C cl := h.old 7 (by kernel_rfl)
      have hg := h.guard 50 64 (by kernel_rfl) false (fun v hv => hv)
      have hbel := h.below
      clear h
      refine gives_by (by simp only [Region.wanted, hg]; rfl) act.eval rfl ?_
      generalize act.eval = ρ at *
      intro hf hc
      go_simp
      exact ⟨Below.refl _ _, rfl⟩
    · intro act wx h
      obtain ⟨v69, e69, f69⟩ := h.val 55 69 (by kernel_rfl)
      obtain rfl : v69 = .slice al C cl := f69
      have hg := h.guard 50 64 (by kernel_rfl) false (fun v hv => hv)
      have hbel := h.below
      clear h
      refine gives_by (by simp only [Region.wanted, hg]; rfl) act.eval rfl ?_
      generalize act.eval = ρ at *
      intro hf hc
      go_simp
      exact ⟨Below.refl _ _, rfl⟩
    · intro act wx h
      obtain ⟨v70, e70, f70⟩ := h.val 56 70 (by kernel_rfl)
      obtain rfl : v70 = .int .i64 (C : Int) := f70
      have hg := h.guard 50 64 (by kernel_rfl) false (fun v hv => hv)
      have hbel := h.below
      clear h
      refine gives_by (by simp only [Region.wanted, hg]; rfl) act.eval rfl ?_
      generalize act.eval = ρ at *
      intro hf hc
      go_simp
      rw [HMI.out]
      exact ⟨Below.refl _ _, rfl⟩
    · intro act wx h
      obtain ⟨v68, e68, f68⟩ := h.val 54 68 (by kernel_rfl)
      obtain rfl : v68 = .int .i64 (C2 : Int) := f68
      obtain ⟨v71, e71, f71⟩ := h.val 57 71 (by kernel_rfl)
      obtain rfl : v71 = .int .i64 (C2 : Int) := f71
      have hg := h.guard 50 64 (by kernel_rfl) false (fun v hv => hv)
      have hbel := h.below
      clear h
      refine gives_by (by simp only [Region.wanted, hg]; rfl) act.eval rfl ?_
      generalize act.eval = ρ at *
      intro hf hc
      go_simp
      exact ⟨Below.refl _ _, rfl⟩
    · intro act wx h
      obtain ⟨v64, e64, f64⟩ := h.val 50 64 (by kernel_rfl)
      obtain rfl : v64 = .bool false := f64
      obtain ⟨v72, e72, f72⟩ := h.val 58 72 (by kernel_rfl)
      obtain rfl : v72 = .bool false := f72
      have hbel := h.below
      clear h
      refine gives_by rfl act.eval rfl ?_
      generalize act.eval = ρ at *
      intro hf hc
      go_simp
      exact ⟨Below.refl _ _, rfl⟩
  · intro vals w2 hb2 hv
    have hv59 : vals 59 = .bool false := hv 59 73 (by kernel_rfl)
    clear hv
    generalize hact : putAll _ vals 0 _ = act
    have HB2 := hide hb2
    clear hb2
    subst hact
    simp only [putAll, Act.put, List.setIfInBounds_toArray, List.set_cons_zero, List.set_cons_succ, hv59]
    have hS2 := (HS.out w2 HB2.out)
    have HRS : Hid (Calls Tryd.prog 19 #[.func (.func 40) #[] #[.pointer (some ⟨w2.heap.size, 0, none⟩)], .int .i64 1048576] (w2.alloc (.cells #[dp b] 23)) fun e w' => ∃ a c a' c', e = .returned (.tuple #[.slice a M c, .slice a' M c']) ∧ Is w' (.slice a M c) (r1 L) ∧ Is w' (.slice a' M c') (r2 L) ∧ Below w2.heap.size w2 w') := by
      refine (runs_set w2 b n f hS2 (HT.out w2 HB2.out) 1048576 (by decide)).mono ?_
      rintro e w' ⟨v, u, rfl, h1, h2, h3⟩
      rw [HLL.out, List.take_of_length_le (by rw [HM.out]; omega)] at h1 h2
      obtain ⟨a, c, rfl⟩ := h1.shape
      obtain ⟨a', c', rfl⟩ := h2.shape
      have i1 := is_of_own h1
      have i2 := is_of_own h2
      rw [r1_length, HM.out] at i1
      rw [r2_length, HM.out] at i2
      exact ⟨a, c, a', c', by rw [r1_length, r2_length, HM.out], i1, i2, h3⟩
    have HRS1 : Hid (∀ W, Below w2.heap.size w2 W → Calls Tryd.prog 19 #[.func (.func 40) #[] #[.pointer (some ⟨W.heap.size, 0, none⟩)], .int .i64 1] (W.alloc (.cells #[dp b] 23)) fun e w' => ∃ a c u, e = .returned (.tuple #[.slice a (min 1 M) c, u]) ∧ Below W.heap.size W w') := fun W hbW => by
      refine (runs_set W b n f (hS2.below hbW) ((HT.out w2 HB2.out).below hbW) 1 (by decide)).mono ?_
      rintro e w' ⟨v, u, rfl, h1, h2, h3⟩
      obtain ⟨a, c, rfl⟩ := h1.shape
      refine ⟨a, c, u, ?_, h3⟩
      rw [r1_length, List.length_take, HLL.out, HM.out]
    have HRN : Hid (∀ W, Below w2.heap.size w2 W → Calls Tryd.prog 39 #[dp r] W fun e w' => ∃ a c, e = .returned (.slice a M c) ∧ (∃ G, RRow w' W.heap.size (.slice a M c) L G) ∧ Below W.heap.size W w') := fun W hbW => by
      refine (refRuns_any W r g n f ((HR.out w2 HB2.out).below hbW)).mono ?_
      rintro e w' ⟨v, rfl, ⟨G, h1⟩, h2⟩
      rw [HLL.out] at h1
      obtain ⟨a, c, rfl⟩ := own_form' h1.row
      rw [HM.out] at h1 ⊢
      exact ⟨a, c, rfl, ⟨G, h1⟩, h2⟩
    have HRF := hide (fun W : World => runs_of W (some ⟨b, 0, none⟩))
    have HRF2 := hide HRF.out
    have HBW2 := hide (below_on HB1.out HB2.out)
    clear hS2 HSZ HLE HHA HHR HFI HFR HRU HRR HSV HPG HPH HMI HIL HS HR HT HRC HSw HRw HTw HI1
    go_wp2_with (first
      | (go_at_call 20; refine (HRF.out w2).mono ?_; rintro e w3 ⟨rfl, hw⟩; subst w3; clear HRF)
      | (go_at_call 19; refine HRS.out.mono ?_; rintro e w3 ⟨a, c, a', c', rfl, hi3, hj3, hb3⟩; have HI3 := hide hi3; have HJ3 := hide hj3; have HB3 := hide hb3; clear HRS hi3 hj3 hb3)
      | (go_at_call 39; refine (HRN.out w3 HB3.out).mono ?_; rintro e w4 ⟨a2, c2, rfl, hr4, hb4⟩; have HR4 := hide hr4; have HI4 := hide (HI3.out.below hb4); have HJ4 := hide (HJ3.out.below hb4); have HB4 := hide (below_on HB3.out hb4); clear HRN hr4 hb4))
    have hc1 := HI4.out.cap.2.1
    have hc2 := HI4.out.cap.2.2
    have hc1' := HJ4.out.cap.2.1
    have hc2' := HJ4.out.cap.2.2
    rw [r1_length, HM.out] at hc1
    rw [r2_length, HM.out] at hc1'
    unfold maxLen at hc2 hc2'
    go_loopg [89] M (fun gg iv wr => ∃ i q : Nat, gg + i = M ∧ iv = .int .i64 i ∧ w4.drewN q = wr)
    case atStart => exact ⟨0, 0, by omega, rfl, rfl⟩
    case round =>
      obtain ⟨i, q, hgi, rfl, rfl⟩ := hrel
      cases gk with
      | zero =>
        have hin : i = M := by omega
        have hii : ¬ (i : Int) < (M : Int) := by omega
        have HB5 : Hid (Below w2.heap.size w2 (w4.drewN q)) := below_drewN HB4.out q
        have HRF5 := hide (HRF2.out (w4.drewN q))
        have HRS5 := hide (HRS1.out (w4.drewN q) HB5.out)
        have hmin : (if (M : Int) < 1 then (M : Int) else 1) = ((min 1 M : Nat) : Int) := by split <;> omega
        obtain ⟨M1, hM1⟩ : ∃ M1, min 1 M = M1 := ⟨_, rfl⟩
        rw [hM1] at HRS5 hmin
        clear hin hM1 HRF2 HRS1
        go_wp2_with (first
          | (go_at_call 20; refine HRF5.out.mono ?_; rintro e w6 ⟨rfl, hw⟩; subst w6; clear HRF5)
          | (go_at_call 19; refine HRS5.out.mono ?_; rintro e w6 ⟨a6, c6, u6, rfl, hb6⟩; have HB6 := hide (below_on HBW2.out (below_on HB5.out hb6)); clear HRS5 hb6))
        go_ret
        exact ⟨rfl, HB6.out⟩
      | succ gg =>
        have hii : (i : Int) < (M : Int) := by omega
        have hil : i < L.length := by rw [HM.out]; omega
        obtain ⟨G, hG⟩ := HR4.out
        obtain ⟨gr, hgr, _, hcp1, hcp2, d1, d2, d3⟩ := hG.at i hil
        obtain ⟨ba, oa, hao, ca⟩ := Is.at HI4.out i (by rw [r1_length]; exact hil)
        obtain ⟨bb, ob, hbo, cb⟩ := Is.at HJ4.out i (by rw [r2_length]; exact hil)
        rw [r1_get L i hil] at ca
        rw [r2_get L i hil] at cb
        obtain ⟨P, hP⟩ : ∃ P, L[i].1 = P := ⟨_, rfl⟩
        obtain ⟨Q, hQ⟩ : ∃ Q, L[i].2 = Q := ⟨_, rfl⟩
        rw [hP] at ca d2
        rw [hQ] at cb d3
        obtain ⟨gm, hgm⟩ : ∃ gm, G i = gm := ⟨_, rfl⟩
        rw [hgm] at d1 d2 d3
        subst hgr
        subst hao
        subst hbo
        clear hG hP hQ hgm hil HRF2 HRS1
        go_wp2
        go_quiet (fail)
        go_wp2
        go_roundg gg
        case measure => omega
        case rel => exact ⟨i + 1, _, by omega, by go_num, rfl⟩

end Go.Proofs.YtibgkmbdnelbeaaDoor
