/- Contract: the document's One (incipitref14.One). -/
import Derived.Test.YtimmfnjkknbofaaDoorJJWdCd
import Derived.Test.YtimmfnjkknbofaaDoorJJWdOne
namespace Go.Proofs.YtimmfnjkknbofaaDoor
set_option maxRecDepth 20000
open Go.RowKit
set_option linter.unusedVariables false
set_option linter.unusedSimpArgs false
set_option maxRecDepth 100000

set_option maxHeartbeats 1000000 in
theorem oneD_any (w : World) (v : Value) (C : Cn) (h : CnfV w v C) (hok : CnOk C) (vt : Value) (zs : List Int) (hz : Sl w vt zs) (hl : zs.length ≤ 100000) :
    Calls Tryd.prog 18 #[v, vt] w fun e w' => e = .returned (.tuple #[.string (strOfNums (oneC C (rs zs)).1), .int .i64 (oneC C (rs zs)).2]) ∧ Below w.heap.size w w' := by
  obtain ⟨fo, fc, so, sc, w1, rfl, hw1, hb1, hB, hT, hS⟩ := box_cnf w v C h
  have HCK : Hid (∀ W, Below w1.heap.size w1 W → Calls Tryd.prog 13 #[.agg #[.slice fo C.fs.length fc, .slice so C.ss.length sc, .int .i64 C.cap]] W fun e w' => e = .returned (.int .i64 (mayE C)) ∧ Below W.heap.size W w') := fun W hb => checkD_any W _ C (h.below (hb1.trans (hb.mono hb1.size))) hok
  have HTM0 : Hid (∀ W B vr l, Below w1.heap.size w1 W → RnO W B vr l → l.length ≤ 100000 → (∀ r ∈ l, letN r = true) → Calls Tryd.prog 46 #[.agg #[.slice fo C.fs.length fc, .slice so C.ss.length sc, .int .i64 C.cap], vr] W fun e w' => e = .returned (.string (strOfNums (termZ (useL C.fs) C.cap.toNat l))) ∧ Below W.heap.size W w') := fun W B vr l hb hR hll hlet => termD_any W _ C (h.below (hb1.trans (hb.mono hb1.size))) B vr l hR hll hlet
  have HWD := hide (wordsD_any w1 vt zs (hz.below hb1) hl)
  have HE : Hid (mayE C = if mayC C = true then 0 else 140) := rfl
  have HIN := hide (wds_in (rs zs))
  have HEA : Hid (∀ x ∈ wds (rs zs), x.length ≤ 100000) := fun x hx => by have := wds_each (rs zs) x hx; have := rs_len zs; omega
  have HON : Hid (oneC C (rs zs) = if mayC C = true then oneL (useL C.fs) C.cap.toNat (wds (rs zs)) else ([], 140)) := rfl
  have hwl : (wds (rs zs)).length ≤ 100000 := by have := wds_len (rs zs); have := rs_len zs; omega
  have HB1 := hide hb1
  have HBX := hide hB
  have HCELL : Hid (∀ W, Below w1.heap.size w1 W → W.cell? ⟨w.heap.size, 0, none⟩ = some (.slice fo C.fs.length fc) ∧ W.cell? ⟨w.heap.size, 1, none⟩ = some (.slice so C.ss.length sc) ∧ W.cell? ⟨w.heap.size, 2, none⟩ = some (.int .i64 C.cap)) := fun W hb => by
    have hx := HBX.out.below hb HBX.out.lt
    exact ⟨hx.cell 0, hx.cell 1, hx.cell 2⟩
  have HOL : Hid (∀ l, oneL (useL C.fs) C.cap.toNat [l] = (termZ (useL C.fs) C.cap.toNat l, 0)) := fun l => rfl
  have HO0 : Hid (oneL (useL C.fs) C.cap.toNat [] = ([], 4)) := rfl
  have HO2 : Hid (∀ l m t, oneL (useL C.fs) C.cap.toNat (l :: m :: t) = ([], 3)) := fun l m t => rfl
  generalize oneL (useL C.fs) C.cap.toNat = ol at *
  generalize termZ (useL C.fs) C.cap.toNat = tz at *
  generalize oneC C (rs zs) = O at *
  generalize wds (rs zs) = WD at *
  generalize mayE C = E at *
  generalize mayC C = M at *
  obtain ⟨to, tn, tc, rfl⟩ := sl_form hz
  obtain ⟨fn, hfn⟩ : ∃ n, C.fs.length = n := ⟨_, rfl⟩
  obtain ⟨sn, hsn⟩ : ∃ n, C.ss.length = n := ⟨_, rfl⟩
  obtain ⟨K, hK⟩ : ∃ n, C.cap = n := ⟨_, rfl⟩
  rw [hfn] at hw1 HBX HCK HTM0 HCELL ⊢
  rw [hsn] at hw1 HBX HCK HTM0 HCELL ⊢
  rw [hK] at hw1 HBX HCK HTM0 HCELL ⊢
  obtain ⟨n, hn⟩ : ∃ n, WD.length = n := ⟨_, rfl⟩
  have HN := hide hn
  have hni : (n : Int) ≤ 100000 := by omega
  have HW1 := hide hw1
  clear h hT hS hB hb1 hok hz hfn hsn hK hw1 hn hwl
  cases M with
  | false =>
    have hE := HE.out
    rw [if_neg (by simp)] at hE
    subst hE
    have HR : Hid (O = ([], 140)) := by show _ = _; rw [HON.out, if_neg (by simp)]
    clear HE HTM0 HON
    go_enter Tryd.func18, Tryd.ntmps18
    go_wp2_with (first
      | (go_at_call 45; rw [HW1.out]; refine HWD.out.mono ?_; rintro e w2 ⟨u, vs, rfl, hu, hb⟩; obtain ⟨al, lc, rfl⟩ := hu.shape; have HB2 := hide hb; obtain ⟨c0, c1, c2⟩ := HCELL.out w2 hb; clear HWD hu hb HW1)
      | (go_at_call 13; refine (HCK.out w2 HB2.out).mono ?_; rintro e w3 ⟨rfl, hb⟩; have HB3 := hide (HB2.out.trans (hb.mono HB2.out.size)); clear HCK hb))
    go_ret2
    exact ⟨(by rw [HR.out, str_nil]; rfl), HB1.out.trans (HB3.out.mono HB1.out.size)⟩
  | true =>
    have hE := HE.out
    rw [if_pos rfl] at hE
    subst hE
    have HR : Hid (O = ol WD) := by show _ = _; rw [HON.out, if_pos rfl]
    clear HE HON
    go_enter Tryd.func18, Tryd.ntmps18
    by_cases h0 : n = 0
    · subst h0
      have HRR : Hid (O = ([], 4)) := by show _ = _; rw [HR.out, List.eq_nil_of_length_eq_zero HN.out, HO0.out]
      go_wp2_with (first
        | (go_at_call 45; rw [HW1.out]; refine HWD.out.mono ?_; rintro e w2 ⟨u, vs, rfl, hu, hb⟩; obtain ⟨al, lc, rfl⟩ := hu.shape; rw [HN.out]; have HB2 := hide hb; obtain ⟨c0, c1, c2⟩ := HCELL.out w2 hb; clear HWD hu hb HW1)
        | (go_at_call 13; refine (HCK.out w2 HB2.out).mono ?_; rintro e w3 ⟨rfl, hb⟩; have HB3 := hide (HB2.out.trans (hb.mono HB2.out.size)); clear HCK hb))
      go_ret2
      exact ⟨(by rw [HRR.out, str_nil]; rfl), HB1.out.trans (HB3.out.mono HB1.out.size)⟩
    by_cases h1 : n = 1
    · subst h1
      obtain ⟨l, hl1⟩ := List.length_eq_one_iff.1 HN.out
      have HRR : Hid (O = (tz l, 0)) := by show _ = _; rw [HR.out, hl1, HOL.out]
      have HLM : Hid (l ∈ WD) := by rw [hl1]; exact List.mem_singleton.2 rfl
      have HL1 := hide hl1
      obtain ⟨s, hs⟩ : ∃ s, strOfNums (tz l) = s := ⟨_, rfl⟩
      have HSD := hide hs
      clear hl1 hs
      go_wp2_with (first
        | (go_at_call 45; rw [HW1.out]; refine HWD.out.mono ?_; rintro e w2 ⟨u, vs, rfl, hu, hb⟩; obtain ⟨al, lc, rfl⟩ := hu.shape; rw [HN.out] at hu ⊢; have HU := hide hu; have HB2 := hide hb; obtain ⟨c0, c1, c2⟩ := HCELL.out w2 hb; clear HWD hu hb HW1)
        | (go_at_call 13; refine (HCK.out w2 HB2.out).mono ?_; rintro e w3 ⟨rfl, hb⟩; have HB3 := hide (HB2.out.trans (hb.mono HB2.out.size)); have HB23 := hide hb; clear HCK hb))
      obtain ⟨go, u, e, _, hcx, hur, hgl, _⟩ := HU.out.at 0 (by rw [HN.out]; omega)
      subst e
      have hld : WD[0]'(by rw [HN.out]; omega) = l := by simp [HL1.out]
      rw [hld] at hur
      obtain ⟨ua, uc, hus⟩ := hur.shape
      obtain ⟨ul, hul⟩ : ∃ n, l.length = n := ⟨_, rfl⟩
      rw [hul] at hus
      have HGX : Hid (∀ W, Below w3.heap.size w3 W → W.cell? ⟨go, 0, none⟩ = some u) := fun W hw => by
        have h1 := HB23.out.block go hgl
        have h2 := hw.block go (by have := HB23.out.size; omega)
        exact (World.cell?_of_block (a := ⟨go, 0, none⟩) (h2.trans h1)).trans hcx
      have HTM1 : Hid (∀ W, Below w3.heap.size w3 W → Calls Tryd.prog 46 #[.agg #[.slice fo fn fc, .slice so sn sc, .int .i64 K], u] W fun e w' => e = .returned (.string (strOfNums (tz l))) ∧ Below W.heap.size W w') := fun W hw => HTM0.out W _ u l (HB3.out.trans (hw.mono HB3.out.size)) ((hur.below HB23.out).below hw) (HEA.out l HLM.out) (HIN.out l HLM.out).2
      rw [HSD.out] at HTM1
      have HTM := HTM1
      subst hus
      clear hcx hur hld hul HTM1 c0 c1 c2
      refine wp_region_facts (FL [isV (.agg #[.slice fo fn fc, .slice so sn sc, .int .i64 K]), isV (.slice (some ⟨go, 0, none⟩) 1 lc), isV (.pointer (some ⟨go, 0, none⟩)), isV (.slice ua ul uc), isV (.string s), isV (.string s), isV (.int .i64 0)]) 26 (by kernel_rfl) (by kernel_rfl) (by kernel_rfl) rfl (FL_stable _ (by repeat (first | exact trivial | refine ⟨stable_isV _, ?_⟩))) ?_ ?_
      · refine ⟨?_, ?_, ?_, ?_, ?_, ?_, ?_, trivial⟩
        · intro act wx h
          have e2 : act.eval (.tmp 2) = .pointer (some ⟨w.heap.size, 0, none⟩) := h.old 2 (by kernel_rfl)
          have hbel := h.below
          clear h
          obtain ⟨c0, c1, c2⟩ := HCELL.out wx (HB3.out.trans (hbel.mono HB3.out.size))
          refine gives_by rfl act.eval rfl ?_
          generalize act.eval = ρ at *
          intro hf hc
          go_simp
          exact ⟨Below.refl _ _, rfl⟩
        · intro act wx h
          have e6 : act.eval (.tmp 6) = .slice (some ⟨go, 0, none⟩) 1 lc := h.old 6 (by kernel_rfl)
          have hbel := h.below
          clear h
          refine gives_by rfl act.eval rfl ?_
          generalize act.eval = ρ at *
          intro hf hc
          go_simp
          exact ⟨Below.refl _ _, rfl⟩
        · intro act wx h
          obtain ⟨v10, e10, f10⟩ := h.val 1 10 (by kernel_rfl)
          obtain rfl : v10 = .slice (some ⟨go, 0, none⟩) 1 lc := f10
          have hbel := h.below
          clear h
          refine gives_by rfl act.eval rfl ?_
          generalize act.eval = ρ at *
          intro hf hc
          go_simp
          exact ⟨Below.refl _ _, rfl⟩
        · intro act wx h
          obtain ⟨v11, e11, f11⟩ := h.val 2 11 (by kernel_rfl)
          obtain rfl : v11 = .pointer (some ⟨go, 0, none⟩) := f11
          have hbel := h.below
          clear h
          have cx := HGX.out wx hbel
          refine gives_by rfl act.eval rfl ?_
          generalize act.eval = ρ at *
          intro hf hc
          go_simp
          exact ⟨Below.refl _ _, rfl⟩
        · intro act wx h
          obtain ⟨v9, e9, f9⟩ := h.val 0 9 (by kernel_rfl)
          obtain rfl : v9 = .agg #[.slice fo fn fc, .slice so sn sc, .int .i64 K] := f9
          obtain ⟨v12, e12, f12⟩ := h.val 3 12 (by kernel_rfl)
          obtain rfl : v12 = .slice ua ul uc := f12
          have hbel := h.below
          clear h
          refine gives_by rfl act.eval rfl ?_
          generalize act.eval = ρ at *
          intro hf hc
          go_simp
          exact call_gives (HTM.out wx hbel) (fun _ => rfl)
        · intro act wx h
          obtain ⟨v13, e13, f13⟩ := h.val 4 13 (by kernel_rfl)
          obtain rfl : v13 = .string s := f13
          have hbel := h.below
          clear h
          refine gives_by rfl act.eval rfl ?_
          generalize act.eval = ρ at *
          intro hf hc
          go_simp
          exact ⟨Below.refl _ _, rfl⟩
        · intro act wx h
          have hbel := h.below
          clear h
          refine gives_by rfl act.eval rfl ?_
          generalize act.eval = ρ at *
          intro hf hc
          go_simp
          exact ⟨Below.refl _ _, rfl⟩
      · intro vals w8 hb8 hv
        have hv4 : vals 5 = .string s := hv 5 4 (by kernel_rfl)
        have hv5 : vals 6 = .int .i64 0 := hv 6 5 (by kernel_rfl)
        clear hv
        generalize hact : putAll _ vals 0 _ = act
        have HB8 : Hid (Below w1.heap.size w1 w8) := HB3.out.trans (hb8.mono HB3.out.size)
        clear hb8
        subst hact
        simp only [putAll, Act.put, List.setIfInBounds_toArray, List.set_cons_zero, List.set_cons_succ, hv4, hv5, Nat.zero_add, Nat.reduceAdd]
        clear hv4 hv5
        go_wp2
        go_ret2
        exact ⟨(by rw [HRR.out]; simp only [HSD.out]; rfl), HB1.out.trans (HB8.out.mono HB1.out.size)⟩
    · have h1i : (1 : Int) < (n : Int) := by omega
      have h0i : ¬ (n : Int) = 0 := by omega
      have HRR : Hid (O = ([], 3)) := by
        show _ = _
        rw [HR.out]
        match WD, HN.out with
        | [], e => simp at e; omega
        | [_], e => simp at e; omega
        | a :: b :: t, _ => exact HO2.out a b t
      go_wp2_with (first
        | (go_at_call 45; rw [HW1.out]; refine HWD.out.mono ?_; rintro e w2 ⟨u, vs, rfl, hu, hb⟩; obtain ⟨al, lc, rfl⟩ := hu.shape; rw [HN.out]; have HB2 := hide hb; obtain ⟨c0, c1, c2⟩ := HCELL.out w2 hb; clear HWD hu hb HW1)
        | (go_at_call 13; refine (HCK.out w2 HB2.out).mono ?_; rintro e w3 ⟨rfl, hb⟩; have HB3 := hide (HB2.out.trans (hb.mono HB2.out.size)); clear HCK hb))
      go_ret2
      exact ⟨(by rw [HRR.out, str_nil]; rfl), HB1.out.trans (HB3.out.mono HB1.out.size)⟩

end Go.Proofs.YtimmfnjkknbofaaDoor
