/- Walk: incipitlaw13.FoldRunes. -/
import Derived.Test.YtfpphepjkpofiaaDoorFdLive
import Derived.Test.YtfpphepjkpofiaaDoorFRunesR
namespace Go.Proofs.YtfpphepjkpofiaaDoor
set_option maxRecDepth 20000
open Go.RowKit
set_option linter.unusedVariables false
set_option linter.unusedSimpArgs false
set_option maxRecDepth 100000

def isRn (s : ByteArray) : Value → World → Prop := fun v w => ∃ g, v = .func (.func 32) #[] #[.pointer (some ⟨g, 0, none⟩)] ∧ Blk w g 9 [.string s]
theorem stable_isRn (s : ByteArray) : ∀ v w w', Below w.heap.size w w' → isRn s v w → isRn s v w' := fun v w w' hb ⟨g, h1, h2⟩ => ⟨g, h1, h2.below hb h2.lt⟩
def isMk (R : List (Nat × Nat)) : Value → World → Prop := fun v w => MkR w v R ∧ True
theorem stable_isMk (R : List (Nat × Nat)) : ∀ v w w', Below w.heap.size w w' → isMk R v w → isMk R v w' := fun v w w' hb h => ⟨h.1.below hb, trivial⟩
theorem MkR.take {w : World} {ao : Option Addr} {n cap : Nat} {xs : List (Nat × Nat)} (h : MkR w (.slice ao n cap) xs) (m : Nat) (hm : m ≤ n) : MkR w (.slice ao m cap) (xs.take m) := by
  obtain ⟨ao', cap', he, h1, h2, h4, h3⟩ := h
  obtain ⟨rfl, rfl, rfl⟩ : ao = ao' ∧ n = xs.length ∧ cap = cap' := by simpa using he
  have hl : (xs.take m).length = m := by simp; omega
  refine ⟨ao, cap, by rw [hl], by omega, by omega, h4, fun hx => ?_⟩
  obtain ⟨b, off, rfl, hc⟩ := h3 (by intro e; rw [e] at hx; simp at hx)
  refine ⟨b, off, rfl, fun i hi => ?_⟩
  rw [hl] at hi
  have := hc i (by omega)
  rwa [show (xs.take m).getD i (0, 0) = xs.getD i (0, 0) by simp [List.getD, hi]]

set_option maxHeartbeats 2000000 in
theorem foldRunes_walk (w : World) (vb : Value) (zs : List Int) (hz : Sl w vb zs) (M0 : Int) (hM0 : 0 ≤ M0 ∧ M0 ≤ 255) (hL : Let w) :
    Calls Tryd.prog 3 #[vb, .int .u8 M0] w fun e w' => e = .returned (.bool true) ∧ Below w.heap.size w w' := by
  have HLV : Hid (∀ W, Below w.heap.size w W → Calls Tryd.prog 8 #[] W fun e w' => e = .returned (.bool true) ∧ Below W.heap.size W w') := fun W h => live_any W (hL.below h)
  obtain ⟨M, rfl⟩ : ∃ M : Nat, M0 = (M : Int) := ⟨M0.toNat, by omega⟩
  obtain ⟨bo, bn, bc, rfl⟩ := sl_form hz
  have hbl := sl_len hz
  by_cases h1 : 3000 < bn
  · have h1i : (3000 : Int) < (bn : Int) := by omega
    clear hL hz hbl
    go_enter Tryd.func3, Tryd.ntmps3
    go_wp2_with (first
      | (go_at_call 8; refine (HLV.out w (Below.refl _ w)).mono ?_; rintro e w1 ⟨rfl, hb⟩; have HB1 := hide hb; clear hb)
      | (go_at_call 8; refine (HLV.out w1 HB1.out).mono ?_; rintro e w2 ⟨rfl, hb⟩; have HB2 := hide (HB1.out.trans (hb.mono HB1.out.size)); clear hb))
    go_ret
    exact ⟨rfl, HB2.out⟩
  have h1i : ¬ (3000 : Int) < (bn : Int) := by omega
  have hrl := runesN_len zs
  have HRR : Hid (∀ W, Below w.heap.size w W → Calls Tryd.prog 9 #[.slice bo bn bc] W fun e w' => ∃ u, e = .returned u ∧ Marks w' W.heap.size u (runesN zs) ∧ Below W.heap.size W w') := fun W h => refRunes_any W _ zs (hz.below h) (by omega)
  have HRN0 : Hid (∀ W, Below w.heap.size w W → Calls Tryd.prog 12 #[.slice bo bn bc] W fun e w' => ∃ v, e = .returned v ∧ Below W.heap.size W w' ∧ isRn (strOfNums zs) v w') := fun W h => by
    refine (runes_any W _ zs (hz.below h)).mono ?_
    rintro e w' ⟨rfl, rfl⟩
    exact ⟨_, rfl, (Below.refl _ W).alloc (Nat.le_refl _) _, _, rfl, Blk.new W _ _⟩
  have HMK : Hid (∀ W g (m : Nat), m ≤ 2000000 → Blk W g 9 [.string (strOfNums zs)] → Calls Tryd.prog 11 #[.func (.func 32) #[] #[.pointer (some ⟨g, 0, none⟩)], .int .i64 (m : Int)] W fun e w' => ∃ v, e = .returned v ∧ Below W.heap.size W w' ∧ isMk ((runesN zs).take m) v w') := fun W g m hm hB => by
    refine (marksR_any W g zs hB (by omega) m hm).mono ?_
    rintro e w' ⟨v, rfl, hm, hb⟩
    exact ⟨v, rfl, hb, hm.read (by simp; omega), trivial⟩
  have HCO0 : Hid (∀ W, Below w.heap.size w W → Calls Tryd.prog 13 #[.slice bo bn bc] W fun e w' => e = .returned (.int .i64 ((runesN zs).length : Nat)) ∧ Below W.heap.size W w') := fun W h => count_any W _ zs (hz.below h) (by omega)
  generalize strOfNums zs = s at *
  generalize runesN zs = R at *
  obtain ⟨kn, hkn⟩ : ∃ k, R.length = k := ⟨_, rfl⟩
  have HKN := hide hkn
  have hkl : kn ≤ 3000 := by omega
  rw [hkn] at HCO0
  clear hL hz hbl hkn hrl h1
  go_enter Tryd.func3, Tryd.ntmps3
  go_wp2_with (first
    | (go_at_call 8; refine (HLV.out w (Below.refl _ w)).mono ?_; rintro e w1 ⟨rfl, hb⟩; have HB1 := hide hb; clear HLV hb)
    | (go_at_call 9; refine (HRR.out w1 HB1.out).mono ?_; rintro e w2 ⟨u, rfl, hu, hb⟩; have HB2 := hide (HB1.out.trans (hb.mono HB1.out.size)); obtain ⟨al, cl, rfl⟩ := hu.shape; rw [HKN.out] at hu ⊢; have HU := hide (hu.read (by have := HKN.out; omega)); clear HRR hu hb))
  have hcap : kn ≤ cl ∧ cl ≤ maxLen := by
    obtain ⟨ao', cap', he, _, h2, h3, _⟩ := HU.out
    have := HKN.out
    simp at he
    omega
  obtain ⟨mn, hmn⟩ : ∃ m, (if M < kn then M else kn) = m := ⟨_, rfl⟩
  have hmnk : mn ≤ kn ∧ mn ≤ M := by rw [← hmn]; split <;> omega
  have HMI : Hid (∀ wx, ∀ (ts : Array TypeId) (t : TypeId), (Builtin.min_ ts t #[.int .i64 (kn : Int), .int .i64 (M : Int)]).run Tryd.prog wx = .ok (.int .i64 (mn : Int)) wx) := fun wx ts t => by
    rw [run_min_int2]
    rw [← hmn]
    by_cases h : M < kn
    · rw [if_pos h]; simp; omega
    · rw [if_neg h]; simp; omega
  have HCT : Hid (∀ wx, (Instr.slice 24 (.slice al kn cl) none (some (.int .i64 (mn : Int))) none).run Tryd.prog wx = .ok (.slice al mn cl) wx) := fun wx => cut_head 24 28 2 Tryd.underlying24 (by kernel_rfl) al kn cl mn (by omega) hcap.2 wx
  have HRN : Hid (∀ wx, Below w2.heap.size w2 wx → Calls Tryd.prog 12 #[.slice bo bn bc] wx fun e w' => ∃ v, e = .returned v ∧ Below wx.heap.size wx w' ∧ isRn s v w') := fun wx h => HRN0.out wx (HB2.out.trans (h.mono HB2.out.size))
  have HCO : Hid (∀ wx, Below w2.heap.size w2 wx → Calls Tryd.prog 13 #[.slice bo bn bc] wx fun e w' => e = .returned (.int .i64 (kn : Int)) ∧ Below wx.heap.size wx w') := fun wx h => HCO0.out wx (HB2.out.trans (h.mono HB2.out.size))
  have HMK1 : Hid (∀ wx, Below w2.heap.size w2 wx → ∀ g, Blk wx g 9 [.string s] → Calls Tryd.prog 11 #[.func (.func 32) #[] #[.pointer (some ⟨g, 0, none⟩)], .int .i64 1048576] wx fun e w' => ∃ v, e = .returned v ∧ Below wx.heap.size wx w' ∧ isMk R v w') := fun wx h g hB => by
    have := HMK.out wx g 1048576 (by omega) hB
    rwa [List.take_of_length_le (by have := HKN.out; omega)] at this
  have HMK2 : Hid (∀ wx, Below w2.heap.size w2 wx → ∀ g, Blk wx g 9 [.string s] → Calls Tryd.prog 11 #[.func (.func 32) #[] #[.pointer (some ⟨g, 0, none⟩)], .int .i64 (M : Int)] wx fun e w' => ∃ v, e = .returned v ∧ Below wx.heap.size wx w' ∧ isMk (R.take M) v w') := fun wx h g hB => HMK.out wx g M (by omega) hB
  have HE1 : Hid (∀ wx, Below w2.heap.size w2 wx → ∀ v, MkR wx v R → Calls Tryd.prog 10 #[v, .slice al kn cl] wx fun e w' => e = .returned (.bool true) ∧ Below wx.heap.size wx w') := fun wx h v hv => by
    have := equalM_any wx v _ R R hv (HU.out.below h)
    rwa [decide_eq_true rfl] at this
  have HE2 : Hid (∀ wx, Below w2.heap.size w2 wx → ∀ v, MkR wx v (R.take M) → Calls Tryd.prog 10 #[v, .slice al mn cl] wx fun e w' => e = .returned (.bool true) ∧ Below wx.heap.size wx w') := fun wx h v hv => by
    have he : R.take mn = R.take M := by
      rw [← hmn]
      by_cases h : M < kn
      · rw [if_pos h]
      · rw [if_neg h, List.take_of_length_le (by have := HKN.out; omega), List.take_of_length_le (by have := HKN.out; omega)]
    have := equalM_any wx v _ (R.take M) (R.take M) hv (by rw [← he]; exact (HU.out.below h).take mn hmnk.1)
    rwa [decide_eq_true rfl] at this
  have hMi : (M : Int) ≤ 255 := by omega
  clear hmn hmnk hcap HMK HRN0 HCO0
  refine wp_region_facts (FL [isV (.slice bo bn bc), isRn s, isMk (R), isV (.slice al kn cl), isV (.bool true), isV (.bool true), isV (.slice bo bn bc), isRn s, isV (.int .u8 (M : Int)), isV (.int .i64 (M : Int)), isMk (R.take M), isV (.slice al kn cl), isV (.slice al kn cl), isV (.int .i64 (kn : Int)), isV (.int .u8 (M : Int)), isV (.int .i64 (M : Int)), isV (.int .i64 (mn : Int)), isV (.slice al mn cl), isV (.bool true), isV (.bool true), isV (.bool true), isV (.slice bo bn bc), isV (.int .i64 (kn : Int)), isV (.slice al kn cl), isV (.int .i64 (kn : Int)), isV (.bool true), isV (.bool true), isV (.bool true)]) 43 (by kernel_rfl) (by kernel_rfl) (by kernel_rfl) rfl (FL_stable _ (by repeat (first | exact trivial | refine ⟨stable_isV _, ?_⟩ | refine ⟨stable_isRn _, ?_⟩ | refine ⟨stable_isMk _, ?_⟩))) ?_ ?_
  · refine ⟨?_, ?_, ?_, ?_, ?_, ?_, ?_, ?_, ?_, ?_, ?_, ?_, ?_, ?_, ?_, ?_, ?_, ?_, ?_, ?_, ?_, ?_, ?_, ?_, ?_, ?_, ?_, ?_, trivial⟩
    · intro act wx h
      have e0 : act.eval (.tmp 0) = .slice bo bn bc := h.old 0 (by kernel_rfl)
      have hbel := h.below
      clear h
      refine gives_by rfl act.eval rfl ?_
      generalize act.eval = ρ at *
      intro hf hc
      go_simp
      exact ⟨Below.refl _ _, rfl⟩
    · intro act wx h
      obtain ⟨v16, e16, f16⟩ := h.val 0 16 (by kernel_rfl)
      obtain rfl : v16 = .slice bo bn bc := f16
      have hbel := h.below
      clear h
      refine gives_by rfl act.eval rfl ?_
      generalize act.eval = ρ at *
      intro hf hc
      go_simp
      exact HRN.out wx hbel
    · intro act wx h
      obtain ⟨v17, e17, f17⟩ := h.val 1 17 (by kernel_rfl)
      obtain ⟨g17, rfl, hg17⟩ := f17
      have hbel := h.below
      clear h
      refine gives_by rfl act.eval rfl ?_
      generalize act.eval = ρ at *
      intro hf hc
      go_simp
      exact HMK1.out wx hbel g17 hg17
    · intro act wx h
      have e5 : act.eval (.tmp 5) = .slice al kn cl := h.old 5 (by kernel_rfl)
      have hbel := h.below
      clear h
      refine gives_by rfl act.eval rfl ?_
      generalize act.eval = ρ at *
      intro hf hc
      go_simp
      exact ⟨Below.refl _ _, rfl⟩
    · intro act wx h
      obtain ⟨v18, e18, f18⟩ := h.val 2 18 (by kernel_rfl)
      obtain ⟨hm18, _⟩ := f18
      obtain ⟨v19, e19, f19⟩ := h.val 3 19 (by kernel_rfl)
      obtain rfl : v19 = .slice al kn cl := f19
      have hbel := h.below
      clear h
      refine gives_by rfl act.eval rfl ?_
      generalize act.eval = ρ at *
      intro hf hc
      go_simp
      exact call_gives (HE1.out wx hbel v18 hm18) (fun _ => rfl)
    · intro act wx h
      obtain ⟨v20, e20, f20⟩ := h.val 4 20 (by kernel_rfl)
      obtain rfl : v20 = .bool true := f20
      have hbel := h.below
      clear h
      refine gives_by rfl act.eval rfl ?_
      generalize act.eval = ρ at *
      intro hf hc
      go_simp
      exact ⟨Below.refl _ _, rfl⟩
    · intro act wx h
      have e0 : act.eval (.tmp 0) = .slice bo bn bc := h.old 0 (by kernel_rfl)
      have hg := h.guard 5 21 (by kernel_rfl) true (fun v hv => hv)
      have hbel := h.below
      clear h
      refine gives_by (by simp only [Region.wanted, hg]; rfl) act.eval rfl ?_
      generalize act.eval = ρ at *
      intro hf hc
      go_simp
      exact ⟨Below.refl _ _, rfl⟩
    · intro act wx h
      obtain ⟨v22, e22, f22⟩ := h.val 6 22 (by kernel_rfl)
      obtain rfl : v22 = .slice bo bn bc := f22
      have hg := h.guard 5 21 (by kernel_rfl) true (fun v hv => hv)
      have hbel := h.below
      clear h
      refine gives_by (by simp only [Region.wanted, hg]; rfl) act.eval rfl ?_
      generalize act.eval = ρ at *
      intro hf hc
      go_simp
      exact HRN.out wx hbel
    · intro act wx h
      have e1 : act.eval (.tmp 1) = .int .u8 (M : Int) := h.old 1 (by kernel_rfl)
      have hg := h.guard 5 21 (by kernel_rfl) true (fun v hv => hv)
      have hbel := h.below
      clear h
      refine gives_by (by simp only [Region.wanted, hg]; rfl) act.eval rfl ?_
      generalize act.eval = ρ at *
      intro hf hc
      go_simp
      exact ⟨Below.refl _ _, rfl⟩
    · intro act wx h
      obtain ⟨v24, e24, f24⟩ := h.val 8 24 (by kernel_rfl)
      obtain rfl : v24 = .int .u8 (M : Int) := f24
      have hg := h.guard 5 21 (by kernel_rfl) true (fun v hv => hv)
      have hbel := h.below
      clear h
      have hwm : IntKind.i64.wrap (M : Int) = (M : Int) := IntWalk.i64_in _ ⟨by omega, by omega⟩
      refine gives_by (by simp only [Region.wanted, hg]; rfl) act.eval rfl ?_
      generalize act.eval = ρ at *
      intro hf hc
      go_simp
      exact ⟨Below.refl _ _, rfl⟩
    · intro act wx h
      obtain ⟨v23, e23, f23⟩ := h.val 7 23 (by kernel_rfl)
      obtain ⟨g23, rfl, hg23⟩ := f23
      obtain ⟨v25, e25, f25⟩ := h.val 9 25 (by kernel_rfl)
      obtain rfl : v25 = .int .i64 (M : Int) := f25
      have hg := h.guard 5 21 (by kernel_rfl) true (fun v hv => hv)
      have hbel := h.below
      clear h
      refine gives_by (by simp only [Region.wanted, hg]; rfl) act.eval rfl ?_
      generalize act.eval = ρ at *
      intro hf hc
      go_simp
      exact HMK2.out wx hbel g23 hg23
    · intro act wx h
      have e5 : act.eval (.tmp 5) = .slice al kn cl := h.old 5 (by kernel_rfl)
      have hg := h.guard 5 21 (by kernel_rfl) true (fun v hv => hv)
      have hbel := h.below
      clear h
      refine gives_by (by simp only [Region.wanted, hg]; rfl) act.eval rfl ?_
      generalize act.eval = ρ at *
      intro hf hc
      go_simp
      exact ⟨Below.refl _ _, rfl⟩
    · intro act wx h
      have e5 : act.eval (.tmp 5) = .slice al kn cl := h.old 5 (by kernel_rfl)
      have hg := h.guard 5 21 (by kernel_rfl) true (fun v hv => hv)
      have hbel := h.below
      clear h
      refine gives_by (by simp only [Region.wanted, hg]; rfl) act.eval rfl ?_
      generalize act.eval = ρ at *
      intro hf hc
      go_simp
      exact ⟨Below.refl _ _, rfl⟩
    · intro act wx h
      obtain ⟨v28, e28, f28⟩ := h.val 12 28 (by kernel_rfl)
      obtain rfl : v28 = .slice al kn cl := f28
      have hg := h.guard 5 21 (by kernel_rfl) true (fun v hv => hv)
      have hbel := h.below
      clear h
      refine gives_by (by simp only [Region.wanted, hg]; rfl) act.eval rfl ?_
      generalize act.eval = ρ at *
      intro hf hc
      go_simp
      exact ⟨Below.refl _ _, rfl⟩
    · intro act wx h
      have e1 : act.eval (.tmp 1) = .int .u8 (M : Int) := h.old 1 (by kernel_rfl)
      have hg := h.guard 5 21 (by kernel_rfl) true (fun v hv => hv)
      have hbel := h.below
      clear h
      refine gives_by (by simp only [Region.wanted, hg]; rfl) act.eval rfl ?_
      generalize act.eval = ρ at *
      intro hf hc
      go_simp
      exact ⟨Below.refl _ _, rfl⟩
    · intro act wx h
      obtain ⟨v30, e30, f30⟩ := h.val 14 30 (by kernel_rfl)
      obtain rfl : v30 = .int .u8 (M : Int) := f30
      have hg := h.guard 5 21 (by kernel_rfl) true (fun v hv => hv)
      have hbel := h.below
      clear h
      have hwm : IntKind.i64.wrap (M : Int) = (M : Int) := IntWalk.i64_in _ ⟨by omega, by omega⟩
      refine gives_by (by simp only [Region.wanted, hg]; rfl) act.eval rfl ?_
      generalize act.eval = ρ at *
      intro hf hc
      go_simp
      exact ⟨Below.refl _ _, rfl⟩
    · intro act wx h
      obtain ⟨v29, e29, f29⟩ := h.val 13 29 (by kernel_rfl)
      obtain rfl : v29 = .int .i64 (kn : Int) := f29
      obtain ⟨v31, e31, f31⟩ := h.val 15 31 (by kernel_rfl)
      obtain rfl : v31 = .int .i64 (M : Int) := f31
      have hg := h.guard 5 21 (by kernel_rfl) true (fun v hv => hv)
      have hbel := h.below
      clear h
      have hmi := HMI.out wx
      refine gives_by (by simp only [Region.wanted, hg]; rfl) act.eval rfl ?_
      generalize act.eval = ρ at *
      intro hf hc
      go_simp
      exact ⟨Below.refl _ _, rfl⟩
    · intro act wx h
      obtain ⟨v27, e27, f27⟩ := h.val 11 27 (by kernel_rfl)
      obtain rfl : v27 = .slice al kn cl := f27
      obtain ⟨v32, e32, f32⟩ := h.val 16 32 (by kernel_rfl)
      obtain rfl : v32 = .int .i64 (mn : Int) := f32
      have hg := h.guard 5 21 (by kernel_rfl) true (fun v hv => hv)
      have hbel := h.below
      clear h
      have hct := HCT.out wx
      refine gives_by (by simp only [Region.wanted, hg]; rfl) act.eval rfl ?_
      generalize act.eval = ρ at *
      intro hf hc
      go_simp
      exact ⟨Below.refl _ _, rfl⟩
    · intro act wx h
      obtain ⟨v26, e26, f26⟩ := h.val 10 26 (by kernel_rfl)
      obtain ⟨hm26, _⟩ := f26
      obtain ⟨v33, e33, f33⟩ := h.val 17 33 (by kernel_rfl)
      obtain rfl : v33 = .slice al mn cl := f33
      have hg := h.guard 5 21 (by kernel_rfl) true (fun v hv => hv)
      have hbel := h.below
      clear h
      refine gives_by (by simp only [Region.wanted, hg]; rfl) act.eval rfl ?_
      generalize act.eval = ρ at *
      intro hf hc
      go_simp
      exact call_gives (HE2.out wx hbel v26 hm26) (fun _ => rfl)
    · intro act wx h
      obtain ⟨v21, e21, f21⟩ := h.val 5 21 (by kernel_rfl)
      obtain rfl : v21 = .bool true := f21
      obtain ⟨v34, e34, f34⟩ := h.val 18 34 (by kernel_rfl)
      obtain rfl : v34 = .bool true := f34
      have hbel := h.below
      clear h
      refine gives_by rfl act.eval rfl ?_
      generalize act.eval = ρ at *
      intro hf hc
      go_simp
      exact ⟨Below.refl _ _, rfl⟩
    · intro act wx h
      obtain ⟨v35, e35, f35⟩ := h.val 19 35 (by kernel_rfl)
      obtain rfl : v35 = .bool true := f35
      have hbel := h.below
      clear h
      refine gives_by rfl act.eval rfl ?_
      generalize act.eval = ρ at *
      intro hf hc
      go_simp
      exact ⟨Below.refl _ _, rfl⟩
    · intro act wx h
      have e0 : act.eval (.tmp 0) = .slice bo bn bc := h.old 0 (by kernel_rfl)
      have hg := h.guard 20 36 (by kernel_rfl) true (fun v hv => hv)
      have hbel := h.below
      clear h
      refine gives_by (by simp only [Region.wanted, hg]; rfl) act.eval rfl ?_
      generalize act.eval = ρ at *
      intro hf hc
      go_simp
      exact ⟨Below.refl _ _, rfl⟩
    · intro act wx h
      obtain ⟨v37, e37, f37⟩ := h.val 21 37 (by kernel_rfl)
      obtain rfl : v37 = .slice bo bn bc := f37
      have hg := h.guard 20 36 (by kernel_rfl) true (fun v hv => hv)
      have hbel := h.below
      clear h
      refine gives_by (by simp only [Region.wanted, hg]; rfl) act.eval rfl ?_
      generalize act.eval = ρ at *
      intro hf hc
      go_simp
      exact call_gives (HCO.out wx hbel) (fun _ => rfl)
    · intro act wx h
      have e5 : act.eval (.tmp 5) = .slice al kn cl := h.old 5 (by kernel_rfl)
      have hg := h.guard 20 36 (by kernel_rfl) true (fun v hv => hv)
      have hbel := h.below
      clear h
      refine gives_by (by simp only [Region.wanted, hg]; rfl) act.eval rfl ?_
      generalize act.eval = ρ at *
      intro hf hc
      go_simp
      exact ⟨Below.refl _ _, rfl⟩
    · intro act wx h
      obtain ⟨v39, e39, f39⟩ := h.val 23 39 (by kernel_rfl)
      obtain rfl : v39 = .slice al kn cl := f39
      have hg := h.guard 20 36 (by kernel_rfl) true (fun v hv => hv)
      have hbel := h.below
      clear h
      refine gives_by (by simp only [Region.wanted, hg]; rfl) act.eval rfl ?_
      generalize act.eval = ρ at *
      intro hf hc
      go_simp
      exact ⟨Below.refl _ _, rfl⟩
    · intro act wx h
      obtain ⟨v38, e38, f38⟩ := h.val 22 38 (by kernel_rfl)
      obtain rfl : v38 = .int .i64 (kn : Int) := f38
      obtain ⟨v40, e40, f40⟩ := h.val 24 40 (by kernel_rfl)
      obtain rfl : v40 = .int .i64 (kn : Int) := f40
      have hg := h.guard 20 36 (by kernel_rfl) true (fun v hv => hv)
      have hbel := h.below
      clear h
      refine gives_by (by simp only [Region.wanted, hg]; rfl) act.eval rfl ?_
      generalize act.eval = ρ at *
      intro hf hc
      go_simp
      exact ⟨Below.refl _ _, rfl⟩
    · intro act wx h
      obtain ⟨v36, e36, f36⟩ := h.val 20 36 (by kernel_rfl)
      obtain rfl : v36 = .bool true := f36
      obtain ⟨v41, e41, f41⟩ := h.val 25 41 (by kernel_rfl)
      obtain rfl : v41 = .bool true := f41
      have hbel := h.below
      clear h
      refine gives_by rfl act.eval rfl ?_
      generalize act.eval = ρ at *
      intro hf hc
      go_simp
      exact ⟨Below.refl _ _, rfl⟩
    · intro act wx h
      obtain ⟨v42, e42, f42⟩ := h.val 26 42 (by kernel_rfl)
      obtain rfl : v42 = .bool true := f42
      have hbel := h.below
      clear h
      refine gives_by rfl act.eval rfl ?_
      generalize act.eval = ρ at *
      intro hf hc
      go_simp
      exact ⟨Below.refl _ _, rfl⟩
  · intro vals w8 hb8 hv
    have hv42 : vals 26 = .bool true := hv 26 42 (by kernel_rfl)
    have hv4 : vals 27 = .bool true := hv 27 4 (by kernel_rfl)
    clear hv
    generalize hact : putAll _ vals 0 _ = act
    have HB8 := hide hb8
    clear hb8
    subst hact
    simp only [putAll, Act.put, List.setIfInBounds_toArray, List.set_cons_zero, List.set_cons_succ, hv4, Nat.zero_add, Nat.reduceAdd]
    clear hv42 hv4
    go_wp2
    go_ret
    exact ⟨rfl, HB2.out.trans (HB8.out.mono HB2.out.size)⟩

end Go.Proofs.YtfpphepjkpofiaaDoor
