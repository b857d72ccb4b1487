/- The walk of PostingTakes. -/
import Derived.Test.YtmjkpgmmfooajaaJPoLive
import Derived.Test.YtmjkpgmmfooajaaPoOpen
import Derived.Test.YtmjkpgmmfooajaaJPoTake
import Derived.Test.YtmjkpgmmfooajaaJPoRR
import Derived.Test.YtmjkpgmmfooajaaJPoSame
import Derived.Test.YtmjkpgmmfooajaaPoSlc
import Derived.Test.YtmjkpgmmfooajaaKSl
import Derived.BigQuiet
namespace Go.Proofs.Ytmjkpgmmfooajaa
set_option maxRecDepth 20000
open Go.RowKit
set_option linter.unusedVariables false
set_option linter.unusedSimpArgs false
set_option maxRecDepth 100000

theorem live_on {w w' : World} (hb : Below w.heap.size w w') : Calls Try.prog 8 #[] w' fun e w'' => e = .returned (.bool true) ∧ Below w.heap.size w w'' :=
  (live_any w').mono fun e w'' ⟨he, h⟩ => ⟨he, hb.trans (h.mono hb.size)⟩

/-- a posting in a box -/
def BoxAt (W : World) (b : Nat) (d : Nat) (x : Option Addr) (n c : Nat) (p : Po) : Prop := W.cell? ⟨b, 0, none⟩ = some (.int .u32 (d : Int)) ∧ W.cell? ⟨b, 1, none⟩ = some (.slice x n c) ∧ PoV W (.agg #[.int .u32 (d : Int), .slice x n c]) p
theorem BoxAt.made {w1 : World} {d : Nat} {x : Option Addr} {n c : Nat} {p : Po} (hv : PoV w1 (.agg #[.int .u32 (d : Int), .slice x n c]) p) (W' : World) (hb : Below (w1.alloc (.cells #[.int .u32 (d : Int), .slice x n c] 34)).heap.size (w1.alloc (.cells #[.int .u32 (d : Int), .slice x n c] 34)) W') : BoxAt W' w1.heap.size d x n c p := by
  have hB := (Blk.new w1 34 [.int .u32 (d : Int), .slice x n c]).below hb (by simp)
  have hb1 : Below w1.heap.size w1 W' := ((Below.refl _ w1).alloc (Nat.le_refl _) _).trans (hb.mono (by simp))
  exact ⟨hB.cell 0, hB.cell 1, hv.below hb1⟩

/-- what a Take answers, read -/
theorem take_read {f : Nat} {args : Array Value} {w : World} {p : Po} {E : Nat} {er : Int} (h : Calls Try.prog f args w (GivesTk w (p, E, er))) : Calls Try.prog f args w fun e w' => ∃ x n c, e = .returned (.tuple #[.agg #[.int .u32 (p.doc : Int), .slice x n c], .int .i64 (E : Int), .int .i64 er]) ∧ PoV w' (.agg #[.int .u32 (p.doc : Int), .slice x n c]) p ∧ Below w.heap.size w w' := by
  refine h.mono ?_
  rintro e w' ⟨v, rfl, hv, hb⟩
  have hv2 := hv.val
  obtain ⟨_, u, rfl, hi⟩ := hv
  obtain ⟨x, c, rfl⟩ := hi.shape
  exact ⟨x, _, c, rfl, hv2, hb⟩
theorem find_read {f : Nat} {args : Array Value} {w : World} {p : Po} {o : Bool} (h : Calls Try.prog f args w fun e w' => ∃ v, e = .returned (.tuple #[v, .bool o]) ∧ PoV w' v p ∧ Below w.heap.size w w') : Calls Try.prog f args w fun e w' => ∃ x n c, e = .returned (.tuple #[.agg #[.int .u32 (p.doc : Int), .slice x n c], .bool o]) ∧ PoV w' (.agg #[.int .u32 (p.doc : Int), .slice x n c]) p ∧ Below w.heap.size w w' := by
  refine h.mono ?_
  rintro e w' ⟨v, rfl, hv, hb⟩
  have hv2 := hv
  obtain ⟨_, u, rfl, hi⟩ := hv
  obtain ⟨x, c, rfl, _⟩ := hi.shape
  exact ⟨x, _, c, rfl, hv2, hb⟩
theorem parse_read {f : Nat} {args : Array Value} {w : World} {R : List Po} {er : Int} (h : Calls Try.prog f args w fun e w' => ∃ u, e = .returned (.tuple #[u, .int .i64 er]) ∧ (∃ us, Pps w' u us R) ∧ Below w.heap.size w w') : Calls Try.prog f args w fun e w' => ∃ x n c, e = .returned (.tuple #[.slice x n c, .int .i64 er]) ∧ (∃ us, Pps w' (.slice x n c) us R) ∧ Below w.heap.size w w' := by
  refine h.mono ?_
  rintro e w' ⟨u, rfl, ⟨us, hp⟩, hb⟩
  obtain ⟨x, c, rfl, _⟩ := hp.shape
  exact ⟨x, _, c, rfl, ⟨us, hp⟩, hb⟩

set_option maxHeartbeats 4000000 in
theorem postingTakes_walk (w : World) (vb : Value) (zs : List Int) (a : Int) (prev : Nat) (hz : Sl w vb zs) (ha : (Lit.int .i64 a).wf = true) (hp : prev < 4294967296) :
    Calls Try.prog 4 #[vb, .int .i64 a, .int .u32 (prev : Int)] w fun e w' => e = .returned (.bool true) ∧ Below w.heap.size w w' := by
  obtain ⟨bo, bc, rfl⟩ := sl_form' hz
  have HZ := hide (fun W hb => hz.keep (w' := W) (fun j _ hlt => (hb : Below w.heap.size w W).block j hlt))
  obtain ⟨bn, hbn⟩ : ∃ n, zs.length = n := ⟨_, rfl⟩
  have HC : Hid (Below w.heap.size w w) := Below.refl _ _
  clear ha
  by_cases hb3 : 3000 < bn
  · have hbi : (3000 : Int) < (bn : Int) := by omega
    rw [hbn] at HZ ⊢
    clear hz hbn
    go_enter Try.func4, Try.ntmps4
    go_wp2_with (go_at_call 8; refine (live_on HC.out).mono ?_; rintro e w2 ⟨rfl, hb⟩; have HC := hide hb; clear hb)
    go_ret
    exact ⟨rfl, HC.out⟩
  · have hbi : ¬ (3000 : Int) < (bn : Int) := by omega
    have hl5 : zs.length ≤ 50000 := by omega
    have hl6 : zs.length ≤ 1000000 := by omega
    obtain ⟨⟨⟨d1, q1⟩, E, er⟩, hT⟩ : ∃ x, takeV zs a prev = x := ⟨_, rfl⟩
    obtain ⟨⟨⟨d2, q2⟩, fb⟩, hF⟩ : ∃ x, findL prev (allP 0 zs) = x := ⟨_, rfl⟩
    have hal : (allP prev zs).length ≤ 3000 := by have := allP_len prev zs; omega
    have HT1 := hide (fun W (hb : Below w.heap.size w W) => take_read (hT ▸ takeP_any W _ zs (HZ.out W hb) hl5 a prev hp))
    have HT2 := hide (fun W (hb : Below w.heap.size w W) => take_read (hT ▸ refTake_any W _ zs (HZ.out W hb) hl5 a prev hp))
    have HP1 := hide (fun W (hb : Below w.heap.size w W) => parse_read (parse_any W _ zs (HZ.out W hb) hl6))
    have HP2 := hide (fun W (hb : Below w.heap.size w W) => parse_read (refParse_any W _ zs (HZ.out W hb) hl5))
    have HF1 : Hid (∀ W, Below w.heap.size w W → Calls Try.prog 24 #[.slice bo zs.length bc, .int .u32 (prev : Int)] W fun e w' => ∃ x n c, e = .returned (.tuple #[.agg #[.int .u32 (d2 : Int), .slice x n c], .bool fb]) ∧ PoV w' (.agg #[.int .u32 (d2 : Int), .slice x n c]) ⟨d2, q2⟩ ∧ Below W.heap.size W w') := fun W hb => by
      have := (find_any W _ zs (HZ.out W hb) hl6 prev hp).mono (fun e w' ⟨v, he, hv, hb⟩ => (⟨v, he, hv.val, hb⟩ : ∃ v, e = Ending.returned (.tuple #[v, .bool (findL prev (allP 0 zs)).2]) ∧ PoV w' v (findL prev (allP 0 zs)).1 ∧ Below W.heap.size W w'))
      rw [hF] at this
      exact find_read this
    have HF2 : Hid (∀ W, Below w.heap.size w W → Calls Try.prog 25 #[.slice bo zs.length bc, .int .u32 (prev : Int)] W fun e w' => ∃ x n c, e = .returned (.tuple #[.agg #[.int .u32 (d2 : Int), .slice x n c], .bool fb]) ∧ PoV w' (.agg #[.int .u32 (d2 : Int), .slice x n c]) ⟨d2, q2⟩ ∧ Below W.heap.size W w') := fun W hb => by
      have := refFind_any W _ zs (HZ.out W hb) hl5 prev hp
      rw [hF] at this
      exact find_read this
    have HRA := hide (fun W (hb : Below w.heap.size w W) => refAll_read W _ zs (HZ.out W hb) hl5 prev hp)
    have HAL := hide (fun W (hb : Below w.heap.size w W) => all_any W _ zs (HZ.out W hb) hl6 prev hp)
    have HTO : Hid (∀ W Bs Pv bv, EachAt W Bs Pv bv zs prev → Calls Try.prog 27 #[.func (.func 52) #[] #[.pointer (some ⟨Bs, 0, none⟩), .pointer (some ⟨Pv, 0, none⟩)], .int .i64 1048576] W fun e w' => ∃ lo ln lc eo en ec, e = .returned (.tuple #[.slice lo ln lc, .slice eo en ec]) ∧ (∃ us, Pps w' (.slice lo ln lc) us ((allP prev zs).map (·.2))) ∧ Is w' (.slice eo en ec) (endsL (allP prev zs)) ∧ Below W.heap.size W w') := fun W Bs Pv bv h => by
      have := toldP_any W Bs Pv bv zs prev hp hl6 h 1048576 (by omega)
      rw [List.take_of_length_le (by omega)] at this
      refine this.mono fun e w' ⟨v, u, he, ⟨us, hpp⟩, hi, hb⟩ => ?_
      obtain ⟨lo, lc, rfl, _, _⟩ := hpp.shape
      obtain ⟨eo, ec, rfl⟩ := hi.shape
      exact ⟨lo, _, lc, eo, _, ec, he, ⟨us, hpp⟩, hi.is, hb⟩
    have HTW : Hid (∀ W Bs Pv bv, EachAt W Bs Pv bv zs prev → Calls Try.prog 27 #[.func (.func 52) #[] #[.pointer (some ⟨Bs, 0, none⟩), .pointer (some ⟨Pv, 0, none⟩)], .int .i64 2] W fun e w' => ∃ lo ln lc eo en ec, e = .returned (.tuple #[.slice lo ln lc, .slice eo en ec]) ∧ (∃ us, Pps w' (.slice lo ln lc) us (((allP prev zs).map (·.2)).take (min (allP prev zs).length 2))) ∧ Below W.heap.size W w') := fun W Bs Pv bv h => by
      have := toldP_any W Bs Pv bv zs prev hp hl6 h 2 (by omega)
      rw [List.map_take] at this
      refine this.mono fun e w' ⟨v, u, he, ⟨us, hpp⟩, hi, hb⟩ => ?_
      have e2 : ((allP prev zs).map (·.2)).take 2 = ((allP prev zs).map (·.2)).take (min (allP prev zs).length 2) := by
        rw [List.take_eq_take_iff, List.length_map]; omega
      rw [e2] at hpp
      obtain ⟨lo, lc, rfl, _, _⟩ := hpp.shape
      obtain ⟨eo, ec, rfl⟩ := hi.shape
      exact ⟨lo, _, lc, eo, _, ec, he, ⟨us, hpp⟩, hb⟩
    rw [hbn] at HT1 HT2 HP1 HP2 HF1 HF2 HRA HAL ⊢
    obtain ⟨L, hL⟩ : ∃ L, allP prev zs = L := ⟨_, rfl⟩
    rw [hL] at HRA HTO HTW hal
    obtain ⟨ln, hln⟩ : ∃ n, L.length = n := ⟨_, rfl⟩
    rw [hln] at HRA HTW hal
    obtain ⟨M, hM⟩ : ∃ M, min ln 2 = M := ⟨_, rfl⟩
    rw [hM] at HTW
    have HM := hide hM
    have HLN := hide hln
    have HE := hide (fun W Bs Pv bv W' (h : EachAt W Bs Pv bv zs prev) (hb : Below W.heap.size W W') => h.below hb)
    generalize parseE zs = pe at *
    generalize parseR zs = R at *
    clear hz hbn HZ hT hF hL hM hln hl5 hl6
    simp only at HT1 HT2
    go_enter Try.func4, Try.ntmps4
    go_wp2_with (first
      | (go_at_call 8; refine (live_on HC.out).mono ?_; rintro e w2 ⟨rfl, hb⟩; have HC := hide hb; clear hb)
      | (go_at_call 20; refine (HT1.out _ HC.out).mono ?_; rintro e w3 ⟨x1, n1, c1, rfl, hv, hb⟩; have hc := HC.out.trans (hb.mono HC.out.size); have HC := hide (hc.alloc hc.size (.cells #[.int .u32 (d1 : Int), .slice x1 n1 c1] 34)); have HA := hide (fun W' hb' => BoxAt.made hv W' hb'); clear HT1 hv hb hc)
      | (go_at_call 21; refine (HT2.out _ HC.out).mono ?_; rintro e w4 ⟨x2, n2, c2, rfl, hv, hb⟩; have hc := HC.out.trans (hb.mono HC.out.size); have HC := hide (hc.alloc hc.size (.cells #[.int .u32 (d1 : Int), .slice x2 n2 c2] 34)); have HA := hide (fun W' hb' => And.intro (BoxAt.made hv W' hb') (HA.out W' ((hb.alloc hb.size _).trans (hb'.mono (hb.alloc hb.size _).size)))); clear HT2 hv hb hc)
      | (go_at_call 22; refine (HP1.out _ HC.out).mono ?_; rintro e w5 ⟨x3, n3, c3, rfl, ⟨us3, hv⟩, hb⟩; have HC := hide (HC.out.trans (hb.mono HC.out.size)); have HA := hide (fun W' hb' => And.intro (Pps.below hv hb') (HA.out W' (hb.trans (hb'.mono hb.size)))); clear HP1 hv hb)
      | (go_at_call 23; refine (HP2.out _ HC.out).mono ?_; rintro e w6 ⟨x4, n4, c4, rfl, ⟨us4, hv⟩, hb⟩; have HC := hide (HC.out.trans (hb.mono HC.out.size)); have HA := hide (fun W' hb' => And.intro (Pps.below hv hb') (HA.out W' (hb.trans (hb'.mono hb.size)))); clear HP2 hv hb)
      | (go_at_call 24; refine (HF1.out _ HC.out).mono ?_; rintro e w7 ⟨x5, n5, c5, rfl, hv, hb⟩; have hc := HC.out.trans (hb.mono HC.out.size); have HC := hide (hc.alloc hc.size (.cells #[.int .u32 (d2 : Int), .slice x5 n5 c5] 34)); have HA := hide (fun W' hb' => And.intro (BoxAt.made hv W' hb') (HA.out W' ((hb.alloc hb.size _).trans (hb'.mono (hb.alloc hb.size _).size)))); clear HF1 hv hb hc)
      | (go_at_call 25; refine (HF2.out _ HC.out).mono ?_; rintro e w8 ⟨x6, n6, c6, rfl, hv, hb⟩; have hc := HC.out.trans (hb.mono HC.out.size); have HC := hide (hc.alloc hc.size (.cells #[.int .u32 (d2 : Int), .slice x6 n6 c6] 34)); have HA := hide (fun W' hb' => And.intro (BoxAt.made hv W' hb') (HA.out W' ((hb.alloc hb.size _).trans (hb'.mono (hb.alloc hb.size _).size)))); clear HF2 hv hb hc)
      | (go_at_call 26; refine (HRA.out _ HC.out).mono ?_; rintro e w9 ⟨x7, c7, y7, f7, rfl, ⟨us7, hv, _⟩, hv2, hb⟩; have HC := hide (HC.out.trans (hb.mono HC.out.size)); have HA := hide (fun W' hb' => And.intro (And.intro (Pps.below hv hb') (Is.below hv2 hb')) (HA.out W' (hb.trans (hb'.mono hb.size)))); clear HRA hv hv2 hb)
      | (go_at_call 28; refine (HAL.out _ HC.out).mono ?_; rintro e w10 ⟨Bs, Pv, rfl, ⟨bv, hea⟩, hb⟩; have HEA := hide hea; have HC := hide (HC.out.trans (hb.mono HC.out.size)); have HA := hide (fun W' (hb' : Below w10.heap.size w10 W') => HA.out W' (hb.trans (hb'.mono hb.size))); clear hb hea)
      | (go_at_call 27; refine (HTO.out _ _ _ _ HEA.out).mono ?_; rintro e w11 ⟨x8, n8, c8, y8, m8, f8, rfl, ⟨us8, hv⟩, hv2, hb⟩; have HC := hide (HC.out.trans (hb.mono HC.out.size)); have HA := hide (fun W' hb' => And.intro (And.intro (Pps.below hv hb') (Is.below hv2 hb')) (HA.out W' (hb.trans (hb'.mono hb.size)))); clear HTO hv hv2 hb HEA)
      | (go_at_call 27; refine (HTW.out _ _ _ _ HEA.out).mono ?_; rintro e w12 ⟨x9, n9, c9, y9, m9, f9, rfl, ⟨us9, hv⟩, hb⟩; have HC := hide (HC.out.trans (hb.mono HC.out.size)); have HA := hide (fun W' hb' => And.intro (Pps.below hv hb') (HA.out W' (hb.trans (hb'.mono hb.size)))); have hall := HA.out w12 (Below.refl _ _); obtain ⟨pa0, pa1, _⟩ := hall.2.2.2.2.2.2.2.2; obtain ⟨pb0, pb1, _⟩ := hall.2.2.2.2.2.2.2.1; clear HTW hv hb HEA hall))
    have HX := hide (fun W' hb' => HA.out W' hb')
    clear HA HE HAL
    have HGT : Hid (∀ wx, Below w12.heap.size w12 wx → Pps wx (.slice x9 n9 c9) us9 ((L.map (·.2)).take M) ∧ (Pps wx (.slice x8 n8 c8) us8 (L.map (·.2)) ∧ Is wx (.slice y8 m8 f8) (endsL L)) ∧ (Pps wx (.slice x7 ln c7) us7 (L.map (·.2)) ∧ Is wx (.slice y7 ln f7) (endsL L)) ∧ BoxAt wx w8.heap.size d2 x6 n6 c6 ⟨d2, q2⟩ ∧ BoxAt wx w7.heap.size d2 x5 n5 c5 ⟨d2, q2⟩ ∧ Pps wx (.slice x4 n4 c4) us4 R ∧ Pps wx (.slice x3 n3 c3) us3 R ∧ BoxAt wx w4.heap.size d1 x2 n2 c2 ⟨d1, q1⟩ ∧ BoxAt wx w3.heap.size d1 x1 n1 c1 ⟨d1, q1⟩) := HX.out
    clear HX
    have HCA := hide (fun wx hb => (HGT.out wx hb).2.2.2.2.2.2.2.2)
    have HCB := hide (fun wx hb => (HGT.out wx hb).2.2.2.2.2.2.2.1)
    have HCC := hide (fun wx hb => (HGT.out wx hb).2.2.2.2.1)
    have HCD := hide (fun wx hb => (HGT.out wx hb).2.2.2.1)
    have HS1 : Hid (∀ wx, Below w12.heap.size w12 wx → Calls Try.prog 19 #[.agg #[.int .u32 (d1 : Int), .slice x1 n1 c1], .agg #[.int .u32 (d1 : Int), .slice x2 n2 c2]] wx fun e w' => e = .returned (.bool true) ∧ Below wx.heap.size wx w') := fun wx hb => by
      have := refSameP_any wx _ _ _ _ (HCA.out wx hb).2.2 (HCB.out wx hb).2.2
      rwa [sameP_refl] at this
    have HS2 : Hid (∀ wx, Below w12.heap.size w12 wx → Calls Try.prog 19 #[.agg #[.int .u32 (d2 : Int), .slice x5 n5 c5], .agg #[.int .u32 (d2 : Int), .slice x6 n6 c6]] wx fun e w' => e = .returned (.bool true) ∧ Below wx.heap.size wx w') := fun wx hb => by
      have := refSameP_any wx _ _ _ _ (HCC.out wx hb).2.2 (HCD.out wx hb).2.2
      rwa [sameP_refl] at this
    have HA1 : Hid (∀ wx, Below w12.heap.size w12 wx → Calls Try.prog 29 #[.slice x3 n3 c3, .slice x4 n4 c4] wx fun e w' => e = .returned (.bool true) ∧ Below wx.heap.size wx w') := fun wx hb => by
      have h := (HGT.out wx hb).2.2.2.2.2
      have := refSameAll_any wx _ _ _ _ _ _ h.2.1 h.1
      rwa [sameAllP_refl] at this
    have HA2 : Hid (∀ wx, Below w12.heap.size w12 wx → Calls Try.prog 29 #[.slice x8 n8 c8, .slice x7 ln c7] wx fun e w' => e = .returned (.bool true) ∧ Below wx.heap.size wx w') := fun wx hb => by
      have h := HGT.out wx hb
      have := refSameAll_any wx _ _ _ _ _ _ h.2.1.1 h.2.2.1.1
      rwa [sameAllP_refl] at this
    have HA3 : Hid (∀ wx, Below w12.heap.size w12 wx → Calls Try.prog 29 #[.slice x9 n9 c9, .slice x7 M c7] wx fun e w' => e = .returned (.bool true) ∧ Below wx.heap.size wx w') := fun wx hb => by
      have h := HGT.out wx hb
      have h7 := h.2.2.1.1
      rw [← HLN.out, ← List.length_map (f := fun x : Nat × Po => x.2)] at h7
      have h9 := h7.take M (by rw [List.length_map, HLN.out, ← HM.out]; exact Nat.min_le_left _ _)
      have := refSameAll_any wx _ _ _ _ _ _ h.1 h9
      rwa [sameAllP_refl] at this
    have HQ : Hid (∀ wx, Below w12.heap.size w12 wx → Calls Try.prog 30 #[.slice y8 m8 f8, .slice y7 ln f7] wx fun e w' => e = .returned (.bool true) ∧ Below wx.heap.size wx w') := fun wx hb => by
      have h := HGT.out wx hb
      refine (sEqual_any wx _ _ _ _ h.2.1.2 h.2.2.1.2).mono ?_
      rintro e w' ⟨rfl, q, rfl⟩
      exact ⟨by simp, below_drewN (Below.refl _ _) q⟩
    have HCUT : Hid (∀ wx, (Instr.slice 24 (.slice x7 ln c7) none (some (.int .i64 (M : Int))) none).run Try.prog wx = .ok (.slice x7 M c7) wx) := fun wx => by
      obtain ⟨ao', cap', he, h1, h2⟩ := (HGT.out w12 (Below.refl _ _)).2.2.1.1.shape
      simp only [Value.slice.injEq] at he
      obtain ⟨rfl, hle, rfl⟩ := he
      exact cut_hP _ ln _ M (by rw [← HM.out]; exact Nat.min_le_left _ _) (by omega) h2 wx
    have HMIN : Hid (∀ (ts : Array TypeId) (t : TypeId) (wx : World), (Builtin.min_ ts t #[.int .i64 (ln : Int), .int .i64 2]).run Try.prog wx = .ok (.int .i64 (M : Int)) wx) := fun ts t wx => run_minP ln 2 M HM.out.symm ts t wx
    have HW : Hid (Below w.heap.size w w12) := HC.out
    have hmin := HMIN.out
    have hcut := HCUT.out
    have HB : Hid (Below w12.heap.size w12 w12) := Below.refl _ _
    clear HC HGT HMIN HCUT
    go_wp2_with (first
      | (go_at_call 19; refine (HS1.out _ HB.out).mono ?_; rintro e w13 ⟨rfl, hb⟩; have HB := hide (HB.out.trans (hb.mono HB.out.size)); clear HS1 hb pa0 pa1 pb0 pb1)
      | (go_at_call 29; refine (HA1.out _ HB.out).mono ?_; rintro e w14 ⟨rfl, hb⟩; have HB := hide (HB.out.trans (hb.mono HB.out.size)); obtain ⟨pc0, pc1, _⟩ := HCC.out _ HB.out; obtain ⟨pd0, pd1, _⟩ := HCD.out _ HB.out; clear HA1 hb)
      | (go_at_call 19; refine (HS2.out _ HB.out).mono ?_; rintro e w15 ⟨rfl, hb⟩; have HB := hide (HB.out.trans (hb.mono HB.out.size)); clear HS2 hb pc0 pc1 pd0 pd1)
      | (go_at_call 29; refine (HA2.out _ HB.out).mono ?_; rintro e w16 ⟨rfl, hb⟩; have HB := hide (HB.out.trans (hb.mono HB.out.size)); clear HA2 hb)
      | (go_at_call 30; refine (HQ.out _ HB.out).mono ?_; rintro e w17 ⟨rfl, hb⟩; have HB := hide (HB.out.trans (hb.mono HB.out.size)); clear HQ hb)
      | (go_at_call 29; refine (HA3.out _ HB.out).mono ?_; rintro e w18 ⟨rfl, hb⟩; have HB := hide (HB.out.trans (hb.mono HB.out.size)); clear HA3 hb))
    go_ret
    exact ⟨rfl, HW.out.trans (HB.out.mono HW.out.size)⟩

end Go.Proofs.Ytmjkpgmmfooajaa
