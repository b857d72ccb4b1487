/- Contracts: package list's common, as an iterator over what two lists have in common. -/
import Derived.Test.YtfihnmdhclnhgaaLsMeetU
namespace Go.Proofs.Ytfihnmdhclnhgaa
set_option maxRecDepth 20000
open Go.RowKit Go.Shelf
set_option linter.unusedVariables false
set_option linter.unusedSimpArgs false
set_option maxRecDepth 100000
attribute [local go_sem] Oper.semAt_some

theorem common_any (w : World) (a b : Option Addr) (n m c d : Nat) : Calls Try.prog 38 #[.slice a n c, .slice b m d] w fun e w' => e = .returned (.func (.func 64) #[] #[.pointer (some ⟨w.heap.size, 0, none⟩), .pointer (some ⟨w.heap.size + 1, 0, none⟩)]) ∧ w' = (w.alloc (.cells #[.slice a n c] 23)).alloc (.cells #[.slice b m d] 23) := by
  go_enter Try.func38, Try.ntmps38
  go_wp2
  go_ret
  exact ⟨rfl, rfl⟩
theorem enters_common : ∀ args w, (callFunc 64 args).run Try.prog w = .ok (.enter 64 args) w := enters_of Try.func64 (by kernel_rfl) rfl
/-- what is in both -/
def comL (xs ys : List Int) : List Int := (meetL cmpI xs ys).map (·.1)
def ComV (Pa Pb : Nat) (av bv : Value) (xs ys : List Int) (k : Nat) (W : World) : Prop := (W.cell? ⟨Pa, 0, none⟩ = some av ∧ W.cell? ⟨Pb, 0, none⟩ = some bv) ∧ Ul W av xs ∧ Ul W bv ys
theorem yield_at {P : Program} {l : Nat} {args : Array Value} {W : World} {R : Ending → World → Prop} (h : YieldAt Fence.wide 1 P l args W R) : ∃ fn tmps assign body, (Instr.yield l args).run P W = .ok (.round l fn tmps assign body) W ∧ Hid (RoundIn Fence.wide 1 P l fn tmps assign body W R) := by
  obtain ⟨fn, tmps, assign, body, h1, h2⟩ := h
  exact ⟨fn, tmps, assign, body, h1, h2⟩

/-- its boxes -/
structure CoK (A : Nat) (yv av bv ov : Value) (W : World) : Prop where
  ybox : Blk W A 37 [yv]
  abox : Blk W (A + 1) 23 [av]
  bbox : Blk W (A + 2) 23 [bv]
  obox : Blk W (A + 3) 92 [ov]
  size : A + 6 ≤ W.heap.size
theorem CoK.only {A : Nat} {yv av bv ov : Value} {W W' : World} {S : Nat → Prop} (h : CoK A yv av bv ov W) (ho : Only S W W') (hS : ∀ j, S j → A + 4 ≤ j) : CoK A yv av bv ov W' :=
  ⟨h.ybox.only ho (fun e => by have := hS _ e; omega), h.abox.only ho (fun e => by have := hS _ e; omega), h.bbox.only ho (fun e => by have := hS _ e; omega), h.obox.only ho (fun e => by have := hS _ e; omega), Nat.le_trans h.size ho.size⟩
theorem CoK.keepY {A : Nat} {yv av bv ov : Value} {W W' : World} {Z : Nat → Prop} (h : CoK A yv av bv ov W) (hz : ∀ j, A ≤ j → j < A + 4 + 2 → Z j) (hk : KeepsY Z W W') : CoK A yv av bv ov W' := by
  have hlt : A + 5 < W.heap.size := by have := h.size; omega
  refine ⟨(hk _ (hz _ (by omega) (by omega))).trans h.ybox, (hk _ (hz _ (by omega) (by omega))).trans h.abox, (hk _ (hz _ (by omega) (by omega))).trans h.bbox, (hk _ (hz _ (by omega) (by omega))).trans h.obox, ?_⟩
  have e := hk _ (hz (A + 5) (by omega) (by omega))
  rw [Array.getElem?_eq_getElem hlt] at e
  have := (Array.getElem?_eq_some_iff.1 e).1
  omega

set_option maxHeartbeats 4000000 in
theorem common_iter (Pa Pb : Nat) (av bv : Value) (xs ys : List Int) (hlx : xs.length ≤ 1000000) (hly : ys.length ≤ 1000000) : Iter2 Try.prog 64 #[.pointer (some ⟨Pa, 0, none⟩), .pointer (some ⟨Pb, 0, none⟩)] encU (comL xs ys) (ComV Pa Pb av bv xs ys) := by
  obtain ⟨L, hL⟩ : ∃ L, meetL cmpI xs ys = L := ⟨_, rfl⟩
  have hcl : comL xs ys = L.map (·.1) := by unfold comL; rw [hL]
  rw [hcl]
  have HLM := hide hL
  clear hL hcl
  intro l J Jx hJ hJx hV hY Y W h0
  obtain ⟨⟨ca, cb⟩, hax, hby⟩ := hV Y 0 W h0
  obtain ⟨ao, ac, rfl, _, _⟩ := hax.shape
  obtain ⟨bo, bc, rfl, _, _⟩ := hby.shape
  obtain ⟨A, hA⟩ : ∃ A, W.heap.size = A := ⟨_, rfl⟩
  obtain ⟨W1, hW1⟩ : ∃ W1, W.alloc (.cells #[.func (.yield l) #[] #[]] 37) = W1 := ⟨_, rfl⟩
  have hb1 : Below W.heap.size W W1 := by rw [← hW1]; exact (Below.refl _ W).alloc (Nat.le_refl _) _
  have hs1 : W1.heap.size = A + 1 := by rw [← hW1]; simp [hA]
  have ca1 := cell_belowL hb1 ca
  have cb1 := cell_belowL hb1 cb
  obtain ⟨W4, hW4⟩ : ∃ W4, ((W1.alloc (.cells #[.slice ao xs.length ac] 23)).alloc (.cells #[.slice bo ys.length bc] 23)).alloc (.cells #[.func (.func 66) #[] #[]] 92) = W4 := ⟨_, rfl⟩
  have hb4 : Below W.heap.size W W4 := by rw [← hW4]; exact ((hb1.alloc (by omega) _).alloc (by simp; omega) _).alloc (by simp; omega) _
  have hs4 : W4.heap.size = A + 4 := by rw [← hW4]; simp [hs1]
  have HML := hide (meetingsU_any W1 ao bo xs.length ys.length ac bc (.func (.func 66) #[] #[]) ⟨_, _, rfl⟩)
  rw [hW4, hs1] at HML
  have hyb : Blk W4 A 37 [.func (.yield l) #[] #[]] := by rw [← hW4, ← hW1, ← hA]; exact (((Blk.new W _ _).alloc _).alloc _).alloc _
  have hab : Blk W4 (A + 1) 23 [.slice ao xs.length ac] := by rw [← hW4, ← hs1]; exact ((Blk.new W1 _ _).alloc _).alloc _
  have hbb : Blk W4 (A + 2) 23 [.slice bo ys.length bc] := by
    rw [← hW4]
    have := Blk.new (W1.alloc (.cells #[.slice ao xs.length ac] 23)) 23 [.slice bo ys.length bc]
    rw [World.size_alloc, hs1] at this
    exact this.alloc _
  have hob : Blk W4 (A + 3) 92 [.func (.func 66) #[] #[]] := by
    rw [← hW4]
    have := Blk.new ((W1.alloc (.cells #[.slice ao xs.length ac] 23)).alloc (.cells #[.slice bo ys.length bc] 23)) 92 [.func (.func 66) #[] #[]]
    rw [World.size_alloc, World.size_alloc, hs1] at this
    exact this
  have HK0 : Hid (∀ W', Only (fun _ => False) W4 W' → W'.heap.size = A + 6 → CoK A (.func (.yield l) #[] #[]) (.slice ao xs.length ac) (.slice bo ys.length bc) (.func (.func 66) #[] #[]) W' ∧ AllZ A (A + 4) (fun _ => False) (more Y W W') ∧ J (more Y W W') 0 W') := fun W' ho hsz =>
    ⟨⟨hyb.only ho (fun h => h), hab.only ho (fun h => h), hbb.only ho (fun h => h), hob.only ho (fun h => h), by omega⟩, ⟨fun j h1 h2 => .inr ⟨by omega, by omega⟩, fun _ h => h.elim⟩, hJ Y 0 W W' h0 (((Only.of_below (fun _ => False) hb4).trans ho (fun _ _ h => h)).mono (fun _ _ h => h.elim))⟩
  have HJ := hide hJ
  have HJX := hide hJx
  have HV := hide hV
  have HY := hide hY
  have HS4 := hide hs4
  have HA := hide hA
  clear ca cb hax hby hJ hJx hV hY h0 hA hb1 hb4 hyb hab hbb hob hs1 hs4 hW4
  refine callsIn_wide.2 ((callsIn_wide (n := 3)).1 ?_)
  refine callsIn_of_wp_marks Try.func64 rfl trivial ?_ rfl
  simp only [Try.ntmps64, List.size_toArray, List.length_cons, List.length_nil, Nat.reduceAdd, Nat.reduceSub, Array.replicate_succ, Array.replicate_zero, List.push_toArray, List.append_toArray, List.nil_append, List.cons_append]
  gi_wp2_with (first
    | (refine ⟨trivial, ?_⟩; gi_at_call 65; refine (callsIn_wide.2 HML.out).mono ?_; rintro e w1 ⟨rfl, hw⟩; subst w1; clear HML))
  simp only [HA.out]
  clear hW1 ca1 cb1
  refine wp_range6 (gf := 84) (lb := #[.pointer (some ⟨A + 2, 0, none⟩), .pointer (some ⟨A + 1, 0, none⟩), .pointer (some ⟨A + 3, 0, none⟩)]) (xs := L) (encs := enc2U) (V := MeetVU (A + 1) (A + 2) (A + 3) (.slice ao xs.length ac) (.slice bo ys.length bc) xs ys) rfl enters_meetU (by rw [← HLM.out]; exact meetU_iter (A + 1) (A + 2) (A + 3) _ _ xs ys hlx hly) (fun _ => rfl)
    (fun Y' k W' => ∃ Z, J Z k W' ∧ AllZ A (A + 4) Y' Z ∧ CoK A (.func (.yield l) #[] #[]) (.slice ao xs.length ac) (.slice bo ys.length bc) (.func (.func 66) #[] #[]) W')
    (fun Y' cc k W' => cc = .ret ∧ ∃ Z, Jx Z k W' ∧ AllZ A (A + 4) Y' Z ∧ A + 6 ≤ W'.heap.size) ?_ ?_ ?_ ?_ ?_ ?_
    (fun x => { tmps := #[.func (.yield l) #[] #[], .pointer (some ⟨Pa, 0, none⟩), .pointer (some ⟨Pb, 0, none⟩), .pointer (some ⟨A, 0, none⟩), .int .u32 x.1, .slice ao xs.length ac, .slice bo ys.length bc, .func (.func 84) #[] #[.pointer (some ⟨A + 2, 0, none⟩), .pointer (some ⟨A + 1, 0, none⟩), .pointer (some ⟨A + 3, 0, none⟩)], .int .u32 x.1, .int .u32 x.2, undef, undef, undef, undef], defers := [] }) ?assign ?body ?done ?stop
  · rintro Y' k W' W'' ⟨Z, hj, hz, hk⟩ ho
    rw [HS4.out] at ho
    exact ⟨_, HJ.out Z k W' W'' hj (ho.mono (fun i _ e => hz.z i (by omega) (by omega))), (hz.more hk.size).part (fun _ h => .inl h), hk.only ho (fun j e => by omega)⟩
  · rintro Y' k W' W'' ⟨Z, hj, hz, hk⟩ ho
    exact ⟨_, HJ.out Z k W' W'' hj (ho.mono (fun i _ e => (hz.y i e).1)), hz.more hk.size, hk.only ho (fun j e => by have := (hz.y j e).2; omega)⟩
  · rintro Y' cc k W' W'' ⟨rfl, Z, hj, hz, hk⟩ ho
    rw [HS4.out] at ho
    exact ⟨rfl, _, HJX.out Z k W' W'' hj (ho.mono (fun i _ e => hz.z i (by omega) (by omega))), (hz.more hk).part (fun _ h => .inl h), Nat.le_trans hk ho.size⟩
  · rintro Y' cc k W' W'' ⟨rfl, Z, hj, hz, hk⟩ ho
    exact ⟨rfl, _, HJX.out Z k W' W'' hj (ho.mono (fun i _ e => (hz.y i e).1)), hz.more hk, Nat.le_trans hk ho.size⟩
  · rintro Y' k W' ⟨Z, hj, hz, hk⟩
    exact ⟨⟨hk.abox.cell 0, hk.bbox.cell 0, hk.obox.cell 0⟩, (HV.out Z k W' hj).2⟩
  · intro W' ho hs
    obtain ⟨h1, h2, h3⟩ := HK0.out W' ho (by have := HS4.out; omega)
    exact ⟨_, h3, h2, h1⟩
  case assign =>
    intro l2 k hk W' K hK
    simp only [enc2U]
    gi_wp2
    exact hK
  case body =>
    rintro l2 Y' k hk W' ⟨Z, hj, hz, hK⟩
    obtain ⟨x, hx⟩ : ∃ x, L[k] = x := ⟨_, rfl⟩
    rw [hx]
    obtain ⟨x1, x2⟩ := x
    have cA : W'.cell? ⟨A, 0, none⟩ = some (.func (.yield l) #[] #[]) := hK.ybox.cell 0
    have hkm : k < (L.map (·.1)).length := by simpa using hk
    have hy0 := HY.out Z k hkm W' hj
    rw [show (L.map (·.1))[k] = x1 by simp [hx]] at hy0
    obtain ⟨fn, tmps, assign, body, hyy, HRR⟩ := yield_at hy0
    have hfin : ∀ W3, KeepsY Z W' W3 → Keeps2 (A + 4) W' W3 ∧ KeepsY Y' W' W3 ∧ CoK A (.func (.yield l) #[] #[]) (.slice ao xs.length ac) (.slice bo ys.length bc) (.func (.func 66) #[] #[]) W3 := fun W3 hk3 =>
      ⟨fun j hj o ho => (hk3 j (hz.z j (by omega) (by omega))).trans ho, fun j hj => hk3 j (hz.y j hj).1, hK.keepY hz.z hk3⟩
    have HFIN := hide hfin
    have HZ := hide hz
    clear hK hz hj HK0 hx hfin hy0
    gi_wp2
    refine (round_wide HRR.out _ _).mono ?_
    rintro e W3 (⟨rfl, hJ3, hkY⟩ | ⟨rfl, hJ3, hkY⟩)
    · obtain ⟨b1, b2, b3⟩ := HFIN.out W3 hkY
      have HB1 := hide b1
      have HB2 := hide b2
      have HB3 := hide b3
      have HJ3 := hide hJ3
      clear b1 b2 b3 hJ3 hkY HRR hyy HFIN
      gi_wp2
      rw [HS4.out]
      exact ⟨HB1.out, HB2.out, _, HJ3.out, HZ.out, HB3.out⟩
    · obtain ⟨b1, b2, b3⟩ := HFIN.out W3 hkY
      have HB1 := hide b1
      have HB2 := hide b2
      have HB3 := hide b3
      have HJ3 := hide hJ3
      clear b1 b2 b3 hJ3 hkY HRR hyy HFIN
      gi_wp2
      rw [HS4.out]
      exact ⟨HB1.out, HB2.out, rfl, _, HJ3.out, HZ.out, HB3.out.size⟩
  case done =>
    rintro Y' W' ⟨Z, hj, hz, hK⟩ hD
    have HD := hide hD
    have HJJ := hide hj
    have HZ := hide hz
    clear hD hj hz hK HK0
    gi_wp2
    refine ⟨by simp, .inl ⟨_, _, rfl, run_takeDeferred HD.out, ?_⟩⟩
    have hoD : Only (· = W4.heap.size) W' (W'.putObj W4.heap.size (.deferred none)) := only_put1 W' _ _ _ rfl
    have hj := HJ.out Z _ W' _ HJJ.out (hoD.mono (fun i _ e => HZ.out.z i (by have := HS4.out; omega) (by have := HS4.out; omega)))
    refine ⟨_, results_none rfl _ _ _, ⟨_, rfl⟩, _, .inl (by rw [List.length_map]; exact hj)⟩
  case stop =>
    rintro Y' cc k W' hk ⟨rfl, Z, hj, hz, hsz⟩ hD
    have HD := hide hD
    have HJJ := hide hj
    have HZ := hide hz
    clear hD hj hz HK0
    gi_wp2
    refine ⟨by simp, .inl ⟨_, _, rfl, run_takeDeferred HD.out, ?_⟩⟩
    have hoD : Only (· = W4.heap.size) W' (W'.putObj W4.heap.size (.deferred none)) := only_put1 W' _ _ _ rfl
    refine ⟨_, results_none rfl _ _ _, ⟨_, rfl⟩, _, .inr ⟨k, by simpa using hk, HJX.out Z _ W' _ HJJ.out (hoD.mono (fun i _ e => HZ.out.z i (by have := HS4.out; omega) (by have := HS4.out; omega)))⟩⟩

end Go.Proofs.Ytfihnmdhclnhgaa
