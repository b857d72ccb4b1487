/- Contract: package node's isLeaf. -/
import Derived.Test.YtoamdbjailpgdaaNEach
import Derived.Laws.ResultCell
import Derived.Laws.Rows
namespace Go.Proofs.Ytoamdbjailpgdaa
set_option maxRecDepth 20000
open Go.RowKit Go.Shelf
set_option linter.unusedVariables false
set_option linter.unusedSimpArgs false
set_option maxRecDepth 100000
attribute [local go_sem] Oper.semAt_some

structure LfI (w : World) (bx : List Value) (pv : Value) (ps : List (List Int × List Int)) (r : Bool) (Y : Nat → Prop) (k : Nat) (W : World) : Prop where
  b0 : Blk W w.heap.size 26 bx
  b1 : Blk W (w.heap.size + 1) 4 [.bool false]
  b2 : ∃ lv lk, Blk W (w.heap.size + 2) 34 [lv] ∧ Sl w lv lk ∧ r = riseP lk (ps.drop k)
  b3 : Blk W (w.heap.size + 3) 22 [pv]
  below : Below w.heap.size w W
  size : w.heap.size + 6 ≤ W.heap.size
  ys : ∀ j, Y j → w.heap.size + 6 ≤ j ∧ j < W.heap.size
theorem LfI.keep {w : World} {bx : List Value} {pv : Value} {ps : List (List Int × List Int)} {r : Bool} {Y : Nat → Prop} {k : Nat} {W W' : World} (h : LfI w bx pv ps r Y k W) (ho : Only (fun j => j = w.heap.size + 4 ∨ j = w.heap.size + 4 + 1) W W') : LfI w bx pv ps r Y k W' := by
  obtain ⟨lv, lk, h1, h2, h3⟩ := h.b2
  exact ⟨h.b0.only ho (by omega), h.b1.only ho (by omega), ⟨lv, lk, h1.only ho (by omega), h2, h3⟩, h.b3.only ho (by omega), h.below.trans (ho.below h.below.size (fun j hj e => by omega)), Nat.le_trans h.size ho.size, fun j hj => ⟨(h.ys j hj).1, Nat.lt_of_lt_of_le (h.ys j hj).2 ho.size⟩⟩
theorem LfI.grow {w : World} {bx : List Value} {pv : Value} {ps : List (List Int × List Int)} {r : Bool} {Y : Nat → Prop} {k : Nat} {W W' : World} (h : LfI w bx pv ps r Y k W) (hb : Below W.heap.size W W') : LfI w bx pv ps r (more Y W W') k W' := by
  obtain ⟨lv, lk, h1, h2, h3⟩ := h.b2
  have hs := h.size
  have ho := Only.of_below (fun _ => False) hb
  refine ⟨h.b0.only ho (fun h => h), h.b1.only ho (fun h => h), ⟨lv, lk, h1.only ho (fun h => h), h2, h3⟩, h.b3.only ho (fun h => h), h.below.trans (hb.mono h.below.size), Nat.le_trans h.size hb.size, fun j hj => ?_⟩
  rcases hj with hj | hj
  · exact ⟨(h.ys j hj).1, Nat.lt_of_lt_of_le (h.ys j hj).2 hb.size⟩
  · exact ⟨by omega, hj.2⟩

theorem aggBool (w : World) : (isAgg 4).run Try.prog w = .ok false w := by kernel_rfl
theorem ret_cellB {fn : Func} {p : Tmp} (h : fn.results = #[.cell p 4]) (tmps : Array Value) (w : World) (b : Nat) (x : Bool) (hp : tmps.getD p undef = .pointer (some ⟨b, 0, none⟩)) (hc : w.cell? ⟨b, 0, none⟩ = some (.bool x)) :
    (results fn tmps).run Try.prog w = .ok (.bool x) w := by
  have hp' : tmps[p]?.getD undef = .pointer (some ⟨b, 0, none⟩) := by simpa using hp
  simp [results, h, hp', asAddr, loadVar, Sem.run_bind, aggBool, hc]

set_option maxHeartbeats 4000000 in
theorem isLeaf_any (w : World) (v : Value) (n : Nd) (h : NdV w v n) :
    Calls Try.prog 62 #[v] w fun e w' => e = .returned (.bool (leafB n)) ∧ Below w.heap.size w w' := by
  obtain ⟨pa, pc, ka, kc, ca, cc, xs, ys, rfl, hp1, hk1, hc1, hp2, hk2, hc2, hP, hK, hC⟩ := h.open
  obtain ⟨lf, ps, ks, cs⟩ := n
  simp only at hp1 hk1 hc1 hp2 hk2 hc2 hP hK hC ⊢
  have HLB : Hid (leafB ⟨lf, ps, ks, cs⟩ = (lf && decide (ps.length ≤ 255) && decide (ks = []) && decide (cs = []) && riseP [] ps)) := rfl
  generalize leafB ⟨lf, ps, ks, cs⟩ = LB at HLB ⊢
  have HP := hide hP
  clear hP hK hC h
  unfold ndv
  obtain ⟨np, hnp⟩ : ∃ m, ps.length = m := ⟨_, rfl⟩
  have HNP := hide hnp
  rw [hnp] at hp1 HP HLB ⊢
  have HKZ : Hid (ks = [] ↔ ks.length = 0) := List.length_eq_zero_iff.symm
  have HCZ : Hid (cs = [] ↔ cs.length = 0) := List.length_eq_zero_iff.symm
  generalize ks.length = nk at *
  generalize cs.length = nc at *
  clear hnp
  obtain ⟨bx, hbx⟩ : ∃ bx : List Value, bx = [.bool lf, .slice pa np pc, .slice ka nk kc, .slice ca nc cc] := ⟨_, rfl⟩
  have HW2 : Hid (Below w.heap.size w ((w.alloc (.cells #[.bool lf, .slice pa np pc, .slice ka nk kc, .slice ca nc cc] 26)).alloc (.cells #[.bool false] 4)) ∧
      ((w.alloc (.cells #[.bool lf, .slice pa np pc, .slice ka nk kc, .slice ca nc cc] 26)).alloc (.cells #[.bool false] 4)).cell? ⟨w.heap.size + 1, 0, none⟩ = some (.bool false)) := by
    refine ⟨((Below.refl _ w).alloc (Nat.le_refl _) _).alloc (by simp) _, ?_⟩
    have := (Blk.new (w.alloc (.cells #[.bool lf, .slice pa np pc, .slice ka nk kc, .slice ca nc cc] 26)) 4 [.bool false]).cell 0
    rw [World.size_alloc] at this
    exact this
  refine (callsIn_wide (n := 3)).1 ?_
  refine callsIn_of_wp_marks Try.func62 rfl trivial ?_ rfl
  simp only [Try.ntmps62, List.size_toArray, List.length_cons, List.length_nil, Nat.reduceAdd, Nat.reduceSub, Array.replicate_succ, Array.replicate_zero, List.push_toArray, List.append_toArray, List.nil_append, List.cons_append]
  cases lf with
  | false =>
    clear hbx
    gi_wp2
    exact ⟨_, ret_cellB rfl _ _ (w.heap.size + 1) false rfl HW2.out.2, ret_bool (by rw [HLB.out]; rfl), HW2.out.1⟩
  | true =>
    by_cases h1 : np ≤ 255
    · have i1 : ¬ (255 : Int) < (np : Int) := by omega
      by_cases h2 : nk = 0
      · subst h2
        by_cases h3 : nc = 0
        · subst h3
          have HEA := hide (fun w1 => each_any w1 pa np pc)
          have hR : LB = riseP [] ps := by rw [HLB.out]; simp [h1, HKZ.out, HCZ.out]
          have HR := hide hR
          obtain ⟨w2, hw2⟩ : ∃ w2, (((w.alloc (.cells #[.bool true, .slice pa np pc, .slice ka 0 kc, .slice ca 0 cc] 26)).alloc (.cells #[.bool false] 4)).alloc (.cells #[.slice none 0 0] 34)).alloc (.cells #[.slice pa np pc] 22) = w2 := ⟨_, rfl⟩
          have hs2 : w2.heap.size = w.heap.size + 4 := by rw [← hw2]; simp
          have hA : Blk w2 w.heap.size 26 bx := by rw [← hw2, hbx]; exact (((Blk.new w _ _).alloc _).alloc _).alloc _
          have hB : Blk w2 (w.heap.size + 1) 4 [.bool false] := by
            rw [← hw2]
            have := Blk.new (w.alloc (.cells #[.bool true, .slice pa np pc, .slice ka 0 kc, .slice ca 0 cc] 26)) 4 [.bool false]
            rw [World.size_alloc] at this
            exact (Blk.alloc this _).alloc _
          have hC : Blk w2 (w.heap.size + 2) 34 [nilS] := by
            rw [← hw2]
            have := Blk.new ((w.alloc (.cells #[.bool true, .slice pa np pc, .slice ka 0 kc, .slice ca 0 cc] 26)).alloc (.cells #[.bool false] 4)) 34 [nilS]
            rw [World.size_alloc, World.size_alloc] at this
            exact Blk.alloc this _
          have hD : Blk w2 (w.heap.size + 3) 22 [.slice pa np pc] := by
            rw [← hw2]
            have := Blk.new (((w.alloc (.cells #[.bool true, .slice pa np pc, .slice ka 0 kc, .slice ca 0 cc] 26)).alloc (.cells #[.bool false] 4)).alloc (.cells #[nilS] 34)) 22 [.slice pa np pc]
            rw [World.size_alloc, World.size_alloc, World.size_alloc] at this
            exact this
          have hb2 : Below w.heap.size w w2 := by rw [← hw2]; exact ((((Below.refl _ w).alloc (Nat.le_refl _) _).alloc (by simp) _).alloc (by simp; omega) _).alloc (by simp; omega) _
          have HA := hide hA
          have HB := hide hB
          have HC := hide hC
          have HD := hide hD
          have HB2 := hide hb2
          have HBX := hide hbx
          clear hA hB hC hD hb2 hbx hR HW2 h1 HLB
          gi_wp2_with (first
            | (refine ⟨trivial, ?_⟩; gi_at_call 47; refine (callsIn_wide.2 (HEA.out _)).mono ?_; rintro e w1 ⟨rfl, hw⟩; subst w1; clear HEA))
          refine wp_range5 (gf := 84) (lb := #[.pointer (some ⟨w.heap.size + 1 + 1 + 1, 0, none⟩)]) (xs := xs) (encs := encV) (V := EachV (w.heap.size + 3) (.slice pa np pc) xs ps) rfl enters_each (each_iter _ _ _ _) (fun _ => rfl) (fun Y k W => LfI w bx (.slice pa np pc) ps LB Y k W) (fun c k W => c = .ret ∧ LB = false ∧ Blk W (w.heap.size + 1) 4 [.bool false] ∧ Below w.heap.size w W) ?_ ?_ ?_ ?_ ?_
            (fun x => { tmps := #[.agg #[.bool true, .slice pa np pc, .slice ka 0 kc, .slice ca 0 cc], .pointer (some ⟨w.heap.size, 0, none⟩), .pointer (some ⟨w.heap.size + 1, 0, none⟩), .pointer (some ⟨w.heap.size + 1 + 1, 0, none⟩), x.1, x.2, .pointer (some ⟨w.heap.size, 0, none⟩), .bool true, .bool false, .bool false, .pointer (some ⟨w.heap.size, 1, none⟩), .slice pa np pc, .int .i64 (np : Int), .bool false, .bool false, .bool false, .pointer (some ⟨w.heap.size, 2, none⟩), .slice ka 0 kc, .int .i64 0, .bool false, .bool false, .bool false, .pointer (some ⟨w.heap.size, 3, none⟩), .slice ca 0 cc, .int .i64 0, .bool false, .bool false, .pointer (some ⟨w.heap.size, 1, none⟩), .slice pa np pc, .func (.func 84) #[] #[.pointer (some ⟨w.heap.size + 1 + 1 + 1, 0, none⟩)], x.1, x.2, undef, undef, undef, undef, undef, undef, undef, undef, undef, undef], defers := [] }) ?assign ?body ?done ?stop
          · intro Y k W W' h ho
            exact h.keep (by rw [hs2] at ho; exact ho)
          · intro Y k W W' h hb
            exact h.grow hb
          · rintro c k W W' ⟨rfl, h, h1, h2⟩ ho
            rw [hs2] at ho
            exact ⟨rfl, h, h1.only ho (by omega), h2.trans (ho.below h2.size (fun j hj e => by omega))⟩
          · intro Y k W h
            exact ⟨fun _ => h.b3.cell 0, HP.out.below h.below⟩
          · intro W1 ho hs
            exact ⟨HA.out.only ho (fun h => h), HB.out.only ho (fun h => h), ⟨nilS, [], HC.out.only ho (fun h => h), Sl.nil _, HR.out⟩, HD.out.only ho (fun h => h), HB2.out.trans ((ho.below (Nat.le_refl _) (fun _ _ h => h)).mono (by omega)), by omega, fun _ h => h.elim⟩
          case assign =>
            intro l k hk W G hG
            gi_wp2
            exact hG
          case body =>
            intro l Y k hk W h
            have hkp : k < ps.length := by rw [← HP.out.len]; exact hk
            obtain ⟨lv, lk, hl1, hl2, hl3⟩ := h.b2
            obtain ⟨_, _, _, _, hsk, hsv⟩ := HP.out.at k hkp
            have hxe : xs.getD k nil2 = xs[k] := by simp [List.getD, hk]
            have hpe : ps.getD k ([], []) = ps[k] := by simp [List.getD, hkp]
            have hd : ps.drop k = ps[k] :: ps.drop (k + 1) := List.drop_eq_getElem_cons hkp
            rw [hxe, hpe] at hsk hsv
            rw [hd] at hl3
            generalize xs[k] = x at *
            generalize ps[k] = q at *
            obtain ⟨u1, u2⟩ := x
            obtain ⟨q1, q2⟩ := q
            simp only at hsk hsv
            have HKB := hide (isKeyBehind_any W u1 lv q1 lk (hsk.below h.below) (hl2.below h.below))
            have HVL := hide (isVal_any W u2 q2 (hsv.below h.below))
            obtain ⟨a1, n1, c1, rfl⟩ := sl_form hsk
            obtain ⟨a2, n2, c2, rfl⟩ := sl_form hsv
            obtain ⟨a3, n3, c3, rfl⟩ := sl_form hl2
            have HSK := hide hsk
            have cB : W.cell? ⟨w.heap.size + 1, 0, none⟩ = some (.bool false) := h.b1.cell 0
            have fB := h.b1.frozen 0
            have cL : W.cell? ⟨w.heap.size + 1 + 1, 0, none⟩ = some (.slice a3 n3 c3) := hl1.cell 0
            have fL : W.frozen? ⟨w.heap.size + 1 + 1, 0, none⟩ = false := hl1.frozen 0
            have HL3 : Hid (LB = (behB lk q1 && valB q2 && riseP q1 (ps.drop (k + 1)))) := hl3
            have HL1 := hide hl1
            have HH := hide h
            clear hl1 hl2 hl3 hsk hsv hxe hpe hd h
            cases hb1 : behB lk q1 with
            | false =>
              rw [hb1] at HKB HL3
              clear hb1
              gi_wp2_with (first
                | (refine ⟨trivial, ?_⟩; gi_at_call 91; refine (callsIn_wide.2 HKB.out).mono ?_; rintro e w1 ⟨rfl, hw⟩; subst w1; clear HKB)
                | (refine ⟨trivial, ?_⟩; gi_at_call 72; refine (callsIn_wide.2 HVL.out).mono ?_; rintro e w1 ⟨rfl, hw⟩; subst w1; clear HVL)
                | (refine ⟨trivial, ?_⟩))
              have hoB : Only (· = w.heap.size + 1) W (W.setCell ⟨w.heap.size + 1, 0, none⟩ (.bool false)) := (Only.refl (· = w.heap.size + 1) W).setCell ⟨w.heap.size + 1, 0, none⟩ _ (fun _ => rfl)
              refine ⟨Keeps2.of_only hoB (by omega) (by omega), rfl, by rw [HL3.out]; simp, HH.out.b1.set 0 _, HH.out.below.trans (hoB.below HH.out.below.size (fun j hj e => by omega))⟩
            | true =>
              rw [hb1] at HKB HL3
              clear hb1
              cases hb2 : valB q2 with
              | false =>
                rw [hb2] at HVL HL3
                clear hb2
                gi_wp2_with (first
                  | (refine ⟨trivial, ?_⟩; gi_at_call 91; refine (callsIn_wide.2 HKB.out).mono ?_; rintro e w1 ⟨rfl, hw⟩; subst w1; clear HKB)
                  | (refine ⟨trivial, ?_⟩; gi_at_call 72; refine (callsIn_wide.2 HVL.out).mono ?_; rintro e w1 ⟨rfl, hw⟩; subst w1; clear HVL)
                  | (refine ⟨trivial, ?_⟩))
                have hoB : Only (· = w.heap.size + 1) W (W.setCell ⟨w.heap.size + 1, 0, none⟩ (.bool false)) := (Only.refl (· = w.heap.size + 1) W).setCell ⟨w.heap.size + 1, 0, none⟩ _ (fun _ => rfl)
                refine ⟨Keeps2.of_only hoB (by omega) (by omega), rfl, by rw [HL3.out]; simp, HH.out.b1.set 0 _, HH.out.below.trans (hoB.below HH.out.below.size (fun j hj e => by omega))⟩
              | true =>
                rw [hb2] at HVL HL3
                clear hb2
                gi_wp2_with (first
                  | (refine ⟨trivial, ?_⟩; gi_at_call 91; refine (callsIn_wide.2 HKB.out).mono ?_; rintro e w1 ⟨rfl, hw⟩; subst w1; clear HKB)
                  | (refine ⟨trivial, ?_⟩; gi_at_call 72; refine (callsIn_wide.2 HVL.out).mono ?_; rintro e w1 ⟨rfl, hw⟩; subst w1; clear HVL)
                  | (refine ⟨trivial, ?_⟩))
                have hoB : Only (· = w.heap.size + 2) W (W.setCell ⟨w.heap.size + 2, 0, none⟩ (.slice a1 n1 c1)) := (Only.refl (· = w.heap.size + 2) W).setCell ⟨w.heap.size + 2, 0, none⟩ _ (fun _ => rfl)
                have hh := HH.out
                refine ⟨Keeps2.of_only hoB (by omega) (by omega), fun j hj => hoB.block j (hh.ys j hj).2 (by have := (hh.ys j hj).1; omega), hh.b0.only hoB (by omega), hh.b1.only hoB (by omega), ⟨_, q1, HL1.out.set 0 _, HSK.out, by rw [HL3.out]; simp⟩, hh.b3.only hoB (by omega), hh.below.trans (hoB.below hh.below.size (fun j hj e => by omega)), Nat.le_trans hh.size hoB.size, fun j hj => ⟨(hh.ys j hj).1, Nat.lt_of_lt_of_le (hh.ys j hj).2 hoB.size⟩⟩
          case done =>
            intro Y W h hD
            obtain ⟨lv, lk, hl1, hl2, hl3⟩ := h.b2
            rw [HP.out.len, List.drop_of_length_le (Nat.le_refl _)] at hl3
            have HLT : Hid (LB = true) := hl3
            have cB : W.cell? ⟨w.heap.size + 1, 0, none⟩ = some (.bool false) := h.b1.cell 0
            have fB := h.b1.frozen 0
            have HH := hide h
            have HD := hide hD
            clear hD h hl1 hl2 hl3
            gi_wp2
            have hoB : Only (· = w.heap.size + 1) W (W.setCell ⟨w.heap.size + 1, 0, none⟩ (.bool true)) := (Only.refl (· = w.heap.size + 1) W).setCell ⟨w.heap.size + 1, 0, none⟩ _ (fun _ => rfl)
            have hD3 := (hoB.block w2.heap.size (Array.getElem?_eq_some_iff.1 HD.out).1 (by omega)).trans HD.out
            refine ⟨by simp, .inl ⟨_, _, rfl, run_takeDeferred hD3, ?_⟩⟩
            have hoD : Only (· = w2.heap.size) _ ((W.setCell ⟨w.heap.size + 1, 0, none⟩ (.bool true)).putObj w2.heap.size (.deferred none)) := only_put1 (W.setCell ⟨w.heap.size + 1, 0, none⟩ (.bool true)) _ _ _ rfl
            have hB1 := (HH.out.b1.set 0 (.bool true)).only hoD (by omega)
            have hz := hoB.size
            exact ⟨_, ret_cellB rfl _ _ (w.heap.size + 1) true rfl (hB1.cell 0), ret_bool HLT.out.symm, (HH.out.below.trans (hoB.below HH.out.below.size (fun j hj e => by omega))).trans (hoD.below (by have := HH.out.size; omega) (fun j hj e => by omega))⟩
          case stop =>
            rintro c k W hk ⟨rfl, h, h1, h2⟩ hD
            have HD := hide hD
            clear hD
            gi_wp2
            refine ⟨by simp, .inl ⟨_, _, rfl, run_takeDeferred HD.out, ?_⟩⟩
            have hoD : Only (· = w2.heap.size) W (W.putObj w2.heap.size (.deferred none)) := only_put1 W _ _ _ rfl
            have hB1 := h1.only hoD (by omega)
            exact ⟨_, ret_cellB rfl _ _ (w.heap.size + 1) false rfl (hB1.cell 0), ret_bool h.symm, h2.trans (hoD.below (by have := h2.size; omega) (fun j hj e => by omega))⟩
        · have i3 : (0 : Int) < (nc : Int) := by omega
          clear hbx
          gi_wp2
          exact ⟨_, ret_cellB rfl _ _ (w.heap.size + 1) false rfl HW2.out.2, ret_bool (by rw [HLB.out]; simp [HCZ.out, h3]), HW2.out.1⟩
      · have i2 : (0 : Int) < (nk : Int) := by omega
        clear hbx
        gi_wp2
        exact ⟨_, ret_cellB rfl _ _ (w.heap.size + 1) false rfl HW2.out.2, ret_bool (by rw [HLB.out]; simp [HKZ.out, h2]), HW2.out.1⟩
    · have i1 : (255 : Int) < (np : Int) := by omega
      clear hbx
      gi_wp2
      exact ⟨_, ret_cellB rfl _ _ (w.heap.size + 1) false rfl HW2.out.2, ret_bool (by rw [HLB.out]; simp [h1]), HW2.out.1⟩

end Go.Proofs.Ytoamdbjailpgdaa
