/- The walk of ExtentDoes. -/
import Derived.Test.YtibgkmbdnelbeaaDoorESameL
import Derived.Test.YtibgkmbdnelbeaaDoorEOps
import Derived.Test.YtibgkmbdnelbeaaDoorRegionM
namespace Go.Proofs.YtibgkmbdnelbeaaDoor
set_option maxRecDepth 20000
open Go.RowKit
set_option linter.unusedVariables false
set_option maxRecDepth 100000

def isQ (E : Int) (Q : World → Prop) : Value → World → Prop := fun v w => v = .int .i64 E ∧ Q w
def duo (m1 m2 : Nat) (F G : Nat → Prop) : Nat → Nat → Prop := fun i k => (i = m1 ∧ F k) ∨ (i = m2 ∧ G k)
theorem two_all {m1 m2 : Nat} {F G : Nat → Prop} {w w' : World} (h : Only (fun k => ∃ i, duo m1 m2 F G i k) w w') : Only (fun k => F k ∨ G k) w w' := h.mono (fun k _ ⟨i, hi⟩ => hi.elim (fun h => .inl h.2) (fun h => .inr h.2))
theorem two_1 {m1 m2 : Nat} {F G : Nat → Prop} {w w' : World} (h : Only (fun k => ∃ j, j ≠ m1 ∧ duo m1 m2 F G j k) w w') : Only G w w' := h.mono (fun k _ ⟨i, hn, hi⟩ => hi.elim (fun h => absurd h.1 hn) (fun h => h.2))
theorem two_2 {m1 m2 : Nat} {F G : Nat → Prop} {w w' : World} (h : Only (fun k => ∃ j, j ≠ m2 ∧ duo m1 m2 F G j k) w w') : Only F w w' := h.mono (fun k _ ⟨i, hn, hi⟩ => hi.elim (fun h => h.2) (fun h => absurd h.1 hn))
theorem st_1 {m1 m2 : Nat} {F G : Nat → Prop} {E : Int} {Q : World → Prop} (hQ : ∀ w w', Only G w w' → Q w → Q w') : ∀ i, i ≠ m1 → StS (duo m1 m2 F G i) (isQ E Q) := by
  rintro i hi v w w' ho ⟨h1, h2⟩
  exact ⟨h1, hQ _ _ (ho.mono (fun k _ h => h.elim (fun h => absurd h.1 hi) (fun h => h.2))) h2⟩
theorem st_2 {m1 m2 : Nat} {F G : Nat → Prop} {E : Int} {Q : World → Prop} (hQ : ∀ w w', Only F w w' → Q w → Q w') : ∀ i, i ≠ m2 → StS (duo m1 m2 F G i) (isQ E Q) := by
  rintro i hi v w w' ho ⟨h1, h2⟩
  exact ⟨h1, hQ _ _ (ho.mono (fun k _ h => h.elim (fun h => h.2) (fun h => absurd h.1 hi))) h2⟩
theorem of_1 {m1 m2 : Nat} {F G : Nat → Prop} {w w' : World} (h : Only F w w') : Only (duo m1 m2 F G m1) w w' := h.mono (fun _ _ h => .inl ⟨rfl, h⟩)
theorem of_2 {m1 m2 : Nat} {F G : Nat → Prop} {w w' : World} (h : Only G w w') : Only (duo m1 m2 F G m2) w w' := h.mono (fun _ _ h => .inr ⟨rfl, h⟩)
theorem exec_pick {P : Program} {o : Oper} {a : Act} {w : World} (c x y : Operand) (ho : o.op = .pick c x y) (vy : Value) (hc : a.eval c = .bool false) (hy : a.eval y = vy) : (execOp a.eval o).run P w = .ok (.value vy) w := by
  unfold execOp
  simp only [ho, hc, hy]
  simp [go_sem]

set_option maxHeartbeats 2000000 in
theorem extentDoes_walk (w : World) (size : Int) (v : Value) (os : List OpE) (n : Int) (hsz : (Lit.int .i64 size).wf = true) (hv : Script w v os) (hn : (Lit.int .i64 n).wf = true) (hT : TabB w) : Calls Tryd.prog 3 #[.int .i64 size, v, .int .i64 n] w fun e w' => e = .returned (.bool true) ∧ Below w.heap.size w w' := by
  have HL := hide (fun (W : World) (hb : Below w.heap.size w W) => live_any W (hT.below hb))
  obtain ⟨hpb, ao, cap, hvv, hl1, hl2, hsc⟩ := hv
  subst hvv
  unfold maxLen at hl2
  obtain ⟨T, hTl⟩ : ∃ T, os.length = T := ⟨_, rfl⟩
  rw [hTl] at hl1 ⊢
  have hnb := (bounds_i64 hn).2
  by_cases hin : 1 ≤ size ∧ size ≤ 2048
  · obtain ⟨N, rfl⟩ : ∃ N : Nat, size = N := ⟨size.toNat, by omega⟩
    have HN1 : Hid (∀ W, Below w.heap.size w W → Calls Tryd.prog 8 #[.int .i64 N] W fun e w' => ∃ b, e = .returned (.tuple #[dp b, .int .i64 0]) ∧ SetB w' b N (fun _ => false) ∧ w.heap.size ≤ b ∧ Below W.heap.size W w') := fun W hb => by
      refine (new_ok W N (by omega) (by omega)).mono ?_
      rintro e w' ⟨rfl, rfl⟩
      exact ⟨_, rfl, ⟨Blk.new W _ _, by omega, by omega, fun _ _ => rfl⟩, hb.size, (Below.refl _ W).alloc (Nat.le_refl _) _⟩
    have HN2 : Hid (∀ W, Below w.heap.size w W → Calls Tryd.prog 9 #[.int .i64 N] W fun e w' => ∃ r, e = .returned (.tuple #[dp r, .int .i64 0]) ∧ ∃ g, RefAt w' r g N (fun _ => false) ∧ w.heap.size ≤ r ∧ w.heap.size ≤ g ∧ Below W.heap.size W w') := fun W hb => by
      refine (refNew_ok W N (by omega) (by omega)).mono ?_
      rintro e w' ⟨r, rfl, g, h1, h2, h3, h4⟩
      exact ⟨r, rfl, g, h1, Nat.le_trans hb.size h2, Nat.le_trans hb.size h3, h4⟩
    by_cases hN : N ≤ 300
    · have hNi : ¬ (300 : Int) < (N : Int) := by omega
      obtain ⟨m, hm⟩ : ∃ m, min T 60 = m := ⟨_, rfl⟩
      have hmin : ∀ (ts : Array TypeId) (t : TypeId) (wx : World), (Builtin.min_ ts t #[.int .i64 (T : Int), .int .i64 60]).run Tryd.prog wx = .ok (.int .i64 (m : Int)) wx := by
        intro ts t wx
        rw [run_min_int2]
        congr 2
        split <;> omega
      have hm60 : m ≤ 60 := by omega
      have hmT : m ≤ T := by omega
      have hcut : ∀ wx, (Instr.slice 22 (.slice ao T cap) none (some (.int .i64 (m : Int))) none).run Tryd.prog wx = .ok (.slice ao m cap) wx := cut_head 22 32 3 Tryd.underlying22 sizeOp ao T cap m (by omega) (by unfold maxLen; exact hl2)
      have HSM : Hid (∀ (W : World) (b r g : Nat) (f : Nat → Bool) (K : Int), K ≤ 9223372036854775807 → SetB W b N f → RefAt W r g N f → Below w.heap.size w W → Calls Tryd.prog 16 #[dp b, dp r, .int .i64 K] W fun e w' => e = .returned (.bool true) ∧ Below W.heap.size W w') := fun W b r g f K hK h1 h2 h3 => same_law W b r g N f K hK h1 h2 (hT.below h3)
      have HSC : Hid (∀ k, k < m → ∃ gb off, ao = some ⟨gb, off, none⟩ ∧ gb < w.heap.size ∧ w.rangeAt gb (off + k * 3) (opc (opAt os k)) ∧ (opAt os k).p ≤ 9223372036854775807) := fun k hk => by
        obtain ⟨gb, off, h1, h2, h3⟩ := hsc (by intro e; rw [e] at hTl; simp at hTl; omega)
        refine ⟨gb, off, h1, h2, h3 k (by omega), ?_⟩
        have e : opAt os k = os[k]'(by omega) := by simp [opAt, List.getD, show k < os.length by omega]
        rw [e]
        exact hpb _ (List.getElem_mem _)
      clear hpb hsc hTl hm hin hsz hn hT
      go_enter Tryd.func3, Tryd.ntmps3
      go_wp2_with (first
        | (go_at_call 8; refine (HN1.out w (Below.refl _ w)).mono ?_; rintro e w1 ⟨b0, rfl, hs1, hb0, hb1⟩; have HS1 := hide hs1; have HB1 := hide hb1; have HB0 := hide hb0; clear HN1 hs1 hb1 hb0)
        | (go_at_call 9; refine (HN2.out w1 HB1.out).mono ?_; rintro e w2 ⟨r, rfl, g, hr2, hrw, hgw, hb2⟩; have HS2 := hide (HS1.out.below hb2); have HR2 := hide hr2; have HB2 := hide (below_on HB1.out hb2); clear HN2 hr2 hb2)
        | (go_at_call 10; refine (HL.out w2 HB2.out).mono ?_; rintro e w3 ⟨rfl, hb3⟩; have HS3 := hide (HS2.out.below hb3); have HR3 := hide (HR2.out.below hb3); have HB3 := hide (below_on HB2.out hb3); clear HL hb3))
      clear hmin hcut
      go_loopg [7, 50] m (fun gg sv kv wr => ∃ (k b : Nat) (f : Nat → Bool), gg + k = m ∧ sv = dp b ∧ kv = .int .i64 k ∧ SetB wr b N f ∧ RefAt wr r g N f ∧ w.heap.size ≤ b ∧ Below w.heap.size w wr)
      case atStart => exact ⟨0, b0, _, by omega, rfl, rfl, HS3.out, HR3.out, HB0.out, HB3.out⟩
      case round =>
        obtain ⟨k, b, f, hk, rfl, rfl, hs, hr, hbw, hbl⟩ := hrel
        have HS := hide hs
        have HR := hide hr
        have HBL := hide hbl
        cases gk with
        | zero =>
          have h1 : ¬ (k : Int) < (m : Int) := by omega
          clear hs hr hbl
          go_wp2
          go_ret
          exact ⟨rfl, HBL.out⟩
        | succ gg =>
          have h1 : (k : Int) < (m : Int) := by omega
          obtain ⟨gb, off, hao, hgb, hrg, hpk⟩ := HSC.out k (by omega)
          obtain ⟨z1, z2, z3, z4⟩ := op_facts (opAt os k)
          have hrg' := range_below hrg hbl hgb
          obtain ⟨⟨P, dr, cl⟩, ho⟩ : ∃ o, opAt os k = o := ⟨_, rfl⟩
          rw [ho] at hpk hrg' z1 z2 z3 z4
          simp only at hpk
          have HRG := hide hrg'
          have HZ1 := hide z1
          have HZ2 := hide z2
          have HZ3 := hide z3
          have HZ4 := hide z4
          have hz := zeroOpRun
          subst hao
          obtain ⟨W1, hW1⟩ : ∃ W1, wr.alloc (.cells (opc ⟨P, dr, cl⟩).toArray 32) = W1 := ⟨_, rfl⟩
          have hob : Blk W1 wr.heap.size 32 (opc ⟨P, dr, cl⟩) := by rw [← hW1]; exact Blk.new wr _ _
          have hb1 : Below wr.heap.size wr W1 := by rw [← hW1]; exact (Below.refl _ wr).alloc (Nat.le_refl _) _
          have hs1 := hs.below hb1
          have hr1 := hr.below hb1
          have hbl1 := below_on hbl hb1
          have hne1 := Blk.ne hs1.blk hr1.blk (by decide)
          have hne2 := Blk.ne hs1.blk hr1.row (by decide)
          have hne3 := Blk.ne hob hs1.blk (by decide)
          have hne4 := Blk.ne hob hr1.row (by decide)
          have c0 : W1.cell? ⟨wr.heap.size, 0, none⟩ = some (.int .i64 P) := hob.cell 0
          have c1 : W1.cell? ⟨wr.heap.size, 1, none⟩ = some (.bool dr) := hob.cell 1
          have c2 : W1.cell? ⟨wr.heap.size, 2, none⟩ = some (.bool cl) := hob.cell 2
          have HOB := hide hob
          have HS1' := hide hs1
          have HR1' := hide hr1
          have HBL1 := hide hbl1
          have HNE : Hid (¬ b = g ∧ ¬ r = b ∧ ¬ g = b) := ⟨hne2, fun h => hne1 h.symm, fun h => hne2 h.symm⟩
          have HOC0 : Hid (∀ wx, Only (fun k => k = b ∨ k = g) W1 wx → wx.cell? ⟨wr.heap.size, 0, none⟩ = some (.int .i64 P) ∧ wx.cell? ⟨wr.heap.size, 1, none⟩ = some (.bool dr)) := fun wx ho => by
            have hB := hob.only ho (fun h => h.elim (fun h => hne3 h) (fun h => hne4 h))
            exact ⟨hB.cell 0, hB.cell 1⟩
          have HN3 := hide hne3
          clear hs hr hbl hrg hrg' z1 z2 z3 z4 ho hob hb1 hs1 hr1 hbl1 hne1 hne2 hne3 hne4
          cases cl with
          | true =>
            have HCL : Hid (Calls Tryd.prog 11 #[dp b] W1 fun e w' => ∃ c, e = .returned (dp c) ∧ SetB w' c N f ∧ W1.heap.size ≤ c ∧ Below W1.heap.size W1 w') := by
              refine (clone_any W1 b N f HS1'.out).mono ?_
              rintro e w' ⟨rfl, rfl⟩
              exact ⟨_, rfl, ⟨Blk.new W1 _ _, HS1'.out.lo, HS1'.out.hi, HS1'.out.out⟩, Nat.le_refl _, (Below.refl _ W1).alloc (Nat.le_refl _) _⟩
            go_wp2_with (first
              | ((with_reducible refine wpList_load_mid rfl 32 (.tmp 52) rfl gb (off + k * 3) ?_ (opc ⟨P, dr, true⟩) _ HRG.out Tryd.underlying32 rfl HZ1.out ?_); exact rfl)
              | ((with_reducible refine wpList_store_new rfl 32 (.tmp 12) (.tmp 53) rfl opZero (opc ⟨P, dr, true⟩).toArray 32 ?_ ?_ HZ3.out HZ2.out HZ4.out ?_); exact rfl; exact rfl)
              | (go_at_call 11; refine HCL.out.mono ?_; rintro e W2 ⟨c, rfl, hs2, hcw, hb2⟩; have HS2c := hide hs2; have HS2b := hide (HS1'.out.below hb2); have HR2' := hide (HR1'.out.below hb2); have HOB2 := hide (HOB.out.below hb2 HOB.out.lt); have HB2' := hide (below_on HBL1.out hb2); have cP2 : W2.cell? ⟨wr.heap.size, 0, none⟩ = some (.int .i64 P) := HOB2.out.cell 0; have HCB : Hid (¬ c = b) := (fun e => by have := HS1'.out.lt; omega); have HCW := hide (Nat.le_trans HBL1.out.size hcw); clear HCL hs2 hb2 hcw)
              | (go_at_call 12; refine (add_any W2 b N f P HS2b.out).mono ?_; rintro e W3 ⟨rfl, hs3, ho3⟩; have HS3b := hide hs3; have HS3c := hide (HS2c.out.only ho3 HCB.out); have HR3' := hide (HR2'.out.only ho3 HNE.out.2.1 HNE.out.2.2); have HOB3 := hide (HOB2.out.only ho3 HN3.out); have HB3' := hide (HB2'.out.trans (ho3.below HB2'.out.size (fun j hj e => by omega))); clear hs3 ho3 HS2b)
              | (go_at_call 13; refine (drop_any W3 b N _ 0 HS3b.out).mono ?_; rintro e W4 ⟨rfl, hs4, ho4⟩; have HS4c := hide (HS3c.out.only ho4 HCB.out); have HR4' := hide (HR3'.out.only ho4 HNE.out.2.1 HNE.out.2.2); have HOB4 := hide (HOB3.out.only ho4 HN3.out); have HB4' := hide (HB3'.out.trans (ho4.below HB3'.out.size (fun j hj e => by omega))); have cP4 : W4.cell? ⟨wr.heap.size, 0, none⟩ = some (.int .i64 P) := HOB4.out.cell 0; have HM1 := hide (HSM.out W4 c r g f P hpk HS4c.out HR4'.out HB4'.out); clear hs4 ho4 HS3b)
              | (go_at_call 16; refine HM1.out.mono ?_; rintro e w4 ⟨rfl, hb4⟩; have HSA4 := hide (HS4c.out.below hb4); have HRB4 := hide (HR4'.out.below hb4); have HB4 := hide (below_on HB4'.out hb4); clear HM1 hb4)
              | (go_at_call 16; refine (HSM.out w4 c r g f n hnb HSA4.out HRB4.out HB4.out).mono ?_; rintro e w5 ⟨rfl, hb5⟩; have HSA5 := hide (HSA4.out.below hb5); have HRB5 := hide (HRB4.out.below hb5); have HB5 := hide (below_on HB4.out hb5); clear HSM hb5))
            go_roundg gg
            case measure => omega
            case rel => exact ⟨k + 1, c, f, by omega, rfl, by go_num, HSA5.out, HRB5.out, HCW.out, HB5.out⟩
          | false =>
          cases dr with
          | true =>
            have HOC := hide HOC0.out
            obtain ⟨f', hf'⟩ : ∃ f', dropF f P = f' := ⟨_, rfl⟩
            obtain ⟨E, hE⟩ : ∃ E, dropE N f P = E := ⟨_, rfl⟩
            have H1 : Hid (∀ wx, Only (fun k => k = g) W1 wx → Calls Tryd.prog 13 #[dp b, .int .i64 P] wx fun e w' => e = .returned (.int .i64 E) ∧ SetB w' b N f' ∧ Only (fun k => k = b) wx w') := fun wx ho => by
              have := drop_any wx b N f P (HS1'.out.only ho HNE.out.1)
              rw [hf', hE] at this
              exact this
            have H2 : Hid (∀ wx, Only (fun k => k = b) W1 wx → Calls Tryd.prog 14 #[dp r, .int .i64 P] wx fun e w' => e = .returned (.int .i64 E) ∧ RefAt w' r g N f' ∧ Only (fun k => k = g) wx w') := fun wx ho => by
              have := refDrop_any wx r g N f P (HR1'.out.only ho HNE.out.2.1 HNE.out.2.2)
              rw [hf', hE] at this
              exact this
            clear hf' hE
            go_wp2_with (first
              | ((with_reducible refine wpList_load_mid rfl 32 (.tmp 52) rfl gb (off + k * 3) ?_ (opc ⟨P, true, false⟩) _ HRG.out Tryd.underlying32 rfl HZ1.out ?_); exact rfl)
              | ((with_reducible refine wpList_store_new rfl 32 (.tmp 12) (.tmp 53) rfl opZero (opc ⟨P, true, false⟩).toArray 32 ?_ ?_ HZ3.out HZ2.out HZ4.out ?_); exact rfl; exact rfl))
            clear hW1
            refine wp_region_many (duo 6 10 (fun k => k = b) (fun k => k = g)) [isV (.pointer (some ⟨wr.heap.size, 1, none⟩)), isV (.bool true), isV (.bool true), isV (.pointer (some ⟨b, 0, none⟩)), isV (.pointer (some ⟨wr.heap.size, 0, none⟩)), isV (.int .i64 P), isQ E (fun wz => SetB wz b N f'), isV (.pointer (some ⟨r, 0, none⟩)), isV (.pointer (some ⟨wr.heap.size, 0, none⟩)), isV (.int .i64 P), isQ E (fun wz => RefAt wz r g N f'), isV (.bool false), isV (.bool false), isV (.bool false), isV (.pointer (some ⟨wr.heap.size, 1, none⟩)), isV (.bool true), isV (.bool false), isV (.bool false), isV (undef), isV (undef), isV (undef), isV (undef), isV (undef), isV (undef), isV (undef), isV (undef), isV (undef), isV (.bool false)] 110 28 (by kernel_rfl) (by kernel_rfl) (by kernel_rfl) (by kernel_rfl) rfl ?_ ?_ ?_
            · repeat (first | exact trivial | refine allStM_isV ?_ | refine ⟨st_1 (fun wy wz hh hd => hd.only hh HNE.out.1), ?_⟩ | refine ⟨st_2 (fun wy wz hh hd => hd.only hh HNE.out.2.1 HNE.out.2.2), ?_⟩)
            · refine ⟨?_, ?_, ?_, ?_, ?_, ?_, ?_, ?_, ?_, ?_, ?_, ?_, ?_, ?_, ?_, ?_, ?_, ?_, ?_, ?_, ?_, ?_, ?_, ?_, ?_, ?_, ?_, ?_, trivial⟩
              · intro act wx h
                have e12 : act.eval (.tmp 12) = .pointer (some ⟨wr.heap.size, 0, none⟩) := h.old 12 (by kernel_rfl)
                have hrel := two_all h.rel
                clear h
                refine gives_by rfl act.eval rfl ?_
                generalize act.eval = ρ at *
                intro hf hc
                go_simp
                exact ⟨Only.refl _ _, rfl⟩
              · intro act wx h
                obtain ⟨v67, e67, f67⟩ := h.val 0 67 (by kernel_rfl)
                obtain rfl : v67 = .pointer (some ⟨wr.heap.size, 1, none⟩) := f67
                have hrel := two_all h.rel
                clear h
                have cx := (HOC.out wx hrel).2
                refine gives_by rfl act.eval rfl ?_
                generalize act.eval = ρ at *
                intro hf hc
                go_simp
                exact ⟨Only.refl _ _, rfl⟩
              · intro act wx h
                obtain ⟨v68, e68, f68⟩ := h.val 1 68 (by kernel_rfl)
                obtain rfl : v68 = .bool true := f68
                have hrel := two_all h.rel
                clear h
                refine gives_by rfl act.eval rfl ?_
                generalize act.eval = ρ at *
                intro hf hc
                go_simp
                exact ⟨Only.refl _ _, rfl⟩
              · intro act wx h
                have hg := h.guard 2 69 (by kernel_rfl) true (fun v hv => hv)
                have e7 : act.eval (.tmp 7) = .pointer (some ⟨b, 0, none⟩) := h.old 7 (by kernel_rfl)
                have hrel := two_all h.rel
                clear h
                refine gives_by (by simp only [Region.wanted, hg]; rfl) act.eval rfl ?_
                generalize act.eval = ρ at *
                intro hf hc
                go_simp
                exact ⟨Only.refl _ _, rfl⟩
              · intro act wx h
                have hg := h.guard 2 69 (by kernel_rfl) true (fun v hv => hv)
                have e12 : act.eval (.tmp 12) = .pointer (some ⟨wr.heap.size, 0, none⟩) := h.old 12 (by kernel_rfl)
                have hrel := two_all h.rel
                clear h
                refine gives_by (by simp only [Region.wanted, hg]; rfl) act.eval rfl ?_
                generalize act.eval = ρ at *
                intro hf hc
                go_simp
                exact ⟨Only.refl _ _, rfl⟩
              · intro act wx h
                have hg := h.guard 2 69 (by kernel_rfl) true (fun v hv => hv)
                obtain ⟨v71, e71, f71⟩ := h.val 4 71 (by kernel_rfl)
                obtain rfl : v71 = .pointer (some ⟨wr.heap.size, 0, none⟩) := f71
                have hrel := two_all h.rel
                clear h
                have cx := (HOC.out wx hrel).1
                refine gives_by (by simp only [Region.wanted, hg]; rfl) act.eval rfl ?_
                generalize act.eval = ρ at *
                intro hf hc
                go_simp
                exact ⟨Only.refl _ _, rfl⟩
              · intro act wx h
                have hg := h.guard 2 69 (by kernel_rfl) true (fun v hv => hv)
                obtain ⟨v70, e70, f70⟩ := h.val 3 70 (by kernel_rfl)
                obtain rfl : v70 = .pointer (some ⟨b, 0, none⟩) := f70
                obtain ⟨v72, e72, f72⟩ := h.val 5 72 (by kernel_rfl)
                obtain rfl : v72 = .int .i64 P := f72
                have hrel := two_1 h.relq
                clear h
                refine gives_by (by simp only [Region.wanted, hg]; rfl) act.eval rfl ?_
                generalize act.eval = ρ at *
                intro hf hc
                go_simp
                refine (H1.out wx hrel).mono ?_
                rintro e wy ⟨rfl, hd, ho⟩
                exact ⟨_, rfl, of_1 ho, rfl, hd⟩
              · intro act wx h
                have hg := h.guard 2 69 (by kernel_rfl) true (fun v hv => hv)
                have e9 : act.eval (.tmp 9) = .pointer (some ⟨r, 0, none⟩) := h.old 9 (by kernel_rfl)
                have hrel := two_all h.rel
                clear h
                refine gives_by (by simp only [Region.wanted, hg]; rfl) act.eval rfl ?_
                generalize act.eval = ρ at *
                intro hf hc
                go_simp
                exact ⟨Only.refl _ _, rfl⟩
              · intro act wx h
                have hg := h.guard 2 69 (by kernel_rfl) true (fun v hv => hv)
                have e12 : act.eval (.tmp 12) = .pointer (some ⟨wr.heap.size, 0, none⟩) := h.old 12 (by kernel_rfl)
                have hrel := two_all h.rel
                clear h
                refine gives_by (by simp only [Region.wanted, hg]; rfl) act.eval rfl ?_
                generalize act.eval = ρ at *
                intro hf hc
                go_simp
                exact ⟨Only.refl _ _, rfl⟩
              · intro act wx h
                have hg := h.guard 2 69 (by kernel_rfl) true (fun v hv => hv)
                obtain ⟨v75, e75, f75⟩ := h.val 8 75 (by kernel_rfl)
                obtain rfl : v75 = .pointer (some ⟨wr.heap.size, 0, none⟩) := f75
                have hrel := two_all h.rel
                clear h
                have cx := (HOC.out wx hrel).1
                refine gives_by (by simp only [Region.wanted, hg]; rfl) act.eval rfl ?_
                generalize act.eval = ρ at *
                intro hf hc
                go_simp
                exact ⟨Only.refl _ _, rfl⟩
              · intro act wx h
                have hg := h.guard 2 69 (by kernel_rfl) true (fun v hv => hv)
                obtain ⟨v74, e74, f74⟩ := h.val 7 74 (by kernel_rfl)
                obtain rfl : v74 = .pointer (some ⟨r, 0, none⟩) := f74
                obtain ⟨v76, e76, f76⟩ := h.val 9 76 (by kernel_rfl)
                obtain rfl : v76 = .int .i64 P := f76
                have hrel := two_2 h.relq
                clear h
                refine gives_by (by simp only [Region.wanted, hg]; rfl) act.eval rfl ?_
                generalize act.eval = ρ at *
                intro hf hc
                go_simp
                refine (H2.out wx hrel).mono ?_
                rintro e wy ⟨rfl, hd, ho⟩
                exact ⟨_, rfl, of_2 ho, rfl, hd⟩
              · intro act wx h
                have hg := h.guard 2 69 (by kernel_rfl) true (fun v hv => hv)
                obtain ⟨v73, e73, f73⟩ := h.val 6 73 (by kernel_rfl)
                obtain ⟨rfl, _⟩ := f73
                obtain ⟨v77, e77, f77⟩ := h.val 10 77 (by kernel_rfl)
                obtain ⟨rfl, _⟩ := f77
                have hrel := two_all h.rel
                clear h
                refine gives_by (by simp only [Region.wanted, hg]; rfl) act.eval rfl ?_
                generalize act.eval = ρ at *
                intro hf hc
                go_simp
                exact ⟨Only.refl _ _, rfl⟩
              · intro act wx h
                obtain ⟨v69, e69, f69⟩ := h.val 2 69 (by kernel_rfl)
                obtain rfl : v69 = .bool true := f69
                obtain ⟨v78, e78, f78⟩ := h.val 11 78 (by kernel_rfl)
                obtain rfl : v78 = .bool false := f78
                have hrel := two_all h.rel
                clear h
                refine gives_by rfl act.eval rfl ?_
                generalize act.eval = ρ at *
                intro hf hc
                go_simp
                exact ⟨Only.refl _ _, rfl⟩
              · intro act wx h
                obtain ⟨v79, e79, f79⟩ := h.val 12 79 (by kernel_rfl)
                obtain rfl : v79 = .bool false := f79
                have hrel := two_all h.rel
                clear h
                refine gives_by rfl act.eval rfl ?_
                generalize act.eval = ρ at *
                intro hf hc
                go_simp
                exact ⟨Only.refl _ _, rfl⟩
              · intro act wx h
                have hg := h.guard 13 80 (by kernel_rfl) false (fun v hv => hv)
                have e12 : act.eval (.tmp 12) = .pointer (some ⟨wr.heap.size, 0, none⟩) := h.old 12 (by kernel_rfl)
                have hrel := two_all h.rel
                clear h
                refine gives_by (by simp only [Region.wanted, hg]; rfl) act.eval rfl ?_
                generalize act.eval = ρ at *
                intro hf hc
                go_simp
                exact ⟨Only.refl _ _, rfl⟩
              · intro act wx h
                have hg := h.guard 13 80 (by kernel_rfl) false (fun v hv => hv)
                obtain ⟨v81, e81, f81⟩ := h.val 14 81 (by kernel_rfl)
                obtain rfl : v81 = .pointer (some ⟨wr.heap.size, 1, none⟩) := f81
                have hrel := two_all h.rel
                clear h
                have cx := (HOC.out wx hrel).2
                refine gives_by (by simp only [Region.wanted, hg]; rfl) act.eval rfl ?_
                generalize act.eval = ρ at *
                intro hf hc
                go_simp
                exact ⟨Only.refl _ _, rfl⟩
              · intro act wx h
                have hg := h.guard 13 80 (by kernel_rfl) false (fun v hv => hv)
                obtain ⟨v82, e82, f82⟩ := h.val 15 82 (by kernel_rfl)
                obtain rfl : v82 = .bool true := f82
                have hrel := two_all h.rel
                clear h
                refine gives_by (by simp only [Region.wanted, hg]; rfl) act.eval rfl ?_
                generalize act.eval = ρ at *
                intro hf hc
                go_simp
                exact ⟨Only.refl _ _, rfl⟩
              · intro act wx h
                have hg := h.guard 13 80 (by kernel_rfl) false (fun v hv => hv)
                obtain ⟨v83, e83, f83⟩ := h.val 16 83 (by kernel_rfl)
                obtain rfl : v83 = .bool false := f83
                have hrel := two_all h.rel
                clear h
                refine gives_by (by simp only [Region.wanted, hg]; rfl) act.eval rfl ?_
                generalize act.eval = ρ at *
                intro hf hc
                go_simp
                exact ⟨Only.refl _ _, rfl⟩
              · intro act wx h
                have hg := h.guard 17 84 (by kernel_rfl) false (fun v hv => hv)
                clear h
                exact gives_off (by simp only [Region.wanted, hg]; rfl) ⟨Only.refl _ _, rfl⟩
              · intro act wx h
                have hg := h.guard 17 84 (by kernel_rfl) false (fun v hv => hv)
                clear h
                exact gives_off (by simp only [Region.wanted, hg]; rfl) ⟨Only.refl _ _, rfl⟩
              · intro act wx h
                have hg := h.guard 17 84 (by kernel_rfl) false (fun v hv => hv)
                clear h
                exact gives_off (by simp only [Region.wanted, hg]; rfl) ⟨Only.refl _ _, rfl⟩
              · intro act wx h
                have hg := h.guard 17 84 (by kernel_rfl) false (fun v hv => hv)
                clear h
                exact gives_off (by simp only [Region.wanted, hg]; rfl) ⟨Only.refl _ _, rfl⟩
              · intro act wx h
                have hg := h.guard 17 84 (by kernel_rfl) false (fun v hv => hv)
                clear h
                exact gives_off (by simp only [Region.wanted, hg]; rfl) ⟨Only.refl _ _, rfl⟩
              · intro act wx h
                have hg := h.guard 17 84 (by kernel_rfl) false (fun v hv => hv)
                clear h
                exact gives_off (by simp only [Region.wanted, hg]; rfl) ⟨Only.refl _ _, rfl⟩
              · intro act wx h
                have hg := h.guard 17 84 (by kernel_rfl) false (fun v hv => hv)
                clear h
                exact gives_off (by simp only [Region.wanted, hg]; rfl) ⟨Only.refl _ _, rfl⟩
              · intro act wx h
                have hg := h.guard 17 84 (by kernel_rfl) false (fun v hv => hv)
                clear h
                exact gives_off (by simp only [Region.wanted, hg]; rfl) ⟨Only.refl _ _, rfl⟩
              · intro act wx h
                have hg := h.guard 17 84 (by kernel_rfl) false (fun v hv => hv)
                clear h
                exact gives_off (by simp only [Region.wanted, hg]; rfl) ⟨Only.refl _ _, rfl⟩
              · intro act wx h
                have hg := h.guard 13 80 (by kernel_rfl) false (fun v hv => hv)
                obtain ⟨v84, e84, f84⟩ := h.val 17 84 (by kernel_rfl)
                obtain rfl : v84 = .bool false := f84
                obtain ⟨v93, e93, f93⟩ := h.val 26 93 (by kernel_rfl)
                obtain rfl : v93 = undef := f93
                have hrel := two_all h.rel
                clear h
                refine gives_by (by simp only [Region.wanted, hg]; rfl) act.eval rfl ?_
                generalize act.eval = ρ at *
                intro hf hc
                go_simp
                exact ⟨Only.refl _ _, rfl⟩
            · intro oL hoL vals w3 ho3 hv
              simp only [List.getElem?_toArray, List.getElem?_cons_succ, List.getElem?_cons_zero, Option.some.injEq] at hoL
              subst hoL
              have hvA : isQ E (fun wz => SetB wz b N f') (vals 6) w3 := hv 6 73 (by decide) (by kernel_rfl)
              have hvB : isQ E (fun wz => RefAt wz r g N f') (vals 10) w3 := hv 10 77 (by decide) (by kernel_rfl)
              have hv13 : vals 13 = .bool false := hv 13 80 (by decide) (by kernel_rfl)
              have hv27 : vals 27 = .bool false := hv 27 94 (by decide) (by kernel_rfl)
              clear hv
              generalize hact : putAll _ vals 0 _ = act
              have ho4 := two_all ho3
              have cP3 : w3.cell? ⟨wr.heap.size, 0, none⟩ = some (.int .i64 P) := (HOC.out w3 ho4).1
              have hb3 : Below w.heap.size w w3 := HBL1.out.trans (ho4.below HBL1.out.size (fun j hj e => by rcases e with e | e <;> omega))
              have HB3 := hide hb3
              have HSA := hide hvA.2
              have HRB := hide hvB.2
              have HM1 := hide (HSM.out w3 b r g f' P hpk hvA.2 hvB.2 hb3)
              clear hvA hvB ho3 ho4 hb3
              subst hact
              simp only [List.dropLast, putAll, Act.put, List.setIfInBounds_toArray, List.set_cons_zero, List.set_cons_succ, hv13, hv27]
              refine gives_of_run rfl (exec_pick (.tmp 80) (.const (.bool true)) (.tmp 94) rfl (.bool false) rfl rfl) ?_
              clear hv13 hv27
              go_wp2_with (first
                | (go_at_call 16; refine HM1.out.mono ?_; rintro e w4 ⟨rfl, hb4⟩; have HSA4 := hide (HSA.out.below hb4); have HRB4 := hide (HRB.out.below hb4); have HB4 := hide (below_on HB3.out hb4); clear HM1 hb4)
                | (go_at_call 16; refine (HSM.out w4 b r g f' n hnb HSA4.out HRB4.out HB4.out).mono ?_; rintro e w5 ⟨rfl, hb5⟩; have HSA5 := hide (HSA4.out.below hb5); have HRB5 := hide (HRB4.out.below hb5); have HB5 := hide (below_on HB4.out hb5); clear HSM hb5))
              go_roundg gg
              case measure => omega
              case rel => exact ⟨k + 1, b, f', by omega, rfl, by go_num, HSA5.out, HRB5.out, hbw, HB5.out⟩
          | false =>
            have HOC := hide HOC0.out
            obtain ⟨f', hf'⟩ : ∃ f', addF N f P = f' := ⟨_, rfl⟩
            obtain ⟨E, hE⟩ : ∃ E, addE N f P = E := ⟨_, rfl⟩
            have H1 : Hid (∀ wx, Only (fun k => k = g) W1 wx → Calls Tryd.prog 12 #[dp b, .int .i64 P] wx fun e w' => e = .returned (.int .i64 E) ∧ SetB w' b N f' ∧ Only (fun k => k = b) wx w') := fun wx ho => by
              have := add_any wx b N f P (HS1'.out.only ho HNE.out.1)
              rw [hf', hE] at this
              exact this
            have H2 : Hid (∀ wx, Only (fun k => k = b) W1 wx → Calls Tryd.prog 15 #[dp r, .int .i64 P] wx fun e w' => e = .returned (.int .i64 E) ∧ RefAt w' r g N f' ∧ Only (fun k => k = g) wx w') := fun wx ho => by
              have := refAdd_any wx r g N f P (HR1'.out.only ho HNE.out.2.1 HNE.out.2.2)
              rw [hf', hE] at this
              exact this
            clear hf' hE
            go_wp2_with (first
              | ((with_reducible refine wpList_load_mid rfl 32 (.tmp 52) rfl gb (off + k * 3) ?_ (opc ⟨P, false, false⟩) _ HRG.out Tryd.underlying32 rfl HZ1.out ?_); exact rfl)
              | ((with_reducible refine wpList_store_new rfl 32 (.tmp 12) (.tmp 53) rfl opZero (opc ⟨P, false, false⟩).toArray 32 ?_ ?_ HZ3.out HZ2.out HZ4.out ?_); exact rfl; exact rfl))
            clear hW1
            refine wp_region_many (duo 21 25 (fun k => k = b) (fun k => k = g)) [isV (.pointer (some ⟨wr.heap.size, 1, none⟩)), isV (.bool false), isV (.bool false), isV (undef), isV (undef), isV (undef), isV (undef), isV (undef), isV (undef), isV (undef), isV (undef), isV (undef), isV (.bool false), isV (.bool false), isV (.pointer (some ⟨wr.heap.size, 1, none⟩)), isV (.bool false), isV (.bool true), isV (.bool true), isV (.pointer (some ⟨b, 0, none⟩)), isV (.pointer (some ⟨wr.heap.size, 0, none⟩)), isV (.int .i64 P), isQ E (fun wz => SetB wz b N f'), isV (.pointer (some ⟨r, 0, none⟩)), isV (.pointer (some ⟨wr.heap.size, 0, none⟩)), isV (.int .i64 P), isQ E (fun wz => RefAt wz r g N f'), isV (.bool false), isV (.bool false)] 110 28 (by kernel_rfl) (by kernel_rfl) (by kernel_rfl) (by kernel_rfl) rfl ?_ ?_ ?_
            · repeat (first | exact trivial | refine allStM_isV ?_ | refine ⟨st_1 (fun wy wz hh hd => hd.only hh HNE.out.1), ?_⟩ | refine ⟨st_2 (fun wy wz hh hd => hd.only hh HNE.out.2.1 HNE.out.2.2), ?_⟩)
            · refine ⟨?_, ?_, ?_, ?_, ?_, ?_, ?_, ?_, ?_, ?_, ?_, ?_, ?_, ?_, ?_, ?_, ?_, ?_, ?_, ?_, ?_, ?_, ?_, ?_, ?_, ?_, ?_, ?_, trivial⟩
              · intro act wx h
                have e12 : act.eval (.tmp 12) = .pointer (some ⟨wr.heap.size, 0, none⟩) := h.old 12 (by kernel_rfl)
                have hrel := two_all h.rel
                clear h
                refine gives_by rfl act.eval rfl ?_
                generalize act.eval = ρ at *
                intro hf hc
                go_simp
                exact ⟨Only.refl _ _, rfl⟩
              · intro act wx h
                obtain ⟨v67, e67, f67⟩ := h.val 0 67 (by kernel_rfl)
                obtain rfl : v67 = .pointer (some ⟨wr.heap.size, 1, none⟩) := f67
                have hrel := two_all h.rel
                clear h
                have cx := (HOC.out wx hrel).2
                refine gives_by rfl act.eval rfl ?_
                generalize act.eval = ρ at *
                intro hf hc
                go_simp
                exact ⟨Only.refl _ _, rfl⟩
              · intro act wx h
                obtain ⟨v68, e68, f68⟩ := h.val 1 68 (by kernel_rfl)
                obtain rfl : v68 = .bool false := f68
                have hrel := two_all h.rel
                clear h
                refine gives_by rfl act.eval rfl ?_
                generalize act.eval = ρ at *
                intro hf hc
                go_simp
                exact ⟨Only.refl _ _, rfl⟩
              · intro act wx h
                have hg := h.guard 2 69 (by kernel_rfl) false (fun v hv => hv)
                clear h
                exact gives_off (by simp only [Region.wanted, hg]; rfl) ⟨Only.refl _ _, rfl⟩
              · intro act wx h
                have hg := h.guard 2 69 (by kernel_rfl) false (fun v hv => hv)
                clear h
                exact gives_off (by simp only [Region.wanted, hg]; rfl) ⟨Only.refl _ _, rfl⟩
              · intro act wx h
                have hg := h.guard 2 69 (by kernel_rfl) false (fun v hv => hv)
                clear h
                exact gives_off (by simp only [Region.wanted, hg]; rfl) ⟨Only.refl _ _, rfl⟩
              · intro act wx h
                have hg := h.guard 2 69 (by kernel_rfl) false (fun v hv => hv)
                clear h
                exact gives_off (by simp only [Region.wanted, hg]; rfl) ⟨Only.refl _ _, rfl⟩
              · intro act wx h
                have hg := h.guard 2 69 (by kernel_rfl) false (fun v hv => hv)
                clear h
                exact gives_off (by simp only [Region.wanted, hg]; rfl) ⟨Only.refl _ _, rfl⟩
              · intro act wx h
                have hg := h.guard 2 69 (by kernel_rfl) false (fun v hv => hv)
                clear h
                exact gives_off (by simp only [Region.wanted, hg]; rfl) ⟨Only.refl _ _, rfl⟩
              · intro act wx h
                have hg := h.guard 2 69 (by kernel_rfl) false (fun v hv => hv)
                clear h
                exact gives_off (by simp only [Region.wanted, hg]; rfl) ⟨Only.refl _ _, rfl⟩
              · intro act wx h
                have hg := h.guard 2 69 (by kernel_rfl) false (fun v hv => hv)
                clear h
                exact gives_off (by simp only [Region.wanted, hg]; rfl) ⟨Only.refl _ _, rfl⟩
              · intro act wx h
                have hg := h.guard 2 69 (by kernel_rfl) false (fun v hv => hv)
                clear h
                exact gives_off (by simp only [Region.wanted, hg]; rfl) ⟨Only.refl _ _, rfl⟩
              · intro act wx h
                obtain ⟨v69, e69, f69⟩ := h.val 2 69 (by kernel_rfl)
                obtain rfl : v69 = .bool false := f69
                obtain ⟨v78, e78, f78⟩ := h.val 11 78 (by kernel_rfl)
                obtain rfl : v78 = undef := f78
                have hrel := two_all h.rel
                clear h
                refine gives_by rfl act.eval rfl ?_
                generalize act.eval = ρ at *
                intro hf hc
                go_simp
                exact ⟨Only.refl _ _, rfl⟩
              · intro act wx h
                obtain ⟨v79, e79, f79⟩ := h.val 12 79 (by kernel_rfl)
                obtain rfl : v79 = .bool false := f79
                have hrel := two_all h.rel
                clear h
                refine gives_by rfl act.eval rfl ?_
                generalize act.eval = ρ at *
                intro hf hc
                go_simp
                exact ⟨Only.refl _ _, rfl⟩
              · intro act wx h
                have hg := h.guard 13 80 (by kernel_rfl) false (fun v hv => hv)
                have e12 : act.eval (.tmp 12) = .pointer (some ⟨wr.heap.size, 0, none⟩) := h.old 12 (by kernel_rfl)
                have hrel := two_all h.rel
                clear h
                refine gives_by (by simp only [Region.wanted, hg]; rfl) act.eval rfl ?_
                generalize act.eval = ρ at *
                intro hf hc
                go_simp
                exact ⟨Only.refl _ _, rfl⟩
              · intro act wx h
                have hg := h.guard 13 80 (by kernel_rfl) false (fun v hv => hv)
                obtain ⟨v81, e81, f81⟩ := h.val 14 81 (by kernel_rfl)
                obtain rfl : v81 = .pointer (some ⟨wr.heap.size, 1, none⟩) := f81
                have hrel := two_all h.rel
                clear h
                have cx := (HOC.out wx hrel).2
                refine gives_by (by simp only [Region.wanted, hg]; rfl) act.eval rfl ?_
                generalize act.eval = ρ at *
                intro hf hc
                go_simp
                exact ⟨Only.refl _ _, rfl⟩
              · intro act wx h
                have hg := h.guard 13 80 (by kernel_rfl) false (fun v hv => hv)
                obtain ⟨v82, e82, f82⟩ := h.val 15 82 (by kernel_rfl)
                obtain rfl : v82 = .bool false := f82
                have hrel := two_all h.rel
                clear h
                refine gives_by (by simp only [Region.wanted, hg]; rfl) act.eval rfl ?_
                generalize act.eval = ρ at *
                intro hf hc
                go_simp
                exact ⟨Only.refl _ _, rfl⟩
              · intro act wx h
                have hg := h.guard 13 80 (by kernel_rfl) false (fun v hv => hv)
                obtain ⟨v83, e83, f83⟩ := h.val 16 83 (by kernel_rfl)
                obtain rfl : v83 = .bool true := f83
                have hrel := two_all h.rel
                clear h
                refine gives_by (by simp only [Region.wanted, hg]; rfl) act.eval rfl ?_
                generalize act.eval = ρ at *
                intro hf hc
                go_simp
                exact ⟨Only.refl _ _, rfl⟩
              · intro act wx h
                have hg := h.guard 17 84 (by kernel_rfl) true (fun v hv => hv)
                have e7 : act.eval (.tmp 7) = .pointer (some ⟨b, 0, none⟩) := h.old 7 (by kernel_rfl)
                have hrel := two_all h.rel
                clear h
                refine gives_by (by simp only [Region.wanted, hg]; rfl) act.eval rfl ?_
                generalize act.eval = ρ at *
                intro hf hc
                go_simp
                exact ⟨Only.refl _ _, rfl⟩
              · intro act wx h
                have hg := h.guard 17 84 (by kernel_rfl) true (fun v hv => hv)
                have e12 : act.eval (.tmp 12) = .pointer (some ⟨wr.heap.size, 0, none⟩) := h.old 12 (by kernel_rfl)
                have hrel := two_all h.rel
                clear h
                refine gives_by (by simp only [Region.wanted, hg]; rfl) act.eval rfl ?_
                generalize act.eval = ρ at *
                intro hf hc
                go_simp
                exact ⟨Only.refl _ _, rfl⟩
              · intro act wx h
                have hg := h.guard 17 84 (by kernel_rfl) true (fun v hv => hv)
                obtain ⟨v86, e86, f86⟩ := h.val 19 86 (by kernel_rfl)
                obtain rfl : v86 = .pointer (some ⟨wr.heap.size, 0, none⟩) := f86
                have hrel := two_all h.rel
                clear h
                have cx := (HOC.out wx hrel).1
                refine gives_by (by simp only [Region.wanted, hg]; rfl) act.eval rfl ?_
                generalize act.eval = ρ at *
                intro hf hc
                go_simp
                exact ⟨Only.refl _ _, rfl⟩
              · intro act wx h
                have hg := h.guard 17 84 (by kernel_rfl) true (fun v hv => hv)
                obtain ⟨v85, e85, f85⟩ := h.val 18 85 (by kernel_rfl)
                obtain rfl : v85 = .pointer (some ⟨b, 0, none⟩) := f85
                obtain ⟨v87, e87, f87⟩ := h.val 20 87 (by kernel_rfl)
                obtain rfl : v87 = .int .i64 P := f87
                have hrel := two_1 h.relq
                clear h
                refine gives_by (by simp only [Region.wanted, hg]; rfl) act.eval rfl ?_
                generalize act.eval = ρ at *
                intro hf hc
                go_simp
                refine (H1.out wx hrel).mono ?_
                rintro e wy ⟨rfl, hd, ho⟩
                exact ⟨_, rfl, of_1 ho, rfl, hd⟩
              · intro act wx h
                have hg := h.guard 17 84 (by kernel_rfl) true (fun v hv => hv)
                have e9 : act.eval (.tmp 9) = .pointer (some ⟨r, 0, none⟩) := h.old 9 (by kernel_rfl)
                have hrel := two_all h.rel
                clear h
                refine gives_by (by simp only [Region.wanted, hg]; rfl) act.eval rfl ?_
                generalize act.eval = ρ at *
                intro hf hc
                go_simp
                exact ⟨Only.refl _ _, rfl⟩
              · intro act wx h
                have hg := h.guard 17 84 (by kernel_rfl) true (fun v hv => hv)
                have e12 : act.eval (.tmp 12) = .pointer (some ⟨wr.heap.size, 0, none⟩) := h.old 12 (by kernel_rfl)
                have hrel := two_all h.rel
                clear h
                refine gives_by (by simp only [Region.wanted, hg]; rfl) act.eval rfl ?_
                generalize act.eval = ρ at *
                intro hf hc
                go_simp
                exact ⟨Only.refl _ _, rfl⟩
              · intro act wx h
                have hg := h.guard 17 84 (by kernel_rfl) true (fun v hv => hv)
                obtain ⟨v90, e90, f90⟩ := h.val 23 90 (by kernel_rfl)
                obtain rfl : v90 = .pointer (some ⟨wr.heap.size, 0, none⟩) := f90
                have hrel := two_all h.rel
                clear h
                have cx := (HOC.out wx hrel).1
                refine gives_by (by simp only [Region.wanted, hg]; rfl) act.eval rfl ?_
                generalize act.eval = ρ at *
                intro hf hc
                go_simp
                exact ⟨Only.refl _ _, rfl⟩
              · intro act wx h
                have hg := h.guard 17 84 (by kernel_rfl) true (fun v hv => hv)
                obtain ⟨v89, e89, f89⟩ := h.val 22 89 (by kernel_rfl)
                obtain rfl : v89 = .pointer (some ⟨r, 0, none⟩) := f89
                obtain ⟨v91, e91, f91⟩ := h.val 24 91 (by kernel_rfl)
                obtain rfl : v91 = .int .i64 P := f91
                have hrel := two_2 h.relq
                clear h
                refine gives_by (by simp only [Region.wanted, hg]; rfl) act.eval rfl ?_
                generalize act.eval = ρ at *
                intro hf hc
                go_simp
                refine (H2.out wx hrel).mono ?_
                rintro e wy ⟨rfl, hd, ho⟩
                exact ⟨_, rfl, of_2 ho, rfl, hd⟩
              · intro act wx h
                have hg := h.guard 17 84 (by kernel_rfl) true (fun v hv => hv)
                obtain ⟨v88, e88, f88⟩ := h.val 21 88 (by kernel_rfl)
                obtain ⟨rfl, _⟩ := f88
                obtain ⟨v92, e92, f92⟩ := h.val 25 92 (by kernel_rfl)
                obtain ⟨rfl, _⟩ := f92
                have hrel := two_all h.rel
                clear h
                refine gives_by (by simp only [Region.wanted, hg]; rfl) act.eval rfl ?_
                generalize act.eval = ρ at *
                intro hf hc
                go_simp
                exact ⟨Only.refl _ _, rfl⟩
              · intro act wx h
                have hg := h.guard 13 80 (by kernel_rfl) false (fun v hv => hv)
                obtain ⟨v84, e84, f84⟩ := h.val 17 84 (by kernel_rfl)
                obtain rfl : v84 = .bool true := f84
                obtain ⟨v93, e93, f93⟩ := h.val 26 93 (by kernel_rfl)
                obtain rfl : v93 = .bool false := f93
                have hrel := two_all h.rel
                clear h
                refine gives_by (by simp only [Region.wanted, hg]; rfl) act.eval rfl ?_
                generalize act.eval = ρ at *
                intro hf hc
                go_simp
                exact ⟨Only.refl _ _, rfl⟩
            · intro oL hoL vals w3 ho3 hv
              simp only [List.getElem?_toArray, List.getElem?_cons_succ, List.getElem?_cons_zero, Option.some.injEq] at hoL
              subst hoL
              have hvA : isQ E (fun wz => SetB wz b N f') (vals 21) w3 := hv 21 88 (by decide) (by kernel_rfl)
              have hvB : isQ E (fun wz => RefAt wz r g N f') (vals 25) w3 := hv 25 92 (by decide) (by kernel_rfl)
              have hv13 : vals 13 = .bool false := hv 13 80 (by decide) (by kernel_rfl)
              have hv27 : vals 27 = .bool false := hv 27 94 (by decide) (by kernel_rfl)
              clear hv
              generalize hact : putAll _ vals 0 _ = act
              have ho4 := two_all ho3
              have cP3 : w3.cell? ⟨wr.heap.size, 0, none⟩ = some (.int .i64 P) := (HOC.out w3 ho4).1
              have hb3 : Below w.heap.size w w3 := HBL1.out.trans (ho4.below HBL1.out.size (fun j hj e => by rcases e with e | e <;> omega))
              have HB3 := hide hb3
              have HSA := hide hvA.2
              have HRB := hide hvB.2
              have HM1 := hide (HSM.out w3 b r g f' P hpk hvA.2 hvB.2 hb3)
              clear hvA hvB ho3 ho4 hb3
              subst hact
              simp only [List.dropLast, putAll, Act.put, List.setIfInBounds_toArray, List.set_cons_zero, List.set_cons_succ, hv13, hv27]
              refine gives_of_run rfl (exec_pick (.tmp 80) (.const (.bool true)) (.tmp 94) rfl (.bool false) rfl rfl) ?_
              clear hv13 hv27
              go_wp2_with (first
                | (go_at_call 16; refine HM1.out.mono ?_; rintro e w4 ⟨rfl, hb4⟩; have HSA4 := hide (HSA.out.below hb4); have HRB4 := hide (HRB.out.below hb4); have HB4 := hide (below_on HB3.out hb4); clear HM1 hb4)
                | (go_at_call 16; refine (HSM.out w4 b r g f' n hnb HSA4.out HRB4.out HB4.out).mono ?_; rintro e w5 ⟨rfl, hb5⟩; have HSA5 := hide (HSA4.out.below hb5); have HRB5 := hide (HRB4.out.below hb5); have HB5 := hide (below_on HB4.out hb5); clear HSM hb5))
              go_roundg gg
              case measure => omega
              case rel => exact ⟨k + 1, b, f', by omega, rfl, by go_num, HSA5.out, HRB5.out, hbw, HB5.out⟩
    · have hNi : (300 : Int) < (N : Int) := by omega
      clear hsc hpb hTl hin hsz hn hT
      go_enter Tryd.func3, Tryd.ntmps3
      go_wp2_with (first
        | (go_at_call 8; refine (HN1.out w (Below.refl _ w)).mono ?_; rintro e w1 ⟨b0, rfl, hs1, hb0, hb1⟩; have HB1 := hide hb1; clear HN1 hs1 hb1 hb0)
        | (go_at_call 9; refine (HN2.out w1 HB1.out).mono ?_; rintro e w2 ⟨r, rfl, g, hr2, hrw, hgw, hb2⟩; have HB2 := hide (below_on HB1.out hb2); clear HN2 hr2 hb2)
        | (go_at_call 10; refine (HL.out w2 HB2.out).mono ?_; rintro e w3 ⟨rfl, hb3⟩; have HB3 := hide (below_on HB2.out hb3); clear HL hb3))
      go_ret
      exact ⟨rfl, HB3.out⟩
  · have HN1 := hide (new_bad w size hin)
    have HN2 := hide (refNew_bad w size hin)
    clear hsc hpb hTl hin hsz hn hT
    go_enter Tryd.func3, Tryd.ntmps3
    go_wp2_with (first
      | (go_at_call 8; refine HN1.out.mono ?_; rintro e w1 ⟨rfl, hw⟩; subst w1; clear HN1)
      | (go_at_call 9; refine HN2.out.mono ?_; rintro e w1 ⟨rfl, hw⟩; subst w1; clear HN2)
      | (go_at_call 10; refine (HL.out w (Below.refl _ w)).mono ?_; rintro e w3 ⟨rfl, hb3⟩; have HB3 := hide hb3; clear HL hb3))
    go_ret
    exact ⟨rfl, HB3.out⟩

end Go.Proofs.YtibgkmbdnelbeaaDoor
