/- Contract: the law's own does. -/
import Derived.Test.YtbnhacibkmcmkaaDoorKOldM
import Derived.Test.YtbnhacibkmcmkaaDoorKSame
import Derived.Test.YtbnhacibkmcmkaaDoorRegionM
import Derived.Test.YtbnhacibkmcmkaaDoorKOps
namespace Go.Proofs.YtbnhacibkmcmkaaDoor
set_option maxRecDepth 20000
open Go.RowKit
set_option linter.unusedVariables false
set_option maxRecDepth 100000

def isQ (E : Int) (Q : World → Prop) : Value → World → Prop := fun v w => v = .int .i64 E ∧ Q w
def two (m1 m2 : Nat) (F G : Nat → Prop) : Nat → Nat → Prop := fun i k => (i = m1 ∧ F k) ∨ (i = m2 ∧ G k)
theorem two_all {m1 m2 : Nat} {F G : Nat → Prop} {w w' : World} (h : Only (fun k => ∃ i, two m1 m2 F G i k) w w') : Only (fun k => F k ∨ G k) w w' := h.mono (fun k _ ⟨i, hi⟩ => hi.elim (fun h => .inl h.2) (fun h => .inr h.2))
theorem two_1 {m1 m2 : Nat} {F G : Nat → Prop} {w w' : World} (h : Only (fun k => ∃ j, j ≠ m1 ∧ two m1 m2 F G j k) w w') : Only G w w' := h.mono (fun k _ ⟨i, hn, hi⟩ => hi.elim (fun h => absurd h.1 hn) (fun h => h.2))
theorem two_2 {m1 m2 : Nat} {F G : Nat → Prop} {w w' : World} (h : Only (fun k => ∃ j, j ≠ m2 ∧ two m1 m2 F G j k) w w') : Only F w w' := h.mono (fun k _ ⟨i, hn, hi⟩ => hi.elim (fun h => h.2) (fun h => absurd h.1 hn))
theorem st_1 {m1 m2 : Nat} {F G : Nat → Prop} {E : Int} {Q : World → Prop} (hQ : ∀ w w', Only G w w' → Q w → Q w') : ∀ i, i ≠ m1 → StS (two m1 m2 F G i) (isQ E Q) := by
  rintro i hi v w w' ho ⟨h1, h2⟩
  exact ⟨h1, hQ _ _ (ho.mono (fun k _ h => h.elim (fun h => absurd h.1 hi) (fun h => h.2))) h2⟩
theorem st_2 {m1 m2 : Nat} {F G : Nat → Prop} {E : Int} {Q : World → Prop} (hQ : ∀ w w', Only F w w' → Q w → Q w') : ∀ i, i ≠ m2 → StS (two m1 m2 F G i) (isQ E Q) := by
  rintro i hi v w w' ho ⟨h1, h2⟩
  exact ⟨h1, hQ _ _ (ho.mono (fun k _ h => h.elim (fun h => h.2) (fun h => absurd h.1 hi))) h2⟩
theorem of_1 {m1 m2 : Nat} {F G : Nat → Prop} {w w' : World} (h : Only F w w') : Only (two m1 m2 F G m1) w w' := h.mono (fun _ _ h => .inl ⟨rfl, h⟩)
theorem of_2 {m1 m2 : Nat} {F G : Nat → Prop} {w w' : World} (h : Only G w w') : Only (two m1 m2 F G m2) w w' := h.mono (fun _ _ h => .inr ⟨rfl, h⟩)

/-- acts' own blocks stay -/
def KeepO (w w' : World) : Prop := ∀ j cs, Blk w j 45 cs → Blk w' j 45 cs
theorem KeepO.trans {a b c : World} (h : KeepO a b) (k : KeepO b c) : KeepO a c := fun j cs hj => k j cs (h j cs hj)
theorem KeepO.of_below {a b : World} (h : Below a.heap.size a b) : KeepO a b := fun j cs hj => hj.below h hj.lt
theorem KeepO.of_M {B : Nat} {a b : World} (h : OnlyM B a b) : KeepO a b := fun j cs hj => hj.keepM h (by decide) (by decide)
theorem KeepO.of_1 {a b : World} {x : Nat} {e : TypeId} {ds : List Value} (h : Only (· = x) a b) (hx : Blk a x e ds) (he : e ≠ 45) : KeepO a b := fun j cs hj => hj.only h (Blk.ne hj hx (Ne.symm he))
theorem KeepO.of_2 {a b : World} {x y : Nat} {e e' : TypeId} {ds ds' : List Value} (h : Only (fun k => k = x ∨ k = y) a b) (hx : Blk a x e ds) (he : e ≠ 45) (hy : Blk a y e' ds') (he' : e' ≠ 45) : KeepO a b := fun j cs hj => hj.only h (fun hh => hh.elim (Blk.ne hj hx (Ne.symm he)) (Blk.ne hj hy (Ne.symm he')))
/-- a map and the document's own beside it -/
structure Both (w : World) (B b r q n : Nat) (f g : Nat → Bool) : Prop where
  map : MapE w B b n f g
  ref : RefM w B r q n (codeP f g)
section
variable {w w' : World} {B b r q n : Nat} {f g f' g' : Nat → Bool} {c c' : Nat → Int}
theorem MapE.byRef (h : MapE w B b n f g) (hr : RefM w B r q n c) (ho : Only (· = q) w w') : MapE w' B b n f g := h.keepR ho (fun k _ e => by rw [e]; exact ⟨hr.loq, hr.notMS⟩)
theorem RefM.belowQ (hr : RefM w B r q n c) (hB : B ≤ w.heap.size) (ho : Only (· = q) w w') : Below B w w' := ho.below hB (fun k hk e => by have := hr.loq; omega)
theorem Both.below (h : Both w B b r q n f g) (hb : Below w.heap.size w w') : Both w' B b r q n f g := ⟨h.map.below hb, h.ref.below hb⟩
/-- first the map, then the document's -/
theorem Both.two {w1 : World} (hr : RefM w B r q n c) (hm : MapE w1 B b n f' g') (ho1 : OnlyM B w w1) (hr2 : RefM w' B r q n (codeP f' g')) (ho2 : Only (· = q) w1 w') (hB : B ≤ w.heap.size) : Both w' B b r q n f' g' ∧ Below B w w' ∧ KeepO w w' :=
  ⟨⟨hm.byRef (hr.keepM ho1) ho2, hr2⟩, (ho1.below hB).trans ((hr.keepM ho1).belowQ (Nat.le_trans hB ho1.size) ho2), (KeepO.of_M ho1).trans (KeepO.of_1 ho2 (hr.keepM ho1).row (by decide))⟩
/-- first the document's, then the map -/
theorem Both.owt {w1 : World} (hr : RefM w B r q n c) (hr2 : RefM w1 B r q n c') (ho1 : Only (· = q) w w1) (hm : MapE w' B b n f' g') (ho2 : OnlyM B w1 w') (hc : ∀ p, c' p = codeP f' g' p) (hB : B ≤ w.heap.size) : Both w' B b r q n f' g' ∧ Below B w w' ∧ KeepO w w' :=
  ⟨⟨hm, (hr2.keepM ho2).congr (fun p _ => hc p)⟩, (hr.belowQ hB ho1).trans (ho2.below (Nat.le_trans hB ho1.size)), (KeepO.of_1 ho1 hr.row (by decide)).trans (KeepO.of_M ho2)⟩
end

set_option maxHeartbeats 4000000 in
theorem does_any (w : World) (B b r q n : Nat) (f g : Nat → Bool) (D P : Int) (hB : Both w B b r q n f g) : Calls Tryd.prog 21 #[dp b, dp r, .agg #[.int .i64 D, .int .i64 P]] w fun e w' => e = .returned (.bool true) ∧ ∃ f' g', Both w' B b r q n f' g' ∧ Below B w w' ∧ KeepO w w' := by
  obtain ⟨W1, hW1⟩ : ∃ W1, w.alloc (.cells #[.int .i64 D, .int .i64 P] 45) = W1 := ⟨_, rfl⟩
  have hob : Blk W1 w.heap.size 45 [.int .i64 D, .int .i64 P] := by rw [← hW1]; exact Blk.new w _ _
  have hb1 : Below w.heap.size w W1 := by rw [← hW1]; exact (Below.refl _ w).alloc (Nat.le_refl _) _
  have hle := hB.map.le
  have hB1 := hB.below hb1
  have hle1 := hB1.map.le
  have HBW : Hid (Below B w W1) := hb1.mono hle
  have HKO : Hid (KeepO w W1) := KeepO.of_below hb1
  have HB1 := hide hB1
  have HOB := hide hob
  have c0 : W1.cell? ⟨w.heap.size, 0, none⟩ = some (.int .i64 D) := hob.cell 0
  have c1 : W1.cell? ⟨w.heap.size, 1, none⟩ = some (.int .i64 P) := hob.cell 1
  have hHO := hB1.map.out.1
  by_cases hd0 : D = 0
  · subst hd0
    have HA := malloc_any W1 B b n f g hB1.map
    have HR : ∀ W, OnlyM B W1 W → _ := fun W ho => refAllocM_any W B r q n f g (hB1.ref.keepM ho)
    generalize alV n f g 1 = av at *
    generalize alE n f g 1 = ae at *
    have HA := hide HA
    have HR := hide HR
    clear hob hb1 hB hB1 c1 hHO
    go_enter Tryd.func21, Tryd.ntmps21
    go_wp2_with (first
      | (go_at_call 24; refine HA.out.mono ?_; rintro e W2 ⟨rfl, hm2, ho2⟩; have HM2 := hide hm2; have HO2 := hide ho2; clear HA hm2 ho2)
      | (go_at_call 44; refine (HR.out W2 HO2.out).mono ?_; rintro e W3 ⟨rfl, hr3, ho3⟩; have HR3 := hide hr3; have HO3 := hide ho3; clear HR hr3 ho3))
    go_ret
    obtain ⟨x1, x2, x3⟩ := Both.two HB1.out.ref HM2.out HO2.out HR3.out HO3.out hle1
    exact ⟨by simp, _, _, x1, HBW.out.trans x2, HKO.out.trans x3⟩
  · by_cases hd1 : D = 1
    · subst hd1
      have HA := mrun_any W1 B b n f g P hB1.map
      have HR : ∀ W, OnlyM B W1 W → _ := fun W ho => refRunM_any W B r q n f g P (hB1.ref.keepM ho)
      have HCC : Hid (∀ W, OnlyM B W1 W → W.cell? ⟨w.heap.size, 1, none⟩ = some (.int .i64 P)) := fun W ho => (hob.keepM ho (by decide) (by decide)).cell 1
      generalize alV n f g P = av at *
      generalize alE n f g P = ae at *
      have HA := hide HA
      have HR := hide HR
      clear hob hb1 hB hB1 hHO
      go_enter Tryd.func21, Tryd.ntmps21
      go_wp2_with (first
        | (go_at_call 29; refine HA.out.mono ?_; rintro e W2 ⟨rfl, hm2, ho2⟩; have HM2 := hide hm2; have HO2 := hide ho2; have cc := HCC.out W2 ho2; clear HA hm2 ho2 HCC)
        | (go_at_call 45; refine (HR.out W2 HO2.out).mono ?_; rintro e W3 ⟨rfl, hr3, ho3⟩; have HR3 := hide hr3; have HO3 := hide ho3; clear HR hr3 ho3))
      go_ret
      obtain ⟨x1, x2, x3⟩ := Both.two HB1.out.ref HM2.out HO2.out HR3.out HO3.out hle1
      exact ⟨by simp, _, _, x1, HBW.out.trans x2, HKO.out.trans x3⟩
    · by_cases hd3 : D = 3
      · subst hd3
        have HR := hide (refCommitM_any W1 B r q n _ hB1.ref)
        have HA : Hid (∀ W, Only (· = q) W1 W → _) := fun W ho => mcommit_any W B b n f g (hB1.map.byRef hB1.ref ho)
        clear hob hb1 hB hB1 c1 hHO
        go_enter Tryd.func21, Tryd.ntmps21
        go_wp2_with (first
          | (go_at_call 47; refine HR.out.mono ?_; rintro e W2 ⟨rfl, hr2, ho2⟩; have HR2 := hide hr2; have HO2 := hide ho2; clear HR hr2 ho2)
          | (go_at_call 30; refine (HA.out W2 HO2.out).mono ?_; rintro e W3 ⟨rfl, hm3, ho3⟩; have HM3 := hide hm3; have HO3 := hide ho3; clear HA hm3 ho3))
        go_ret
        obtain ⟨x1, x2, x3⟩ := Both.owt HB1.out.ref HR2.out HO2.out HM3.out HO3.out (fun p => code_commit p) hle1
        exact ⟨rfl, _, _, x1, HBW.out.trans x2, HKO.out.trans x3⟩
      · by_cases hd4 : D = 4
        · subst hd4
          have HR := hide (refAbortM_any W1 B r q n _ hB1.ref)
          have HA : Hid (∀ W, Only (· = q) W1 W → _) := fun W ho => mabort_any W B b n f g (hB1.map.byRef hB1.ref ho)
          clear hob hb1 hB hB1 c1 hHO
          go_enter Tryd.func21, Tryd.ntmps21
          go_wp2_with (first
            | (go_at_call 48; refine HR.out.mono ?_; rintro e W2 ⟨rfl, hr2, ho2⟩; have HR2 := hide hr2; have HO2 := hide ho2; clear HR hr2 ho2)
            | (go_at_call 26; refine (HA.out W2 HO2.out).mono ?_; rintro e W3 ⟨rfl, hm3, ho3⟩; have HM3 := hide hm3; have HO3 := hide ho3; clear HA hm3 ho3))
          go_ret
          obtain ⟨x1, x2, x3⟩ := Both.owt HB1.out.ref HR2.out HO2.out HM3.out HO3.out (fun p => code_abort p) hle1
          exact ⟨rfl, _, _, x1, HBW.out.trans x2, HKO.out.trans x3⟩
        · by_cases hd2 : D = 2
          · subst hd2
            obtain ⟨t, s, hm⟩ := hB1.map
            have hqt : q ≠ t := Blk.ne hB1.ref.row hm.ts.blk (by decide)
            have hqs : q ≠ s := Blk.ne hB1.ref.row hm.ss.blk (by decide)
            have hqb : q ≠ b := Blk.ne hB1.ref.row hm.blk (by decide)
            have hrt : r ≠ t := Blk.ne hB1.ref.blk hm.ts.blk (by decide)
            have hot : w.heap.size ≠ t := Blk.ne hob hm.ts.blk (by decide)
            have hoq : w.heap.size ≠ q := Blk.ne hob hB1.ref.row (by decide)
            have hlq := hB1.ref.loq
            have hlt := hm.lot
            have HKM : Hid (∀ wy wz f1, Only (fun k => k = q) wy wz → MapB wy B b t s n f1 g → MapB wz B b t s n f1 g) := fun wy wz f1 hh hd => hd.keep hh (Ne.symm hqb) (Ne.symm hqt) (Ne.symm hqs) (fun k hk e => by omega)
            have HKR : Hid (∀ wy wz cc, Only (fun k => k = t) wy wz → RefM wy B r q n cc → RefM wz B r q n cc) := fun wy wz cc hh hd => hd.only hh hrt hqt
            obtain ⟨f', hf'⟩ : ∃ f', dropF f P = f' := ⟨_, rfl⟩
            obtain ⟨E, hE⟩ : ∃ E, freeE f P = E := ⟨_, rfl⟩
            have H1 : Hid (∀ wx, Only (fun k => k = q) W1 wx → Calls Tryd.prog 25 #[dp b, .int .i64 P] wx fun e w' => e = .returned (.int .i64 E) ∧ MapB w' B b t s n f' g ∧ Only (fun k => k = t) wx w') := fun wx ho => by
              have := mfreeT wx B b t s n f g P (HKM.out W1 wx f ho hm)
              rw [hf', hE] at this
              exact this
            have H2 : Hid (∀ wx, Only (fun k => k = t) W1 wx → Calls Tryd.prog 46 #[dp r, .int .i64 P] wx fun e w' => e = .returned (.int .i64 E) ∧ RefM w' B r q n (codeP f' g) ∧ Only (fun k => k = q) wx w') := fun wx ho => by
              have := refFreeM_any wx B r q n (codeP f g) P (HKR.out W1 wx _ ho hB1.ref)
              rw [code_has hHO, show (if hasI f P = true then (0 : Int) else 4) = E by rw [← hE]; rfl] at this
              refine this.mono ?_
              rintro e w' ⟨rfl, h1, h2⟩
              exact ⟨rfl, h1.congr (fun p _ => by rw [code_free hHO, hf']), h2⟩
            have HK2 : Hid (∀ wx, Only (fun k => k = t ∨ k = q) W1 wx → KeepO W1 wx) := fun wx ho => KeepO.of_2 ho hm.ts.blk (by decide) hB1.ref.row (by decide)
            have HOC : Hid (∀ wx, Only (fun k => k = t ∨ k = q) W1 wx → wx.cell? ⟨w.heap.size, 1, none⟩ = some (.int .i64 P)) := fun wx ho => (hob.only ho (fun e => by rcases e with e | e <;> omega)).cell 1
            clear hf' hE hob hb1 hB hB1 c1 hHO hm
            go_enter Tryd.func21, Tryd.ntmps21
            go_wp2
            clear c0
            refine wp_region_many (two 3 7 (fun k => k = t) (fun k => k = q)) [isV (.pointer (some ⟨b, 0, none⟩)), isV (.pointer (some ⟨w.heap.size, 1, none⟩)), isV (.int .i64 P), isQ E (fun wz => MapB wz B b t s n f' g), isV (.pointer (some ⟨r, 0, none⟩)), isV (.pointer (some ⟨w.heap.size, 1, none⟩)), isV (.int .i64 P), isQ E (fun wz => RefM wz B r q n (codeP f' g)), isV (.bool true)] 86 9 (by kernel_rfl) (by kernel_rfl) (by kernel_rfl) (by kernel_rfl) rfl ?_ ?_ ?_
            · repeat (first | exact trivial | refine allStM_isV ?_ | refine ⟨st_1 (fun wy wz hh hd => HKM.out wy wz _ hh hd), ?_⟩ | refine ⟨st_2 (fun wy wz hh hd => HKR.out wy wz _ hh hd), ?_⟩)
            · refine ⟨?_, ?_, ?_, ?_, ?_, ?_, ?_, ?_, ?_, trivial⟩
              · intro act wx h
                have e0 : act.eval (.tmp 0) = .pointer (some ⟨b, 0, none⟩) := h.old 0 (by kernel_rfl)
                have hrel := two_all h.rel
                clear h
                refine gives_by rfl act.eval rfl ?_
                generalize act.eval = ρ at *
                intro hf hc
                go_simp
                exact ⟨Only.refl _ _, rfl⟩
              · intro act wx h
                have e5 : act.eval (.tmp 5) = .pointer (some ⟨w.heap.size, 0, none⟩) := h.old 5 (by kernel_rfl)
                have hrel := two_all h.rel
                clear h
                refine gives_by rfl act.eval rfl ?_
                generalize act.eval = ρ at *
                intro hf hc
                go_simp
                exact ⟨Only.refl _ _, rfl⟩
              · intro act wx h
                obtain ⟨v64, e64, f64⟩ := h.val 1 64 (by kernel_rfl)
                obtain rfl : v64 = .pointer (some ⟨w.heap.size, 1, none⟩) := f64
                have hrel := two_all h.rel
                clear h
                have cx := HOC.out wx hrel
                refine gives_by rfl act.eval rfl ?_
                generalize act.eval = ρ at *
                intro hf hc
                go_simp
                exact ⟨Only.refl _ _, rfl⟩
              · intro act wx h
                obtain ⟨v63, e63, f63⟩ := h.val 0 63 (by kernel_rfl)
                obtain rfl : v63 = .pointer (some ⟨b, 0, none⟩) := f63
                obtain ⟨v65, e65, f65⟩ := h.val 2 65 (by kernel_rfl)
                obtain rfl : v65 = .int .i64 P := f65
                have hrel := two_1 h.relq
                clear h
                refine gives_by rfl act.eval rfl ?_
                generalize act.eval = ρ at *
                intro hf hc
                go_simp
                refine (H1.out wx hrel).mono ?_
                rintro e wy ⟨rfl, hd, ho⟩
                exact ⟨_, rfl, of_1 ho, rfl, hd⟩
              · intro act wx h
                have e1 : act.eval (.tmp 1) = .pointer (some ⟨r, 0, none⟩) := h.old 1 (by kernel_rfl)
                have hrel := two_all h.rel
                clear h
                refine gives_by rfl act.eval rfl ?_
                generalize act.eval = ρ at *
                intro hf hc
                go_simp
                exact ⟨Only.refl _ _, rfl⟩
              · intro act wx h
                have e5 : act.eval (.tmp 5) = .pointer (some ⟨w.heap.size, 0, none⟩) := h.old 5 (by kernel_rfl)
                have hrel := two_all h.rel
                clear h
                refine gives_by rfl act.eval rfl ?_
                generalize act.eval = ρ at *
                intro hf hc
                go_simp
                exact ⟨Only.refl _ _, rfl⟩
              · intro act wx h
                obtain ⟨v68, e68, f68⟩ := h.val 5 68 (by kernel_rfl)
                obtain rfl : v68 = .pointer (some ⟨w.heap.size, 1, none⟩) := f68
                have hrel := two_all h.rel
                clear h
                have cx := HOC.out wx hrel
                refine gives_by rfl act.eval rfl ?_
                generalize act.eval = ρ at *
                intro hf hc
                go_simp
                exact ⟨Only.refl _ _, rfl⟩
              · intro act wx h
                obtain ⟨v67, e67, f67⟩ := h.val 4 67 (by kernel_rfl)
                obtain rfl : v67 = .pointer (some ⟨r, 0, none⟩) := f67
                obtain ⟨v69, e69, f69⟩ := h.val 6 69 (by kernel_rfl)
                obtain rfl : v69 = .int .i64 P := f69
                have hrel := two_2 h.relq
                clear h
                refine gives_by rfl act.eval rfl ?_
                generalize act.eval = ρ at *
                intro hf hc
                go_simp
                refine (H2.out wx hrel).mono ?_
                rintro e wy ⟨rfl, hd, ho⟩
                exact ⟨_, rfl, of_2 ho, rfl, hd⟩
              · intro act wx h
                obtain ⟨v66, e66, f66⟩ := h.val 3 66 (by kernel_rfl)
                obtain ⟨rfl, _⟩ := f66
                obtain ⟨v70, e70, f70⟩ := h.val 7 70 (by kernel_rfl)
                obtain ⟨rfl, _⟩ := f70
                have hrel := two_all h.rel
                clear h
                refine gives_by rfl act.eval rfl ?_
                generalize act.eval = ρ at *
                intro hf hc
                go_simp
                exact ⟨Only.refl _ _, rfl⟩
            · intro oL hoL vals w3 ho3 hv
              simp only [List.getElem?_toArray, List.getElem?_cons_succ, List.getElem?_cons_zero, Option.some.injEq] at hoL
              subst hoL
              have hvA : isQ E (fun wz => MapB wz B b t s n f' g) (vals 3) w3 := hv 3 66 (by decide) (by kernel_rfl)
              have hvB : isQ E (fun wz => RefM wz B r q n (codeP f' g)) (vals 7) w3 := hv 7 70 (by decide) (by kernel_rfl)
              have hv8 : vals 8 = .bool true := hv 8 71 (by decide) (by kernel_rfl)
              clear hv
              generalize hact : putAll _ vals 0 _ = act
              have ho4 := two_all ho3
              have HFI : Hid (Both w3 B b r q n f' g ∧ Below B w w3 ∧ KeepO w w3) := ⟨⟨⟨t, s, hvA.2⟩, hvB.2⟩, HBW.out.trans (ho4.below hle1 (fun j hj e => by rcases e with e | e <;> omega)), HKO.out.trans (HK2.out w3 ho4)⟩
              clear hvA hvB ho3 ho4
              subst hact
              simp only [List.dropLast, putAll, Act.put, List.setIfInBounds_toArray, List.set_cons_zero, List.set_cons_succ, hv8]
              refine gives_by rfl _ rfl ?_
              intro hf hc
              go_simp
              simp only [gUpon]
              go_wp2
              go_ret
              exact ⟨rfl, _, _, HFI.out⟩
          · clear hob hb1 hB hB1 c1 hHO
            go_enter Tryd.func21, Tryd.ntmps21
            go_wp2
            go_ret
            exact ⟨rfl, _, _, HB1.out, HBW.out, HKO.out⟩

end Go.Proofs.YtbnhacibkmcmkaaDoor
