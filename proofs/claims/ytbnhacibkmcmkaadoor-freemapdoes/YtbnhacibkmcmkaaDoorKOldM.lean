/- What a map's acts turn, block by block: Alloc, AllocRun and Free its set of taken pages alone, Abort its own block alone. -/
import Derived.Test.YtbnhacibkmcmkaaDoorKClone
namespace Go.Proofs.YtbnhacibkmcmkaaDoor
set_option maxRecDepth 20000
open Go.RowKit Go.Shelf
set_option linter.unusedVariables false
set_option maxRecDepth 100000
attribute [local go_sem] Oper.semAt_some

theorem only_on {S : Nat → Prop} {a b c : World} (h : Only S a b) (k : Only S b c) : Only S a c := h.trans k (fun _ _ h => h)
/-- a map from C on stays where only what lies below C turns -/
theorem MapE.apart {w w' : World} {C c n : Nat} {f g : Nat → Bool} {S : Nat → Prop} (h : MapE w C c n f g) (ho : Only S w w') (hS : ∀ j, S j → j < C) (hT : TabB w') : MapE w' C c n f g := by
  obtain ⟨t, s, h⟩ := h
  exact ⟨t, s, h.blk.only ho (fun e => by have := hS _ e; have := h.lob; omega), h.ts.only ho (fun e => by have := hS _ e; have := h.lot; omega), h.ss.only ho (fun e => by have := hS _ e; have := h.los; omega), h.ne, h.lob, h.lot, h.los, hT, h.pos⟩
theorem MapE.base {w : World} {B C c n : Nat} {f g : Nat → Bool} (h : MapE w C c n f g) (hB : B ≤ C) (hp : 0 < B) : MapE w B c n f g := by
  obtain ⟨t, s, h⟩ := h
  exact ⟨t, s, h.blk, h.ts, h.ss, h.ne, Nat.le_trans hB h.lob, Nat.le_trans hB h.lot, Nat.le_trans hB h.los, h.tab, hp⟩

set_option maxHeartbeats 4000000 in
theorem mrunT (w : World) (B b t s n : Nat) (f g : Nat → Bool) (K : Int) (h : MapB w B b t s n f g) : Calls Tryd.prog 29 #[dp b, .int .i64 K] w fun e w' => e = .returned (.tuple #[.int .i64 (alV n f g K), .int .i64 (alE n f g K)]) ∧ MapB w' B b t s n (alF n f g K) g ∧ Only (· = t) w w' := by
  have HX0 := hide h
  have HX : Hid (MapE w B b n f g) := ⟨t, s, h⟩
  have HMD : Hid (∀ wx, Below w.heap.size w wx → Calls Tryd.prog 52 #[dp b] wx fun e w' => e = .returned (.bool true) ∧ w' = wx) := fun wx hb => mmade_any wx B b n f g (HX.out.below hb)
  have HAL := hide (fun w => mall_any w (some ⟨b, 0, none⟩))
  have hn := HX.out.num.2
  clear h
  by_cases hK : K < 1
  · have HE : Hid (alV n f g K = 0 ∧ alE n f g K = 1 ∧ alF n f g K = f) := by
      refine ⟨?_, ?_, ?_⟩
      · rw [alV, if_pos hK]
      · rw [alE, if_pos hK]
      · rw [alF, if_pos hK]
    refine (callsIn_wide (n := 3)).1 ?_
    refine callsIn_of_wp_marks Tryd.func29 rfl trivial ?_ rfl
    simp only [Tryd.ntmps29, List.size_toArray, List.length_cons, List.length_nil, Nat.reduceAdd, Nat.reduceSub, Array.replicate_succ, Array.replicate_zero, List.push_toArray, List.append_toArray, List.nil_append, List.cons_append]
    gi_wp2
    refine wpIn_wide.2 ?_
    apply wp_scope_straight
    refine (wpIn_wide (n := 3)).1 ?_
    gi_wp2_with (first
      | (refine ⟨trivial, ?_⟩; gi_at_call 52; refine (callsIn_wide.2 (HMD.out _ ((Below.refl _ w).alloc (Nat.le_refl _) _))).mono ?_; rintro e w1 ⟨rfl, hw⟩; subst w1; clear HMD))
    rw [Exit.noGoto_ret]
    obtain ⟨e1, e2, e3⟩ := HE.out
    have hb : Below w.heap.size w (w.alloc (.cells #[.int .i64 K] 3)) := (Below.refl _ w).alloc (Nat.le_refl _) _
    refine ⟨_, results_tmp2 (t := 4) (u := 5) rfl _ _ _, ?_, ?_, Only.of_below _ hb⟩
    · rw [e1, e2]; rfl
    · rw [e3]; exact HX0.out.below hb
  · obtain ⟨k, rfl⟩ : ∃ k : Nat, K = k := ⟨K.toNat, by omega⟩
    have hk1 : 1 ≤ k := by omega
    refine (callsIn_wide (n := 3)).1 ?_
    refine callsIn_of_wp_marks Tryd.func29 rfl trivial ?_ rfl
    simp only [Tryd.ntmps29, List.size_toArray, List.length_cons, List.length_nil, Nat.reduceAdd, Nat.reduceSub, Array.replicate_succ, Array.replicate_zero, List.push_toArray, List.append_toArray, List.nil_append, List.cons_append]
    gi_wp2
    refine wpIn_wide.2 ?_
    apply wp_scope_straight
    refine (wpIn_wide (n := 3)).1 ?_
    gi_wp2_with (first
      | (refine ⟨trivial, ?_⟩; gi_at_call 52; refine (callsIn_wide.2 (HMD.out _ ((Below.refl _ w).alloc (Nat.le_refl _) _))).mono ?_; rintro e w1 ⟨rfl, hw⟩; subst w1; clear HMD))
    apply wpIn_label
    gi_wp2_with (first
      | (refine ⟨trivial, ?_⟩; gi_at_call 35; refine (callsIn_wide.2 (HAL.out _)).mono ?_; rintro e w1 ⟨rfl, hw⟩; subst w1; clear HAL))
    obtain ⟨w2, hw2⟩ : ∃ w2, (((w.alloc (.cells #[.int .i64 (k : Int)] 3)).alloc (.cells #[.int .i64 0] 3)).alloc (.cells #[.int .i64 0] 3)).alloc (.cells #[dp b] 37) = w2 := ⟨_, rfl⟩
    have hs2 : w2.heap.size = w.heap.size + 4 := by rw [← hw2]; simp
    have hA : Blk w2 w.heap.size 3 [.int .i64 (k : Int)] := by rw [← hw2]; exact (((Blk.new w _ _).alloc _).alloc _).alloc _
    have hB : Blk w2 (w.heap.size + 1) 3 [.int .i64 ((0 : Nat) : Int)] := by
      rw [← hw2]
      have := Blk.new (w.alloc (.cells #[.int .i64 (k : Int)] 3)) 3 [.int .i64 0]
      rw [World.size_alloc] at this
      exact (Blk.alloc this _).alloc _
    have hC : Blk w2 (w.heap.size + 2) 3 [.int .i64 ((0 : Nat) : Int)] := by
      rw [← hw2]
      have := Blk.new ((w.alloc (.cells #[.int .i64 (k : Int)] 3)).alloc (.cells #[.int .i64 0] 3)) 3 [.int .i64 0]
      rw [World.size_alloc, World.size_alloc] at this
      exact Blk.alloc this _
    have hD : Blk w2 (w.heap.size + 3) 37 [dp b] := by
      rw [← hw2]
      have := Blk.new (((w.alloc (.cells #[.int .i64 (k : Int)] 3)).alloc (.cells #[.int .i64 0] 3)).alloc (.cells #[.int .i64 0] 3)) 37 [dp b]
      rw [World.size_alloc, World.size_alloc, World.size_alloc] at this
      exact this
    have hb2 : Below w.heap.size w w2 := by rw [← hw2]; exact ((((Below.refl _ w).alloc (Nat.le_refl _) _).alloc (by simp) _).alloc (by simp; omega) _).alloc (by simp; omega) _
    rw [hw2]
    clear hw2
    obtain ⟨fr, hfr⟩ : ∃ fr, frF n f g = fr := ⟨_, rfl⟩
    obtain ⟨xs, hxs⟩ : ∃ xs, pagesF fr n = xs := ⟨_, rfl⟩
    have HIT : Hid (∀ p, Iter2 Tryd.prog 60 #[.pointer (some ⟨p, 0, none⟩)] encP xs (MapV p b n f g)) := fun p => by
      have := mall_iter p b n f g
      rw [hfr, hxs] at this
      exact this
    have HSO : Hid (xs.Pairwise (· < ·)) := by rw [← hxs]; exact pagesF_sorted _ _
    have HMEM : Hid (∀ x ∈ xs, x < n) := fun x hx => by rw [← hxs] at hx; exact (mem_pagesF.1 hx).1
    have HBEG : Hid (RowK fr n k xs 0 0 0) := by rw [← hxs]; exact RowK.begin fr n k
    have HROW : Hid (∀ r, IsRun fr n k r → rowI n f g k = r) := fun r hr => by rw [← hfr] at hr; exact (rowI_is hk1).uniq hr
    have hk0 : ¬ (k : Int) < 1 := by omega
    have HNO : Hid (IsRun fr n k (-1) → alV n f g k = 0 ∧ alE n f g k = 6 ∧ alF n f g k = f) := fun hr => by
      have e := HROW.out _ hr
      refine ⟨?_, ?_, ?_⟩
      · rw [alV, if_neg hk0, if_pos e]
      · rw [alE, if_neg hk0, if_pos e]
      · rw [alF, if_neg hk0, if_pos e]
    have HYES : Hid (∀ q : Nat, IsRun fr n k (q : Int) → alV n f g k = q ∧ alE n f g k = 0 ∧ alF n f g k = addR f q k ∧ q + k ≤ n) := fun q hr => by
      have e := HROW.out _ hr
      have hne : ¬ rowI n f g k = -1 := by omega
      refine ⟨?_, ?_, ?_, ?_⟩
      · rw [alV, if_neg hk0, if_neg hne, e]
      · rw [alE, if_neg hk0, if_neg hne]
      · rw [alF, if_neg hk0, if_neg hne, e]
        funext p
        rw [addR]
        congr 1
        rw [decide_eq_decide]
        omega
      · rcases hr with ⟨h, _⟩ | ⟨p, hp, hw, _⟩
        · omega
        · have := hw.1; omega
    clear hfr hxs HROW hk0
    refine wp_range6 (gf := 60) (lb := #[.pointer (some ⟨w.heap.size + 1 + 1 + 1, 0, none⟩)]) (xs := xs) (encs := encP) (V := MapV (w.heap.size + 1 + 1 + 1) b n f g) rfl enters_mall (HIT.out _) (fun _ => rfl)
      (fun Y i W => ∃ bg L, RowK fr n k xs i bg L ∧ AlI w b k bg L Y W) (fun Y cc i W => cc = .exit 1 ∧ ∃ bg : Nat, IsRun fr n k (bg : Int) ∧ AlI w b k bg k Y W) ?_ ?_ ?_ ?_ ?_ ?_
      (fun x => { tmps := #[dp b, .int .i64 (k : Int), undef, .pointer (some ⟨w.heap.size, 0, none⟩), .int .i64 0, .int .i64 0, .pointer (some ⟨w.heap.size + 1, 0, none⟩), .pointer (some ⟨w.heap.size + 1 + 1, 0, none⟩), .int .i64 (x : Int), undef, .bool false, dp b, .bool true, .bool false, .bool (decide ((k : Int) < 1)), .int .i64 (k : Int), .bool (decide ((k : Int) < 1)), dp b, .func (.func 60) #[] #[.pointer (some ⟨w.heap.size + 1 + 1 + 1, 0, none⟩)], .int .i64 (x : Int), undef, undef, undef, undef, undef, undef, undef, undef, undef, undef, undef, undef, undef, undef, undef, undef, undef, undef, undef, undef, undef, undef, undef, undef, undef, undef, undef, undef, undef, undef], defers := [] }) ?assign ?body ?done ?stop
    · rintro Y i W W' ⟨bg, L, h1, h⟩ ho
      exact ⟨bg, L, h1, h.keep (by rw [hs2] at ho; exact ho)⟩
    · rintro Y i W W' ⟨bg, L, h1, h⟩ ho
      exact ⟨bg, L, h1, h.grow ho⟩
    · rintro Y cc i W W' ⟨rfl, bg, h1, h⟩ ho
      exact ⟨rfl, bg, h1, h.keep (by rw [hs2] at ho; exact ho)⟩
    · rintro Y cc i W W' ⟨rfl, bg, h1, h⟩ ho
      exact ⟨rfl, bg, h1, h.grow ho⟩
    · rintro Y i W ⟨bg, L, h1, h⟩
      exact mapV_of HX.out h.below h.b4 i
    · intro W1 ho hs
      exact ⟨0, 0, HBEG.out, hA.only ho (fun h => h), hB.only ho (fun h => h), hC.only ho (fun h => h), hD.only ho (fun h => h), hb2.trans ((ho.below (Nat.le_refl _) (fun _ _ h => h)).mono (by omega)), by omega, (fun _ h => h.elim)⟩
    case assign =>
      intro l i hi W K hK
      gi_wp2
      exact hK
    case body =>
      rintro l Y i hi W ⟨bg, L, hr, h⟩
      obtain ⟨x, hx⟩ : ∃ x, xs[i] = x := ⟨_, rfl⟩
      rw [hx]
      have hxn : x < n := HMEM.out x (hx ▸ List.getElem_mem hi)
      have hdrop : xs.drop i = x :: xs.drop (i + 1) := by rw [List.drop_eq_getElem_cons hi, hx]
      have hsort : (x :: xs.drop (i + 1)).Pairwise (· < ·) := by rw [← hdrop]; exact HSO.out.sublist (List.drop_sublist _ _)
      have cK : W.cell? ⟨w.heap.size, 0, none⟩ = some (.int .i64 (k : Int)) := h.b1.cell 0
      have cG : W.cell? ⟨w.heap.size + 1, 0, none⟩ = some (.int .i64 (bg : Int)) := h.b2.cell 0
      have cL : W.cell? ⟨w.heap.size + 1 + 1, 0, none⟩ = some (.int .i64 (L : Int)) := h.b3.cell 0
      have fG := h.b2.frozen 0
      have fL : W.frozen? ⟨w.heap.size + 1 + 1, 0, none⟩ = false := h.b3.frozen 0
      have HH := hide h
      have HR := hide hr
      have hfew := hr.few
      have hle := hr.le
      have HDR := hide hdrop
      have HSR := hide hsort
      clear h hr hx hdrop hsort HIT HBEG
      by_cases hL : L = k
      · subst hL
        gi_wp2
        exact ⟨Keeps2.refl _ _, KeepsY.refl _ _, rfl, bg, HR.out.found rfl, HH.out⟩
      · have hLk : L < k := by omega
        have hLi : ¬ (L : Int) = (k : Int) := by omega
        have hadd : (bg : Int) + (L : Int) = ((bg + L : Nat) : Int) := by omega
        have hwr := wrap_i64_in (bg + L) (by omega)
        obtain ⟨sm, hs⟩ : ∃ sm, bg + L = sm := ⟨_, rfl⟩
        rw [hs] at hadd hwr
        have HS := hide hs
        have hsn : sm ≤ 2048 := by omega
        have hL2 : L ≤ 2048 := by omega
        clear hs
        by_cases hxb : x = sm
        · have hxi : (x : Int) = (sm : Int) := by omega
          have HNR := hide (HR.out.more HDR.out HSR.out hxn hLk (by have := HS.out; omega))
          clear hL hfew hle
          subst hxb
          gi_wp2
          have hh := HH.out
          have hoB : Only (· = w.heap.size + 2) W (W.setCell ⟨w.heap.size + 1 + 1, 0, none⟩ (.int .i64 ((L : Int) + 1))) := (Only.refl (· = w.heap.size + 2) W).setCell ⟨w.heap.size + 1 + 1, 0, none⟩ _ (fun _ => rfl)
          have hb : Blk (W.setCell ⟨w.heap.size + 1 + 1, 0, none⟩ (.int .i64 ((L : Int) + 1))) (w.heap.size + 2) 3 [.int .i64 ((L + 1 : Nat) : Int)] := hh.b3.set 0 _
          refine ⟨Keeps2.of_only hoB (by omega) (by omega), fun j hj => hoB.block j (hh.ys j hj).2 (by have := (hh.ys j hj).1; omega), bg, L + 1, HNR.out, hh.b1.only hoB (by omega), hh.b2.only hoB (by omega), hb, hh.b4.only hoB (by omega), hh.below.trans (hoB.below hh.below.size (fun j hj e => by omega)), Nat.le_trans hh.size hoB.size, fun j hj => ⟨(hh.ys j hj).1, Nat.lt_of_lt_of_le (hh.ys j hj).2 hoB.size⟩⟩
        · have hxi : ¬ (x : Int) = (sm : Int) := by omega
          have HNR := hide (HR.out.anew HDR.out HSR.out hxn hLk (by have := HS.out; omega))
          clear hL hfew hle hxb
          gi_wp2
          have hh := HH.out
          have hoB : Only (fun j => j = w.heap.size + 1 ∨ j = w.heap.size + 2) W ((W.setCell ⟨w.heap.size + 1, 0, none⟩ (.int .i64 (x : Int))).setCell ⟨w.heap.size + 1 + 1, 0, none⟩ (.int .i64 1)) := ((Only.refl _ W).setCell ⟨w.heap.size + 1, 0, none⟩ _ (fun _ => .inl rfl)).setCell ⟨w.heap.size + 1 + 1, 0, none⟩ _ (fun _ => .inr rfl)
          have hb1 : Blk ((W.setCell ⟨w.heap.size + 1, 0, none⟩ (.int .i64 (x : Int))).setCell ⟨w.heap.size + 1 + 1, 0, none⟩ (.int .i64 1)) (w.heap.size + 1) 3 [.int .i64 (x : Int)] := (hh.b2.set 0 _).setOther _ _ (by simp)
          have hb2 : Blk ((W.setCell ⟨w.heap.size + 1, 0, none⟩ (.int .i64 (x : Int))).setCell ⟨w.heap.size + 1 + 1, 0, none⟩ (.int .i64 1)) (w.heap.size + 2) 3 [.int .i64 ((1 : Nat) : Int)] := (hh.b3.setOther _ _ (by simp)).set 0 _
          refine ⟨Keeps2.of_only hoB (by omega) (by omega), fun j hj => hoB.block j (hh.ys j hj).2 (by have := (hh.ys j hj).1; omega), x, 1, HNR.out, hh.b1.only hoB (by omega), hb1, hb2, hh.b4.only hoB (by omega), hh.below.trans (hoB.below hh.below.size (fun j hj e => by omega)), Nat.le_trans hh.size hoB.size, fun j hj => ⟨(hh.ys j hj).1, Nat.lt_of_lt_of_le (hh.ys j hj).2 hoB.size⟩⟩
    case done =>
      rintro Y W ⟨bg, L, hr, h⟩ hDf
      have cK : W.cell? ⟨w.heap.size, 0, none⟩ = some (.int .i64 (k : Int)) := h.b1.cell 0
      have cG : W.cell? ⟨w.heap.size + 1, 0, none⟩ = some (.int .i64 (bg : Int)) := h.b2.cell 0
      have cL : W.cell? ⟨w.heap.size + 1 + 1, 0, none⟩ = some (.int .i64 (L : Int)) := h.b3.cell 0
      have HH := hide h
      have HD := hide hDf
      have hle := hr.le
      by_cases hL : L < k
      · obtain ⟨e1, e2, e3⟩ := HNO.out (hr.none hk1 hL (List.drop_of_length_le (Nat.le_refl _)))
        have HE := hide (And.intro e1 (And.intro e2 e3))
        have hLi : (L : Int) < (k : Int) := by omega
        clear h hDf hr e1 e2 e3 hle HIT HBEG HYES
        gi_wp2
        rw [Exit.noGoto_ret]
        refine ⟨by simp, .inl ⟨_, _, rfl, run_takeDeferred HD.out, ?_⟩⟩
        have hoD : Only (· = w2.heap.size) W (W.putObj w2.heap.size (.deferred none)) := only_put1 W _ _ _ rfl
        obtain ⟨e1, e2, e3⟩ := HE.out
        have hb : Below w.heap.size w (W.putObj w2.heap.size (.deferred none)) := HH.out.below.trans (hoD.below HH.out.below.size (fun j hj e => by omega))
        refine ⟨_, results_tmp2 (t := 4) (u := 5) rfl _ _ _, ?_, ?_, Only.of_below _ hb⟩
        · rw [e1, e2]; rfl
        · rw [e3]; exact HX0.out.below hb
      · have hLk : L = k := by omega
        subst hLk
        have hru := hr.found rfl
        have hLi : ¬ (L : Int) < (L : Int) := by omega
        clear h hDf hr hle HIT HBEG HNO hL
        obtain ⟨e1, e2, e3, hqn⟩ := HYES.out bg hru
        have HE := hide (And.intro e1 (And.intro e2 e3))
        have hm := HX0.out.below HH.out.below
        have HM0 : Hid (MapB W B b t s n (addR f bg 0) g) := by rw [addR_zero]; exact hm
        have HO0 : Hid (Only (· = t) w W) := Only.of_below _ HH.out.below
        have hlo := hm.lob
        clear e1 e2 e3 HYES hru hm
        gi_wp2
        refine wpIn_wide.2 ?_
        go_loopg [37] L (fun gk i wr => ∃ j : Nat, gk + j = L ∧ i = .int .i64 j ∧ MapB wr B b t s n (addR f bg j) g ∧ Only (· = t) w wr ∧ Blk wr (w.heap.size + 1) 3 [.int .i64 (bg : Int)] ∧ wr.heap[w2.heap.size]? = some (.deferred (some [])))
        case atStart => exact ⟨0, rfl, rfl, HM0.out, HO0.out, HH.out.b2, HD.out⟩
        case round =>
          obtain ⟨j, hj, rfl, hm, ho, hbg, hdf⟩ := hrel
          have HMR := hide hm
          have HOR := hide ho
          have HBR := hide hbg
          have HDR := hide hdf
          cases gk with
          | zero =>
            have hjk : j = L := by omega
            subst hjk
            have h3 : ¬ (j : Int) < (j : Int) := by omega
            have c0 : wr.cell? ⟨w.heap.size + 1, 0, none⟩ = some (.int .i64 (bg : Int)) := hbg.cell 0
            clear hm ho hbg hdf cK cG cL
            go_wp2
            gi_wp2
            rw [Exit.noGoto_ret, ← hs2]
            refine ⟨by simp, .inl ⟨_, _, rfl, run_takeDeferred HDR.out, ?_⟩⟩
            have hoD : Only (· = w2.heap.size) wr (wr.putObj w2.heap.size (.deferred none)) := only_put1 wr _ _ _ rfl
            obtain ⟨e1, e2, e3⟩ := HE.out
            have hm := HMR.out
            have hbt : b ≠ w2.heap.size ∧ t ≠ w2.heap.size ∧ s ≠ w2.heap.size := by
              have hne : ∀ {q : Nat} {e : TypeId} {cs : List Value}, Blk wr q e cs → q ≠ w2.heap.size := fun {q e cs} hq e2 => by
                rw [e2] at hq
                have := hq.symm.trans HDR.out
                cases this
              exact ⟨hne hm.blk, hne hm.ts.blk, hne hm.ss.blk⟩
            refine ⟨_, results_tmp2 (t := 4) (u := 5) rfl _ _ _, ?_, ?_, ?_⟩
            · rw [e1, e2]; rfl
            · rw [e3]
              exact hm.keep hoD hbt.1 hbt.2.1 hbt.2.2 (fun q hq e => by have := HX.out.le; omega)
            · exact ⟨hoD.os.trans HOR.out.os, hoD.tape.trans HOR.out.tape, hoD.output.trans HOR.out.output, Nat.le_trans HOR.out.size hoD.size, fun q hq hn => (hoD.block q (Nat.lt_of_lt_of_le hq HOR.out.size) (by omega)).trans (HOR.out.block q hq hn)⟩
          | succ gg =>
            have h3 : (j : Int) < (L : Int) := by omega
            have hjn : bg + j < n := by omega
            obtain ⟨S, hS⟩ : ∃ S, bg + j = S := ⟨_, rfl⟩
            have hadd : (bg : Int) + (j : Int) = (S : Int) := by omega
            have hwr := wrap_i64_in S (by omega)
            have HCW : Hid (∀ wx, Only (fun _ => False) wr wx → wx.cell? ⟨b, 0, none⟩ = some (dp t) ∧ wx.cell? ⟨w.heap.size + 1, 0, none⟩ = some (.int .i64 (bg : Int)) ∧ wx.frozen? ⟨b, 0, none⟩ = false) := fun wx hox => by
              have hbx : Below wr.heap.size wr wx := hox.below (Nat.le_refl _) (fun _ _ h => h)
              exact ⟨(HMR.out.below hbx).c0, (HBR.out.only hox (fun h => h)).cell 0, (HMR.out.below hbx).blk.frozen 0⟩
            have HA : Hid (∀ wx, Only (fun _ => False) wr wx → Calls Tryd.prog 42 #[dp t, .int .i64 (S : Int)] wx fun e w' => (∃ v, e = .returned v) ∧ MapB w' B b t s n (addR f bg (j + 1)) g ∧ Only (· = t) w w' ∧ Blk w' (w.heap.size + 1) 3 [.int .i64 (bg : Int)] ∧ w'.heap[w2.heap.size]? = some (.deferred (some []))) := fun wx hox => by
              have hbx : Below wr.heap.size wr wx := hox.below (Nat.le_refl _) (fun _ _ h => h)
              have h' := HMR.out.below hbx
              have HAA := add_any wx t n (addR f bg j) (S : Int) h'.ts
              have hst := addR_step n f bg j hjn
              rw [hS] at hst
              rw [hst] at HAA
              refine HAA.mono ?_
              rintro e w' ⟨rfl, hss, hoo⟩
              have hdx : wx.heap[w2.heap.size]? = some (.deferred (some [])) := (hbx.block _ (Array.getElem?_eq_some_iff.1 HDR.out).1).trans HDR.out
              have hne : w2.heap.size ≠ t := fun e2 => by
                have := h'.ts.blk
                rw [← e2] at this
                cases this.symm.trans hdx
              have hne2 : w.heap.size + 1 ≠ t := Blk.ne (HBR.out.only hox (fun h => h)) h'.ts.blk (by decide)
              refine ⟨⟨_, rfl⟩, ⟨h'.blk.only hoo h'.bt, hss, h'.ss.only hoo (Ne.symm h'.ne), h'.ne, h'.lob, h'.lot, h'.los, h'.tab.keep h'.pos (hoo.below h'.le (fun q hq e => by have := h'.lot; omega)), h'.pos⟩, only_on (only_on HOR.out (Only.of_below _ hbx)) hoo, (HBR.out.only hox (fun h => h)).only hoo hne2, (hoo.block _ (Array.getElem?_eq_some_iff.1 hdx).1 hne).trans hdx⟩
            have HS := hide hS
            clear hm ho hbg hdf hS cK cG cL hjn
            go_wp2
            refine wp_region_only (fun _ => False) [isV (.pointer (some ⟨b, 0, none⟩)), isV (.pointer (some ⟨b, 0, none⟩)), isV (.pointer (some ⟨b, 0, none⟩)), isV (.pointer (some ⟨t, 0, none⟩)), isV (.int .i64 (bg : Int)), isV (.int .i64 (j : Int)), isV (.int .i64 (S : Int))] 99 50 7 (by kernel_rfl) (by kernel_rfl) (by kernel_rfl) (by kernel_rfl) rfl ?_ ?_ ?_
            · repeat (first | exact trivial | refine allStL_isV ?_)
            · refine ⟨?_, ?_, ?_, ?_, ?_, ?_, ?_, trivial⟩
              · intro act wx h
                have e0 : act.eval (.tmp 0) = .pointer (some ⟨b, 0, none⟩) := h.old 0 (by kernel_rfl)
                have hrel := h.rel
                clear h
                refine gives_by rfl act.eval rfl ?_
                generalize act.eval = ρ at *
                intro hf hc
                go_simp
                exact ⟨relM_quiet (by decide) (Only.refl _ _), rfl⟩
              · intro act wx h
                obtain ⟨v40, e40, f40⟩ := h.val 0 40 (by kernel_rfl)
                obtain rfl : v40 = .pointer (some ⟨b, 0, none⟩) := f40
                have hrel := h.rel
                clear h
                refine gives_by rfl act.eval rfl ?_
                generalize act.eval = ρ at *
                intro hf hc
                go_simp
                exact ⟨relM_quiet (by decide) (Only.refl _ _), rfl⟩
              · intro act wx h
                obtain ⟨v41, e41, f41⟩ := h.val 1 41 (by kernel_rfl)
                obtain rfl : v41 = .pointer (some ⟨b, 0, none⟩) := f41
                have hrel := h.rel
                clear h
                refine gives_by rfl act.eval rfl ?_
                generalize act.eval = ρ at *
                intro hf hc
                go_simp
                exact ⟨relM_quiet (by decide) (Only.refl _ _), rfl⟩
              · intro act wx h
                obtain ⟨v42, e42, f42⟩ := h.val 2 42 (by kernel_rfl)
                obtain rfl : v42 = .pointer (some ⟨b, 0, none⟩) := f42
                have hrel := h.rel
                clear h
                have cx := (HCW.out wx hrel).1
                refine gives_by rfl act.eval rfl ?_
                generalize act.eval = ρ at *
                intro hf hc
                go_simp
                exact ⟨relM_quiet (by decide) (Only.refl _ _), rfl⟩
              · intro act wx h
                have e6 : act.eval (.tmp 6) = .pointer (some ⟨w.heap.size + 1, 0, none⟩) := h.old 6 (by kernel_rfl)
                have hrel := h.rel
                clear h
                have cx := (HCW.out wx hrel).2.1
                refine gives_by rfl act.eval rfl ?_
                generalize act.eval = ρ at *
                intro hf hc
                go_simp
                exact ⟨relM_quiet (by decide) (Only.refl _ _), rfl⟩
              · intro act wx h
                have e9 : act.eval (.tmp 9) = .int .i64 (j : Int) := h.old 9 (by kernel_rfl)
                have hrel := h.rel
                clear h
                refine gives_by rfl act.eval rfl ?_
                generalize act.eval = ρ at *
                intro hf hc
                go_simp
                exact ⟨relM_quiet (by decide) (Only.refl _ _), rfl⟩
              · intro act wx h
                obtain ⟨v44, e44, f44⟩ := h.val 4 44 (by kernel_rfl)
                obtain rfl : v44 = .int .i64 (bg : Int) := f44
                obtain ⟨v45, e45, f45⟩ := h.val 5 45 (by kernel_rfl)
                obtain rfl : v45 = .int .i64 (j : Int) := f45
                have hrel := h.rel
                clear h
                refine gives_by rfl act.eval rfl ?_
                generalize act.eval = ρ at *
                intro hf hc
                go_simp
                exact ⟨relM_quiet (by decide) (Only.refl _ _), rfl⟩
            · intro oL hoL vals w3 ho3 hv
              simp only [List.getElem?_toArray, List.getElem?_cons_succ, List.getElem?_cons_zero, Option.some.injEq] at hoL
              subst hoL
              have hv3 : vals 3 = .pointer (some ⟨t, 0, none⟩) := hv 3 43 (by decide) (by kernel_rfl)
              have hv6 : vals 6 = .int .i64 (S : Int) := hv 6 46 (by decide) (by kernel_rfl)
              clear hv
              generalize hact : putAll _ vals 0 _ = act
              have HAA := hide (HA.out w3 ho3)
              clear HA HCW
              subst hact
              simp only [List.dropLast, putAll, Act.put, List.setIfInBounds_toArray, List.set_cons_zero, List.set_cons_succ, hv3, hv6]
              refine gives_by rfl _ rfl ?_
              intro hf hc
              go_simp
              refine HAA.out.mono ?_
              rintro e w4 ⟨⟨v, rfl⟩, hm4, ho4, hb4, hd4⟩
              refine ⟨v, rfl, ?_⟩
              have HM4 := hide hm4
              have HO4 := hide ho4
              have HB4 := hide hb4
              have HD4 := hide hd4
              clear hm4 ho4 hb4 hd4 HAA hf hc
              go_wp2
              go_roundg gg
              case measure => omega
              case rel => exact ⟨j + 1, by omega, by go_num, HM4.out, HO4.out, HB4.out, HD4.out⟩
    case stop =>
      rintro Y cc i W hi ⟨rfl, bg, hru, h⟩ hDf
      have cK : W.cell? ⟨w.heap.size, 0, none⟩ = some (.int .i64 (k : Int)) := h.b1.cell 0
      have cG : W.cell? ⟨w.heap.size + 1, 0, none⟩ = some (.int .i64 (bg : Int)) := h.b2.cell 0
      have cL : W.cell? ⟨w.heap.size + 1 + 1, 0, none⟩ = some (.int .i64 (k : Int)) := h.b3.cell 0
      have HH := hide h
      have HD := hide hDf
      have hLi : ¬ (k : Int) < (k : Int) := by omega
      clear h hDf HIT HBEG HNO
      obtain ⟨e1, e2, e3, hqn⟩ := HYES.out bg hru
      have HE := hide (And.intro e1 (And.intro e2 e3))
      have hm := HX0.out.below HH.out.below
      have HM0 : Hid (MapB W B b t s n (addR f bg 0) g) := by rw [addR_zero]; exact hm
      have HO0 : Hid (Only (· = t) w W) := Only.of_below _ HH.out.below
      have hlo := hm.lob
      clear e1 e2 e3 HYES hru hm
      gi_wp2
      refine wpIn_wide.2 ?_
      go_loopg [37] k (fun gk i wr => ∃ j : Nat, gk + j = k ∧ i = .int .i64 j ∧ MapB wr B b t s n (addR f bg j) g ∧ Only (· = t) w wr ∧ Blk wr (w.heap.size + 1) 3 [.int .i64 (bg : Int)] ∧ wr.heap[w2.heap.size]? = some (.deferred (some [])))
      case atStart => exact ⟨0, rfl, rfl, HM0.out, HO0.out, HH.out.b2, HD.out⟩
      case round =>
        obtain ⟨j, hj, rfl, hm, ho, hbg, hdf⟩ := hrel
        have HMR := hide hm
        have HOR := hide ho
        have HBR := hide hbg
        have HDR := hide hdf
        cases gk with
        | zero =>
          have hjk : j = k := by omega
          subst hjk
          have h3 : ¬ (j : Int) < (j : Int) := by omega
          have c0 : wr.cell? ⟨w.heap.size + 1, 0, none⟩ = some (.int .i64 (bg : Int)) := hbg.cell 0
          clear hm ho hbg hdf cK cG cL
          go_wp2
          gi_wp2
          rw [Exit.noGoto_ret, ← hs2]
          refine ⟨by simp, .inl ⟨_, _, rfl, run_takeDeferred HDR.out, ?_⟩⟩
          have hoD : Only (· = w2.heap.size) wr (wr.putObj w2.heap.size (.deferred none)) := only_put1 wr _ _ _ rfl
          obtain ⟨e1, e2, e3⟩ := HE.out
          have hm := HMR.out
          have hbt : b ≠ w2.heap.size ∧ t ≠ w2.heap.size ∧ s ≠ w2.heap.size := by
            have hne : ∀ {q : Nat} {e : TypeId} {cs : List Value}, Blk wr q e cs → q ≠ w2.heap.size := fun {q e cs} hq e2 => by
              rw [e2] at hq
              have := hq.symm.trans HDR.out
              cases this
            exact ⟨hne hm.blk, hne hm.ts.blk, hne hm.ss.blk⟩
          refine ⟨_, results_tmp2 (t := 4) (u := 5) rfl _ _ _, ?_, ?_, ?_⟩
          · rw [e1, e2]; rfl
          · rw [e3]
            exact hm.keep hoD hbt.1 hbt.2.1 hbt.2.2 (fun q hq e => by have := HX.out.le; omega)
          · exact ⟨hoD.os.trans HOR.out.os, hoD.tape.trans HOR.out.tape, hoD.output.trans HOR.out.output, Nat.le_trans HOR.out.size hoD.size, fun q hq hn => (hoD.block q (Nat.lt_of_lt_of_le hq HOR.out.size) (by omega)).trans (HOR.out.block q hq hn)⟩
        | succ gg =>
          have h3 : (j : Int) < (k : Int) := by omega
          have hjn : bg + j < n := by omega
          obtain ⟨S, hS⟩ : ∃ S, bg + j = S := ⟨_, rfl⟩
          have hadd : (bg : Int) + (j : Int) = (S : Int) := by omega
          have hwr := wrap_i64_in S (by omega)
          have HCW : Hid (∀ wx, Only (fun _ => False) wr wx → wx.cell? ⟨b, 0, none⟩ = some (dp t) ∧ wx.cell? ⟨w.heap.size + 1, 0, none⟩ = some (.int .i64 (bg : Int)) ∧ wx.frozen? ⟨b, 0, none⟩ = false) := fun wx hox => by
            have hbx : Below wr.heap.size wr wx := hox.below (Nat.le_refl _) (fun _ _ h => h)
            exact ⟨(HMR.out.below hbx).c0, (HBR.out.only hox (fun h => h)).cell 0, (HMR.out.below hbx).blk.frozen 0⟩
          have HA : Hid (∀ wx, Only (fun _ => False) wr wx → Calls Tryd.prog 42 #[dp t, .int .i64 (S : Int)] wx fun e w' => (∃ v, e = .returned v) ∧ MapB w' B b t s n (addR f bg (j + 1)) g ∧ Only (· = t) w w' ∧ Blk w' (w.heap.size + 1) 3 [.int .i64 (bg : Int)] ∧ w'.heap[w2.heap.size]? = some (.deferred (some []))) := fun wx hox => by
            have hbx : Below wr.heap.size wr wx := hox.below (Nat.le_refl _) (fun _ _ h => h)
            have h' := HMR.out.below hbx
            have HAA := add_any wx t n (addR f bg j) (S : Int) h'.ts
            have hst := addR_step n f bg j hjn
            rw [hS] at hst
            rw [hst] at HAA
            refine HAA.mono ?_
            rintro e w' ⟨rfl, hss, hoo⟩
            have hdx : wx.heap[w2.heap.size]? = some (.deferred (some [])) := (hbx.block _ (Array.getElem?_eq_some_iff.1 HDR.out).1).trans HDR.out
            have hne : w2.heap.size ≠ t := fun e2 => by
              have := h'.ts.blk
              rw [← e2] at this
              cases this.symm.trans hdx
            have hne2 : w.heap.size + 1 ≠ t := Blk.ne (HBR.out.only hox (fun h => h)) h'.ts.blk (by decide)
            refine ⟨⟨_, rfl⟩, ⟨h'.blk.only hoo h'.bt, hss, h'.ss.only hoo (Ne.symm h'.ne), h'.ne, h'.lob, h'.lot, h'.los, h'.tab.keep h'.pos (hoo.below h'.le (fun q hq e => by have := h'.lot; omega)), h'.pos⟩, only_on (only_on HOR.out (Only.of_below _ hbx)) hoo, (HBR.out.only hox (fun h => h)).only hoo hne2, (hoo.block _ (Array.getElem?_eq_some_iff.1 hdx).1 hne).trans hdx⟩
          have HS := hide hS
          clear hm ho hbg hdf hS cK cG cL hjn
          go_wp2
          refine wp_region_only (fun _ => False) [isV (.pointer (some ⟨b, 0, none⟩)), isV (.pointer (some ⟨b, 0, none⟩)), isV (.pointer (some ⟨b, 0, none⟩)), isV (.pointer (some ⟨t, 0, none⟩)), isV (.int .i64 (bg : Int)), isV (.int .i64 (j : Int)), isV (.int .i64 (S : Int))] 99 50 7 (by kernel_rfl) (by kernel_rfl) (by kernel_rfl) (by kernel_rfl) rfl ?_ ?_ ?_
          · repeat (first | exact trivial | refine allStL_isV ?_)
          · refine ⟨?_, ?_, ?_, ?_, ?_, ?_, ?_, trivial⟩
            · intro act wx h
              have e0 : act.eval (.tmp 0) = .pointer (some ⟨b, 0, none⟩) := h.old 0 (by kernel_rfl)
              have hrel := h.rel
              clear h
              refine gives_by rfl act.eval rfl ?_
              generalize act.eval = ρ at *
              intro hf hc
              go_simp
              exact ⟨relM_quiet (by decide) (Only.refl _ _), rfl⟩
            · intro act wx h
              obtain ⟨v40, e40, f40⟩ := h.val 0 40 (by kernel_rfl)
              obtain rfl : v40 = .pointer (some ⟨b, 0, none⟩) := f40
              have hrel := h.rel
              clear h
              refine gives_by rfl act.eval rfl ?_
              generalize act.eval = ρ at *
              intro hf hc
              go_simp
              exact ⟨relM_quiet (by decide) (Only.refl _ _), rfl⟩
            · intro act wx h
              obtain ⟨v41, e41, f41⟩ := h.val 1 41 (by kernel_rfl)
              obtain rfl : v41 = .pointer (some ⟨b, 0, none⟩) := f41
              have hrel := h.rel
              clear h
              refine gives_by rfl act.eval rfl ?_
              generalize act.eval = ρ at *
              intro hf hc
              go_simp
              exact ⟨relM_quiet (by decide) (Only.refl _ _), rfl⟩
            · intro act wx h
              obtain ⟨v42, e42, f42⟩ := h.val 2 42 (by kernel_rfl)
              obtain rfl : v42 = .pointer (some ⟨b, 0, none⟩) := f42
              have hrel := h.rel
              clear h
              have cx := (HCW.out wx hrel).1
              refine gives_by rfl act.eval rfl ?_
              generalize act.eval = ρ at *
              intro hf hc
              go_simp
              exact ⟨relM_quiet (by decide) (Only.refl _ _), rfl⟩
            · intro act wx h
              have e6 : act.eval (.tmp 6) = .pointer (some ⟨w.heap.size + 1, 0, none⟩) := h.old 6 (by kernel_rfl)
              have hrel := h.rel
              clear h
              have cx := (HCW.out wx hrel).2.1
              refine gives_by rfl act.eval rfl ?_
              generalize act.eval = ρ at *
              intro hf hc
              go_simp
              exact ⟨relM_quiet (by decide) (Only.refl _ _), rfl⟩
            · intro act wx h
              have e9 : act.eval (.tmp 9) = .int .i64 (j : Int) := h.old 9 (by kernel_rfl)
              have hrel := h.rel
              clear h
              refine gives_by rfl act.eval rfl ?_
              generalize act.eval = ρ at *
              intro hf hc
              go_simp
              exact ⟨relM_quiet (by decide) (Only.refl _ _), rfl⟩
            · intro act wx h
              obtain ⟨v44, e44, f44⟩ := h.val 4 44 (by kernel_rfl)
              obtain rfl : v44 = .int .i64 (bg : Int) := f44
              obtain ⟨v45, e45, f45⟩ := h.val 5 45 (by kernel_rfl)
              obtain rfl : v45 = .int .i64 (j : Int) := f45
              have hrel := h.rel
              clear h
              refine gives_by rfl act.eval rfl ?_
              generalize act.eval = ρ at *
              intro hf hc
              go_simp
              exact ⟨relM_quiet (by decide) (Only.refl _ _), rfl⟩
          · intro oL hoL vals w3 ho3 hv
            simp only [List.getElem?_toArray, List.getElem?_cons_succ, List.getElem?_cons_zero, Option.some.injEq] at hoL
            subst hoL
            have hv3 : vals 3 = .pointer (some ⟨t, 0, none⟩) := hv 3 43 (by decide) (by kernel_rfl)
            have hv6 : vals 6 = .int .i64 (S : Int) := hv 6 46 (by decide) (by kernel_rfl)
            clear hv
            generalize hact : putAll _ vals 0 _ = act
            have HAA := hide (HA.out w3 ho3)
            clear HA HCW
            subst hact
            simp only [List.dropLast, putAll, Act.put, List.setIfInBounds_toArray, List.set_cons_zero, List.set_cons_succ, hv3, hv6]
            refine gives_by rfl _ rfl ?_
            intro hf hc
            go_simp
            refine HAA.out.mono ?_
            rintro e w4 ⟨⟨v, rfl⟩, hm4, ho4, hb4, hd4⟩
            refine ⟨v, rfl, ?_⟩
            have HM4 := hide hm4
            have HO4 := hide ho4
            have HB4 := hide hb4
            have HD4 := hide hd4
            clear hm4 ho4 hb4 hd4 HAA hf hc
            go_wp2
            go_roundg gg
            case measure => omega
            case rel => exact ⟨j + 1, by omega, by go_num, HM4.out, HO4.out, HB4.out, HD4.out⟩

theorem mallocT (w : World) (B b t s n : Nat) (f g : Nat → Bool) (h : MapB w B b t s n f g) : Calls Tryd.prog 24 #[dp b] w fun e w' => e = .returned (.tuple #[.int .i64 (alV n f g 1), .int .i64 (alE n f g 1)]) ∧ MapB w' B b t s n (alF n f g 1) g ∧ Only (· = t) w w' := by
  have HA := hide (mrunT w B b t s n f g 1 h)
  clear h
  go_enter Tryd.func24, Tryd.ntmps24
  go_wp2_with (first
    | (go_at_call 29; refine HA.out.mono ?_; rintro e w2 ⟨rfl, hm, ho⟩; have HM := hide hm; have HO := hide ho; clear HA hm ho))
  go_ret2
  exact ⟨rfl, HM.out, HO.out⟩

set_option maxHeartbeats 1000000 in
theorem mfreeT (w : World) (B b t s n : Nat) (f g : Nat → Bool) (p : Int) (h : MapB w B b t s n f g) : Calls Tryd.prog 25 #[dp b, .int .i64 p] w fun e w' => e = .returned (.int .i64 (freeE f p)) ∧ MapB w' B b t s n (dropF f p) g ∧ Only (· = t) w w' := by
  have HX : Hid (MapE w B b n f g) := ⟨t, s, h⟩
  have HM := hide (mmade_any w B b n f g HX.out)
  have HH := hide (mhas_any w B b n f g p HX.out)
  have HX0 := hide h
  have c0 := h.c0
  have HD : Hid (∀ m, Calls Tryd.prog 53 #[dp t, .int .i64 p] (w.drewN m) fun e w' => e = .returned (.int .i64 (dropE n f p)) ∧ MapB w' B b t s n (dropF f p) g ∧ Only (· = t) w w') := fun m => by
    have h' := h.below (belowN w m)
    refine (drop_any (w.drewN m) t n f p h'.ts).mono ?_
    rintro e w' ⟨rfl, hs, ho⟩
    refine ⟨rfl, ⟨h'.blk.only ho h'.bt, hs, h'.ss.only ho (Ne.symm h'.ne), h'.ne, h'.lob, h'.lot, h'.los, h'.tab.keep h'.pos (ho.below h'.le (fun k hk e => by have := h'.lot; omega)), h'.pos⟩, ?_⟩
    exact only_on (Only.of_below _ (belowN w m)) ho
  have hout := h.ts.out
  have hsz := h.ts.hi
  cases hf : hasI f p
  · rw [hf] at HH
    have HE : Hid (freeE f p = 4) := by show _ = _; rw [freeE, hf]; rfl
    have HF : Hid (dropF f p = f) := by
      show _ = _
      funext q
      rw [dropF]
      by_cases hq : (q : Int) = p
      · subst hq
        rw [hasI] at hf
        simp at hf
        simp [hf]
      · simp [hq]
    clear hf HD h hout
    go_enter Tryd.func25, Tryd.ntmps25
    go_wp2_with (first
      | (go_at_call 52; refine HM.out.mono ?_; rintro e w1 ⟨rfl, hw⟩; subst w1; clear HM)
      | (go_at_call 36; refine HH.out.mono ?_; rintro e w1 ⟨rfl, m, hw⟩; subst w1; clear HH))
    go_ret
    rw [HE.out, HF.out]
    exact ⟨rfl, HX0.out.below (belowN w m), Only.of_below _ (belowN w m)⟩
  · rw [hf] at HH
    have HE : Hid (freeE f p = dropE n f p) := by
      show _ = _
      rw [freeE, hf, dropE]
      rw [hasI, Bool.and_eq_true, decide_eq_true_eq] at hf
      have hlt : p.toNat < n := by
        rcases Nat.lt_or_ge p.toNat n with h | h
        · exact h
        · rw [hout _ h] at hf; cases hf.2
      rw [if_pos (show 0 ≤ p ∧ p < n by omega), hf.2]
    clear hf h hout
    go_enter Tryd.func25, Tryd.ntmps25
    go_wp2_with (first
      | (go_at_call 52; refine HM.out.mono ?_; rintro e w1 ⟨rfl, hw⟩; subst w1; clear HM)
      | (go_at_call 36; refine HH.out.mono ?_; rintro e w1 ⟨rfl, m, hw⟩; subst w1; clear HH)
      | (go_at_call 53; refine (HD.out m).mono ?_; rintro e w2 ⟨rfl, hm, ho⟩; have HR := hide hm; have HO := hide ho; clear HD hm ho))
    go_ret
    rw [HE.out]
    exact ⟨rfl, HR.out, HO.out⟩

set_option maxHeartbeats 1000000 in
theorem mabortT (w : World) (B b t s n : Nat) (f g : Nat → Bool) (h : MapB w B b t s n f g) : Calls Tryd.prog 26 #[dp b] w fun e w' => e = .returned (.int .i64 0) ∧ MapE w' B b n g g ∧ Only (· = b) w w' := by
  have HM := hide (mmade_any w B b n f g ⟨t, s, h⟩)
  have c0 := h.c1
  have HC := hide (clone_any w s n g h.ss)
  obtain ⟨w1, hw1⟩ : ∃ w1, w.alloc (.cells (sc n g).toArray 81) = w1 := ⟨_, rfl⟩
  rw [hw1] at HC
  have hb1 : Below w.heap.size w w1 := by rw [← hw1]; exact (Below.refl _ w).alloc (Nat.le_refl _) _
  have h1 := h.below hb1
  have hs1 : SetB w1 w.heap.size n g := ⟨by rw [← hw1]; exact Blk.new w _ _, h.ts.lo, h.ts.hi, h.ss.out⟩
  have c1 := h1.c0
  have f1 := h1.blk.frozen 0
  have ho : Only (· = b) w1 (w1.setCell ⟨b, 0, none⟩ (dp w.heap.size)) := (Only.refl (· = b) w1).setCell ⟨b, 0, none⟩ _ (fun _ => rfl)
  have hlt := h.blk.lt
  have HR : Hid (MapE (w1.setCell ⟨b, 0, none⟩ (dp w.heap.size)) B b n g g) := ⟨w.heap.size, s, h1.blk.set 0 _, hs1.only ho (by omega), h1.ss.only ho (Ne.symm h1.bs), by have := h.ss.lt; omega, h.lob, h.le, h.los, h1.tab.keep h1.pos (ho.below h1.le (fun k hk e => by have := h.lob; omega)), h1.pos⟩
  have HO : Hid (Only (· = b) w (w1.setCell ⟨b, 0, none⟩ (dp w.heap.size))) := only_on (Only.of_below _ hb1) ho
  clear h h1 hs1 ho hb1 hw1
  go_enter Tryd.func26, Tryd.ntmps26
  go_wp2_with (first
    | (go_at_call 52; refine HM.out.mono ?_; rintro e wx ⟨rfl, hw⟩; subst wx; clear HM)
    | (go_at_call 43; refine HC.out.mono ?_; rintro e wx ⟨rfl, hw⟩; subst wx; clear HC))
  go_ret
  exact ⟨rfl, HR.out, HO.out⟩

end Go.Proofs.YtbnhacibkmcmkaaDoor
