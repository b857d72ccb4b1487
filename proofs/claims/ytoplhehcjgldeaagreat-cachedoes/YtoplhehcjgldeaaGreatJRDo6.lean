/- Contract: does (incipitlaw05): Put; all kinds in one. -/
import Derived.Test.YtoplhehcjgldeaaGreatJRDo5
namespace Go.Proofs.YtoplhehcjgldeaaGreat
open Go.RowKit
set_option linter.unusedVariables false
set_option maxRecDepth 100000

theorem sl_cutpg {w : World} {g : Nat} {z : Int} (h0 : 0 ≤ z) (h1 : z ≤ 255) (h : Blk w g 5 (pc (pg z))) (m : Nat) (hm : m ≤ 256) : Sl w (.slice (some ⟨g, 0, none⟩) m 256) ((pg z).take m) := by
  have hS := blk_sl h (pg_ok h0 h1)
  have := sl_take (ao := some ⟨g, 0, none⟩) (cap := 256) (zs := pg z) m (by rw [pg_len]; exact hS) (by rw [pg_len]; exact hm)
  exact this

section
variable (w0 w : World) (Q : Nat → Prop) (c b cr r n : Nat) (ch : Ch) (d : Dv) (o : Oc)
set_option maxHeartbeats 1000000 in
theorem does_put (h : Two5 w0 Q w c b cr r n ch d) (ho : OcOk o) (hn : n < 100000) (hk : o.dO = 1) :
    Calls Tryz.prog 9 #[dp c, dp b, dp cr, .agg (occ o).toArray] w fun e w' => e = .returned (.bool true) ∧ Done5 w0 w Q c b cr r n w' := by
  obtain ⟨wA, hwA⟩ : ∃ wA, w.alloc (.cells (occ o).toArray 38) = wA := ⟨_, rfl⟩
  have hbA : Below w.heap.size w wA := by rw [← hwA]; exact (Below.refl _ w).alloc (Nat.le_refl _) _
  have hsA : wA.heap.size = w.heap.size + 1 := by rw [← hwA]; simp
  have hN : Blk wA w.heap.size 38 (occ o) := by rw [← hwA]; exact Blk.new w _ _
  have q0 : wA.cell? ⟨w.heap.size, 0, none⟩ = some (.int .i64 o.dO) := hN.cell 0
  rw [hk] at q0
  obtain ⟨K, h1, h2, h3, h4⟩ := two_below h hbA
  have hQ' : ∀ k, (Q k ∨ (w.heap.size ≤ k ∧ k < wA.heap.size)) → k < wA.heap.size := fun k hq => h1.xlt k (.inr hq)
  have ok := h1.ok
  obtain ⟨X, hX⟩ : ∃ X : Nat → Prop, X = fun k => Q k ∨ (w.heap.size ≤ k ∧ k < wA.heap.size) := ⟨_, rfl⟩
  have hXq : X w.heap.size := by rw [hX]; exact .inr ⟨Nat.le_refl _, by omega⟩
  have hXQ : ∀ k, Q k → X k := fun k hk => by rw [hX]; exact .inl hk
  rw [← hX] at h1 h3
  have hQA : Two5 w0 X wA c b cr r n ch d := ⟨K, h1, h2, h3, h4⟩
  have HPG := hide (page5_any wA o.c ho.c0 ho.c1)
  have hc0 := ho.c0
  have hc1 := ho.c1
  obtain ⟨P, hP⟩ : ∃ P, o.p = P := ⟨_, rfl⟩
  have q2 : wA.cell? ⟨w.heap.size, 2, none⟩ = some (.int .u8 o.c) := hN.cell 2
  have HQ2 : Hid (∀ w1 w2, Below wA.heap.size wA w1 → Turn w0 No (fun k => X k ∨ (wA.heap.size ≤ k ∧ k < w1.heap.size)) w1 w2 → w2.cell? ⟨w.heap.size, 1, none⟩ = some (.int .i64 P)) := fun w1 w2 hb ht => by
    rw [← hP]
    exact ((hN.below hb (by omega)).only ht (fun hh => hh.2 (.inl hXq))).cell 1
  by_cases h77 : o.n = 77
  · have q3 : wA.cell? ⟨w.heap.size, 3, none⟩ = some (.int .i64 77) := by have := hN.cell 3; rw [show (occ o)[3]? = some (.int .i64 o.n) from rfl, h77] at this; exact this
    have HQ : Hid (∀ w1, Below wA.heap.size wA w1 → w1.cell? ⟨w.heap.size, 3, none⟩ = some (.int .i64 77) ∧ w1.cell? ⟨w.heap.size, 1, none⟩ = some (.int .i64 P)) := fun w1 hb => by
      have hN1 := hN.below hb (by omega)
      have e3 := hN1.cell 3
      rw [show (occ o)[3]? = some (.int .i64 o.n) from rfl, h77] at e3
      exact ⟨e3, by rw [← hP]; exact hN1.cell 1⟩
    have slm : ∀ wz g, Blk wz g 5 (pc (pg o.c)) → Sl wz (.slice (some ⟨g, 0, none⟩) 255 256) ((pg o.c).take 255) := fun wz g hB => sl_cutpg hc0 hc1 hB 255 (by omega)
    have H2 : Hid (∀ (w1 : World) (g : Nat), Below wA.heap.size wA w1 → wA.heap.size ≤ g → Blk w1 g 5 (pc (pg o.c)) → Calls Tryz.prog 16 #[dp c, .int .i64 P, .slice (some ⟨g, 0, none⟩) 255 256] w1 fun e w' => e = .returned (.int .i64 (putC ch d P ((pg o.c).take 255)).1) ∧ ∃ K, Mid5 w0 (fun k => X k ∨ (wA.heap.size ≤ k ∧ k < w1.heap.size)) K w' c b cr r (putC ch d P ((pg o.c).take 255)).2.1 (putC ch d P ((pg o.c).take 255)).2.2 ch d ∧ Turn w0 No (fun k => X k ∨ (wA.heap.size ≤ k ∧ k < w1.heap.size)) w1 w' ∧ Blk w' g 5 (pc (pg o.c))) := fun w1 g hb hg hB => by
      obtain ⟨K1, m1, m2, m3, m4⟩ := two_below hQA hb
      refine (put_any w0 w1 No _ c b ch d n (by omega) m1 m4 P _ ((pg o.c).take 255) (slm w1 g hB) (fun j hj => ?_)).mono ?_
      · simp [Value.ownBlock] at hj
        subst hj
        exact .inr (.inr ⟨hg, hB.lt⟩)
      · rintro e w' ⟨rfl, k1, k2⟩
        obtain ⟨e1, e2⟩ := mid_of k1 k2 m2 m3
        exact ⟨rfl, K1, e1, e2, hB.only e2 (fun hh => hh.2 (.inr ⟨hg, hB.lt⟩))⟩
    have H3 : Hid (∀ (w1 w2 : World) (g : Nat) (K : Nat → Prop), wA.heap.size ≤ g → g < w1.heap.size → Mid5 w0 (fun k => X k ∨ (wA.heap.size ≤ k ∧ k < w1.heap.size)) K w2 c b cr r (putC ch d P ((pg o.c).take 255)).2.1 (putC ch d P ((pg o.c).take 255)).2.2 ch d → Blk w2 g 5 (pc (pg o.c)) → Calls Tryz.prog 23 #[dp cr, .int .i64 P, .slice (some ⟨g, 0, none⟩) 255 256] w2 fun e w' => e = .returned (.int .i64 (putC ch d P ((pg o.c).take 255)).1) ∧ Two5 w0 (fun k => X k ∨ (wA.heap.size ≤ k ∧ k < w1.heap.size)) w' c b cr r (n + 2) (putC ch d P ((pg o.c).take 255)).2.1 (putC ch d P ((pg o.c).take 255)).2.2 ∧ Turn w0 No (fun k => X k ∨ (wA.heap.size ≤ k ∧ k < w1.heap.size)) w2 w' ∧ Bytes w' g 5 256) := fun w1 w2 g K hg hgl hm hB => by
      refine (refPut_any w2 cr r K ch d n (by omega) hm.2.1 ok h4 P _ ((pg o.c).take 255) (slm w2 g hB) (fun j hj hk => ?_)).mono ?_
      · simp [Value.ownBlock] at hj
        subst hj
        exact (hm.2.2 _ hk).2 (.inr ⟨hg, hgl⟩)
      · rintro e w' ⟨rfl, k1, k2⟩
        obtain ⟨e1, e2⟩ := mid_end (n := n + 2) hm k1 k2 (few_put h4 P _)
        exact ⟨rfl, e1, e2, bytes_page (hB.only e2 (fun hh => hh.2 (.inr ⟨hg, hgl⟩))) (pg_len _)⟩
    have HEnd : Hid (∀ (w1 w3 w4 : World) (g : Nat), Below wA.heap.size wA w1 → wA.heap.size ≤ g → g < w1.heap.size → Two5 w0 (fun k => X k ∨ (wA.heap.size ≤ k ∧ k < w1.heap.size)) w3 c b cr r (n + 2) (putC ch d P ((pg o.c).take 255)).2.1 (putC ch d P ((pg o.c).take 255)).2.2 → Turn w0 No (fun k => X k ∨ (wA.heap.size ≤ k ∧ k < w1.heap.size)) w1 w3 → Only (· = g) w3 w4 → Done5 w0 w Q c b cr r n w4) := fun w1 w3 w4 g hb hg hgl k1 k2 k3 => by
      have hs0 := h1.only.size
      have k4 := two_turn k1 k3 (fun k e => by rw [e]; exact ⟨.inr ⟨hg, hgl⟩, by omega⟩)
      have hQX : ∀ k, Q k → k < wA.heap.size := fun k hk => h1.xlt k (.inr (hXQ k hk))
      have t1 : Turn w0 No Q w1 w3 := Only.mono k2 (fun k _ hk => ⟨hk.1, fun hq => hk.2 (.inl (hXQ k hq))⟩)
      have t2 : Turn w0 No Q w3 w4 := k3.mono (fun k _ e => by rw [e]; exact ⟨.inr (by omega), fun hq => by have := hQX g hq; omega⟩)
      exact ⟨⟨_, _, two_few (two_less k4 (fun k hk => .inl (hXQ k hk))) (by omega)⟩, (((Turn.of_below hbA).trans (Turn.of_below hb)).trans t1).trans t2⟩
    obtain ⟨E, hE⟩ : ∃ E, (putC ch d P ((pg o.c).take 255)).1 = E := ⟨_, rfl⟩
    rw [hE] at H2 H3
    clear hE h h1 h2 h3 h4 hN ok hQ' hX hXq hXQ ho hk hQA hbA slm hP
    go_enter Tryz.func9, Tryz.ntmps9
    go_wp2_with (first
      | (go_at_call 17; refine HPG.out.mono ?_; rintro e w1 ⟨g, rfl, hB1, hg1, hb1⟩; obtain ⟨q31, q11⟩ := HQ.out w1 hb1; have HC2 := hide (H2.out w1 g hb1 hg1 hB1); have HG1 := hide hg1; have HB1 := hide hb1; have HGL := hide hB1.lt; clear HPG H2 hB1 hg1 hb1 q3)
      | (go_at_call 16; refine HC2.out.mono ?_; rintro e w2 ⟨rfl, K2, hm2, ht2, hB2⟩; have q12 := HQ2.out w1 w2 HB1.out ht2; have HT2 := hide ht2; have HC3 := hide (H3.out w1 w2 g K2 HG1.out HGL.out hm2 hB2); clear HC2 H3 hm2 ht2 hB2 q31 q11)
      | (go_at_call 23; refine HC3.out.mono ?_; rintro e w3 ⟨rfl, htw3, ht3, hby3⟩; have HTW3 := hide htw3; have HT3 := hide (HT2.out.trans ht3); have HBY := hide hby3; clear HC3 htw3 ht3 hby3 HT2 q12))
    go_loopg [21, 112] 255 (fun gk s21 iv wr => ∃ k : Nat, gk + k = 255 ∧ iv = .int .i64 k ∧ Bytes wr g 5 256 ∧ Only (· = g) w3 wr)
    case atStart => exact ⟨0, rfl, rfl, HBY.out, Only.refl _ _⟩
    case round =>
      obtain ⟨k, hk, rfl, hby, how⟩ := hrel
      cases gk with
      | zero =>
        obtain rfl : k = 255 := by omega
        have HE := hide (HEnd.out w1 w3 wr g HB1.out HG1.out HGL.out HTW3.out HT3.out how)
        clear hby how HBY HTW3 HT3 HEnd
        go_wp2
        go_ret
        exact ⟨rfl, HE.out⟩
      | succ gk =>
        have hkl : k < 256 := by omega
        have hki : (k : Int) < 255 := by omega
        obtain ⟨z, c1, f1, hset⟩ := hby.at hkl
        have HSET := hide hset
        have HOW := hide how
        clear hby how hset
        go_wp2
        go_roundg gk
        case measure => omega
        case rel => exact ⟨k + 1, by omega, by go_num, (HSET.out _).1, HOW.out.trans (HSET.out _).2 (fun _ _ h => h)⟩
  · obtain ⟨N, hNn⟩ : ∃ N, o.n = N := ⟨_, rfl⟩
    have hN77 : (N == 77) = false := by rw [← hNn]; simpa using h77
    have q3 : wA.cell? ⟨w.heap.size, 3, none⟩ = some (.int .i64 N) := by rw [← hNn]; exact hN.cell 3
    have HQ : Hid (∀ w1, Below wA.heap.size wA w1 → w1.cell? ⟨w.heap.size, 3, none⟩ = some (.int .i64 N) ∧ w1.cell? ⟨w.heap.size, 1, none⟩ = some (.int .i64 P)) := fun w1 hb => by
      have hN1 := hN.below hb (by omega)
      exact ⟨by rw [← hNn]; exact hN1.cell 3, by rw [← hP]; exact hN1.cell 1⟩
    have slm : ∀ wz g, Blk wz g 5 (pc (pg o.c)) → Sl wz (.slice (some ⟨g, 0, none⟩) 256 256) ((pg o.c).take 256) := fun wz g hB => sl_cutpg hc0 hc1 hB 256 (by omega)
    clear h77 hNn
    have H2 : Hid (∀ (w1 : World) (g : Nat), Below wA.heap.size wA w1 → wA.heap.size ≤ g → Blk w1 g 5 (pc (pg o.c)) → Calls Tryz.prog 16 #[dp c, .int .i64 P, .slice (some ⟨g, 0, none⟩) 256 256] w1 fun e w' => e = .returned (.int .i64 (putC ch d P ((pg o.c).take 256)).1) ∧ ∃ K, Mid5 w0 (fun k => X k ∨ (wA.heap.size ≤ k ∧ k < w1.heap.size)) K w' c b cr r (putC ch d P ((pg o.c).take 256)).2.1 (putC ch d P ((pg o.c).take 256)).2.2 ch d ∧ Turn w0 No (fun k => X k ∨ (wA.heap.size ≤ k ∧ k < w1.heap.size)) w1 w' ∧ Blk w' g 5 (pc (pg o.c))) := fun w1 g hb hg hB => by
      obtain ⟨K1, m1, m2, m3, m4⟩ := two_below hQA hb
      refine (put_any w0 w1 No _ c b ch d n (by omega) m1 m4 P _ ((pg o.c).take 256) (slm w1 g hB) (fun j hj => ?_)).mono ?_
      · simp [Value.ownBlock] at hj
        subst hj
        exact .inr (.inr ⟨hg, hB.lt⟩)
      · rintro e w' ⟨rfl, k1, k2⟩
        obtain ⟨e1, e2⟩ := mid_of k1 k2 m2 m3
        exact ⟨rfl, K1, e1, e2, hB.only e2 (fun hh => hh.2 (.inr ⟨hg, hB.lt⟩))⟩
    have H3 : Hid (∀ (w1 w2 : World) (g : Nat) (K : Nat → Prop), wA.heap.size ≤ g → g < w1.heap.size → Mid5 w0 (fun k => X k ∨ (wA.heap.size ≤ k ∧ k < w1.heap.size)) K w2 c b cr r (putC ch d P ((pg o.c).take 256)).2.1 (putC ch d P ((pg o.c).take 256)).2.2 ch d → Blk w2 g 5 (pc (pg o.c)) → Calls Tryz.prog 23 #[dp cr, .int .i64 P, .slice (some ⟨g, 0, none⟩) 256 256] w2 fun e w' => e = .returned (.int .i64 (putC ch d P ((pg o.c).take 256)).1) ∧ Two5 w0 (fun k => X k ∨ (wA.heap.size ≤ k ∧ k < w1.heap.size)) w' c b cr r (n + 2) (putC ch d P ((pg o.c).take 256)).2.1 (putC ch d P ((pg o.c).take 256)).2.2 ∧ Turn w0 No (fun k => X k ∨ (wA.heap.size ≤ k ∧ k < w1.heap.size)) w2 w' ∧ Bytes w' g 5 256) := fun w1 w2 g K hg hgl hm hB => by
      refine (refPut_any w2 cr r K ch d n (by omega) hm.2.1 ok h4 P _ ((pg o.c).take 256) (slm w2 g hB) (fun j hj hk => ?_)).mono ?_
      · simp [Value.ownBlock] at hj
        subst hj
        exact (hm.2.2 _ hk).2 (.inr ⟨hg, hgl⟩)
      · rintro e w' ⟨rfl, k1, k2⟩
        obtain ⟨e1, e2⟩ := mid_end (n := n + 2) hm k1 k2 (few_put h4 P _)
        exact ⟨rfl, e1, e2, bytes_page (hB.only e2 (fun hh => hh.2 (.inr ⟨hg, hgl⟩))) (pg_len _)⟩
    have HEnd : Hid (∀ (w1 w3 w4 : World) (g : Nat), Below wA.heap.size wA w1 → wA.heap.size ≤ g → g < w1.heap.size → Two5 w0 (fun k => X k ∨ (wA.heap.size ≤ k ∧ k < w1.heap.size)) w3 c b cr r (n + 2) (putC ch d P ((pg o.c).take 256)).2.1 (putC ch d P ((pg o.c).take 256)).2.2 → Turn w0 No (fun k => X k ∨ (wA.heap.size ≤ k ∧ k < w1.heap.size)) w1 w3 → Only (· = g) w3 w4 → Done5 w0 w Q c b cr r n w4) := fun w1 w3 w4 g hb hg hgl k1 k2 k3 => by
      have hs0 := h1.only.size
      have k4 := two_turn k1 k3 (fun k e => by rw [e]; exact ⟨.inr ⟨hg, hgl⟩, by omega⟩)
      have hQX : ∀ k, Q k → k < wA.heap.size := fun k hk => h1.xlt k (.inr (hXQ k hk))
      have t1 : Turn w0 No Q w1 w3 := Only.mono k2 (fun k _ hk => ⟨hk.1, fun hq => hk.2 (.inl (hXQ k hq))⟩)
      have t2 : Turn w0 No Q w3 w4 := k3.mono (fun k _ e => by rw [e]; exact ⟨.inr (by omega), fun hq => by have := hQX g hq; omega⟩)
      exact ⟨⟨_, _, two_few (two_less k4 (fun k hk => .inl (hXQ k hk))) (by omega)⟩, (((Turn.of_below hbA).trans (Turn.of_below hb)).trans t1).trans t2⟩
    obtain ⟨E, hE⟩ : ∃ E, (putC ch d P ((pg o.c).take 256)).1 = E := ⟨_, rfl⟩
    rw [hE] at H2 H3
    clear hE h h1 h2 h3 h4 hN ok hQ' hX hXq hXQ ho hk hQA hbA slm hP
    go_enter Tryz.func9, Tryz.ntmps9
    go_wp2_with (first
      | (go_at_call 17; refine HPG.out.mono ?_; rintro e w1 ⟨g, rfl, hB1, hg1, hb1⟩; obtain ⟨q31, q11⟩ := HQ.out w1 hb1; have HC2 := hide (H2.out w1 g hb1 hg1 hB1); have HG1 := hide hg1; have HB1 := hide hb1; have HGL := hide hB1.lt; clear HPG H2 hB1 hg1 hb1 q3)
      | (go_at_call 16; refine HC2.out.mono ?_; rintro e w2 ⟨rfl, K2, hm2, ht2, hB2⟩; have q12 := HQ2.out w1 w2 HB1.out ht2; have HT2 := hide ht2; have HC3 := hide (H3.out w1 w2 g K2 HG1.out HGL.out hm2 hB2); clear HC2 H3 hm2 ht2 hB2 q31 q11)
      | (go_at_call 23; refine HC3.out.mono ?_; rintro e w3 ⟨rfl, htw3, ht3, hby3⟩; have HTW3 := hide htw3; have HT3 := hide (HT2.out.trans ht3); have HBY := hide hby3; clear HC3 htw3 ht3 hby3 HT2 q12))
    go_loopg [21, 112] 256 (fun gk s21 iv wr => ∃ k : Nat, gk + k = 256 ∧ iv = .int .i64 k ∧ Bytes wr g 5 256 ∧ Only (· = g) w3 wr)
    case atStart => exact ⟨0, rfl, rfl, HBY.out, Only.refl _ _⟩
    case round =>
      obtain ⟨k, hk, rfl, hby, how⟩ := hrel
      cases gk with
      | zero =>
        obtain rfl : k = 256 := by omega
        have HE := hide (HEnd.out w1 w3 wr g HB1.out HG1.out HGL.out HTW3.out HT3.out how)
        clear hby how HBY HTW3 HT3 HEnd
        go_wp2
        go_ret
        exact ⟨rfl, HE.out⟩
      | succ gk =>
        have hkl : k < 256 := by omega
        have hki : (k : Int) < 256 := by omega
        obtain ⟨z, c1, f1, hset⟩ := hby.at hkl
        have HSET := hide hset
        have HOW := hide how
        clear hby how hset
        go_wp2
        go_roundg gk
        case measure => omega
        case rel => exact ⟨k + 1, by omega, by go_num, (HSET.out _).1, HOW.out.trans (HSET.out _).2 (fun _ _ h => h)⟩

theorem does_any (h : Two5 w0 Q w c b cr r n ch d) (ho : OcOk o) (hn : n < 100000) :
    Calls Tryz.prog 9 #[dp c, dp b, dp cr, .agg (occ o).toArray] w fun e w' => e = .returned (.bool true) ∧ Done5 w0 w Q c b cr r n w' := by
  by_cases h0 : o.dO = 0
  · exact does_get w0 w Q c b cr r n ch d o h ho hn h0
  by_cases h1 : o.dO = 1
  · exact does_put w0 w Q c b cr r n ch d o h ho hn h1
  by_cases h2 : o.dO = 2
  · exact does_pin w0 w Q c b cr r n ch d o h ho hn h2
  by_cases h3 : o.dO = 3
  · exact does_unpin w0 w Q c b cr r n ch d o h ho hn h3
  by_cases h4 : o.dO = 4
  · exact does_forget w0 w Q c b cr r n ch d o h ho hn h4
  by_cases h5 : o.dO = 5
  · exact does_flush w0 w Q c b cr r n ch d o h ho hn h5
  by_cases h6 : o.dO = 6
  · exact does_drop w0 w Q c b cr r n ch d o h ho hn h6
  by_cases h7 : o.dO = 7
  · exact does_sync w0 w Q c b cr r n ch d o h ho hn h7
  by_cases h8 : o.dO = 8
  · exact does_arm w0 w Q c b cr r n ch d o h ho hn h8
  by_cases h9 : o.dO = 9
  · exact does_crash w0 w Q c b cr r n ch d o h ho hn h9
  refine does_none w0 w Q c b cr r n ch d o h ho hn (fun j hj e => ?_)
  have : j = 0 ∨ j = 1 ∨ j = 2 ∨ j = 3 ∨ j = 4 ∨ j = 5 ∨ j = 6 ∨ j = 7 ∨ j = 8 ∨ j = 9 := by omega
  rcases this with rfl | rfl | rfl | rfl | rfl | rfl | rfl | rfl | rfl | rfl
  · exact h0 e
  · exact h1 e
  · exact h2 e
  · exact h3 e
  · exact h4 e
  · exact h5 e
  · exact h6 e
  · exact h7 e
  · exact h8 e
  · exact h9 e
end

end Go.Proofs.YtoplhehcjgldeaaGreat
