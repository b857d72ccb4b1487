/- Contracts: numbers that are the same (slices.Equal), heads that are the same (head.alike, head.Same). -/
import Derived.Test.YtmeiahmolmneeaaDoorHCheck
namespace Go.Proofs.YtmeiahmolmneeaaDoor
set_option maxRecDepth 20000
open Go.RowKit
set_option linter.unusedVariables false

theorem belowDN {B : Nat} {w w1 : World} (h : Below B w w1) (n : Nat) : Below B w (w1.drewN n) := ⟨h.os, h.tape, h.output, h.size, h.block⟩

theorem list_ext {xs ys : List Int} (hl : xs.length = ys.length) (h : ∀ i, i < xs.length → xs.getD i 0 = ys.getD i 0) : xs = ys := by
  apply List.ext_getElem hl
  intro i h1 h2
  have := h i h1
  rwa [getD_lt xs h1, getD_lt ys h2] at this

set_option maxHeartbeats 1000000 in
theorem equalInts_any (w : World) (va vb : Value) (xs ys : List Int) (ha : Is w va xs) (hb : Is w vb ys) :
    Calls Tryd.prog 57 #[va, vb] w fun r w' => r = .returned (.bool (decide (xs = ys))) ∧ Below w.heap.size w w' := by
  obtain ⟨a, c, rfl, a1, a2, a3⟩ := ha
  obtain ⟨a', c', rfl, b1, b2, b3⟩ := hb
  unfold maxLen at a2 b2
  have HA := hide a3
  have HB := hide b3
  clear a3 b3
  by_cases hl : xs.length = ys.length
  · obtain ⟨n, hn⟩ : ∃ n, n = xs.length := ⟨_, rfl⟩
    rw [← hl, ← hn] at b1 HB ⊢
    rw [← hn] at a1 HA
    have HL := hide hl
    have HN := hide hn
    clear hl hn
    go_enter Tryd.func57, Tryd.ntmps57
    go_wp2
    go_loopg [13] n (fun g i wr => ∃ j m : Nat, g + j = n ∧ i = .int .i64 j ∧ (∀ k, k < j → xs.getD k 0 = ys.getD k 0) ∧ w.drewN m = wr)
    case atStart => exact ⟨0, 0, by omega, rfl, fun k hk => by omega, rfl⟩
    case round =>
      obtain ⟨j, m, hj, rfl, hall, rfl⟩ := hrel
      have HS := hide hall
      clear hall
      cases gk with
      | zero =>
        obtain rfl : j = n := by omega
        go_wp2
        go_ret
        refine ⟨ret_bool ?_, belowDN (Below.refl _ w) _⟩
        rw [decide_eq_true (list_ext HL.out (by rw [← HN.out]; exact HS.out))]
      | succ g =>
        have hjl : j < n := by omega
        have hji : (j : Int) < (n : Int) := by omega
        obtain ⟨b, o, rfl, hc⟩ := HA.out (by intro h; have := HN.out; simp [h] at this; omega)
        obtain ⟨b2, o2, rfl, hc2⟩ := HB.out (by intro h; have := HN.out; have := HL.out; simp_all)
        have q1 := hc j hjl
        have q2 := hc2 j hjl
        obtain ⟨x, hx⟩ : ∃ x, xs.getD j 0 = x := ⟨_, rfl⟩
        obtain ⟨y, hy⟩ : ∃ y, ys.getD j 0 = y := ⟨_, rfl⟩
        rw [hx] at q1
        rw [hy] at q2
        have HX := hide hx
        have HY := hide hy
        clear hx hy hc hc2
        go_wp2
        by_cases hxy : x = y
        · go_quiet (fail)
          go_wp2
          go_roundg g
          case measure => omega
          case rel => exact ⟨j + 1, m + nq, by omega, by go_num, fun k hk => by
            by_cases hjk : k = j
            · subst hjk
              rw [HX.out, HY.out]; exact hxy
            · exact HS.out k (by omega), by simp [World.drewN]⟩
        · go_quiet (fail)
          go_wp2
          go_ret
          refine ⟨ret_bool ?_, belowDN (belowDN (Below.refl _ w) _) _⟩
          rw [decide_eq_false (fun e => hxy (by rw [← HX.out, ← HY.out, e]))]
  · have hne : ((xs.length : Int) != (ys.length : Int)) = true := by simp; omega
    go_enter Tryd.func57, Tryd.ntmps57
    go_wp2
    go_ret
    refine ⟨ret_bool ?_, Below.refl _ _⟩
    rw [decide_eq_false (fun e => hl (by rw [e]))]

/-- two heads are the same -/
def sameH (g h : Hd) : Bool := decide (g.e = h.e ∧ g.p = h.p ∧ g.ms = h.ms ∧ g.us = h.us)
theorem sameH_iff {g h : Hd} : sameH g h = true ↔ g = h := by
  obtain ⟨e, p, ms, us⟩ := g
  obtain ⟨e', p', ms', us'⟩ := h
  unfold sameH
  rw [decide_eq_true_iff, Hd.mk.injEq]
theorem sameH_self (g : Hd) : sameH g g = true := sameH_iff.2 rfl

/-- a head's value: its slices lead to what is read there -/
def hdV (e : Nat) (p : Int) (ma : Option Addr) (mn mc : Nat) (ua : Option Addr) (un uc : Nat) : Value := .agg #[.int .u64 e, .int .i64 p, .slice ma mn mc, .slice ua un uc]
def HdV (w : World) (v : Value) (h : Hd) : Prop := ∃ ma mc ua uc, v = hdV h.e h.p ma h.ms.length mc ua h.us.length uc ∧ Is w (.slice ma h.ms.length mc) h.ms ∧ Sl w (.slice ua h.us.length uc) h.us ∧ h.e < 18446744073709551616
theorem HdV.below {w w' : World} {v : Value} {h : Hd} (hv : HdV w v h) (hb : Below w.heap.size w w') : HdV w' v h := by
  obtain ⟨ma, mc, ua, uc, rfl, h1, h2, h3⟩ := hv
  exact ⟨ma, mc, ua, uc, rfl, h1.below hb, h2.below hb, h3⟩
theorem HdV.alloc {w : World} {v : Value} {h : Hd} (hv : HdV w v h) (o : Obj) : HdV (w.alloc o) v h := hv.below ((Below.refl _ w).alloc (Nat.le_refl _) o)
theorem Is.nil (w : World) : Is w (.slice none 0 0) [] := ⟨none, 0, rfl, Nat.le_refl _, by simp [maxLen], fun h => absurd rfl h⟩
theorem HdV.no (w : World) : HdV w (hdV 0 0 none 0 0 none 0 0) noHd := ⟨none, 0, none, 0, rfl, Is.nil w, Sl.nil w, by decide⟩

/-- two boxed heads, and more behind them -/
theorem two_box (w : World) (cs ds : List Value) : Below w.heap.size w ((w.alloc (.cells cs.toArray 26)).alloc (.cells ds.toArray 26)) ∧
    Blk ((w.alloc (.cells cs.toArray 26)).alloc (.cells ds.toArray 26)) w.heap.size 26 cs ∧
    Blk ((w.alloc (.cells cs.toArray 26)).alloc (.cells ds.toArray 26)) (w.heap.size + 1) 26 ds := by
  refine ⟨((Below.refl _ w).alloc (Nat.le_refl _) _).alloc (by simp) _, (Blk.new w _ cs).alloc _, ?_⟩
  have := Blk.new (w.alloc (.cells cs.toArray 26)) 26 ds
  rwa [World.size_alloc] at this

set_option maxHeartbeats 1000000 in
theorem halike_any (w : World) (va vb : Value) (g h : Hd) (ha : HdV w va g) (hb : HdV w vb h) :
    Calls Tryd.prog 37 #[va, vb, .int .i64 0] w fun r w' => r = .returned (.bool (sameH g h)) ∧ Below w.heap.size w w' := by
  obtain ⟨ma, mc, ua, uc, rfl, a1, a2, a3⟩ := ha
  obtain ⟨ma', mc', ua', uc', rfl, b1, b2, b3⟩ := hb
  obtain ⟨e, p, ms, us⟩ := g
  obtain ⟨e', p', ms', us'⟩ := h
  simp only at a1 a2 a3 b1 b2 b3 ⊢
  unfold hdV
  have HS : Hid (sameH ⟨e, p, ms, us⟩ ⟨e', p', ms', us'⟩ = decide (e = e' ∧ p = p' ∧ ms = ms' ∧ us = us')) := rfl
  obtain ⟨r, hr⟩ : ∃ r, r = sameH ⟨e, p, ms, us⟩ ⟨e', p', ms', us'⟩ := ⟨_, rfl⟩
  rw [← hr] at HS ⊢
  obtain ⟨hbel, hx, hy⟩ := two_box w [.int .u64 e, .int .i64 p, .slice ma ms.length mc, .slice ua us.length uc] [.int .u64 e', .int .i64 p', .slice ma' ms'.length mc', .slice ua' us'.length uc']
  obtain ⟨W, hW⟩ : ∃ W, W = (w.alloc (.cells #[.int .u64 e, .int .i64 p, .slice ma ms.length mc, .slice ua us.length uc] 26)).alloc (.cells #[.int .u64 e', .int .i64 p', .slice ma' ms'.length mc', .slice ua' us'.length uc'] 26) := ⟨_, rfl⟩
  rw [← hW] at hbel hx hy
  have HEQ := hide (equalInts_any W _ _ ms ms' (a1.below hbel) (b1.below hbel))
  have HE : Hid (∀ w1, Below W.heap.size W w1 → Calls Tryd.prog 19 #[.slice ua us.length uc, .slice ua' us'.length uc'] w1 fun r w' => r = .returned (.bool (decide (us = us'))) ∧ w' = w1) := fun w1 hb1 => equal_any w1 _ _ us us' ((a2.below hbel).below hb1) ((b2.below hbel).below hb1)
  have HCC : Hid (∀ w1, Below W.heap.size W w1 → (w1.cell? ⟨w.heap.size, 3, none⟩ = some (.slice ua us.length uc) ∧ w1.cell? ⟨w.heap.size + 1, 3, none⟩ = some (.slice ua' us'.length uc'))) := fun w1 hb1 => ⟨(box_cells (hx.below hb1 hx.lt)).2.2.2, (box_cells (hy.below hb1 hy.lt)).2.2.2⟩
  have HB := hide hbel
  have HW := hide hW
  rw [hW] at HEQ
  clear a1 a2 b1 b2 hbel hx hy hW hr
  by_cases h1 : e = e'
  · subst h1
    by_cases h2 : p = p'
    · subst h2
      by_cases h3 : ms = ms'
      · rw [decide_eq_true h3] at HEQ
        subst h3
        go_enter Tryd.func37, Tryd.ntmps37
        go_wp2_with (first
          | (go_at_call 57; refine HEQ.out.mono ?_; rintro e1 w1 ⟨rfl, hb1⟩; rw [← HW.out] at hb1; obtain ⟨q1, q2⟩ := HCC.out w1 hb1; have HE2 := hide (HE.out w1 hb1); have HB1 := hide hb1; clear HEQ HE HCC hb1)
          | (go_at_call 19; refine HE2.out.mono ?_; rintro e1 w2 ⟨rfl, hw⟩; subst w2; clear HE2))
        go_ret
        refine ⟨ret_bool ?_, HB.out.trans (HB1.out.mono HB.out.size)⟩
        rw [HS.out]
        simp
      · rw [decide_eq_false h3] at HEQ
        go_enter Tryd.func37, Tryd.ntmps37
        go_wp2_with (first
          | (go_at_call 57; refine HEQ.out.mono ?_; rintro e1 w1 ⟨rfl, hb1⟩; rw [← HW.out] at hb1; have HB1 := hide hb1; clear HEQ HE HCC hb1))
        go_ret
        refine ⟨ret_bool ?_, HB.out.trans (HB1.out.mono HB.out.size)⟩
        rw [HS.out]
        simp [h3]
    · have hne : (p != p') = true := by simpa using h2
      go_enter Tryd.func37, Tryd.ntmps37
      go_wp2
      go_ret
      rw [← HW.out]
      refine ⟨ret_bool ?_, HB.out⟩
      rw [HS.out]
      simp [h2]
  · have hne : ((e : Int) != (e' : Int)) = true := by simp; omega
    go_enter Tryd.func37, Tryd.ntmps37
    go_wp2
    go_ret
    rw [← HW.out]
    refine ⟨ret_bool ?_, HB.out⟩
    rw [HS.out]
    simp [h1]

theorem hsame_any (w : World) (va vb : Value) (g h : Hd) (ha : HdV w va g) (hb : HdV w vb h) :
    Calls Tryd.prog 17 #[va, vb] w fun r w' => r = .returned (.bool (sameH g h)) ∧ Below w.heap.size w w' := by
  have H := hide (fun wx (hbx : Below w.heap.size w wx) => halike_any wx va vb g h (ha.below hbx) (hb.below hbx))
  obtain ⟨ma, mc, ua, uc, rfl, _⟩ := ha
  obtain ⟨ma', mc', ua', uc', rfl, _⟩ := hb
  unfold hdV at H ⊢
  obtain ⟨hbel, hx, hy⟩ := two_box w [.int .u64 g.e, .int .i64 g.p, .slice ma g.ms.length mc, .slice ua g.us.length uc] [.int .u64 h.e, .int .i64 h.p, .slice ma' h.ms.length mc', .slice ua' h.us.length uc']
  have HB := hide hbel
  clear hbel hx hy
  go_enter Tryd.func17, Tryd.ntmps17
  go_wp2_with (go_at_call 37; refine (H.out _ HB.out).mono ?_; rintro e1 w1 ⟨rfl, hb1⟩; have HB1 := hide hb1; clear H hb1)
  go_ret
  exact ⟨rfl, HB.out.trans (HB1.out.mono HB.out.size)⟩

end Go.Proofs.YtmeiahmolmneeaaDoor
