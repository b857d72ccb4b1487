/- The walk of the statement FramePlace. -/
import Derived.Test.YtlnedhbeciepdaaDoorFOpen
namespace Go.Proofs.YtlnedhbeciepdaaDoor
open Go.RowKit
set_option linter.unusedVariables false

/-- the frame that came in, boxed: it stays -/
def Bx (w w1 : World) (f : Fm) : Prop := Below w.heap.size w w1 ∧ Blk w1 w.heap.size 25 f.cells
theorem Bx.below {w w1 w2 : World} {f : Fm} (h : Bx w w1 f) (hb : Below w1.heap.size w1 w2) : Bx w w2 f := ⟨h.1.trans (hb.mono h.1.size), h.2.below hb h.2.lt⟩
theorem Bx.alloc {w w1 : World} {f : Fm} (h : Bx w w1 f) (o : Obj) : Bx w (w1.alloc o) f := h.below ((Below.refl _ w1).alloc (Nat.le_refl _) o)
theorem Bx.new (w : World) (f : Fm) : Bx w (w.alloc (.cells #[.int .i64 f.k, .int .i64 f.p, .int .u64 f.e, .slice f.a f.n f.c] 25)) f := ⟨(Below.refl _ w).alloc (Nat.le_refl _) _, Blk.new w _ _⟩
theorem Bx.cells {w w1 : World} {f : Fm} (h : Bx w w1 f) : w1.cell? ⟨w.heap.size, 0, none⟩ = some (.int .i64 f.k) ∧ w1.cell? ⟨w.heap.size, 1, none⟩ = some (.int .i64 f.p) ∧ w1.cell? ⟨w.heap.size, 2, none⟩ = some (.int .u64 f.e) ∧ w1.cell? ⟨w.heap.size, 3, none⟩ = some (.slice f.a f.n f.c) := box_cells h.2

theorem live_bx (w : World) (f : Fm) (hT : Tab w) (w1 : World) (h : Bx w w1 f) :
    Calls Tryd.prog 8 #[] w1 fun e w2 => e = .returned (.bool true) ∧ Bx w w2 f := by
  refine (liveF_any w1 (hT.below h.1)).mono ?_
  rintro e w2 ⟨rfl, hb⟩
  exact ⟨rfl, h.below hb⟩
theorem short_bx (w : World) (f : Fm) (w1 : World) (h : Bx w w1 f) :
    Calls Tryd.prog 9 #[.slice (some ⟨w1.heap.size, 0, none⟩) 1 1] (w1.alloc (.cells #[.int .i64 f.k, .int .i64 f.p, .int .u64 f.e, .slice f.a f.n f.c] 25)) fun e w2 => e = .returned (.bool (decide (f.n ≤ 3000))) ∧ Bx w w2 f := by
  have hB := Blk.new w1 25 f.cells
  refine (short_any _ w1.heap.size [f] (by simpa [Fm.cells] using hB) (by simp)).mono ?_
  rintro e w2 ⟨rfl, hb⟩
  refine ⟨by simp [shortB], (h.alloc _).below hb⟩

theorem put_bx (w : World) (k p : Int) (e : Nat) (a : Option Addr) (n c : Nat) (zs : List Int) (hS : Sl w (.slice a n c) zs) (h : checkS k p n ≠ 0) (w1 : World) (f : Fm) (hb : Bx w w1 f) :
    Calls Tryd.prog 11 #[.agg #[.int .i64 k, .int .i64 p, .int .u64 e, .slice a n c]] w1 fun r w2 => r = .returned (.tuple #[.slice none 0 0, .int .i64 (checkS k p n)]) ∧ Bx w w2 f := by
  refine (put_bad w1 k p e n c a h).mono ?_
  rintro r w2 ⟨rfl, hb2⟩
  exact ⟨rfl, hb.below hb2⟩
/-- a frame that may be: its page, and that the box stays -/
theorem puts_bx (w : World) (k p e : Nat) (a : Option Addr) (n c : Nat) (zs : List Int) (hS : Sl w (.slice a n c) zs) (hT : Tab w) (hk : 1 ≤ k ∧ k ≤ 4) (hp : p ≤ 2047) (he : e < 18446744073709551616) (hz : zs.length ≤ 240) (w1 : World) (f : Fm) (hb : Bx w w1 f) :
    Calls Tryd.prog 11 #[.agg #[.int .i64 k, .int .i64 p, .int .u64 e, .slice a n c]] w1 fun r w2 => ∃ a' c', r = .returned (.tuple #[.slice a' 256 c', .int .i64 0]) ∧ Sl w2 (.slice a' 256 c') (pageS k p e zs) ∧ Bx w w2 f := by
  refine (put_ok w1 k p e _ zs (hS.below hb.1) (hT.below hb.1) hk hp he hz).mono ?_
  rintro r w2 ⟨u, rfl, ho, hb2⟩
  have hS2 := sl_of_own ho (pageS_ok (by omega) hS.bytes) rfl
  obtain ⟨a', n', c', rfl⟩ := sl_form hS2
  obtain rfl := own_n ho
  exact ⟨a', c', rfl, hS2, hb.below hb2⟩
/-- the frame of bytes, and that the box stays -/
theorem gets_bx (w : World) (hT : Tab w) (q : Int) (w1 : World) (f : Fm) (v : Value) (xs : List Int) (hb : Bx w w1 f) (h : Sl w1 v xs) (g : Fr) (hg : getS xs q = g) (hok : ByteOk g.data) :
    Calls Tryd.prog 18 #[v, .int .i64 q] w1 fun r w2 => ∃ a n c, r = .returned (.tuple #[.agg #[.int .i64 g.kind, .int .i64 g.page, .int .u64 g.epoch, .slice a n c], .int .i64 g.err]) ∧ Sl w2 (.slice a n c) g.data ∧ Bx w w2 f ∧ Below w1.heap.size w1 w2 := by
  refine (get_any w1 v xs q h (hT.below hb.1)).mono ?_
  rintro r w2 ⟨a, n, c, rfl, ho, hb2⟩
  rw [hg] at ho ⊢
  exact ⟨a, n, c, rfl, sl_of_own_len ho hok, hb.below hb2, hb2⟩

set_option maxHeartbeats 2000000 in
theorem framePlace_walk (w : World) (v : Value) (f : Fm) (zs : List Int) (q : Int) (hf : FrIn w v f zs) (hq : (Lit.int .i64 q).wf = true) (hT : Tab w) :
    Calls Tryd.prog 7 #[v, .int .i64 q] w fun e w' => e = .returned (.bool true) ∧ Below w.heap.size w w' := by
  obtain ⟨rfl, hS, he⟩ := hf
  obtain ⟨k, p, e, a, n, c⟩ := f
  simp only at hS he
  obtain rfl := (sl_cap hS).1
  unfold Fm.val
  simp only
  have HN := hide (Bx.new w ⟨k, p, e, a, zs.length, c⟩)
  have HL := hide (live_bx w ⟨k, p, e, a, zs.length, c⟩ hT)
  have HS := hide (short_bx w ⟨k, p, e, a, zs.length, c⟩)
  simp only at HN HS
  by_cases hn : zs.length ≤ 3000
  · rw [decide_eq_true hn] at HS
    by_cases hc : checkS k p zs.length = 0
    · obtain ⟨hk, hp, hz⟩ := checkS_ok.1 hc
      obtain ⟨K, rfl⟩ : ∃ K : Nat, k = K := ⟨k.toNat, by omega⟩
      obtain ⟨P, rfl⟩ : ∃ P : Nat, p = P := ⟨p.toNat, by omega⟩
      have HP := hide (puts_bx w K P e a zs.length c zs hS hT (by omega) (by omega) he (by omega))
      have hg := getS_page K P e zs q (by omega) (by omega) he
      by_cases hpq : (P : Int) = q
      · subst hpq
        rw [if_pos rfl] at hg
        have HG := hide (fun w1 f v hb h => gets_bx w hT P w1 f v _ hb h _ hg (loadS_ok hS.bytes 0))
        simp only at HG
        clear hS hc hg hT
        go_enter Tryd.func7, Tryd.ntmps7
        go_wp2_with (first
          | (go_at_call 8; refine (HL.out _ HN.out).mono ?_; rintro e1 w1 ⟨rfl, b1⟩; obtain ⟨c0, c1, c2, c3⟩ := b1.cells; have HS1 := hide (HS.out w1 b1); clear HN HS b1)
          | (go_at_call 9; refine HS1.out.mono ?_; rintro e1 w2 ⟨rfl, b2⟩; clear c0 c1 c2 c3; obtain ⟨c0, c1, c2, c3⟩ := b2.cells; have HP2 := hide (HP.out w2 _ b2); clear HS1 b2 HP)
          | (go_at_call 11; refine HP2.out.mono ?_; rintro e1 w3 ⟨a3, l3, rfl, S3, b3⟩; clear c0 c1 c2 c3; have HG3 := hide (HG.out w3 _ _ b3 S3); clear HP2 HG S3 b3)
          | (go_at_call 18; refine HG3.out.mono ?_; rintro e1 w4 ⟨a4, n4, l4, rfl, S4, b4, _⟩; have HB4 := hide (b4.alloc (.cells #[.int .i64 K, .int .i64 P, .int .u64 e, .slice a4 n4 l4] 25)); obtain ⟨c0, c1, c2, c3⟩ := HB4.out.cells; clear HG3 S4 b4))
        go_ret
        exact ⟨rfl, HB4.out.1⟩
      · rw [if_neg hpq] at hg
        have HG := hide (fun w1 f v hb h => gets_bx w hT q w1 f v _ hb h _ hg (by intro z hz; cases hz))
        have HA := hide (fun wx (a : Option Addr) (n c : Nat) hx => alike_any wx 0 0 0 0 0 0 a none n 0 c 0 [] [] hx (Sl.nil _))
        simp only [noFr] at HG
        have hqp : (q == (P : Int)) = false := by simp; omega
        clear hS hc hg hT
        go_enter Tryd.func7, Tryd.ntmps7
        go_wp2_with (first
          | (go_at_call 8; refine (HL.out _ HN.out).mono ?_; rintro e1 w1 ⟨rfl, b1⟩; obtain ⟨c0, c1, c2, c3⟩ := b1.cells; have HS1 := hide (HS.out w1 b1); clear HN HS b1)
          | (go_at_call 9; refine HS1.out.mono ?_; rintro e1 w2 ⟨rfl, b2⟩; clear c0 c1 c2 c3; obtain ⟨c0, c1, c2, c3⟩ := b2.cells; have HP2 := hide (HP.out w2 _ b2); clear HS1 b2 HP)
          | (go_at_call 11; refine HP2.out.mono ?_; rintro e1 w3 ⟨a3, l3, rfl, S3, b3⟩; clear c0 c1 c2 c3; have HG3 := hide (HG.out w3 _ _ b3 S3); clear HP2 HG S3 b3)
          | (go_at_call 18; refine HG3.out.mono ?_; rintro e1 w4 ⟨a4, n4, l4, rfl, S4, b4, _⟩; have HB4 := hide (b4.alloc (.cells #[.int .i64 0, .int .i64 0, .int .u64 0, .slice a4 n4 l4] 25)); obtain ⟨c0, c1, c2, c3⟩ := HB4.out.cells; have HA4 := hide (HA.out _ a4 n4 l4 (S4.alloc (.cells #[.int .i64 0, .int .i64 0, .int .u64 0, .slice a4 n4 l4] 25))); clear HG3 S4 b4 HA)
          | (go_at_call 22; refine HA4.out.mono ?_; rintro e1 w5 ⟨rfl, b5⟩; have HB5 := hide (HB4.out.below b5); clear HA4 HB4 b5))
        go_ret
        exact ⟨rfl, HB5.out.1⟩
    · have HP := hide (put_bx w k p e a zs.length c zs hS hc)
      obtain ⟨d, hd⟩ : ∃ d, d = checkS k p zs.length := ⟨_, rfl⟩
      rw [← hd] at HP hc
      have hne : (d != 0) = true := by simpa using hc
      clear hS hd
      go_enter Tryd.func7, Tryd.ntmps7
      go_wp2_with (first
        | (go_at_call 8; refine (HL.out _ HN.out).mono ?_; rintro e1 w1 ⟨rfl, b1⟩; obtain ⟨c0, c1, c2, c3⟩ := b1.cells; have HS1 := hide (HS.out w1 b1); clear HN HS b1)
        | (go_at_call 9; refine HS1.out.mono ?_; rintro e1 w2 ⟨rfl, b2⟩; clear c0 c1 c2 c3; obtain ⟨c0, c1, c2, c3⟩ := b2.cells; have HP2 := hide (HP.out w2 _ b2); clear HS1 b2 HP)
        | (go_at_call 11; refine HP2.out.mono ?_; rintro e1 w3 ⟨rfl, b3⟩; clear HP2))
      go_ret
      exact ⟨rfl, b3.1⟩
  · rw [decide_eq_false hn] at HS
    clear hS
    go_enter Tryd.func7, Tryd.ntmps7
    go_wp2_with (first
      | (go_at_call 8; refine (HL.out _ HN.out).mono ?_; rintro e1 w1 ⟨rfl, b1⟩; obtain ⟨c0, c1, c2, c3⟩ := b1.cells; have HS1 := hide (HS.out w1 b1); clear HN HS b1)
      | (go_at_call 9; refine HS1.out.mono ?_; rintro e1 w2 ⟨rfl, b2⟩; have HB2 := hide b2; clear HS1 b2 c0 c1 c2 c3)
      | (go_at_call 8; refine (HL.out _ HB2.out).mono ?_; rintro e1 w3 ⟨rfl, b3⟩; clear HB2))
    go_ret
    exact ⟨rfl, b3.1⟩

end Go.Proofs.YtlnedhbeciepdaaDoor
