/- Contract: the statement's own 'takes': something is taken of both readers, and they answer the same. -/
import Derived.Test.YtbopcppagfhjnaaRRText
import Derived.Test.YtbopcppagfhjnaaLive
import Derived.Deep.RegionHeld3
namespace Go.Proofs.Ytbopcppagfhjnaa
open Go.RowKit

/-- both readers, with the same left, and the same first error -/
def Both (w : World) (b1 b2 : Nat) (zs : List Int) (er : Int) : Prop := b1 ≠ b2 ∧ (∃ u, Rd w b1 u zs er) ∧ ∃ u, RR w b2 u zs er

theorem rd_other {w w' : World} {b1 b2 : Nat} {u1 u2 : Value} {zs zs2 : List Int} {er er2 : Int} (h1 : Rd w b1 u1 zs er) (h2 : RR w b2 u2 zs2 er2) (hg : w.grownBy w' (some b2)) (hne : b1 ≠ b2) : Rd w' b1 u1 zs er := by
  refine ⟨by rw [hg.block b1 h1.lt (by simpa using hne)]; exact h1.1, ?_, fun k hk => ⟨(h1.2.2 k hk).1, Nat.lt_of_lt_of_le (h1.2.2 k hk).2 hg.size⟩⟩
  by_cases hz : zs = []
  · subst hz
    obtain ⟨hb, ao, cap, rfl, h1, h2, h3, _⟩ := h1.2.1
    exact ⟨hb, ao, cap, rfl, h1, h2, h3, fun h => absurd rfl h⟩
  · refine h1.2.1.keep fun k hk hlt => hg.block k hlt (fun e => ?_)
    obtain rfl : k = b2 := by simpa using e
    obtain ⟨_, ao, cap, rfl, _, _, _, hc⟩ := h1.2.1
    obtain ⟨b, off, rfl, hcc⟩ := hc hz
    have hkb : b = k := by simpa [Value.ownBlock] using hk
    subst hkb
    have c := hcc 0 (List.length_pos_iff.2 hz)
    rw [Nat.add_zero, cell_of_row w b off _ _ (0, 0) h2.1] at c
    obtain ⟨ao2, n2, cap2, rfl⟩ := sl_form h2.2.1
    match off, c with
    | 0, c => simp at c
    | 1, c => simp at c
    | n + 2, c => simp at c

theorem rr_other {w w' : World} {b1 b2 : Nat} {u1 u2 : Value} {zs zs2 : List Int} {er er2 : Int} (h1 : Rd w b1 u1 zs er) (h2 : RR w b2 u2 zs2 er2) (hg : w.grownBy w' (some b1)) (hne : b1 ≠ b2) : RR w' b2 u2 zs2 er2 := by
  refine ⟨by rw [hg.block b2 h2.lt (by simpa using fun e => hne e.symm)]; exact h2.1, ?_, fun k hk => ⟨(h2.2.2 k hk).1, Nat.lt_of_lt_of_le (h2.2.2 k hk).2 hg.size⟩⟩
  by_cases hz : zs2 = []
  · subst hz
    obtain ⟨hb, ao, cap, rfl, h1, h2, h3, _⟩ := h2.2.1
    exact ⟨hb, ao, cap, rfl, h1, h2, h3, fun h => absurd rfl h⟩
  · refine h2.2.1.keep fun k hk hlt => hg.block k hlt (fun e => ?_)
    obtain rfl : k = b1 := by simpa using e
    obtain ⟨_, ao, cap, rfl, _, _, _, hc⟩ := h2.2.1
    obtain ⟨b, off, rfl, hcc⟩ := hc hz
    have hkb : b = k := by simpa [Value.ownBlock] using hk
    subst hkb
    have c := hcc 0 (List.length_pos_iff.2 hz)
    rw [Nat.add_zero, cell_of_row w b off _ _ (0, 0) h1.1] at c
    obtain ⟨ao2, n2, cap2, rfl⟩ := sl_form h1.2.1
    match off, c with
    | 0, c => simp at c
    | 1, c => simp at c
    | 2, c => simp at c
    | n + 3, c => simp at c

theorem drop_len_le (zs : List Int) (n : Nat) : (zs.drop n).length ≤ zs.length := by simp
theorem takeS_left (zs : List Int) (er n : Int) : (takeS zs er n).2.1.length ≤ zs.length := by
  unfold takeS
  split
  · exact Nat.le_refl _
  · split
    · exact Nat.le_refl _
    · split
      · exact Nat.le_refl _
      · exact drop_len_le _ _
theorem varS_left (zs : List Int) (er : Int) : (varS zs er).2.1.length ≤ zs.length := by
  unfold varS
  split
  · exact Nat.le_refl _
  · exact drop_len_le _ _
theorem textS_left (zs : List Int) (er most : Int) : (textS zs er most).2.1.length ≤ zs.length := by
  unfold textS
  split
  · exact Nat.le_refl _
  · split
    · exact Nat.le_refl _
    · exact drop_len_le _ _

/-- behind a take of each -/
theorem both_step {B : Nat} {w w1 w2 : World} {b1 b2 : Nat} {u1 u2 : Value} {zs zs' : List Int} {er er' : Int} (hB1 : B ≤ b1) (hB2 : B ≤ b2) (hBw : B ≤ w.heap.size)
    (hne : b1 ≠ b2) (g1 : w.grownBy w1 (some b1)) (r1 : Rd w1 b1 u1 zs' er') (q1 : RR w1 b2 u2 zs er) (g2 : w1.grownBy w2 (some b2)) (r2 : ∃ u, RR w2 b2 u zs' er') : Below B w w2 ∧ Both w2 b1 b2 zs' er' := by
  refine ⟨((Below.refl B w).grown g1 hBw (by intro k hk; cases hk; exact hB1)).grown g2 (Nat.le_trans hBw g1.size) (by intro k hk; cases hk; exact hB2), hne, ⟨u1, rd_other r1 q1 g2 hne⟩, r2⟩

theorem sl_after {w1 w2 : World} {base b : Nat} {v : Value} {zs : List Int} (h : Sl w1 v zs) (hf : Fresh base w1 v) (g : w1.grownBy w2 (some b)) (hb : b < base) : Sl w2 v zs :=
  h.keep fun k hk hlt => g.block k hlt (fun e => by have := (hf k hk).1; simp at e; omega)

theorem both_keep {w w' : World} {b1 b2 : Nat} {zs : List Int} {er : Int} (h : Both w b1 b2 zs er) (hb : Below w.heap.size w w') : Both w' b1 b2 zs er := by
  obtain ⟨h0, ⟨u, h1⟩, v, h2⟩ := h
  exact ⟨h0, ⟨u, h1.keep hb⟩, v, h2.keep hb⟩

set_option maxRecDepth 20000 in
set_option maxHeartbeats 2000000 in
theorem takes_any (B : Nat) (w : World) (b1 b2 : Nat) (zs : List Int) (er d n : Int) (h : Both w b1 b2 zs er) (hl : zs.length ≤ 50000) (hB1 : B ≤ b1) (hB2 : B ≤ b2) (hBw : B ≤ w.heap.size) :
    Calls Try.prog 23 #[.pointer (some ⟨b1, 0, none⟩), .pointer (some ⟨b2, 0, none⟩), .agg #[.int .i64 d, .int .i64 n]] w fun e w' => e = .returned (.bool true) ∧ Below B w w' ∧ ∃ zs' er', zs'.length ≤ zs.length ∧ Both w' b1 b2 zs' er' := by
  obtain ⟨hne, ⟨u1, R1⟩, u2, R2⟩ := h
  have hb0 : Below w.heap.size w (w.alloc (.cells #[.int .i64 d, .int .i64 n] 45)) := (Below.refl _ w).alloc (Nat.le_refl _) _
  have hBW : Below B w (w.alloc (.cells #[.int .i64 d, .int .i64 n] 45)) := hb0.mono hBw
  have r1 := R1.keep hb0
  have r2 := R2.keep hb0
  have hWs : B ≤ (w.alloc (.cells #[.int .i64 d, .int .i64 n] 45)).heap.size := Nat.le_trans hBw hb0.size
  clear hb0
  by_cases d0 : d = 0
  · subst d0
    have hlt : numOf (takeS zs er 1).1 < 256 := numOf_lt _ 1 (takeS_ok zs er 1 R1.2.1.bytes).1 (takeS_len zs er 1)
    have C1 := readerU8_any _ b1 u1 zs er r1
    have C2 : ∀ w1 u2, RR w1 b2 u2 zs er → Calls Try.prog 45 #[.pointer (some ⟨b2, 0, none⟩), .int .i64 1] w1 fun e w' => e = .returned (.int .u64 (numOf (takeS zs er 1).1)) ∧ w1.grownBy w' (some b2) ∧ ∃ u', RR w' b2 u' (takeS zs er 1).2.1 (takeS zs er 1).2.2 := fun w1 u2 h => rNumber_any w1 b2 u2 zs er 1 h (by omega) hl
    have hleft := takeS_left zs er 1
    obtain ⟨N, hN⟩ : ∃ N, N = numOf (takeS zs er 1).1 := ⟨_, rfl⟩
    rw [← hN] at C1 C2 hlt
    have D1 := hide C1
    have D2 := hide C2
    have Q1 := hide r1
    have Q2 := hide r2
    clear hN C1 C2 r1 r2 R1 R2
    go_enter Try.func23, Try.ntmps23
    go_wp2_with (first
      | (go_at_call 44; refine D1.out.mono ?_; rintro e w1 ⟨rfl, g1, v1, s1⟩; clear D1; have q1 := rr_other Q1.out Q2.out g1 hne)
      | (go_at_call 45; refine (D2.out w1 u2 q1).mono ?_; rintro e w2 ⟨rfl, g2, s2⟩; clear D2))
    go_ret
    have hfin := both_step hB1 hB2 hWs hne g1 s1 q1 g2 s2
    exact ⟨rfl, hBW.trans hfin.1, _, _, hleft, hfin.2⟩
  · have e0 : (d == 0) = false := by simpa using d0
    by_cases d1 : d = 1
    · subst d1
      have hlt : numOf (takeS zs er 2).1 < 65536 := numOf_lt _ 2 (takeS_ok zs er 2 R1.2.1.bytes).1 (takeS_len zs er 2)
      have C1 := readerU16_any _ b1 u1 zs er r1
      have C2 : ∀ w1 u2, RR w1 b2 u2 zs er → Calls Try.prog 45 #[.pointer (some ⟨b2, 0, none⟩), .int .i64 2] w1 fun e w' => e = .returned (.int .u64 (numOf (takeS zs er 2).1)) ∧ w1.grownBy w' (some b2) ∧ ∃ u', RR w' b2 u' (takeS zs er 2).2.1 (takeS zs er 2).2.2 := fun w1 u2 h => rNumber_any w1 b2 u2 zs er 2 h (by omega) hl
      have hleft := takeS_left zs er 2
      obtain ⟨N, hN⟩ : ∃ N, N = numOf (takeS zs er 2).1 := ⟨_, rfl⟩
      rw [← hN] at C1 C2 hlt
      have D1 := hide C1
      have D2 := hide C2
      have Q1 := hide r1
      have Q2 := hide r2
      clear hN C1 C2 r1 r2 R1 R2
      go_enter Try.func23, Try.ntmps23
      go_wp2_with (first
        | (go_at_call 36; refine D1.out.mono ?_; rintro e w1 ⟨rfl, g1, v1, s1⟩; clear D1; have q1 := rr_other Q1.out Q2.out g1 hne)
        | (go_at_call 45; refine (D2.out w1 u2 q1).mono ?_; rintro e w2 ⟨rfl, g2, s2⟩; clear D2))
      go_ret
      have hfin := both_step hB1 hB2 hWs hne g1 s1 q1 g2 s2
      exact ⟨rfl, hBW.trans hfin.1, _, _, hleft, hfin.2⟩
    · have e1 : (d == 1) = false := by simpa using d1
      by_cases d2 : d = 2
      · subst d2
        have hlt : numOf (takeS zs er 4).1 < 4294967296 := numOf_lt _ 4 (takeS_ok zs er 4 R1.2.1.bytes).1 (takeS_len zs er 4)
        have C1 := readerU32_any _ b1 u1 zs er r1
        have C2 : ∀ w1 u2, RR w1 b2 u2 zs er → Calls Try.prog 45 #[.pointer (some ⟨b2, 0, none⟩), .int .i64 4] w1 fun e w' => e = .returned (.int .u64 (numOf (takeS zs er 4).1)) ∧ w1.grownBy w' (some b2) ∧ ∃ u', RR w' b2 u' (takeS zs er 4).2.1 (takeS zs er 4).2.2 := fun w1 u2 h => rNumber_any w1 b2 u2 zs er 4 h (by omega) hl
        have hleft := takeS_left zs er 4
        obtain ⟨N, hN⟩ : ∃ N, N = numOf (takeS zs er 4).1 := ⟨_, rfl⟩
        rw [← hN] at C1 C2 hlt
        have D1 := hide C1
        have D2 := hide C2
        have Q1 := hide r1
        have Q2 := hide r2
        clear hN C1 C2 r1 r2 R1 R2
        go_enter Try.func23, Try.ntmps23
        go_wp2_with (first
          | (go_at_call 37; refine D1.out.mono ?_; rintro e w1 ⟨rfl, g1, v1, s1⟩; clear D1; have q1 := rr_other Q1.out Q2.out g1 hne)
          | (go_at_call 45; refine (D2.out w1 u2 q1).mono ?_; rintro e w2 ⟨rfl, g2, s2⟩; clear D2))
        go_ret
        have hfin := both_step hB1 hB2 hWs hne g1 s1 q1 g2 s2
        exact ⟨rfl, hBW.trans hfin.1, _, _, hleft, hfin.2⟩
      · have e2 : (d == 2) = false := by simpa using d2
        by_cases d3 : d = 3
        · subst d3
          have hlt : numOf (takeS zs er 8).1 < 18446744073709551616 := numOf_lt _ 8 (takeS_ok zs er 8 R1.2.1.bytes).1 (takeS_len zs er 8)
          have C1 := readerU64_any _ b1 u1 zs er r1
          have C2 : ∀ w1 u2, RR w1 b2 u2 zs er → Calls Try.prog 45 #[.pointer (some ⟨b2, 0, none⟩), .int .i64 8] w1 fun e w' => e = .returned (.int .u64 (numOf (takeS zs er 8).1)) ∧ w1.grownBy w' (some b2) ∧ ∃ u', RR w' b2 u' (takeS zs er 8).2.1 (takeS zs er 8).2.2 := fun w1 u2 h => rNumber_any w1 b2 u2 zs er 8 h (by omega) hl
          have hleft := takeS_left zs er 8
          obtain ⟨N, hN⟩ : ∃ N, N = numOf (takeS zs er 8).1 := ⟨_, rfl⟩
          rw [← hN] at C1 C2 hlt
          have D1 := hide C1
          have D2 := hide C2
          have Q1 := hide r1
          have Q2 := hide r2
          clear hN C1 C2 r1 r2 R1 R2
          go_enter Try.func23, Try.ntmps23
          go_wp2_with (first
            | (go_at_call 35; refine D1.out.mono ?_; rintro e w1 ⟨rfl, g1, v1, s1⟩; clear D1; have q1 := rr_other Q1.out Q2.out g1 hne)
            | (go_at_call 45; refine (D2.out w1 u2 q1).mono ?_; rintro e w2 ⟨rfl, g2, s2⟩; clear D2))
          go_ret
          have hfin := both_step hB1 hB2 hWs hne g1 s1 q1 g2 s2
          exact ⟨rfl, hBW.trans hfin.1, _, _, hleft, hfin.2⟩
        · have e3 : (d == 3) = false := by simpa using d3
          by_cases d4 : d = 4
          · subst d4
            have C1 := readerVar_any _ b1 u1 zs er r1
            have C2 : ∀ w1 u2, RR w1 b2 u2 zs er → Calls Try.prog 46 #[.pointer (some ⟨b2, 0, none⟩)] w1 fun e w' => e = .returned (.int .u32 (varS zs er).1) ∧ w1.grownBy w' (some b2) ∧ ∃ u', RR w' b2 u' (varS zs er).2.1 (varS zs er).2.2 := fun w1 u2 h => rVar_any w1 b2 u2 zs er h hl
            have hleft := varS_left zs er
            have D1 := hide C1
            have D2 := hide C2
            have Q1 := hide r1
            have Q2 := hide r2
            clear C1 C2 r1 r2 R1 R2
            go_enter Try.func23, Try.ntmps23
            go_wp2_with (first
              | (go_at_call 34; refine D1.out.mono ?_; rintro e w1 ⟨rfl, g1, v1, s1⟩; clear D1; have q1 := rr_other Q1.out Q2.out g1 hne)
              | (go_at_call 46; refine (D2.out w1 u2 q1).mono ?_; rintro e w2 ⟨rfl, g2, s2⟩; clear D2))
            go_ret
            have hfin := both_step hB1 hB2 hWs hne g1 s1 q1 g2 s2
            exact ⟨rfl, hBW.trans hfin.1, _, _, hleft, hfin.2⟩
          · have e4 : (d == 4) = false := by simpa using d4
            have hk1 : b1 ≠ w.heap.size := by have := R1.lt; omega
            have hk2 : b2 ≠ w.heap.size := by have := R2.lt; omega
            have cn : (w.alloc (.cells #[.int .i64 d, .int .i64 n] 45)).cell? ⟨w.heap.size, 1, none⟩ = some (.int .i64 n) := by simp
            by_cases d5 : d = 5
            · subst d5
              obtain ⟨W, hW⟩ : ∃ W, W = w.alloc (.cells #[.int .i64 5, .int .i64 n] 45) := ⟨_, rfl⟩
              obtain ⟨H, hH⟩ : ∃ H, H = w.heap.size := ⟨_, rfl⟩
              have hleft := takeS_left zs er n
              rw [← hW] at cn hBW hWs r1 r2
              rw [← hH] at cn hk1 hk2
              have hkb : b2 < W.heap.size := r2.lt
              have Q1 := hide r1
              have Q2 := hide r2
              have BW := hide hBW
              have WS := hide hWs
              have HWW := hide hW
              have HHH := hide hH
              clear r1 r2 R1 R2 hBW hWs d0 d1 d2 d3 d4 e0 e1 e2 e3 e4
              go_enter Try.func23, Try.ntmps23
              go_wp2
              rw [← hW, ← hH]
              clear hW hH
              go_region_held3 (fun w' => w'.cell? ⟨H, 1, none⟩ = some (.int .i64 n)) (first | assumption | go_keep)
                (first
                  | (go_at_call 47; refine (readerRaw_any _ b1 u1 zs er n (Q1.out.keep (Below.refl _ _).drew) hl).mono ?_; rintro e w1 ⟨v1, rfl, s1, hf1, g1', x1, y1⟩; have g1 : W.grownBy w1 (some b1) := ⟨g1'.os, g1'.tape, g1'.output, g1'.size, g1'.block⟩; have k1 := g1.cell cn (by simpa using fun e => hk1 e.symm); have q1 := rr_other Q1.out Q2.out g1 hne)
                  | (go_at_call 48; refine (rRaw_any _ b2 u2 zs er n q1 hl).mono ?_; rintro e w2 ⟨v2, rfl, s2, hf2, g2, x2, y2⟩; have k2 := g2.cell k1 (by simpa using fun e => hk2 e.symm))
                  | (go_at_call 17; refine (refSame_any _ v1 v2 _ _ (sl_after s1 hf1 g2 hkb) s2).mono ?_; rintro e w3 ⟨rfl, hb3⟩; have k3 := (hb3.cell (p := ⟨H, 1, none⟩) (World.block_lt_of_cell? _ _ k2)).trans k2))
              go_wp2
              go_ret
              have hfin := both_step hB1 hB2 WS.out hne g1 y1 q1 g2 ⟨_, y2⟩
              exact ⟨rfl, (BW.out.trans hfin.1).trans (hb3.mono (Nat.le_trans WS.out (Nat.le_trans g1.size g2.size))), _, _, hleft, both_keep hfin.2 hb3⟩
            · have e5 : (d == 5) = false := by simpa using d5
              obtain ⟨W, hW⟩ : ∃ W, W = w.alloc (.cells #[.int .i64 d, .int .i64 n] 45) := ⟨_, rfl⟩
              obtain ⟨H, hH⟩ : ∃ H, H = w.heap.size := ⟨_, rfl⟩
              have hleft := textS_left zs er n
              rw [← hW] at cn hBW hWs r1 r2
              rw [← hH] at cn hk1 hk2
              have hkb : b2 < W.heap.size := r2.lt
              have Q1 := hide r1
              have Q2 := hide r2
              have BW := hide hBW
              have WS := hide hWs
              have HWW := hide hW
              have HHH := hide hH
              clear r1 r2 R1 R2 hBW hWs d0 d1 d2 d3 d4 d5
              go_enter Try.func23, Try.ntmps23
              go_wp2
              rw [← hW, ← hH]
              clear hW hH
              go_region_held3 (fun w' => w'.cell? ⟨H, 1, none⟩ = some (.int .i64 n)) (first | assumption | go_keep)
                (first
                  | (go_at_call 38; refine (readerText_any _ b1 u1 zs er n (Q1.out.keep (Below.refl _ _).drew)).mono ?_; rintro e w1 ⟨v1, rfl, s1, hf1, g1', x1, y1⟩; have g1 : W.grownBy w1 (some b1) := ⟨g1'.os, g1'.tape, g1'.output, g1'.size, g1'.block⟩; have k1 := g1.cell cn (by simpa using fun e => hk1 e.symm); have q1 := rr_other Q1.out Q2.out g1 hne)
                  | (go_at_call 49; refine (rText_any _ b2 u2 zs er n q1 hl).mono ?_; rintro e w2 ⟨v2, rfl, s2, hf2, g2, x2, y2⟩; have k2 := g2.cell k1 (by simpa using fun e => hk2 e.symm))
                  | (go_at_call 17; refine (refSame_any _ v1 v2 _ _ (sl_after s1 hf1 g2 hkb) s2).mono ?_; rintro e w3 ⟨rfl, hb3⟩; have k3 := (hb3.cell (p := ⟨H, 1, none⟩) (World.block_lt_of_cell? _ _ k2)).trans k2))
              go_wp2
              go_ret
              have hfin := both_step hB1 hB2 WS.out hne g1 y1 q1 g2 ⟨_, y2⟩
              exact ⟨rfl, (BW.out.trans hfin.1).trans (hb3.mono (Nat.le_trans WS.out (Nat.le_trans g1.size g2.size))), _, _, hleft, both_keep hfin.2 hb3⟩

end Go.Proofs.Ytbopcppagfhjnaa
