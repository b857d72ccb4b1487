/- The walk of ListRows. -/
import Derived.Test.YtfihnmdhclnhgaaLsTake
import Derived.Test.YtfihnmdhclnhgaaPoSAll
import Derived.BigQuiet
namespace Go.Proofs.Ytfihnmdhclnhgaa
set_option maxRecDepth 20000
open Go.RowKit
set_option linter.unusedVariables false
set_option linter.unusedSimpArgs false
set_option maxRecDepth 100000

theorem live_on {w w' : World} (hb : Below w.heap.size w w') : Calls Try.prog 9 #[] w' fun e w'' => e = .returned (.bool true) ∧ Below w.heap.size w w'' :=
  (live_any w').mono fun e w'' ⟨he, h⟩ => ⟨he, hb.trans (h.mono hb.size)⟩
theorem bit_sel (S k : Nat) (hS : S < 256) : (bits .and .u8 ((S : Int) / 2 ^ k) 1 == 1) = decide (S / 2 ^ k % 2 = 1) := by
  have hle : S / 2 ^ k ≤ S := Nat.div_le_self _ _
  rw [show ((S : Int) / 2 ^ k) = ((S / 2 ^ k : Nat) : Int) by simp]
  generalize S / 2 ^ k = z at *
  have h := bits_mask .u8 8 (by decide) (fun n h0 h1 => by rw [IntKind.wrap_u8]; omega) 1 (by decide) (z : Int) (by omega) (by omega)
  rw [show (2 : Int) ^ 1 - 1 = 1 from rfl] at h
  rw [h, Bool.eq_iff_iff]
  simp only [beq_iff_eq, decide_eq_true_iff]
  omega
/-- the words that are taken -/
def selL (S n : Nat) : List Nat := (List.range n).filter (selW S)
theorem selL_snoc (S n : Nat) : selL S (n + 1) = selL S n ++ (if selW S n = true then [n] else []) := by
  unfold selL
  rw [List.range_succ, List.filter_append]
  congr 1
  cases h : selW S n <;> simp [List.filter_cons, h]
theorem selL_len (S n : Nat) : (selL S n).length ≤ n := Nat.le_trans (List.length_filter_le _ _) (by simp)
/-- does the phrase stand at a place of a text -/
def rowsQ (ws : List Int) (S k : Nat) (t : List Int) (j : Nat) : Bool := (selL S k).all (chkW (fun o => ws.getD o 0) t j)
def wantR (ws : List Int) (S k : Nat) (t : List Int) : List Int := nJ (rowsQ ws S k t) t.length
theorem all_snoc (l : List Nat) (p : Nat → Bool) (q o : Nat) (h : l[q]? = some o) : (l.take (q + 1)).all p = ((l.take q).all p && p o) := by
  rw [List.take_add_one, h, List.all_append]
  simp
theorem Only.noneN {a w : World} (h : Only (fun _ => False) a w) (n : Nat) : Only (fun _ => False) a (w.drewN n) := h.drewN n
/-- the state between the words -/
structure TkI (w wr : World) (ts : List (List Int)) (ws : List Int) (S k : Nat) (v7 v8 : Value) (us : List Value) (ls : List (List PE)) : Prop where
  ps : PsO wr w.heap.size v7 us ls
  js : Ints wr w.heap.size v8 (nJ (selW S) k)
  eq : ls.map posOf = (selL S k).map (fun o => plL (posZ (ws.getD o 0)) 1 ts)
  s7 : SepV v7 us ls
  s8 : SepV v8 us ls
  s78 : ∀ j, v7.ownBlock = some j → v8.ownBlock ≠ some j
  below : Below w.heap.size w wr
theorem TkI.len {w wr : World} {ts : List (List Int)} {ws : List Int} {S k : Nat} {v7 v8 : Value} {us : List Value} {ls : List (List PE)} (h : TkI w wr ts ws S k v7 v8 us ls) : us.length = (selL S k).length ∧ (nJ (selW S) k).length = (selL S k).length := by
  refine ⟨?_, by unfold nJ selL; rw [List.length_map]⟩
  have := congrArg List.length h.eq
  rw [List.length_map, List.length_map] at this
  rw [h.ps.len, this]

set_option maxHeartbeats 8000000 in
theorem rows_walk (w : World) (vt : Value) (us0 : List Value) (ts : List (List Int)) (ht : Parts w vt us0 ts) (vw : Value) (ws : List Int) (hw : Sl w vw ws) (S : Nat) (hS : S < 256) (hlen : ∀ t ∈ ts, t.length ≤ 2000000) :
    Calls Try.prog 8 #[vt, vw, .int .u8 (S : Int)] w fun e w' => e = .returned (.bool true) ∧ Below w.heap.size w w' := by
  have HT := hide (fun W hb => ht.below (w' := W) hb)
  have HW := hide (fun W hb => hw.below (w' := W) hb)
  obtain ⟨ao, cap, rfl, h1, h2, huv⟩ := ht.shape
  obtain ⟨wo, wc, rfl, hw1, hw2⟩ := hw.shape
  unfold maxLen at h2 hw2
  obtain ⟨n, hn⟩ : ∃ n, ts.length = n := ⟨_, rfl⟩
  obtain ⟨nw, hnw⟩ : ∃ n, ws.length = n := ⟨_, rfl⟩
  have HN := hide hn
  have HNW := hide hnw
  have HLL := hide hlen
  rw [hn] at HT h1 ⊢
  rw [hnw] at HW hw1 ⊢
  have HC : Hid (Below w.heap.size w w) := Below.refl _ _
  clear ht hw hn hnw hlen huv
  by_cases hg1 : (20 : Int) < (n : Int)
  · go_enter Try.func8, Try.ntmps8
    go_wp2_with (go_at_call 9; refine (live_on HC.out).mono ?_; rintro e w2 ⟨rfl, hb⟩; have HC := hide hb; clear hb)
    go_ret
    exact ⟨rfl, HC.out⟩
  by_cases hg2 : (nw : Int) < 1
  · go_enter Try.func8, Try.ntmps8
    go_wp2_with (go_at_call 9; refine (live_on HC.out).mono ?_; rintro e w2 ⟨rfl, hb⟩; have HC := hide hb; clear hb)
    go_ret
    exact ⟨rfl, HC.out⟩
  by_cases hg3 : (6 : Int) < (nw : Int)
  · go_enter Try.func8, Try.ntmps8
    go_wp2_with (go_at_call 9; refine (live_on HC.out).mono ?_; rintro e w2 ⟨rfl, hb⟩; have HC := hide hb; clear hb)
    go_ret
    exact ⟨rfl, HC.out⟩
  go_enter Try.func8, Try.ntmps8
  go_wp2_with (go_at_call 9; refine (live_on HC.out).mono ?_; rintro e w2 ⟨rfl, hb⟩; have HC := hide hb; clear hb)
  go_loopg [7, 8, 41] nw (fun g l7 l8 l41 wr => ∃ (k : Nat) (us : List Value) (ls : List (List PE)) (a7 : Option Addr) (m7 c7 : Nat) (a8 : Option Addr) (c8 : Nat), g + k = nw ∧ l41 = .int .i64 (k : Int) ∧ l7 = .slice a7 m7 c7 ∧ l8 = .slice a8 m7 c8 ∧ m7 = us.length ∧ m7 ≤ k ∧ TkI w wr ts ws S k (.slice a7 m7 c7) (.slice a8 m7 c8) us ls)
  case atStart => exact ⟨0, [], [], none, 0, 0, none, 0, by omega, rfl, rfl, rfl, rfl, Nat.le_refl _, ⟨PsO.nil _ _, Ints.nil _ _, rfl, fun j e => (by cases e), fun j e => (by cases e), fun j e => (by cases e), HC.out⟩⟩
  case round =>
    obtain ⟨k, us, ls, a7, m7, c7, a8, c8, hg, rfl, rfl, rfl, hm7, hmk, hI⟩ := hrel
    have HI := hide hI
    have HM7 := hide hm7
    have HG : Hid (gk + k = nw) := hg
    obtain ⟨GK, hGK⟩ : ∃ x, gk = x := ⟨_, rfl⟩
    have HGK := hide hGK
    obtain ⟨WA, hWA⟩ : ∃ y, y = wr := ⟨_, rfl⟩
    subst hWA
    clear hI hm7 hGK
    by_cases hk : k < nw
    · have hkk : (k : Int) < (nw : Int) := by omega
      obtain ⟨wb, woff, rfl, cw⟩ := (HW.out WA HI.out.below).at' k (by have := HNW.out; omega)
      obtain ⟨y, hy⟩ : ∃ y, ws.getD k 0 = y := ⟨_, rfl⟩
      rw [hy] at cw
      have HY := hide hy
      clear hy
      by_cases hsk : selW S k = true
      · have HSK := hide hsk
        have hskip : ¬ (0 < k ∧ (bits .and .u8 ((S : Int) / 2 ^ k) 1 == 1) = true) := fun h => by
          rw [bit_sel S k hS] at h
          unfold selW at hsk
          simp [h.1] at hsk
          simp at h
          omega
        have HPO := hide (postings_any WA _ us0 ts (HT.out WA HI.out.below) y (by have := HN.out; omega) HLL.out)
        clear hsk
        go_wp2_with (first
          | (go_at_call 35; refine HPO.out.mono ?_; rintro e w3 ⟨u, zs, rfl, hp, hps, hb, hfr⟩; obtain ⟨pa, pc, rfl⟩ := hp.shape; obtain ⟨pn, hpn⟩ : ∃ pn, zs.length = pn := ⟨_, rfl⟩; rw [hpn] at hp ⊢; obtain ⟨b7, d7, w4, hr7, b8, d8, w5, hr8, hr⟩ := take_word WA w.heap.size _ us ls _ _ HI.out.ps HI.out.js HI.out.s7 HI.out.s8 HI.out.s78 w3 hb pa pn pc zs hp hfr (by have := HM7.out; omega) (by have := HI.out.len; have := HM7.out; omega) HI.out.below.size (k : Int); rw [show (nJ (selW S) k).length = us.length by have := HI.out.len; omega] at hr8 hr; rw [← HM7.out] at hr7 hr8 hr; have HR7 := hide hr7; have HR8 := hide hr8; have HR := hide hr; have HPS := hide hps; clear HPO hp hps hb hfr hpn hr7 hr8 hr)
          | (at_builtin; (with_reducible refine wpList_append_run _ rfl (.tmp 56) (.tmp 60) 45 rfl _ _ ?_ ?_ _ _ HR7.out ?_); exact rfl; exact rfl; clear HR7)
          | (at_builtin; (with_reducible refine wpList_append_run _ rfl (.tmp 62) (.tmp 64) 44 rfl _ _ ?_ ?_ _ _ HR8.out ?_); exact rfl; exact rfl; clear HR8))
        all_goals try (exfalso; exact hskip ⟨by assumption, by assumption⟩)
        all_goals (
          go_roundg (GK - 1)
          case measure => have := HGK.out; have := HG.out; omega
          case rel =>
            obtain ⟨q1, q2, q3, q4, q5, q6⟩ := HR.out
            refine ⟨k + 1, _, _, _, _, _, _, _, by have := HGK.out; have := HG.out; omega, by go_num, rfl, rfl, by rw [List.length_append, HM7.out]; rfl, by omega, ⟨q1, ?_, ?_, q3, q4, q5, HI.out.below.trans q6⟩⟩
            · rw [nJ_succ, if_pos HSK.out]; exact q2
            · rw [selL_snoc, if_pos HSK.out, List.map_append, List.map_append, HI.out.eq, List.map_cons, List.map_cons, HPS.out, ← HY.out]; rfl)
      · have HSK := hide hsk
        have hskip : 0 < k ∧ (bits .and .u8 ((S : Int) / 2 ^ k) 1 == 1) = true := by
          rw [bit_sel S k hS]
          unfold selW at hsk
          simp at hsk
          simp
          omega
        have hsk1 := hskip.1
        have hsk2 := hskip.2
        clear hsk hskip
        go_wp2
        go_roundg (GK - 1)
        case measure => have := HGK.out; have := HG.out; omega
        case rel =>
          have hI := HI.out
          refine ⟨k + 1, us, ls, a7, m7, c7, a8, c8, by have := HGK.out; have := HG.out; omega, by go_num, rfl, rfl, HM7.out, by omega, ⟨hI.ps, ?_, ?_, hI.s7, hI.s8, hI.s78, hI.below⟩⟩
          · rw [nJ_succ, if_neg HSK.out, List.append_nil]; exact hI.js
          · rw [selL_snoc, if_neg HSK.out, List.append_nil]; exact hI.eq
    · obtain rfl : k = nw := by omega
      have hI := HI.out
      have hm7k : m7 = (selL S k).length := by rw [HM7.out]; exact hI.len.1
      obtain ⟨sl, hsl⟩ := sel_head (selW S) rfl k (by omega)
      have hpos : 0 < m7 := by
        rw [hm7k]
        show 0 < ((List.range k).filter (selW S)).length
        rw [hsl]
        simp
      have HWB : Hid (Below w.heap.size w WA) := hI.below
      obtain ⟨ao8, cap8, he8, hc81, hc82, h83⟩ := hI.js.is
      simp only [Value.slice.injEq] at he8
      obtain ⟨rfl, hm8, rfl⟩ := he8
      obtain ⟨b8, o8, rfl, hc8⟩ := h83 (fun e => by rw [e] at hm8; simp at hm8; omega)
      have hsl2 : (nJ (selW S) k) = (selL S k).map (fun o : Nat => (o : Int)) := rfl
      have HV8 : Hid (∀ W, Below WA.heap.size WA W → ∀ q, q < m7 → ∃ o : Nat, (selL S k)[q]? = some o ∧ o < k ∧ W.cell? ⟨b8, o8 + q, none⟩ = some (.int .i64 (o : Int))) := fun W hb q hq => by
        have hq2 : q < (selL S k).length := by omega
        refine ⟨(selL S k)[q], List.getElem?_eq_getElem hq2, ?_, ?_⟩
        · have := List.getElem_mem hq2
          unfold selL at this
          exact List.mem_range.1 (List.mem_filter.1 this).1
        · have := cell_belowL hb (hc8 q (by rw [← hm8]; exact hq))
          rw [this, hsl2]
          simp [List.getD, hq2]
      obtain ⟨wb, woff, rfl, _⟩ := (HW.out WA hI.below).at' 0 (by have := HNW.out; omega)
      have HWC : Hid (∀ W, Below w.heap.size w W → ∀ o, o < k → W.cell? ⟨wb, woff + o, none⟩ = some (.int .u8 (ws.getD o 0))) := fun W hb o ho => by
        obtain ⟨_, _, he, hc⟩ := (HW.out W hb).at' o (by have := HNW.out; omega)
        simp only [Option.some.injEq, Addr.mk.injEq] at he
        obtain ⟨rfl, rfl, _⟩ := he
        exact hc
      have HMK := hide hm7k
      have HSLH := hide hsl
      clear hI hm7k hsl hc81 hc82 h83 hm8 hc8 hsl2
      go_wp2
      go_loopg [11, 69] n (fun g l11 l69 wr => ∃ (i : Nat) (zs : List PE) (a : Option Addr) (c : Nat), g + i = n ∧ l69 = .int .i64 (i : Int) ∧ l11 = .slice a zs.length c ∧ PpO wr WA.heap.size (.slice a zs.length c) zs ∧ posOf zs = plL (wantR ws S k) 1 (ts.take i) ∧ Below WA.heap.size WA wr ∧ ∀ t ∈ ts.take i, t.length ≤ 200)
      case atStart => exact ⟨0, [], none, 0, by omega, rfl, rfl, PpO.nil _ _, by rw [List.take_zero]; rfl, Below.refl _ _, fun t ht => by rw [List.take_zero] at ht; cases ht⟩
      case round =>
        obtain ⟨i, zs, za, zc, hg, rfl, rfl, hpp, hps, hb, h200⟩ := hrel
        have H200 := hide h200
        have HPP := hide hpp
        have HPS := hide hps
        have HB := hide hb
        have HBW : Hid (Below w.heap.size w wr) := HWB.out.trans (hb.mono HWB.out.size)
        obtain ⟨GK, hGK⟩ : ∃ x, gk = x := ⟨_, rfl⟩
        have HGK := hide hGK
        have HG : Hid (gk + i = n) := hg
        have hzl : zs.length ≤ i := by
          have e : zs.length = (plL (wantR ws S k) 1 (ts.take i)).length := by rw [← hps]; simp [posOf]
          rw [e]
          exact Nat.le_trans (plL_len _ _ _) (by rw [List.length_take]; omega)
        obtain ⟨zn, hzn⟩ : ∃ n, zs.length = n := ⟨_, rfl⟩
        have HZN := hide hzn
        rw [hzn] at HPP hzl ⊢
        clear hpp hps hb hGK hzn h200
        by_cases hk : i < n
        · obtain ⟨b, off, rfl, c1, hs⟩ := (HT.out wr HBW.out).at i (by have := (HT.out wr HBW.out).1; have := HN.out; omega)
          have hkt : i < ts.length := by have := HN.out; omega
          obtain ⟨t, ht⟩ : ∃ t, ts.getD i [] = t := ⟨_, rfl⟩
          have ht2 : ts[i] = t := by rw [← ht]; simp [List.getD, hkt]
          rw [show (Value.slice none 0 0) = nilS from rfl, ht] at hs
          obtain ⟨ta, tc, htv, htc1, htc2⟩ := hs.shape
          unfold maxLen at htc2
          rw [show (Value.slice none 0 0) = nilS from rfl, htv] at c1
          rw [htv] at hs
          have HSL := hide hs
          have HTK : Hid (ts.take (i + 1) = ts.take i ++ [t]) := by show _ = _; rw [take_snoc ts i hkt, ht2]
          obtain ⟨m, hm⟩ : ∃ m, t.length = m := ⟨_, rfl⟩
          have HM := hide hm
          rw [hm] at c1 HSL htc1
          obtain ⟨WR, hWR⟩ : ∃ y, y = wr := ⟨_, rfl⟩
          subst hWR
          have hkk : (i : Int) < (n : Int) := by omega
          by_cases hm200 : (200 : Int) < (m : Int)
          · clear hs ht ht2 htv hm hkt
            go_wp2
            go_ret
            exact ⟨rfl, HBW.out⟩
          obtain ⟨W1, hW1⟩ : ∃ W1, WR.alloc (.cells #[.int .u32 ((i : Int) + 1), .slice none 0 0] 63) = W1 := ⟨_, rfl⟩
          have hb1 : Below WR.heap.size WR W1 := by rw [← hW1]; exact (Below.refl _ WR).alloc (Nat.le_refl _) _
          have hB1 : Blk W1 WR.heap.size 63 [.int .u32 ((i : Int) + 1), .slice none 0 0] := by rw [← hW1]; exact Blk.new WR _ _
          have HW1 := hide hW1
          have HB1 := hide hb1
          have HBX := hide hB1
          have hw1' : IntKind.i64.wrap ((i : Int) + 1) = (i : Int) + 1 := IntWalk.i64_in _ (by omega)
          have hw2' : IntKind.u32.wrap ((i : Int) + 1) = (i : Int) + 1 := IntWalk.u32_in _ (by omega)
          have hs1 : W1.heap.size = WR.heap.size + 1 := by rw [← hW1]; simp
          have HS1 := hide hs1
          clear hs ht ht2 htv hm hb1 hB1 hW1 hs1 hkt
          go_wp2
          rw [HW1.out]
          go_loopg [83] m (fun g l83 wx => ∃ (j : Nat) (u : Value), g + j = m ∧ l83 = .int .i64 (j : Int) ∧ Blk wx WR.heap.size 63 [.int .u32 ((i : Int) + 1), u] ∧ Ints wx (WR.heap.size + 1) u (nJ (rowsQ ws S k t) j) ∧ Below WR.heap.size W1 wx ∧ WR.heap.size + 1 ≤ wx.heap.size)
          case atStart => exact ⟨0, _, by omega, rfl, HBX.out, Ints.nil _ _, Below.refl _ _, by rw [HS1.out]; exact Nat.le_refl _⟩
          case round =>
            obtain ⟨j, u, hgj, rfl, hbx, hi, hbj, hsj⟩ := hrel
            have HBJ := hide hbj
            have HIJ := hide hi
            have HBXJ := hide hbx
            have HSJ := hide hsj
            have HGJ : Hid (gk + j = m) := hgj
            obtain ⟨GJ, hGJ⟩ : ∃ x, gk = x := ⟨_, rfl⟩
            have HGJK := hide hGJ
            have hnl : (nJ (rowsQ ws S k t) j).length ≤ j := nJ_len _ _
            obtain ⟨nl, hnl2⟩ : ∃ x, (nJ (rowsQ ws S k t) j).length = x := ⟨_, rfl⟩
            obtain ⟨ua, uc, rfl⟩ := hi.shape
            rw [hnl2] at HBXJ HIJ hnl hbx
            have HNL := hide hnl2
            have HWR2 : Hid (Below WR.heap.size WR wr) := HB1.out.trans hbj
            by_cases hj : j < m
            · obtain ⟨WX, hWX⟩ : ∃ y, y = wr := ⟨_, rfl⟩
              subst hWX
              obtain ⟨_, ta', tc', he, _, _, _, hcell⟩ := HSL.out
              simp only [Value.slice.injEq] at he
              obtain ⟨rfl, hmm, rfl⟩ := he
              clear hmm
              obtain ⟨b2, off2, rfl, hcc⟩ := hcell (by intro e; have := HM.out; rw [e] at this; simp at this; omega)
              have HTC : Hid (∀ W, Below WR.heap.size WR W → ∀ x, x < m → W.cell? ⟨b2, off2 + x, none⟩ = some (.int .u8 (t.getD x 0))) := fun W hb x hx => cell_belowL hb (hcc x (by have := HM.out; omega))
              have hjj : (j : Int) < (m : Int) := by omega
              clear hcell hcc hbx hi hbj hsj hnl2 hGJ
              go_wp2
              go_loopg [16, 88] m7 (fun g l16 l88 wr => ∃ q : Nat, g + q = m7 ∧ l88 = .int .i64 (q : Int) ∧ l16 = .bool (((selL S k).take q).all (chkW (fun o => ws.getD o 0) t j)) ∧ Only (fun _ => False) WX wr)
              case atStart => exact ⟨0, by omega, rfl, by rw [List.take_zero]; rfl, Only.refl _ _⟩
              case round =>
                obtain ⟨q, hgq, rfl, rfl, hoq⟩ := hrel
                have HO := hide hoq
                have HGQ : Hid (gk + q = m7) := hgq
                obtain ⟨GQ, hGQ⟩ : ∃ x, gk = x := ⟨_, rfl⟩
                have HGQK := hide hGQ
                have hbw : Below WX.heap.size WX wr := hoq.below (Nat.le_refl _) (fun _ _ h => h)
                have HBQ : Hid (Below WR.heap.size WR wr) := HWR2.out.trans (hbw.mono HWR2.out.size)
                have HBQW : Hid (Below w.heap.size w wr) := HBW.out.trans (HBQ.out.mono HBW.out.size)
                have HBQA : Hid (Below WA.heap.size WA wr) := HB.out.trans (HBQ.out.mono HB.out.size)
                clear hoq hbw hGQ
                by_cases hq : q < m7
                · have hqq : (q : Int) < (m7 : Int) := by omega
                  obtain ⟨o, ho1, ho2, co⟩ := HV8.out wr HBQA.out q hq
                  have HSN := hide (all_snoc (selL S k) (chkW (fun o => ws.getD o 0) t j) q o ho1)
                  obtain ⟨bb, hbb⟩ : ∃ bb, ((selL S k).take q).all (chkW (fun o => ws.getD o 0) t j) = bb := ⟨_, rfl⟩
                  rw [hbb] at HSN ⊢
                  clear ho1 hbb
                  have c1w := HWC.out wr HBQW.out o ho2
                  obtain ⟨y2, hy2⟩ : ∃ y, ws.getD o 0 = y := ⟨_, rfl⟩
                  rw [hy2] at c1w
                  have HY2 := hide hy2
                  clear hy2
                  cases bb with
                  | false =>
                    go_wp2
                    go_quiet (fail)
                    go_wp2
                    go_roundg (GQ - 1)
                    case measure => have := HGQK.out; have := HGQ.out; omega
                    case rel => exact ⟨q + 1, by have := HGQK.out; have := HGQ.out; omega, by go_num, by rw [HSN.out]; rfl, HO.out.noneN _⟩
                  | true =>
                    by_cases hom : (o : Int) < (m : Int) - (j : Int)
                    · have c1t := HTC.out wr HBQ.out (j + o) (by omega)
                      obtain ⟨y1, hy1⟩ : ∃ y, t.getD (j + o) 0 = y := ⟨_, rfl⟩
                      rw [hy1] at c1t
                      have HCK : Hid (chkW (fun o => ws.getD o 0) t j o = decide (y1 = y2)) := by
                        show _ = _
                        have hlt : j + o < t.length := by have := HM.out; omega
                        unfold chkW isW
                        rw [← hy1, ← HY2.out, decide_eq_true hlt, Bool.true_and]
                        simp [List.getD, hlt]
                      clear hy1
                      by_cases hyy : y1 = y2
                      · go_wp2
                        go_quiet (fail)
                        go_wp2
                        go_roundg (GQ - 1)
                        case measure => have := HGQK.out; have := HGQ.out; omega
                        case rel => exact ⟨q + 1, by have := HGQK.out; have := HGQ.out; omega, by go_num, by rw [HSN.out, HCK.out, decide_eq_true hyy]; rfl, HO.out.noneN _⟩
                      · go_wp2
                        go_quiet (fail)
                        go_wp2
                        go_roundg (GQ - 1)
                        case measure => have := HGQK.out; have := HGQ.out; omega
                        case rel => exact ⟨q + 1, by have := HGQK.out; have := HGQ.out; omega, by go_num, by rw [HSN.out, HCK.out, decide_eq_false hyy, show (y1 == y2) = false by simpa using hyy]; rfl, HO.out.noneN _⟩
                    · have HCK : Hid (chkW (fun o => ws.getD o 0) t j o = false) := by
                        show _ = _
                        unfold chkW
                        rw [decide_eq_false (by have := HM.out; omega), Bool.false_and]
                      go_wp2
                      have hd : decide ((o : Int) < (m : Int) - (j : Int)) = false := decide_eq_false (by omega)
                      go_quiet (fail)
                      go_wp2
                      go_roundg (GQ - 1)
                      case measure => have := HGQK.out; have := HGQ.out; omega
                      case rel => exact ⟨q + 1, by have := HGQK.out; have := HGQ.out; omega, by go_num, by rw [HSN.out, HCK.out]; rfl, HO.out.noneN _⟩
                · obtain rfl : q = m7 := by omega
                  have HAL : Hid (((selL S k).take q).all (chkW (fun o => ws.getD o 0) t j) = rowsQ ws S k t j) := by
                    show _ = _
                    rw [List.take_of_length_le (by have := HMK.out; omega)]
                    rfl
                  obtain ⟨bb, hbb⟩ : ∃ bb, ((selL S k).take q).all (chkW (fun o => ws.getD o 0) t j) = bb := ⟨_, rfl⟩
                  rw [hbb] at HAL ⊢
                  have HNX := hide (nJ_succ (rowsQ ws S k t) j)
                  have HBX2 := hide (HBXJ.out.only HO.out (fun h => h))
                  have HI2 := hide (HIJ.out.only HO.out (fun _ _ h => h))
                  have cu : wr.cell? ⟨WR.heap.size, 1, none⟩ = some (.slice ua nl uc) := HBX2.out.cell 1
                  have cf := HBX2.out.frozen 1
                  have hszo := HO.out.size
                  have HSZ : Hid (WR.heap.size + 1 ≤ wr.heap.size) := Nat.le_trans HSJ.out hszo
                  have HBJ2 : Hid (Below WR.heap.size W1 wr) := HBJ.out.trans (HO.out.below (Nat.le_trans (Nat.le_succ _) HSJ.out) (fun _ _ h => h))
                  clear hbb hszo
                  cases bb with
                  | true =>
                    obtain ⟨v2, w3, hr, hi2, hg2, hv2, ao2, cap2, rfl⟩ := run_append_intL wr (WR.heap.size + 1) _ _ HI2.out (j : Int) (by rw [HNL.out]; omega) HSZ.out
                    have hown : ∀ q, (Value.slice ua nl uc).ownBlock = some q → WR.heap.size + 1 ≤ q := fun q hq => (Ints.lt (by have := HI2.out; exact this) q hq).1
                    have hoA : Only (fun q => (Value.slice ua nl uc).ownBlock = some q) wr w3 := ((Only.refl _ wr).alloc _).grown hg2 (fun q e _ => e)
                    have hB3 := HBX2.out.only hoA (fun e => by have := hown _ e; omega)
                    have cc3 : w3.cell? ⟨WR.heap.size, 1, none⟩ = some (.slice ua nl uc) := hB3.cell 1
                    have ff3 := hB3.frozen 1
                    rw [HNL.out] at hr hi2 hv2
                    have HR := hide hr
                    have HI3 := hide hi2
                    have HV2 := hide hv2
                    have HOA := hide hoA
                    have HB3 := hide hB3
                    have HOW := hide hown
                    clear hr hi2 hv2 hg2 hoA hB3 hown
                    go_wp2_with (at_builtin; (with_reducible refine wpList_append_run _ rfl (.tmp 117) (.tmp 119) 44 rfl _ _ ?_ ?_ _ _ HR.out ?_); exact rfl; exact rfl; clear HR)
                    go_roundg (GJ - 1)
                    case measure => have := HGJK.out; have := HGJ.out; omega
                    case rel =>
                      have hoB : Only (· = WR.heap.size) w3 (w3.setCell ⟨WR.heap.size, 1, none⟩ (.slice ao2 (nl + 1) cap2)) := (Only.refl (· = WR.heap.size) w3).setCell ⟨WR.heap.size, 1, none⟩ _ (fun _ => rfl)
                      have hv3 : ∀ q, (Value.slice ao2 (nl + 1) cap2).ownBlock = some q → WR.heap.size + 1 ≤ q := fun q hq => by
                        rcases HV2.out with e | e
                        · exact HOW.out q (e ▸ hq)
                        · rw [e] at hq
                          have := Option.some.inj hq
                          have := HSZ.out
                          omega
                      refine ⟨j + 1, _, by have := HGJK.out; have := HGJ.out; omega, by go_num, HB3.out.set 1 _, ?_, ?_, ?_⟩
                      · rw [HNX.out, if_pos HAL.out.symm]
                        exact HI3.out.only hoB (fun q hq e => by have := hv3 q hq; omega)
                      · exact (HBJ2.out.trans (HOA.out.below (by have := HSZ.out; omega) (fun q hq e => by have := HOW.out q e; omega))).trans (hoB.below (by have := HOA.out.size; have := HSZ.out; omega) (fun q hq e => by omega))
                      · have := HOA.out.size
                        have := hoB.size
                        have := HSZ.out
                        omega
                  | false =>
                    go_wp2
                    go_roundg (GJ - 1)
                    case measure => have := HGJK.out; have := HGJ.out; omega
                    case rel => exact ⟨j + 1, _, by have := HGJK.out; have := HGJ.out; omega, by go_num, HBX2.out, by rw [HNX.out, if_neg (by rw [← HAL.out]; exact Bool.false_ne_true), List.append_nil]; exact HI2.out, HBJ2.out, HSZ.out⟩
            · obtain rfl : j = m := by omega
              have cu : wr.cell? ⟨WR.heap.size, 1, none⟩ = some (.slice ua nl uc) := hbx.cell 1
              have cd : wr.cell? ⟨WR.heap.size, 0, none⟩ = some (.int .u32 ((i : Int) + 1)) := hbx.cell 0
              have cf := hbx.frozen 1
              clear hbx hi hbj hsj hnl2 hGJ
              have HPZ : Hid (wantR ws S k t = nJ (rowsQ ws S k t) j) := by show _ = _; unfold wantR; rw [HM.out]
              have HPW := hide ((HPP.out).fresh HWR2.out)
              have hwz : WA.heap.size ≤ wr.heap.size := Nat.le_trans HB.out.size HWR2.out.size
              have H201 : Hid (∀ x ∈ ts.take (i + 1), x.length ≤ 200) := fun x hx => by
                rw [HTK.out] at hx
                rcases List.mem_append.1 hx with h | h
                · exact H200.out x h
                · rw [List.mem_singleton] at h
                  subst h
                  have := HM.out
                  omega
              by_cases hnl0 : nl = 0
              · subst hnl0
                have HNE : Hid (wantR ws S k t = []) := by show _ = _; rw [HPZ.out]; exact List.eq_nil_of_length_eq_zero HNL.out
                clear HPZ
                go_wp2
                go_roundg (GK - 1)
                case measure => have := HGK.out; have := HG.out; omega
                case rel =>
                  refine ⟨i + 1, zs, za, zc, by have := HGK.out; have := HG.out; omega, by go_num, by rw [HZN.out], by rw [HZN.out]; exact HPW.out, ?_, HB.out.trans (HWR2.out.mono HB.out.size), H201.out⟩
                  rw [HTK.out, plL_snoc, if_pos HNE.out, List.append_nil]
                  exact HPS.out
              · have hnlp : (0 : Int) < (nl : Int) := by omega
                have HNE : Hid (wantR ws S k t ≠ []) := by show _ ≠ _; rw [HPZ.out]; intro e; have := HNL.out; rw [e] at this; simp at this; omega
                obtain ⟨v2, w3, hr, hp2, ho2, hv2, ao2, cap2, rfl⟩ := push_po wr WA.heap.size _ zs HPW.out (.slice ua nl uc, ⟨i + 1, nJ (rowsQ ws S k t) j⟩) (by show i + 1 < _; omega) (by exact HIJ.out.base (Nat.zero_le _)) rfl (by rw [HZN.out]; omega) hwz
                have hzl1 : (zs ++ [((.slice ua nl uc, ⟨i + 1, nJ (rowsQ ws S k t) j⟩) : PE)]).length = zs.length + 1 := by simp
                rw [hzl1, HZN.out] at hr hp2 hv2
                have hdd : (((i + 1 : Nat) : Int)) = (i : Int) + 1 := by omega
                simp only [hdd] at hr
                have HR := hide hr
                have HP2 := hide hp2
                have HO2 := hide ho2
                clear hr hp2 ho2 hv2 hzl1 hdd
                go_wp2_with (at_builtin; (with_reducible refine wpList_append_run _ rfl (.tmp 127) (.tmp 129) 47 rfl _ _ ?_ ?_ _ _ HR.out ?_); exact rfl; exact rfl; clear HR)
                go_roundg (GK - 1)
                case measure => have := HGK.out; have := HG.out; omega
                case rel =>
                  have hln : (zs ++ [((.slice ua nl uc, ⟨i + 1, nJ (rowsQ ws S k t) j⟩) : PE)]).length = zn + 1 := by rw [List.length_append, HZN.out]; rfl
                  refine ⟨i + 1, _, ao2, cap2, by have := HGK.out; have := HG.out; omega, by go_num, by rw [hln], by rw [hln]; exact HP2.out, ?_, ?_, H201.out⟩
                  · rw [HTK.out, plL_snoc, if_neg HNE.out, List.length_take, HN.out, Nat.min_eq_left (by omega)]
                    show posOf (zs ++ _) = _
                    unfold posOf at *
                    rw [List.map_append, HPS.out, HPZ.out]
                    simp [Nat.add_comm]
                  · have hle := HB.out.trans (HWR2.out.mono HB.out.size)
                    exact hle.trans (HO2.out.below hle.size (fun q hq e => by have := (HPW.out.lt q e.1).1; omega))
        · obtain rfl : i = n := by omega
          have HTA : Hid (ts.take i = ts) := List.take_of_length_le (by have := HN.out; omega)
          rw [HTA.out] at HPS H200
          have hI := HI.out
          have hIl := hI.len
          have hok : okPs ls = true := by
            unfold okPs
            rw [List.all_eq_true]
            intro l hl
            have hm : posOf l ∈ ls.map posOf := List.mem_map_of_mem hl
            rw [hI.eq] at hm
            obtain ⟨o, _, e⟩ := List.mem_map.1 hm
            rw [← e]
            exact plL_ok _ ts 1 0 (by omega) (by have := HN.out; omega) (fun t ht hne => nJ_posB _ _ (by have := H200.out t ht; omega) hne)
          have hE : phE (nJ (selW S) k) ls = 0 := by
            unfold phE
            rw [if_pos ⟨sel_offB (selW S) rfl k (by omega) (by omega), by rw [hIl.2, ← hIl.1, hI.ps.len]⟩, if_pos hok]
          have hL : phL (nJ (selW S) k) ls = plL (wantR ws S k) 1 ts := by
            unfold phL
            rw [if_pos hE, hI.eq]
            have := phrase_want (fun o => ws.getD o 0) ts sl
            rw [← HSLH.out] at this
            exact this
          have hll : ∀ x ∈ ls, x.length ≤ 100000 := fun x hx => by
            have hm : posOf x ∈ ls.map posOf := List.mem_map_of_mem hx
            rw [hI.eq] at hm
            obtain ⟨o, _, e⟩ := List.mem_map.1 hm
            have e2 := congrArg List.length e
            have h3 := plL_len (posZ (ws.getD o 0)) ts 1
            have h4 : (posOf x).length = x.length := by simp [posOf]
            have := HN.out
            omega
          have hph := phrase_any wr _ _ ((hI.js.is).below HB.out) _ us ls (hI.ps.fresh HB.out).read hll
          rw [hE, hL] at hph
          have HPH := hide hph
          clear hI hIl hok hE hL hll hph
          go_wp2_with (first
            | (go_at_call 31; refine HPH.out.mono ?_; rintro e w3 ⟨u, gs, rfl, hp, hpg, hb⟩; obtain ⟨ga, gc, rfl⟩ := hp.shape; have HSA := hide (refSameAll_any w3 _ _ _ _ _ _ hp.read (HPP.out.fresh hb).read); rw [show gs.map (·.2) = zs.map (·.2) from hpg.trans HPS.out.symm, sameAllP_refl] at HSA; have HB3 := hide (HBW.out.trans (hb.mono HBW.out.size)); clear HPH hp hpg hb)
            | (go_at_call 33; refine HSA.out.mono ?_; rintro e w4 ⟨rfl, hb⟩; have HB4 := hide (HB3.out.trans (hb.mono HB3.out.size)); clear HSA hb))
          go_ret
          exact ⟨rfl, HB4.out⟩
end Go.Proofs.Ytfihnmdhclnhgaa
