/- The walk of the statement FrameFault. -/
import Derived.Test.YtlnedhbeciepdaaDoorFOnly
namespace Go.Proofs.YtlnedhbeciepdaaDoor
open Go.RowKit
set_option linter.unusedVariables false

/-- facts of the first region's operations -/
def isZ : Value → World → Prop := fun v w => ∃ g, v = .slice (some ⟨g, 0, none⟩) 256 256 ∧ Blk w g 5 (pc (List.replicate 256 0))
def isT : Value → World → Prop := fun v _ => ∃ a n c, v = .tuple #[.agg #[.int .i64 0, .int .i64 0, .int .u64 0, .slice a n c], .int .i64 40]
def isA : Value → World → Prop := fun v _ => ∃ a n c, v = .agg #[.int .i64 0, .int .i64 0, .int .u64 0, .slice a n c]
def isFB (B : Nat) : Value → World → Prop := fun v w => ∃ g, v = .pointer (some ⟨g, 0, none⟩) ∧ FBlk B w g
def StF (B : Nat) (p : Value → World → Prop) : Prop := ∀ v w w', OnlyF B w w' → p v w → p v w'
theorem stF_z (B : Nat) : StF B isZ := fun v w w' ho ⟨g, h1, h2⟩ => ⟨g, h1, ho.blk h2 (by decide)⟩
theorem stF_fb (B : Nat) : StF B (isFB B) := fun v w w' ho ⟨g, h1, h2⟩ => ⟨g, h1, h2.keep ho⟩
theorem stF_v (B : Nat) (x : Value) : StF B (isV x) := fun _ _ _ _ h => h
theorem stF_t (B : Nat) : StF B isT := fun _ _ _ _ h => h
theorem stF_a (B : Nat) : StF B isA := fun _ _ _ _ h => h
theorem stF_true (B : Nat) : StF B (fun _ _ => True) := fun _ _ _ _ h => h
def AllF (B : Nat) : List (Value → World → Prop) → Prop
  | [] => True
  | p :: l => StF B p ∧ AllF B l
theorem allF_at {B : Nat} : ∀ (l : List (Value → World → Prop)), AllF B l → ∀ i v w w', OnlyF B w w' → FL l i v w → FL l i v w'
  | [], _, _, _, _, _, _, _ => by simp [FL]
  | p :: l, hs, 0, v, w, w', hb, h => hs.1 v w w' hb h
  | p :: l, hs, i + 1, v, w, w', hb, h => allF_at l hs.2 i v w w' hb h

theorem made_noughts (wx : World) : Blk (wx.alloc (.cells (madeCells #[Value.int .u8 0] 256) 5)) wx.heap.size 5 (pc (List.replicate 256 0)) := by
  have := Blk.new wx 5 (madeCells #[Value.int .u8 0] 256).toList
  rw [Array.toArray_toList] at this
  rw [toList_madeCells_one] at this
  unfold pc
  rw [List.map_replicate]
  exact this

theorem bx_set {w w1 : World} {f : Fm} (h : Bx w w1 f) (g j : Nat) (x : Value) (hg : w.heap.size < g) : Bx w (w1.setCell ⟨g, j, none⟩ x) f :=
  ⟨h.1.setCell (Nat.le_of_lt hg) _, h.2.setOther ⟨g, j, none⟩ x (by show w.heap.size ≠ g; omega)⟩

set_option maxRecDepth 20000 in
set_option maxHeartbeats 16000000 in
theorem frameFault_walk (w : World) (v : Value) (f : Fm) (zs : List Int) (a1 a2 : Int) (hf : FrIn w v f zs) (u1 : (Lit.int .u16 a1).wf = true) (u2 : (Lit.int .u32 a2).wf = true) (hT : Tab w) :
    Calls Tryd.prog 6 #[v, .int .u16 a1, .int .u32 a2] w fun e w' => e = .returned (.bool true) ∧ Below w.heap.size w w' := by
  have b1 := bounds_u16 u1
  have b2 := bounds_u32 u2
  obtain ⟨Pt, rfl⟩ := Int.eq_ofNat_of_zero_le b1.1
  obtain ⟨N, rfl⟩ := Int.eq_ofNat_of_zero_le b2.1
  clear u1 u2
  obtain ⟨rfl, hS, he⟩ := hf
  obtain ⟨k, p, e, a, n, c⟩ := f
  simp only at hS he
  obtain rfl := (sl_cap hS).1
  unfold Fm.val
  simp only
  obtain ⟨i0, hi, hz0, hz1, hz2⟩ := info_parts infoU8
  have hmk : ∀ wx : World, (Instr.makeSlice 23 (.int .i64 256) (.int .i64 256)).run Tryd.prog wx = .ok (.slice (some ⟨wx.heap.size, 0, none⟩) 256 256) (wx.alloc (.cells (madeCells #[Value.int .u8 0] 256) 5)) := by
    intro wx
    have := run_make (P := Tryd.prog) wx 23 5 i0 (.int .u8 0) Tryd.underlying23 hi hz0 .i64 .i64 256 256 (by omega) (by omega) (by rw [hz2]; omega) (by omega)
    rw [hz1, Nat.mul_one] at this
    exact this
  have hza := zeroFrameRun
  have hN := Bx.new w ⟨k, p, e, a, zs.length, c⟩
  have HL := hide (live_bx w ⟨k, p, e, a, zs.length, c⟩ hT)
  have HS := hide (short_bx w ⟨k, p, e, a, zs.length, c⟩)
  simp only at hN HS
  clear hi hz0 hz1 hz2
  go_enter Tryd.func6, Tryd.ntmps6
  go_wp2
  obtain ⟨W, hW⟩ : ∃ W, W = w.alloc (.cells #[.int .i64 k, .int .i64 p, .int .u64 e, .slice a zs.length c] 25) := ⟨_, rfl⟩
  rw [← hW] at hN ⊢
  have HN := hide hN
  have HC1 : Hid (∀ wx, OnlyF W.heap.size W wx → wx.cell? ⟨w.heap.size, 1, none⟩ = some (.int .i64 p)) := fun wx ho => (HN.out.below (ho.below (Nat.le_refl _))).cells.2.1
  have HTW : Hid (∀ wx, OnlyF W.heap.size W wx → Tab wx) := fun wx ho => (hT.below HN.out.1).below (ho.below (Nat.le_refl _))
  have HSZ : Hid (∀ wx, OnlyF W.heap.size W wx → W.heap.size ≤ wx.heap.size) := fun wx ho => ho.size
  clear hN hW
  refine wp_region_last (FL [isZ, isV (.pointer (some ⟨w.heap.size, 1, none⟩)), isV (.int .i64 p), isT, isT, isA, isV (.int .i64 40), isFB W.heap.size, (fun _ _ => True)]) (Only (fun _ => False)) (OnlyF W.heap.size) 8 85 9 (by kernel_rfl) (by kernel_rfl) (by kernel_rfl) (by kernel_rfl) rfl (fun _ _ h => OnlyF.of_only h) (fun _ _ _ h k => h.trans k (fun _ _ h => h)) (fun _ _ _ h k => h.trans k) (Only.refl _ _).drew ?_ ?_ ?_ ?_
  · exact fun i v a b h => allF_at (B := W.heap.size) [isZ, isV (.pointer (some ⟨w.heap.size, 1, none⟩)), isV (.int .i64 p), isT, isT, isA, isV (.int .i64 40), isFB W.heap.size, (fun _ _ => True)] ⟨stF_z _, stF_v _ _, stF_v _ _, stF_t _, stF_t _, stF_a _, stF_v _ _, stF_fb _, stF_true _, trivial⟩ i v a b (OnlyF.of_only h)
  · exact fun i v a b _ h => allF_at (B := W.heap.size) [isZ, isV (.pointer (some ⟨w.heap.size, 1, none⟩)), isV (.int .i64 p), isT, isT, isA, isV (.int .i64 40), isFB W.heap.size, (fun _ _ => True)] ⟨stF_z _, stF_v _ _, stF_v _ _, stF_t _, stF_t _, stF_a _, stF_v _ _, stF_fb _, stF_true _, trivial⟩ i v a b h
  · refine ⟨?_, ?_, ?_, ?_, ?_, ?_, ?_, ?_, ?_, trivial⟩
    · intro act wx h
      have hrel := h.rel
      clear h
      refine gives_by rfl act.eval rfl ?_
      generalize act.eval = ρ at *
      intro hf hc
      go_simp
      exact ⟨relM_quiet (by decide) ((Only.refl _ wx).alloc _), _, rfl, made_noughts wx⟩
    · intro act wx h
      have e3 : act.eval (.tmp 3) = .pointer (some ⟨w.heap.size, 0, none⟩) := h.old 3 (by kernel_rfl)
      have hrel := h.rel
      clear h
      refine gives_by rfl act.eval rfl ?_
      generalize act.eval = ρ at *
      intro hf hc
      go_simp
      exact ⟨relM_quiet (by decide) (Only.refl _ _), rfl⟩
    · intro act wx h
      obtain ⟨v14, e14, f14⟩ := h.val 1 14 (by kernel_rfl)
      obtain rfl : v14 = .pointer (some ⟨w.heap.size, 1, none⟩) := f14
      have hrel := h.rel
      clear h
      have c1x := HC1.out wx hrel
      refine gives_by rfl act.eval rfl ?_
      generalize act.eval = ρ at *
      intro hf hc
      go_simp
      exact ⟨relM_quiet (by decide) (Only.refl _ _), rfl⟩
    · intro act wx h
      obtain ⟨v13, e13, f13⟩ := h.val 0 13 (by kernel_rfl)
      obtain ⟨g0, rfl, hB0⟩ := f13
      obtain ⟨v15, e15, f15⟩ := h.val 2 15 (by kernel_rfl)
      obtain rfl : v15 = .int .i64 p := f15
      have hrel := h.rel
      clear h
      refine gives_by rfl act.eval rfl ?_
      generalize act.eval = ρ at *
      intro hf hc
      go_simp
      refine (get_noughts wx (HTW.out wx hrel) g0 p hB0).mono ?_
      rintro e' w' ⟨a3, n3, c3, rfl, hb3⟩
      exact ⟨_, rfl, relM_quiet (by decide) (Only.of_below _ hb3), a3, n3, c3, rfl⟩
    · intro act wx h
      obtain ⟨v16, e16, f16⟩ := h.val 3 16 (by kernel_rfl)
      obtain ⟨a3, n3, c3, rfl⟩ := f16
      have hrel := h.rel
      clear h
      refine gives_by rfl act.eval rfl ?_
      generalize act.eval = ρ at *
      intro hf hc
      go_simp
      exact ⟨relM_quiet (by decide) (Only.refl _ _), a3, n3, c3, rfl⟩
    · intro act wx h
      obtain ⟨v12, e12, f12⟩ := h.val 4 12 (by kernel_rfl)
      obtain ⟨a3, n3, c3, rfl⟩ := f12
      have hrel := h.rel
      clear h
      refine gives_by rfl act.eval rfl ?_
      generalize act.eval = ρ at *
      intro hf hc
      go_simp
      exact ⟨relM_quiet (by decide) (Only.refl _ _), a3, n3, c3, rfl⟩
    · intro act wx h
      obtain ⟨v12, e12, f12⟩ := h.val 4 12 (by kernel_rfl)
      obtain ⟨a3, n3, c3, rfl⟩ := f12
      have hrel := h.rel
      clear h
      refine gives_by rfl act.eval rfl ?_
      generalize act.eval = ρ at *
      intro hf hc
      go_simp
      exact ⟨relM_quiet (by decide) (Only.refl _ _), rfl⟩
    · intro act wx h
      have hrel := h.rel
      clear h
      refine gives_by rfl act.eval rfl ?_
      generalize act.eval = ρ at *
      intro hf hc
      go_simp
      exact ⟨relM_quiet (by decide) ((Only.refl _ wx).alloc _), _, rfl, HSZ.out wx hrel, _, rfl, Blk.new wx _ [.int .i64 0, .int .i64 0, .int .u64 0, .slice none 0 0]⟩
    · intro act wx h
      obtain ⟨v7, e7, f7⟩ := h.val 7 7 (by kernel_rfl)
      obtain ⟨g7, rfl, hF7⟩ := f7
      obtain ⟨v17, e17, f17⟩ := h.val 5 17 (by kernel_rfl)
      obtain ⟨a3, n3, c3, rfl⟩ := f17
      have hrel := h.rel
      have hq := h.relq rfl
      clear h
      obtain ⟨hB7, cs7, hl7, hb7⟩ := hF7
      exact gives_of_skip rfl (exec_store_mid 25 (.tmp 7) (.tmp 17) rfl g7 0 #[.int .i64 0, .int .i64 0, .int .u64 0, .slice a3 n3 c3] e7 e17 (hb7.there 0 4 (by omega)) sizeFrame (by simp [Value.oneCell'])) ⟨relM_turn (FBlk.store ⟨hB7, cs7, hl7, hb7⟩ _ rfl), trivial⟩
  · intro oL hoL vals w3 ho3 hv
    simp only [List.getElem?_toArray, List.getElem?_cons_succ, List.getElem?_cons_zero, Option.some.injEq] at hoL
    subst hoL
    have hv6 : vals 6 = .int .i64 40 := hv 6 18 (by decide) (by kernel_rfl)
    clear hv
    have b3 := HN.out.below (ho3.below (Nat.le_refl _))
    have HB3 := hide b3
    clear ho3 b3 HN HC1 HTW HSZ
    generalize hact : putAll _ vals 0 _ = act
    subst hact
    simp only [List.dropLast, putAll, Act.put, List.setIfInBounds_toArray, List.set_cons_zero, List.set_cons_succ, hv6, Nat.zero_add, Nat.reduceAdd]
    refine gives_of_run rfl (exec_assign (.tmp 18) rfl (.int .i64 40) rfl) ?_
    clear hv6
    by_cases hn : zs.length ≤ 3000
    · rw [decide_eq_true hn] at HS
      by_cases hc : checkS k p zs.length = 0
      · obtain ⟨hk, hp, hz⟩ := checkS_ok.1 hc
        obtain ⟨K, rfl⟩ : ∃ K : Nat, k = K := ⟨k.toNat, by omega⟩
        obtain ⟨P, rfl⟩ : ∃ P : Nat, p = P := ⟨p.toNat, by omega⟩
        by_cases hN0 : N = 0
        · subst hN0
          have HP := hide (puts_bx w K P e a zs.length c zs hS hT (by omega) (by omega) he (by omega))
          clear hS hT hc hmk hza
          go_wp2_with (first
            | (go_at_call 8; refine (HL.out _ HB3.out).mono ?_; rintro e1 w4 ⟨rfl, b4⟩; obtain ⟨c0, c1, c2, c3⟩ := b4.cells; have HS4 := hide (HS.out w4 b4); clear HB3 HS b4)
            | (go_at_call 9; refine HS4.out.mono ?_; rintro e1 w5 ⟨rfl, b5⟩; clear c0 c1 c2 c3; obtain ⟨c0, c1, c2, c3⟩ := b5.cells; have HP5 := hide (HP.out w5 _ b5); clear HS4 b5 HP)
            | (go_at_call 11; refine HP5.out.mono ?_; rintro e1 w6 ⟨a6, l6, rfl, S6, b6⟩; clear HP5 c0 c1 c2 c3 S6))
          go_ret
          exact ⟨rfl, b6.1⟩
        · have HP : Hid (∀ w1, Bx w w1 ⟨(K : Int), (P : Int), e, a, zs.length, c⟩ → Calls Tryd.prog 11 #[.agg #[.int .i64 K, .int .i64 P, .int .u64 e, .slice a zs.length c]] w1 fun r w2 => ∃ gb l6, r = .returned (.tuple #[.slice (some ⟨gb, 0, none⟩) 256 l6, .int .i64 0]) ∧ w2.ownsRow (w.heap.size + 1) 5 1 (.slice (some ⟨gb, 0, none⟩) 256 l6) 256 ((pageS K P e zs).map (Value.int .u8)) ∧ w.heap.size < gb ∧ Bx w w2 ⟨(K : Int), (P : Int), e, a, zs.length, c⟩) := by
            intro w1 hb
            refine (put_ok w1 K P e _ zs (hS.below hb.1) (hT.below hb.1) (by omega) (by omega) he (by omega)).mono ?_
            rintro r w2 ⟨u, rfl, ho, hb2⟩
            rcases ho.2 with ⟨_, h0⟩ | ⟨g, cap, cur, rfl, hg, _⟩
            · omega
            · have hlt := hb.2.lt
              exact ⟨g, cap, rfl, own_of_le ho hlt, Nat.lt_of_lt_of_le hlt hg, hb.below hb2⟩
          have HOKT : Hid (ByteOk (pageS K P e zs)) := pageS_ok (by omega) hS.bytes
          have HLT : Hid ((pageS K P e zs).length = 256) := pageS_len _ _ _ _
          have hfault := fun f h4 h8 => fault_get (bodyS K P e zs) f N P (bodyS_ok (by omega) hS.bytes) (bodyS_len _ _ _ _) (by omega) (by omega) h4 h8
          have hfault' : ∀ f, (f = 0 ∨ ∃ g, f = 4 + g) → f + 4 ≤ 256 → getS (turned (pageS K P e zs) f (le4 N)) P = noFr 40 := hfault
          clear hfault
          obtain ⟨T, hTT⟩ : ∃ T, T = pageS K P e zs := ⟨_, rfl⟩
          rw [← hTT] at HP HOKT HLT hfault'
          have hN0i : ((N : Int) == 0) = false := by simp; omega
          have d0 : (N : Int) % 256 = ((N % 256 : Nat) : Int) := by omega
          have d1 : (N : Int) / 256 % 256 = ((N / 256 % 256 : Nat) : Int) := by omega
          have d2 : (N : Int) / 65536 % 256 = ((N / 65536 % 256 : Nat) : Int) := by omega
          have d3 : (N : Int) / 16777216 = ((N / 16777216 % 256 : Nat) : Int) := by omega
          have HLE : Hid (le4 N = [((N % 256 : Nat) : Int), ((N / 256 % 256 : Nat) : Int), ((N / 65536 % 256 : Nat) : Int), ((N / 16777216 % 256 : Nat) : Int)]) := rfl
          have hq0 : N % 256 < 256 := by omega
          have hq1 : N / 256 % 256 < 256 := by omega
          have hq2 : N / 65536 % 256 < 256 := by omega
          have hq3 : N / 16777216 % 256 < 256 := by omega
          obtain ⟨q0, h0⟩ : ∃ q, q = N % 256 := ⟨_, rfl⟩
          obtain ⟨q1, h1⟩ : ∃ q, q = N / 256 % 256 := ⟨_, rfl⟩
          obtain ⟨q2, h2⟩ : ∃ q, q = N / 65536 % 256 := ⟨_, rfl⟩
          obtain ⟨q3, h3⟩ : ∃ q, q = N / 16777216 % 256 := ⟨_, rfl⟩
          rw [← h0] at d0 HLE hq0
          rw [← h1] at d1 HLE hq1
          rw [← h2] at d2 HLE hq2
          rw [← h3] at d3 HLE hq3
          have d3' : (q3 : Int) % 256 = (q3 : Int) := by omega
          clear hS hc hmk hza h0 h1 h2 h3 hTT
          by_cases hpar : Pt % 2 = 1
          · obtain ⟨R, hR, hR2⟩ : ∃ R : Nat, (Pt : Int) / 2 % 249 = (R : Int) ∧ R < 249 := ⟨Pt / 2 % 249, by omega, by omega⟩
            obtain ⟨f, hfR⟩ : ∃ f : Nat, f = 4 + R := ⟨_, rfl⟩
            have hfi : (4 : Int) + (R : Int) = (f : Int) := by omega
            have hf8 : f ≤ 252 := by omega
            have hg := hfault' f (.inr ⟨R, hfR⟩) (by omega)
            obtain ⟨C4, hC4⟩ : ∃ C, C = turned T f (le4 N) := ⟨_, rfl⟩
            rw [← hC4] at hg
            have HOK4 : Hid (ByteOk C4) := by show ByteOk C4; rw [hC4]; exact turned_ok T f _ HOKT.out (le4_ok N)
            have HC4 := hide hC4
            have HG := hide (fun w1 v hb h => gets_w w hT P w1 v _ hb h _ hg (by intro z hz; cases hz))
            simp only [noFr, List.length_nil] at HG
            have hpi : (Pt : Int) % 2 = 1 := by omega
            clear hg hC4 hfault' hT hfR
            go_wp2_with (first
              | (go_at_call 8; refine (HL.out _ HB3.out).mono ?_; rintro e1 w4 ⟨rfl, b4⟩; obtain ⟨c0, c1, c2, c3⟩ := b4.cells; have HS4 := hide (HS.out w4 b4); clear HB3 HS b4)
              | (go_at_call 9; refine HS4.out.mono ?_; rintro e1 w5 ⟨rfl, b5⟩; clear c0 c1 c2 c3; obtain ⟨c0, c1, c2, c3⟩ := b5.cells; have HP5 := hide (HP.out w5 b5); clear HS4 b5 HP)
              | (go_at_call 11; refine HP5.out.mono ?_; rintro e1 w6 ⟨gb, l6, rfl, O6, hgb, b6⟩; have HO6 := hide O6; have HB6 := hide b6; clear HP5 c0 c1 c2 c3 O6 b6))
            clear hpi hR hfi
            have hstart : w6.ownsRow (w.heap.size + 1) 5 1 (.slice (some ⟨gb, 0, none⟩) 256 l6) 256 ((turned T f ((le4 N).take 0)).map (Value.int .u8)) := by rw [List.take_zero, turned_nil]; exact HO6.out
            go_loopg [58] 4 (fun g i wr => ∃ k : Nat, g + k = 4 ∧ i = .int .i64 k ∧ wr.ownsRow (w.heap.size + 1) 5 1 (.slice (some ⟨gb, 0, none⟩) 256 l6) 256 ((turned T f ((le4 N).take k)).map (Value.int .u8)) ∧ Bx w wr ⟨(K : Int), (P : Int), e, a, zs.length, c⟩)
            case atStart => exact ⟨0, rfl, rfl, hstart, HB6.out⟩
            case round =>
              obtain ⟨k, hk', rfl, hown, hbx⟩ := hrel
              have HO := hide hown
              have HBX := hide hbx
              clear hstart hown HO6 HB6
              cases gk with
              | zero =>
                obtain rfl : k = 4 := by omega
                have hsl : Sl wr (.slice (some ⟨gb, 0, none⟩) 256 l6) C4 := sl_of_own HO.out HOK4.out (by rw [HC4.out, List.take_of_length_le (by simp [le4])])
                have HG4 := hide (HG.out wr _ hbx.1 hsl)
                obtain ⟨c0, c1, c2, c3⟩ := hbx.cells
                clear hsl hbx HG
                go_wp2_with (go_at_call 18; refine HG4.out.mono ?_; rintro e1 w7 ⟨a7, l7, rfl, S7, hb7⟩; have HB7 := hide (HBX.out.below hb7); clear HG4 S7 hb7)
                go_ret
                exact ⟨rfl, HB7.out.1⟩
              | succ g =>
                clear hbx
                rcases (by omega : k = 0 ∨ k = 1 ∨ k = 2 ∨ k = 3) with rfl | rfl | rfl | rfl
                · have hJl : (f : Int) < 256 := by omega
                  obtain ⟨x, hx⟩ : ∃ x, x = (turned T f ((le4 N).take 0)).getD f 0 := ⟨_, rfl⟩
                  have hxb := (turned_ok T f ((le4 N).take 0) HOKT.out ((le4_ok N).take 0)).get f
                  have hCl : (turned T f ((le4 N).take 0)).length = 256 := by rw [turned_len]; exact HLT.out
                  have hcl : wr.cell? ⟨gb, f, none⟩ = some (.int .u8 x) := by
                    rw [HO.out.cellAt f (by omega), hx, getD_lt _ (by omega), List.getElem?_map, List.getElem?_eq_getElem (by omega)]
                    rfl
                  rw [← hx] at hxb
                  obtain ⟨hxy, hyb⟩ := xor8' x q0 hxb hq0
                  have hset := bad_step T f N 0 (by omega) (by rw [HLT.out]; omega)
                  rw [show (le4 N).getD 0 0 = (q0 : Int) by rw [HLE.out]; rfl] at hset
                  rw [Nat.add_zero] at hset
                  rw [← hx] at hset
                  obtain ⟨y, hy⟩ : ∃ y, y = xorB x (q0 : Int) := ⟨_, rfl⟩
                  rw [← hy] at hset hxy hyb
                  have hst := HO.out.stored f (.int .u8 y)
                  have hfr := HO.out.frozenAt f
                  have hO2 := hst.1
                  rw [hset] at hO2
                  have HO2 := hide hO2
                  have HBY := hide (bx_set HBX.out gb f (.int .u8 y) hgb)
                  clear hst hO2 hset hx hCl hy
                  go_wp2
                  go_roundg g
                  case measure => omega
                  case rel => exact ⟨1, by omega, by go_num, HO2.out, HBY.out⟩
                · obtain ⟨J, hJ⟩ : ∃ J, J = f + 1 := ⟨_, rfl⟩
                  have hJi : (f : Int) + 1 = (J : Int) := by omega
                  have hJl : (J : Int) < 256 := by omega
                  obtain ⟨x, hx⟩ : ∃ x, x = (turned T f ((le4 N).take 1)).getD J 0 := ⟨_, rfl⟩
                  have hxb := (turned_ok T f ((le4 N).take 1) HOKT.out ((le4_ok N).take 1)).get J
                  have hCl : (turned T f ((le4 N).take 1)).length = 256 := by rw [turned_len]; exact HLT.out
                  have hcl : wr.cell? ⟨gb, J, none⟩ = some (.int .u8 x) := by
                    rw [HO.out.cellAt J (by omega), hx, getD_lt _ (by omega), List.getElem?_map, List.getElem?_eq_getElem (by omega)]
                    rfl
                  rw [← hx] at hxb
                  obtain ⟨hxy, hyb⟩ := xor8' x q1 hxb hq1
                  have hset := bad_step T f N 1 (by omega) (by rw [HLT.out]; omega)
                  rw [show (le4 N).getD 1 0 = (q1 : Int) by rw [HLE.out]; rfl] at hset
                  rw [← hJ] at hset
                  rw [← hx] at hset
                  obtain ⟨y, hy⟩ : ∃ y, y = xorB x (q1 : Int) := ⟨_, rfl⟩
                  rw [← hy] at hset hxy hyb
                  have hst := HO.out.stored J (.int .u8 y)
                  have hfr := HO.out.frozenAt J
                  have hO2 := hst.1
                  rw [hset] at hO2
                  have HO2 := hide hO2
                  have HBY := hide (bx_set HBX.out gb J (.int .u8 y) hgb)
                  clear hst hO2 hset hx hCl hy hJ
                  go_wp2
                  go_roundg g
                  case measure => omega
                  case rel => exact ⟨2, by omega, by go_num, HO2.out, HBY.out⟩
                · obtain ⟨J, hJ⟩ : ∃ J, J = f + 2 := ⟨_, rfl⟩
                  have hJi : (f : Int) + 2 = (J : Int) := by omega
                  have hJl : (J : Int) < 256 := by omega
                  obtain ⟨x, hx⟩ : ∃ x, x = (turned T f ((le4 N).take 2)).getD J 0 := ⟨_, rfl⟩
                  have hxb := (turned_ok T f ((le4 N).take 2) HOKT.out ((le4_ok N).take 2)).get J
                  have hCl : (turned T f ((le4 N).take 2)).length = 256 := by rw [turned_len]; exact HLT.out
                  have hcl : wr.cell? ⟨gb, J, none⟩ = some (.int .u8 x) := by
                    rw [HO.out.cellAt J (by omega), hx, getD_lt _ (by omega), List.getElem?_map, List.getElem?_eq_getElem (by omega)]
                    rfl
                  rw [← hx] at hxb
                  obtain ⟨hxy, hyb⟩ := xor8' x q2 hxb hq2
                  have hset := bad_step T f N 2 (by omega) (by rw [HLT.out]; omega)
                  rw [show (le4 N).getD 2 0 = (q2 : Int) by rw [HLE.out]; rfl] at hset
                  rw [← hJ] at hset
                  rw [← hx] at hset
                  obtain ⟨y, hy⟩ : ∃ y, y = xorB x (q2 : Int) := ⟨_, rfl⟩
                  rw [← hy] at hset hxy hyb
                  have hst := HO.out.stored J (.int .u8 y)
                  have hfr := HO.out.frozenAt J
                  have hO2 := hst.1
                  rw [hset] at hO2
                  have HO2 := hide hO2
                  have HBY := hide (bx_set HBX.out gb J (.int .u8 y) hgb)
                  clear hst hO2 hset hx hCl hy hJ
                  go_wp2
                  go_roundg g
                  case measure => omega
                  case rel => exact ⟨3, by omega, by go_num, HO2.out, HBY.out⟩
                · obtain ⟨J, hJ⟩ : ∃ J, J = f + 3 := ⟨_, rfl⟩
                  have hJi : (f : Int) + 3 = (J : Int) := by omega
                  have hJl : (J : Int) < 256 := by omega
                  obtain ⟨x, hx⟩ : ∃ x, x = (turned T f ((le4 N).take 3)).getD J 0 := ⟨_, rfl⟩
                  have hxb := (turned_ok T f ((le4 N).take 3) HOKT.out ((le4_ok N).take 3)).get J
                  have hCl : (turned T f ((le4 N).take 3)).length = 256 := by rw [turned_len]; exact HLT.out
                  have hcl : wr.cell? ⟨gb, J, none⟩ = some (.int .u8 x) := by
                    rw [HO.out.cellAt J (by omega), hx, getD_lt _ (by omega), List.getElem?_map, List.getElem?_eq_getElem (by omega)]
                    rfl
                  rw [← hx] at hxb
                  obtain ⟨hxy, hyb⟩ := xor8' x q3 hxb hq3
                  have hset := bad_step T f N 3 (by omega) (by rw [HLT.out]; omega)
                  rw [show (le4 N).getD 3 0 = (q3 : Int) by rw [HLE.out]; rfl] at hset
                  rw [← hJ] at hset
                  rw [← hx] at hset
                  obtain ⟨y, hy⟩ : ∃ y, y = xorB x (q3 : Int) := ⟨_, rfl⟩
                  rw [← hy] at hset hxy hyb
                  have hst := HO.out.stored J (.int .u8 y)
                  have hfr := HO.out.frozenAt J
                  have hO2 := hst.1
                  rw [hset] at hO2
                  have HO2 := hide hO2
                  have HBY := hide (bx_set HBX.out gb J (.int .u8 y) hgb)
                  clear hst hO2 hset hx hCl hy hJ
                  go_wp2
                  go_roundg g
                  case measure => omega
                  case rel => exact ⟨4, by omega, by go_num, HO2.out, HBY.out⟩
          · have hg := hfault' 0 (.inl rfl) (by omega)
            obtain ⟨C4, hC4⟩ : ∃ C, C = turned T 0 (le4 N) := ⟨_, rfl⟩
            rw [← hC4] at hg
            have HOK4 : Hid (ByteOk C4) := by show ByteOk C4; rw [hC4]; exact turned_ok T 0 _ HOKT.out (le4_ok N)
            have HC4 := hide hC4
            have HG := hide (fun w1 v hb h => gets_w w hT P w1 v _ hb h _ hg (by intro z hz; cases hz))
            simp only [noFr, List.length_nil] at HG
            have hpi : (Pt : Int) % 2 = 0 := by omega
            clear hg hC4 hfault' hT
            go_wp2_with (first
              | (go_at_call 8; refine (HL.out _ HB3.out).mono ?_; rintro e1 w4 ⟨rfl, b4⟩; obtain ⟨c0, c1, c2, c3⟩ := b4.cells; have HS4 := hide (HS.out w4 b4); clear HB3 HS b4)
              | (go_at_call 9; refine HS4.out.mono ?_; rintro e1 w5 ⟨rfl, b5⟩; clear c0 c1 c2 c3; obtain ⟨c0, c1, c2, c3⟩ := b5.cells; have HP5 := hide (HP.out w5 b5); clear HS4 b5 HP)
              | (go_at_call 11; refine HP5.out.mono ?_; rintro e1 w6 ⟨gb, l6, rfl, O6, hgb, b6⟩; have HO6 := hide O6; have HB6 := hide b6; clear HP5 c0 c1 c2 c3 O6 b6))
            clear hpi
            have hstart : w6.ownsRow (w.heap.size + 1) 5 1 (.slice (some ⟨gb, 0, none⟩) 256 l6) 256 ((turned T 0 ((le4 N).take 0)).map (Value.int .u8)) := by rw [List.take_zero, turned_nil]; exact HO6.out
            go_loopg [58] 4 (fun g i wr => ∃ k : Nat, g + k = 4 ∧ i = .int .i64 k ∧ wr.ownsRow (w.heap.size + 1) 5 1 (.slice (some ⟨gb, 0, none⟩) 256 l6) 256 ((turned T 0 ((le4 N).take k)).map (Value.int .u8)) ∧ Bx w wr ⟨(K : Int), (P : Int), e, a, zs.length, c⟩)
            case atStart => exact ⟨0, rfl, rfl, hstart, HB6.out⟩
            case round =>
              obtain ⟨k, hk', rfl, hown, hbx⟩ := hrel
              have HO := hide hown
              have HBX := hide hbx
              clear hstart hown HO6 HB6
              cases gk with
              | zero =>
                obtain rfl : k = 4 := by omega
                have hsl : Sl wr (.slice (some ⟨gb, 0, none⟩) 256 l6) C4 := sl_of_own HO.out HOK4.out (by rw [HC4.out, List.take_of_length_le (by simp [le4])])
                have HG4 := hide (HG.out wr _ hbx.1 hsl)
                obtain ⟨c0, c1, c2, c3⟩ := hbx.cells
                clear hsl hbx HG
                go_wp2_with (go_at_call 18; refine HG4.out.mono ?_; rintro e1 w7 ⟨a7, l7, rfl, S7, hb7⟩; have HB7 := hide (HBX.out.below hb7); clear HG4 S7 hb7)
                go_ret
                exact ⟨rfl, HB7.out.1⟩
              | succ g =>
                clear hbx
                rcases (by omega : k = 0 ∨ k = 1 ∨ k = 2 ∨ k = 3) with rfl | rfl | rfl | rfl
                · have hJl : (0 : Int) < 256 := by omega
                  obtain ⟨x, hx⟩ : ∃ x, x = (turned T 0 ((le4 N).take 0)).getD 0 0 := ⟨_, rfl⟩
                  have hxb := (turned_ok T 0 ((le4 N).take 0) HOKT.out ((le4_ok N).take 0)).get 0
                  have hCl : (turned T 0 ((le4 N).take 0)).length = 256 := by rw [turned_len]; exact HLT.out
                  have hcl : wr.cell? ⟨gb, 0, none⟩ = some (.int .u8 x) := by
                    rw [HO.out.cellAt 0 (by omega), hx, getD_lt _ (by omega), List.getElem?_map, List.getElem?_eq_getElem (by omega)]
                    rfl
                  rw [← hx] at hxb
                  obtain ⟨hxy, hyb⟩ := xor8' x q0 hxb hq0
                  have hset := bad_step T 0 N 0 (by omega) (by rw [HLT.out]; omega)
                  rw [show (le4 N).getD 0 0 = (q0 : Int) by rw [HLE.out]; rfl] at hset
                  rw [Nat.zero_add] at hset
                  rw [← hx] at hset
                  obtain ⟨y, hy⟩ : ∃ y, y = xorB x (q0 : Int) := ⟨_, rfl⟩
                  rw [← hy] at hset hxy hyb
                  have hst := HO.out.stored 0 (.int .u8 y)
                  have hfr := HO.out.frozenAt 0
                  have hO2 := hst.1
                  rw [hset] at hO2
                  have HO2 := hide hO2
                  have HBY := hide (bx_set HBX.out gb 0 (.int .u8 y) hgb)
                  clear hst hO2 hset hx hCl hy
                  go_wp2
                  go_roundg g
                  case measure => omega
                  case rel => exact ⟨1, by omega, by go_num, HO2.out, HBY.out⟩
                · have hJl : (1 : Int) < 256 := by omega
                  obtain ⟨x, hx⟩ : ∃ x, x = (turned T 0 ((le4 N).take 1)).getD 1 0 := ⟨_, rfl⟩
                  have hxb := (turned_ok T 0 ((le4 N).take 1) HOKT.out ((le4_ok N).take 1)).get 1
                  have hCl : (turned T 0 ((le4 N).take 1)).length = 256 := by rw [turned_len]; exact HLT.out
                  have hcl : wr.cell? ⟨gb, 1, none⟩ = some (.int .u8 x) := by
                    rw [HO.out.cellAt 1 (by omega), hx, getD_lt _ (by omega), List.getElem?_map, List.getElem?_eq_getElem (by omega)]
                    rfl
                  rw [← hx] at hxb
                  obtain ⟨hxy, hyb⟩ := xor8' x q1 hxb hq1
                  have hset := bad_step T 0 N 1 (by omega) (by rw [HLT.out]; omega)
                  rw [show (le4 N).getD 1 0 = (q1 : Int) by rw [HLE.out]; rfl] at hset
                  rw [Nat.zero_add] at hset
                  rw [← hx] at hset
                  obtain ⟨y, hy⟩ : ∃ y, y = xorB x (q1 : Int) := ⟨_, rfl⟩
                  rw [← hy] at hset hxy hyb
                  have hst := HO.out.stored 1 (.int .u8 y)
                  have hfr := HO.out.frozenAt 1
                  have hO2 := hst.1
                  rw [hset] at hO2
                  have HO2 := hide hO2
                  have HBY := hide (bx_set HBX.out gb 1 (.int .u8 y) hgb)
                  clear hst hO2 hset hx hCl hy
                  go_wp2
                  go_roundg g
                  case measure => omega
                  case rel => exact ⟨2, by omega, by go_num, HO2.out, HBY.out⟩
                · have hJl : (2 : Int) < 256 := by omega
                  obtain ⟨x, hx⟩ : ∃ x, x = (turned T 0 ((le4 N).take 2)).getD 2 0 := ⟨_, rfl⟩
                  have hxb := (turned_ok T 0 ((le4 N).take 2) HOKT.out ((le4_ok N).take 2)).get 2
                  have hCl : (turned T 0 ((le4 N).take 2)).length = 256 := by rw [turned_len]; exact HLT.out
                  have hcl : wr.cell? ⟨gb, 2, none⟩ = some (.int .u8 x) := by
                    rw [HO.out.cellAt 2 (by omega), hx, getD_lt _ (by omega), List.getElem?_map, List.getElem?_eq_getElem (by omega)]
                    rfl
                  rw [← hx] at hxb
                  obtain ⟨hxy, hyb⟩ := xor8' x q2 hxb hq2
                  have hset := bad_step T 0 N 2 (by omega) (by rw [HLT.out]; omega)
                  rw [show (le4 N).getD 2 0 = (q2 : Int) by rw [HLE.out]; rfl] at hset
                  rw [Nat.zero_add] at hset
                  rw [← hx] at hset
                  obtain ⟨y, hy⟩ : ∃ y, y = xorB x (q2 : Int) := ⟨_, rfl⟩
                  rw [← hy] at hset hxy hyb
                  have hst := HO.out.stored 2 (.int .u8 y)
                  have hfr := HO.out.frozenAt 2
                  have hO2 := hst.1
                  rw [hset] at hO2
                  have HO2 := hide hO2
                  have HBY := hide (bx_set HBX.out gb 2 (.int .u8 y) hgb)
                  clear hst hO2 hset hx hCl hy
                  go_wp2
                  go_roundg g
                  case measure => omega
                  case rel => exact ⟨3, by omega, by go_num, HO2.out, HBY.out⟩
                · have hJl : (3 : Int) < 256 := by omega
                  obtain ⟨x, hx⟩ : ∃ x, x = (turned T 0 ((le4 N).take 3)).getD 3 0 := ⟨_, rfl⟩
                  have hxb := (turned_ok T 0 ((le4 N).take 3) HOKT.out ((le4_ok N).take 3)).get 3
                  have hCl : (turned T 0 ((le4 N).take 3)).length = 256 := by rw [turned_len]; exact HLT.out
                  have hcl : wr.cell? ⟨gb, 3, none⟩ = some (.int .u8 x) := by
                    rw [HO.out.cellAt 3 (by omega), hx, getD_lt _ (by omega), List.getElem?_map, List.getElem?_eq_getElem (by omega)]
                    rfl
                  rw [← hx] at hxb
                  obtain ⟨hxy, hyb⟩ := xor8' x q3 hxb hq3
                  have hset := bad_step T 0 N 3 (by omega) (by rw [HLT.out]; omega)
                  rw [show (le4 N).getD 3 0 = (q3 : Int) by rw [HLE.out]; rfl] at hset
                  rw [Nat.zero_add] at hset
                  rw [← hx] at hset
                  obtain ⟨y, hy⟩ : ∃ y, y = xorB x (q3 : Int) := ⟨_, rfl⟩
                  rw [← hy] at hset hxy hyb
                  have hst := HO.out.stored 3 (.int .u8 y)
                  have hfr := HO.out.frozenAt 3
                  have hO2 := hst.1
                  rw [hset] at hO2
                  have HO2 := hide hO2
                  have HBY := hide (bx_set HBX.out gb 3 (.int .u8 y) hgb)
                  clear hst hO2 hset hx hCl hy
                  go_wp2
                  go_roundg g
                  case measure => omega
                  case rel => exact ⟨4, by omega, by go_num, HO2.out, HBY.out⟩
      · have HP := hide (put_bx w k p e a zs.length c zs hS hc)
        obtain ⟨d, hd⟩ : ∃ d, d = checkS k p zs.length := ⟨_, rfl⟩
        rw [← hd] at HP hc
        have hne : (d != 0) = true := by simpa using hc
        clear hS hT hd hmk hza
        go_wp2_with (first
          | (go_at_call 8; refine (HL.out _ HB3.out).mono ?_; rintro e1 w4 ⟨rfl, b4⟩; obtain ⟨c0, c1, c2, c3⟩ := b4.cells; have HS4 := hide (HS.out w4 b4); clear HB3 HS b4)
          | (go_at_call 9; refine HS4.out.mono ?_; rintro e1 w5 ⟨rfl, b5⟩; clear c0 c1 c2 c3; obtain ⟨c0, c1, c2, c3⟩ := b5.cells; have HP5 := hide (HP.out w5 _ b5); clear HS4 b5 HP)
          | (go_at_call 11; refine HP5.out.mono ?_; rintro e1 w6 ⟨rfl, b6⟩; clear HP5 c0 c1 c2 c3))
        go_ret
        exact ⟨rfl, b6.1⟩
    · rw [decide_eq_false hn] at HS
      clear hS hT hmk hza
      go_wp2_with (first
        | (go_at_call 8; refine (HL.out _ HB3.out).mono ?_; rintro e1 w4 ⟨rfl, b4⟩; obtain ⟨c0, c1, c2, c3⟩ := b4.cells; have HS4 := hide (HS.out w4 b4); clear HB3 HS b4)
        | (go_at_call 9; refine HS4.out.mono ?_; rintro e1 w5 ⟨rfl, b5⟩; have HB5 := hide b5; clear HS4 b5 c0 c1 c2 c3)
        | (go_at_call 8; refine (HL.out _ HB5.out).mono ?_; rintro e1 w6 ⟨rfl, b6⟩; clear HB5))
      go_ret
      exact ⟨rfl, b6.1⟩

end Go.Proofs.YtlnedhbeciepdaaDoor
