/- Contract: the frame of bytes whose sum is right (frame.Get). -/
import Derived.Test.YtmeiahmolmneeaaDoorFGet
namespace Go.Proofs.YtmeiahmolmneeaaDoor
set_option maxRecDepth 20000
open Go.RowKit
set_option linter.unusedVariables false

theorem read_st (w : World) (x : List Int) (hl : x.length ≤ 100000) (w1 : World) (v : Value) (hs : St w w1) (h : Sl w1 v x) :
    Calls Tryd.prog 58 #[v] w1 fun r w2 => ∃ b u, r = .returned (.pointer (some ⟨b, 0, none⟩)) ∧ St w w2 ∧ w.heap.size < b ∧ Rd w2 b u x 0 := by
  refine (read_any w1 v x h hl).mono ?_
  rintro r w2 ⟨b, u, rfl, hb, hr, _, hbel⟩
  exact ⟨b, u, rfl, hs.below hbel, Nat.lt_of_lt_of_le hs.2.lt hb, hr⟩

theorem u8_st (w : World) (x : List Int) (c : Int) (x' : List Int) (hc : 0 ≤ c) (ht : takeS x 0 1 = ([c], x', 0)) (w1 : World) (b : Nat) (u : Value) (hs : St w w1) (hb : w.heap.size < b) (h : Rd w1 b u x 0) :
    Calls Tryd.prog 60 #[.pointer (some ⟨b, 0, none⟩)] w1 fun r w2 => r = .returned (.int .u8 c) ∧ St w w2 ∧ ∃ u', Rd w2 b u' x' 0 := by
  refine (readerU8_any w1 b u x 0 h).mono ?_
  rintro r w2 ⟨rfl, hg, u', hr⟩
  rw [ht] at hr ⊢
  exact ⟨by rw [num1 hc], hs.grown hg hb, u', hr⟩

theorem u16_st (w : World) (x : List Int) (c d : Int) (x' : List Int) (hc : 0 ≤ c) (hd : 0 ≤ d) (ht : takeS x 0 2 = ([c, d], x', 0)) (w1 : World) (b : Nat) (u : Value) (hs : St w w1) (hb : w.heap.size < b) (h : Rd w1 b u x 0) :
    Calls Tryd.prog 59 #[.pointer (some ⟨b, 0, none⟩)] w1 fun r w2 => r = .returned (.int .u16 (c * 256 + d)) ∧ St w w2 ∧ ∃ u', Rd w2 b u' x' 0 := by
  refine (readerU16_any w1 b u x 0 h).mono ?_
  rintro r w2 ⟨rfl, hg, u', hr⟩
  rw [ht] at hr ⊢
  exact ⟨by rw [num2 hc hd], hs.grown hg hb, u', hr⟩

theorem u64_st (w : World) (x y x' : List Int) (ht : takeS x 0 8 = (y, x', 0)) (w1 : World) (b : Nat) (u : Value) (hs : St w w1) (hb : w.heap.size < b) (h : Rd w1 b u x 0) :
    Calls Tryd.prog 85 #[.pointer (some ⟨b, 0, none⟩)] w1 fun r w2 => r = .returned (.int .u64 (numOf y : Nat)) ∧ St w w2 ∧ ∃ u', Rd w2 b u' x' 0 := by
  refine (readerU64_any w1 b u x 0 h).mono ?_
  rintro r w2 ⟨rfl, hg, u', hr⟩
  rw [ht] at hr ⊢
  exact ⟨rfl, hs.grown hg hb, u', hr⟩

theorem raw_st (w : World) (x : List Int) (hl : x.length ≤ 50000) (ht : takeS x 0 240 = (x, [], 0)) (hx : ByteOk x) (w1 : World) (b : Nat) (u : Value) (hs : St w w1) (hb : w.heap.size < b) (h : Rd w1 b u x 0) :
    Calls Tryd.prog 86 #[.pointer (some ⟨b, 0, none⟩), .int .i64 240] w1 fun r w2 => ∃ a n c, r = .returned (.slice a n c) ∧ St w w2 ∧ w2.ownsRow (w.heap.size + 1) 5 1 (.slice a n c) x.length (x.map (Value.int .u8)) := by
  refine (readerRaw_any w1 b u x 0 240 h hl).mono ?_
  rintro r w2 ⟨v, rfl, ho, hg, _⟩
  rw [ht] at ho
  obtain ⟨a, n, c, rfl⟩ := sl_form (sl_of_own_len ho hx)
  exact ⟨a, n, c, rfl, hs.grown hg hb, own_of_le ho hs.2.lt⟩

set_option maxHeartbeats 4000000 in
theorem get_tell (w : World) (v : Value) (zs : List Int) (q : Int) (h : Sl w v zs) (hT : Tab w) (hl : zs.length = 256) (hs : sealB zs = true) :
    Calls Tryd.prog 77 #[v, .int .i64 q] w (Gives w (getS zs q)) := by
  have es : getS zs q = tellS (zs.drop 4) q := by unfold getS; rw [if_neg (by omega), if_neg (by rw [hs]; simp)]
  rw [es]
  have HO := hide (open_st w v zs h hT (by omega))
  have ho : openB zs = zs.drop 4 := if_pos hs
  rw [hs, ho] at HO
  obtain ⟨ao, cap, rfl⟩ := sl_form' h
  have hx := h.bytes.drop 4
  have hxl : (zs.drop 4).length = 252 := by simp; omega
  obtain ⟨x, hxx⟩ : ∃ x, x = zs.drop 4 := ⟨_, rfl⟩
  rw [← hxx] at HO hx hxl ⊢
  rw [hl] at HO ⊢
  obtain ⟨t1, t2, t3, t4, t5⟩ := reads hx hxl
  have k0 := hx.get 0
  have k1 := hx.get 1
  have k2 := hx.get 2
  have k3 := hx.get 3
  have HN := hide (St.new w)
  have HRD := hide (read_st w x (by omega))
  have H8A := hide (u8_st w x (kindOf x) (x.drop 1) k0.1 t1)
  have H8B := hide (u8_st w (x.drop 1) (x.getD 1 0) (x.drop 2) k1.1 t2)
  have H16 := hide (u16_st w (x.drop 2) _ _ (x.drop 4) k2.1 k3.1 t3)
  have H64 := hide (u64_st w (x.drop 4) _ (x.drop 12) t4)
  have HRW := hide (raw_st w (x.drop 12) (by simp; omega) t5 (hx.drop 12))
  have HTE : Hid (tellS x q = if (kindOf x < 1 ∨ 4 < kindOf x) ∨ x.getD 1 0 ≠ 0 then noFr 42 else if pageOf x ≠ q ∨ 2047 < pageOf x then noFr 41 else ⟨0, kindOf x, pageOf x, epochOf x, x.drop 12⟩) := rfl
  have k0' : 0 ≤ kindOf x ∧ kindOf x ≤ 255 := k0
  have e64 : numOf ((x.drop 4).take 8) = epochOf x := rfl
  have e16 : x.getD 2 0 * 256 + x.getD 3 0 = pageOf x := rfl
  have hpn : 0 ≤ pageOf x ∧ pageOf x ≤ 65535 := by unfold pageOf; omega
  have hen : epochOf x < 18446744073709551616 := by
    have := numOf_lt ((x.drop 4).take 8) 8 ((hx.drop 4).take 8) (by simp; omega)
    unfold epochOf
    simpa using this
  rw [e64] at H64
  rw [e16] at H16
  obtain ⟨K, hK⟩ : ∃ K, K = kindOf x := ⟨_, rfl⟩
  obtain ⟨O, hO⟩ : ∃ O, O = x.getD 1 0 := ⟨_, rfl⟩
  obtain ⟨N, hN⟩ : ∃ N, N = pageOf x := ⟨_, rfl⟩
  obtain ⟨E, hE⟩ : ∃ E, E = epochOf x := ⟨_, rfl⟩
  rw [← hK] at H8A HTE k0'
  rw [← hO] at H8B HTE k1
  rw [← hN] at H16 HTE hpn
  rw [← hE] at H64 HTE hen
  have HIK := hide (fun wx => isKind_any wx K)
  have HIP := hide (fun wx => isPage_any wx N)
  have hK256 : K % 256 = K := by omega
  clear h es hT hs ho hxx k0 k2 k3 t1 t2 t3 t4 t5 e64 e16 hx hxl hK hO hN hE
  by_cases h1 : 1 ≤ K ∧ K ≤ 4
  · have hd1 : decide (1 ≤ K ∧ K ≤ 4) = true := decide_eq_true h1
    rw [hd1] at HIK
    by_cases h2 : O = 0
    · subst h2
      rw [if_neg (by omega)] at HTE
      by_cases h3 : N = q
      · subst h3
        by_cases h4 : 0 ≤ N ∧ N ≤ 2047
        · have hd2 : decide (0 ≤ N ∧ N ≤ 2047) = true := decide_eq_true h4
          rw [hd2] at HIP
          rw [if_neg (by omega)] at HTE
          rw [HTE.out]
          clear HTE hd1 hd2
          go_enter Tryd.func77, Tryd.ntmps77
          go_wp2_with (first
            | (go_at_call 84; refine (HO.out _ HN.out).mono ?_; rintro e1 w1 ⟨a1, n1, l1, rfl, S1, st1⟩; have HR1 := hide (HRD.out w1 _ st1 S1); clear HO HN S1 st1 HRD)
            | (go_at_call 58; refine HR1.out.mono ?_; rintro e1 w2 ⟨b, u2, rfl, st2, hb, rd2⟩; have HR2 := hide (H8A.out w2 b u2 st2 hb rd2); have HLB := hide hb; clear HR1 H8A rd2 st2 hb)
            | (go_at_call 60; refine HR2.out.mono ?_; rintro e1 w3 ⟨rfl, st3, u3, rd3⟩; have HR3 := hide (H8B.out w3 b u3 st3 HLB.out rd3); clear HR2 H8B rd3 st3)
            | (go_at_call 60; refine HR3.out.mono ?_; rintro e1 w4 ⟨rfl, st4, u4, rd4⟩; have HR4 := hide (H16.out w4 b u4 st4 HLB.out rd4); clear HR3 H16 rd4 st4)
            | (go_at_call 59; refine HR4.out.mono ?_; rintro e1 w5 ⟨rfl, st5, u5, rd5⟩; have HR5 := hide (H64.out w5 b u5 st5 HLB.out rd5); clear HR4 H64 rd5 st5)
            | (go_at_call 85; refine HR5.out.mono ?_; rintro e1 w6 ⟨rfl, st6, u6, rd6⟩; obtain ⟨⟨c0, c1, c2, c3⟩, f0, f1, f2, f3⟩ := st6.cells; have HST := hide st6; have HR6 := hide (HRW.out w6 b u6 st6 HLB.out rd6); clear HR5 HRW rd6 st6)
            | (go_at_call 68; refine (HIK.out _).mono ?_; rintro e1 w7 ⟨rfl, hw⟩; subst w7; clear HIK)
            | (go_at_call 69; refine (HIP.out _).mono ?_; rintro e1 w7 ⟨rfl, hw⟩; subst w7; clear HIP)
            | (go_at_call 86; refine HR6.out.mono ?_; rintro e1 w8 ⟨a8, n8, l8, rfl, st8, O8⟩; clear c0 c1 c2 c3 f0 f1 f2 f3; obtain ⟨⟨c0, c1, c2, c3⟩, f0, f1, f2, f3⟩ := st8.cells; have HST8 := hide st8; have HO8 := hide O8; clear HR6 HST st8 O8))
          (try simp only [Exit.inBlock, Exit.then])
          refine bodyPost_ret (ret_frame rfl _ _ w.heap.size _ _ _ _ _ rfl rfl (HST8.out.store (.int .i64 K) (.int .i64 N) (.int .u64 E) (.slice a8 n8 l8)).1) rfl ?_
          obtain ⟨_, b8, k8⟩ := HST8.out.store (.int .i64 K) (.int .i64 N) (.int .u64 E) (.slice a8 n8 l8)
          refine ⟨a8, n8, l8, rfl, ?_, b8⟩
          obtain ⟨g1, g2⟩ := HO8.out
          refine ⟨g1, g2.elim .inl (fun ⟨g, cp, cur, hv, hg, hh, r⟩ => .inr ⟨g, cp, cur, hv, Nat.le_of_lt hg, ?_, r⟩)⟩
          exact (k8 g (by omega)).trans hh
        · have hd2 : decide (0 ≤ N ∧ N ≤ 2047) = false := decide_eq_false h4
          rw [hd2] at HIP
          rw [if_pos (by omega)] at HTE
          rw [HTE.out]
          clear HTE hd1 hd2
          go_enter Tryd.func77, Tryd.ntmps77
          go_wp2_with (first
            | (go_at_call 84; refine (HO.out _ HN.out).mono ?_; rintro e1 w1 ⟨a1, n1, l1, rfl, S1, st1⟩; have HR1 := hide (HRD.out w1 _ st1 S1); clear HO HN S1 st1 HRD)
            | (go_at_call 58; refine HR1.out.mono ?_; rintro e1 w2 ⟨b, u2, rfl, st2, hb, rd2⟩; have HR2 := hide (H8A.out w2 b u2 st2 hb rd2); have HLB := hide hb; clear HR1 H8A rd2 st2 hb)
            | (go_at_call 60; refine HR2.out.mono ?_; rintro e1 w3 ⟨rfl, st3, u3, rd3⟩; have HR3 := hide (H8B.out w3 b u3 st3 HLB.out rd3); clear HR2 H8B rd3 st3)
            | (go_at_call 60; refine HR3.out.mono ?_; rintro e1 w4 ⟨rfl, st4, u4, rd4⟩; have HR4 := hide (H16.out w4 b u4 st4 HLB.out rd4); clear HR3 H16 rd4 st4)
            | (go_at_call 59; refine HR4.out.mono ?_; rintro e1 w5 ⟨rfl, st5, u5, rd5⟩; have HR5 := hide (H64.out w5 b u5 st5 HLB.out rd5); clear HR4 H64 rd5 st5)
            | (go_at_call 85; refine HR5.out.mono ?_; rintro e1 w6 ⟨rfl, st6, u6, rd6⟩; obtain ⟨⟨c0, c1, c2, c3⟩, f0, f1, f2, f3⟩ := st6.cells; have HST := hide st6; have HR6 := hide (HRW.out w6 b u6 st6 HLB.out rd6); clear HR5 HRW rd6 st6)
            | (go_at_call 68; refine (HIK.out _).mono ?_; rintro e1 w7 ⟨rfl, hw⟩; subst w7; clear HIK)
            | (go_at_call 69; refine (HIP.out _).mono ?_; rintro e1 w7 ⟨rfl, hw⟩; subst w7; clear HIP))
          (try simp only [Exit.inBlock, Exit.then])
          refine bodyPost_ret (ret_frame rfl _ _ w.heap.size _ _ _ _ _ rfl rfl (HST.out.store (.int .i64 0) (.int .i64 0) (.int .u64 0) (.slice none 0 0)).1) rfl ?_
          exact Gives.no 41 (HST.out.store _ _ _ _).2.1
      · have hne : (N != q) = true := by simpa using h3
        rw [if_pos (.inl h3)] at HTE
        rw [HTE.out]
        clear HTE hd1
        go_enter Tryd.func77, Tryd.ntmps77
        go_wp2_with (first
          | (go_at_call 84; refine (HO.out _ HN.out).mono ?_; rintro e1 w1 ⟨a1, n1, l1, rfl, S1, st1⟩; have HR1 := hide (HRD.out w1 _ st1 S1); clear HO HN S1 st1 HRD)
          | (go_at_call 58; refine HR1.out.mono ?_; rintro e1 w2 ⟨b, u2, rfl, st2, hb, rd2⟩; have HR2 := hide (H8A.out w2 b u2 st2 hb rd2); have HLB := hide hb; clear HR1 H8A rd2 st2 hb)
          | (go_at_call 60; refine HR2.out.mono ?_; rintro e1 w3 ⟨rfl, st3, u3, rd3⟩; have HR3 := hide (H8B.out w3 b u3 st3 HLB.out rd3); clear HR2 H8B rd3 st3)
          | (go_at_call 60; refine HR3.out.mono ?_; rintro e1 w4 ⟨rfl, st4, u4, rd4⟩; have HR4 := hide (H16.out w4 b u4 st4 HLB.out rd4); clear HR3 H16 rd4 st4)
          | (go_at_call 59; refine HR4.out.mono ?_; rintro e1 w5 ⟨rfl, st5, u5, rd5⟩; have HR5 := hide (H64.out w5 b u5 st5 HLB.out rd5); clear HR4 H64 rd5 st5)
          | (go_at_call 85; refine HR5.out.mono ?_; rintro e1 w6 ⟨rfl, st6, u6, rd6⟩; obtain ⟨⟨c0, c1, c2, c3⟩, f0, f1, f2, f3⟩ := st6.cells; have HST := hide st6; have HR6 := hide (HRW.out w6 b u6 st6 HLB.out rd6); clear HR5 HRW rd6 st6)
          | (go_at_call 68; refine (HIK.out _).mono ?_; rintro e1 w7 ⟨rfl, hw⟩; subst w7; clear HIK)
          | (go_at_call 69; refine (HIP.out _).mono ?_; rintro e1 w7 ⟨rfl, hw⟩; subst w7; clear HIP))
        (try simp only [Exit.inBlock, Exit.then])
        refine bodyPost_ret (ret_frame rfl _ _ w.heap.size _ _ _ _ _ rfl rfl (HST.out.store (.int .i64 0) (.int .i64 0) (.int .u64 0) (.slice none 0 0)).1) rfl ?_
        exact Gives.no 41 (HST.out.store _ _ _ _).2.1
    · have hne : (O != 0) = true := by simpa using h2
      rw [if_pos (.inr h2)] at HTE
      rw [HTE.out]
      clear HTE hd1
      go_enter Tryd.func77, Tryd.ntmps77
      go_wp2_with (first
        | (go_at_call 84; refine (HO.out _ HN.out).mono ?_; rintro e1 w1 ⟨a1, n1, l1, rfl, S1, st1⟩; have HR1 := hide (HRD.out w1 _ st1 S1); clear HO HN S1 st1 HRD)
        | (go_at_call 58; refine HR1.out.mono ?_; rintro e1 w2 ⟨b, u2, rfl, st2, hb, rd2⟩; have HR2 := hide (H8A.out w2 b u2 st2 hb rd2); have HLB := hide hb; clear HR1 H8A rd2 st2 hb)
        | (go_at_call 60; refine HR2.out.mono ?_; rintro e1 w3 ⟨rfl, st3, u3, rd3⟩; have HR3 := hide (H8B.out w3 b u3 st3 HLB.out rd3); clear HR2 H8B rd3 st3)
        | (go_at_call 60; refine HR3.out.mono ?_; rintro e1 w4 ⟨rfl, st4, u4, rd4⟩; have HR4 := hide (H16.out w4 b u4 st4 HLB.out rd4); clear HR3 H16 rd4 st4)
        | (go_at_call 59; refine HR4.out.mono ?_; rintro e1 w5 ⟨rfl, st5, u5, rd5⟩; have HR5 := hide (H64.out w5 b u5 st5 HLB.out rd5); clear HR4 H64 rd5 st5)
        | (go_at_call 85; refine HR5.out.mono ?_; rintro e1 w6 ⟨rfl, st6, u6, rd6⟩; obtain ⟨⟨c0, c1, c2, c3⟩, f0, f1, f2, f3⟩ := st6.cells; have HST := hide st6; have HR6 := hide (HRW.out w6 b u6 st6 HLB.out rd6); clear HR5 HRW rd6 st6)
        | (go_at_call 68; refine (HIK.out _).mono ?_; rintro e1 w7 ⟨rfl, hw⟩; subst w7; clear HIK)
        | (go_at_call 69; refine (HIP.out _).mono ?_; rintro e1 w7 ⟨rfl, hw⟩; subst w7; clear HIP))
      (try simp only [Exit.inBlock, Exit.then])
      refine bodyPost_ret (ret_frame rfl _ _ w.heap.size _ _ _ _ _ rfl rfl (HST.out.store (.int .i64 0) (.int .i64 0) (.int .u64 0) (.slice none 0 0)).1) rfl ?_
      exact Gives.no 42 (HST.out.store _ _ _ _).2.1
  · have hd1 : decide (1 ≤ K ∧ K ≤ 4) = false := decide_eq_false h1
    rw [hd1] at HIK
    rw [if_pos (by omega)] at HTE
    rw [HTE.out]
    clear HTE hd1
    go_enter Tryd.func77, Tryd.ntmps77
    go_wp2_with (first
      | (go_at_call 84; refine (HO.out _ HN.out).mono ?_; rintro e1 w1 ⟨a1, n1, l1, rfl, S1, st1⟩; have HR1 := hide (HRD.out w1 _ st1 S1); clear HO HN S1 st1 HRD)
      | (go_at_call 58; refine HR1.out.mono ?_; rintro e1 w2 ⟨b, u2, rfl, st2, hb, rd2⟩; have HR2 := hide (H8A.out w2 b u2 st2 hb rd2); have HLB := hide hb; clear HR1 H8A rd2 st2 hb)
      | (go_at_call 60; refine HR2.out.mono ?_; rintro e1 w3 ⟨rfl, st3, u3, rd3⟩; have HR3 := hide (H8B.out w3 b u3 st3 HLB.out rd3); clear HR2 H8B rd3 st3)
      | (go_at_call 60; refine HR3.out.mono ?_; rintro e1 w4 ⟨rfl, st4, u4, rd4⟩; have HR4 := hide (H16.out w4 b u4 st4 HLB.out rd4); clear HR3 H16 rd4 st4)
      | (go_at_call 59; refine HR4.out.mono ?_; rintro e1 w5 ⟨rfl, st5, u5, rd5⟩; have HR5 := hide (H64.out w5 b u5 st5 HLB.out rd5); clear HR4 H64 rd5 st5)
      | (go_at_call 85; refine HR5.out.mono ?_; rintro e1 w6 ⟨rfl, st6, u6, rd6⟩; obtain ⟨⟨c0, c1, c2, c3⟩, f0, f1, f2, f3⟩ := st6.cells; have HST := hide st6; have HR6 := hide (HRW.out w6 b u6 st6 HLB.out rd6); clear HR5 HRW rd6 st6)
      | (go_at_call 68; refine (HIK.out _).mono ?_; rintro e1 w7 ⟨rfl, hw⟩; subst w7; clear HIK)
      | (go_at_call 69; refine (HIP.out _).mono ?_; rintro e1 w7 ⟨rfl, hw⟩; subst w7; clear HIP))
    (try simp only [Exit.inBlock, Exit.then])
    refine bodyPost_ret (ret_frame rfl _ _ w.heap.size _ _ _ _ _ rfl rfl (HST.out.store (.int .i64 0) (.int .i64 0) (.int .u64 0) (.slice none 0 0)).1) rfl ?_
    exact Gives.no 42 (HST.out.store _ _ _ _).2.1

theorem get_any (w : World) (v : Value) (zs : List Int) (q : Int) (h : Sl w v zs) (hT : Tab w) :
    Calls Tryd.prog 77 #[v, .int .i64 q] w (Gives w (getS zs q)) := by
  by_cases hl : zs.length = 256
  · cases hs : sealB zs with
    | false => exact get_sum w v zs q h hT hl hs
    | true => exact get_tell w v zs q h hT hl hs
  · exact get_len w v zs q h hl

end Go.Proofs.YtmeiahmolmneeaaDoor
