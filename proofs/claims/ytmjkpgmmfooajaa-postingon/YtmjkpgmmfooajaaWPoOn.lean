/- The walk of PostingOn. -/
import Derived.Test.YtmjkpgmmfooajaaPoLive
import Derived.Test.YtmjkpgmmfooajaaPoFew
import Derived.Test.YtmjkpgmmfooajaaPoOpen
import Derived.Test.YtmjkpgmmfooajaaPoSlc
import Derived.BigQuiet
namespace Go.Proofs.Ytmjkpgmmfooajaa
set_option maxRecDepth 20000
open Go.RowKit
set_option linter.unusedVariables false
set_option linter.unusedSimpArgs false
set_option maxRecDepth 100000

theorem list_bytes {ps : List Po} (h : listOk 0 ps = true) (hn : ps.length ≤ 60) (k : Nat) : (listB 0 (ps.take k)).length ≤ 600600 := by
  have h1 := (list_few (ps.take k) 0 (listOk_take h k)).2.2
  have : (ps.take k).length ≤ 60 := by simp; omega
  omega
theorem list_step {ps : List Po} (h : listOk 0 ps = true) (k : Nat) (hk : k < ps.length) : mayB (lastDoc 0 (ps.take k)) (ps.getD k noPo) = true ∧ listB 0 (ps.take (k + 1)) = listB 0 (ps.take k) ++ formP (lastDoc 0 (ps.take k)) (ps.getD k noPo) ∧ lastDoc 0 (ps.take (k + 1)) = (ps.getD k noPo).doc := by
  have h1 := listOk_take h (k + 1)
  rw [take_snocP ps k hk, listOk_snoc, Bool.and_eq_true] at h1
  exact ⟨h1.2, by rw [take_snocP ps k hk, listB_snoc], by rw [take_snocP ps k hk, lastDoc_snoc]⟩
theorem live_on {w w' : World} (hb : Below w.heap.size w w') : Calls Try.prog 8 #[] w' fun e w'' => e = .returned (.bool true) ∧ Below w.heap.size w w'' :=
  (live_any w').mono fun e w'' ⟨he, h⟩ => ⟨he, hb.trans (h.mono hb.size)⟩

set_option maxHeartbeats 1000000 in
theorem postingOn_walk (w : World) (v : Value) (us : List Value) (ps : List Po) (A : Nat) (h : Pps w v us ps ∧ PosOk ps) (hA : A < 256) :
    Calls Try.prog 6 #[v, .int .u8 (A : Int)] w fun e w' => e = .returned (.bool true) ∧ Below w.heap.size w w' := by
  obtain ⟨h, _⟩ := h
  have hus := h.1
  obtain ⟨ao, cap, rfl, h11, h12⟩ := h.shape
  have HP := hide h
  have HL := hide (list_any w _ us ps h)
  obtain ⟨n, hn⟩ : ∃ n, ps.length = n := ⟨_, rfl⟩
  have HN := hide hn
  have HUS := hide hus
  rw [hn] at HP HL h11 ⊢
  have HFW : Hid (∀ W, Below w.heap.size w W → Calls Try.prog 9 #[.slice ao n cap] W fun e w' => e = .returned (.bool (fewB ps)) ∧ Below W.heap.size W w') := fun W hb => few_any W _ us ps (HP.out.below hb)
  clear h hn hus
  cases hf : fewB ps with
  | false =>
    rw [hf] at HFW
    generalize listE ps = E at *
    generalize listR ps = R at *
    clear hf
    go_enter Try.func6, Try.ntmps6
    go_wp2_with (first
      | (go_at_call 10; refine HL.out.mono ?_; rintro e w1 hg; obtain ⟨u, rfl, _, hb⟩ := hg; have HB1 := hide hb; clear HL hb)
      | (go_at_call 8; refine (live_on HB1.out).mono ?_; rintro e w2 ⟨rfl, hb⟩; have HB2 := hide hb; clear HB1 hb)
      | (go_at_call 9; refine (HFW.out _ HB2.out).mono ?_; rintro e w3 ⟨rfl, hb⟩; have HB3 := hide (HB2.out.trans (hb.mono HB2.out.size)); clear HFW hb HB2)
      | (go_at_call 8; refine (live_on HB3.out).mono ?_; rintro e w4 ⟨rfl, hb⟩; have HB4 := hide hb; clear HB3 hb))
    go_ret
    exact ⟨rfl, HB4.out⟩
  | true =>
    rw [hf] at HFW
    obtain ⟨hf1, _⟩ := few_all hf
    clear hf
    cases hok : listOk 0 ps with
    | false =>
      have hE : listE ps = 150 := by unfold listE; rw [hok]; rfl
      rw [hE] at HL
      clear hok hE
      go_enter Try.func6, Try.ntmps6
      go_wp2_with (first
        | (go_at_call 10; refine HL.out.mono ?_; rintro e w1 hg; obtain ⟨u, rfl, _, hb⟩ := hg; have HB1 := hide hb; clear HL hb)
        | (go_at_call 8; refine (live_on HB1.out).mono ?_; rintro e w2 ⟨rfl, hb⟩; have HB2 := hide hb; clear HB1 hb)
        | (go_at_call 9; refine (HFW.out _ HB2.out).mono ?_; rintro e w3 ⟨rfl, hb⟩; have HB3 := hide (HB2.out.trans (hb.mono HB2.out.size)); clear HFW hb HB2)
        | (go_at_call 8; refine (live_on HB3.out).mono ?_; rintro e w4 ⟨rfl, hb⟩; have HB4 := hide hb; clear HB3 hb))
      go_ret
      exact ⟨rfl, HB4.out⟩
    | true =>
      have hE : listE ps = 0 := by unfold listE; rw [hok]; rfl
      have hR : listR ps = listB 0 ps := by unfold listR; rw [if_pos hok]
      rw [hE, hR] at HL
      have HOK := hide hok
      have hn60 : n ≤ 60 := by have := HN.out; omega
      obtain ⟨k, hk⟩ : ∃ k, A % (n + 1) = k := ⟨_, rfl⟩
      have hkn : k ≤ n := by have := Nat.mod_lt A (show 0 < n + 1 by omega); omega
      have hki : (A : Int) % ((n : Int) + 1) = (k : Int) := by rw [← hk]; simp
      have hcut := cut_hP ao n cap k hkn h11 h12
      obtain ⟨a2, c2, hlow, hdrop⟩ := cut_lP ao us ps cap k (by have := HN.out; omega) (by have := HN.out; omega) h12 HUS.out
      rw [HN.out] at hlow hdrop
      have HDR := hide hdrop
      have HLK : Hid (∀ W, Below w.heap.size w W → Calls Try.prog 10 #[.slice ao k cap] W (GivesBE W (listB 0 (ps.take k)) 0)) := fun W hb => by
        have h1 := listOk_take HOK.out k
        have h2 := HP.out.below hb
        rw [← HN.out] at h2
        have h3 := h2.take k (by have := HN.out; omega)
        have := list_any W _ _ _ h3
        unfold listR listE at this
        rwa [h1] at this
      clear hok hE hR hdrop hk
      go_enter Try.func6, Try.ntmps6
      go_wp2_with (first
        | (go_at_call 10; refine HL.out.mono ?_; rintro e w1 hg; obtain ⟨a1, m1, c1, rfl, hs, hm1, hb⟩ := hg.sl (listB_ok _ _); clear hm1; have HS1 := hide hs; have HB1 := hide hb; clear HL hb hs hg)
        | (go_at_call 8; refine (live_on (Below.refl _ w1)).mono ?_; rintro e w2 ⟨rfl, hb⟩; have HB2 := hide hb; clear hb)
        | (go_at_call 9; refine (HFW.out _ (HB1.out.trans (HB2.out.mono HB1.out.size))).mono ?_; rintro e w3 ⟨rfl, hb⟩; have HB3 := hide (HB2.out.trans (hb.mono HB2.out.size)); clear HFW hb HB2)
        | (go_at_call 10; refine (HLK.out _ (HB1.out.trans (HB3.out.mono HB1.out.size))).mono ?_; rintro e w4 hg; obtain ⟨b1, l1, d1, rfl, hs, hm1, hb⟩ := hg.sl (listB_ok _ _); have HS4 := hide hs; have HM4 := hide hm1; have HB4 := hide (HB3.out.trans (hb.mono HB3.out.size)); clear HLK hb hs hg hm1 HB3))
      have HPW : Hid (∀ W, Below w1.heap.size w1 W → Pps W (.slice ao n cap) us ps) := fun W hb => HP.out.below (HB1.out.trans (hb.mono HB1.out.size))
      go_loopg [9, 11, 48] k (fun g pv b11 i wr => ∃ j : Nat, g + j = k ∧ pv = .int .u32 (lastDoc 0 (ps.take j) : Nat) ∧ i = .int .i64 (j : Int) ∧ Below w4.heap.size w4 wr)
      case atStart => exact ⟨0, by omega, rfl, rfl, Below.refl _ _⟩
      case round =>
        obtain ⟨j, hg, rfl, rfl, hbq⟩ := hrel
        have HBQ := hide hbq
        have HBW := hide (HB4.out.trans (hbq.mono HB4.out.size))
        clear hbq
        by_cases hjk : j < k
        · obtain ⟨g1, o1, rfl, q1, q2, hd1, hi1⟩ := (HPW.out wr HBW.out).at j (by have := HN.out; omega)
          have HD := hide (lastDoc_snoc (ps.take j) 0 (ps.getD j noPo))
          rw [← take_snocP ps j (by have := HN.out; omega)] at HD
          obtain ⟨x, hx⟩ : ∃ x, ps.getD j noPo = x := ⟨_, rfl⟩
          rw [hx] at q1 hd1 hi1 HD
          obtain ⟨xo, xc, hxv, _, _⟩ := hi1.shape
          rw [hxv] at q2
          generalize x.pos.length = xn at *
          obtain ⟨dx, hdx⟩ : ∃ dx, x.doc = dx := ⟨_, rfl⟩
          rw [hdx] at q1 hd1 HD
          have i1 : (j : Int) < (k : Int) := by omega
          obtain ⟨W2, hW2⟩ : ∃ W2, wr.alloc (.cells #[.int .u32 (dx : Int), .slice xo xn xc] 34) = W2 := ⟨_, rfl⟩
          have hb2 : Below wr.heap.size wr W2 := by rw [← hW2]; exact (Below.refl _ wr).alloc (Nat.le_refl _) _
          have HB2 := hide (HBQ.out.trans (hb2.mono HBQ.out.size))
          obtain ⟨x0, x1⟩ := box_po (w := W2) (b := wr.heap.size) (e := 34) (x := .int .u32 (dx : Int)) (y := .slice xo xn xc) (by rw [← hW2]; exact Blk.new wr _ _)
          generalize lastDoc 0 (ps.take j) = D at *
          clear hx hi1 hxv hb2 hdx
          go_wp2
          go_roundg (gk - 1)
          case measure => omega
          case rel => exact ⟨j + 1, by omega, by rw [HD.out], by go_num, HB2.out⟩
        · obtain rfl : j = k := by omega
          have hcz : Below w1.heap.size w1 wr := HBW.out
          have hs4 := HS4.out.keep (fun q _ hlt => HBQ.out.block q hlt)
          clear HBQ HBW HB4 HS4
          have HS5 := hide hs4
          have HB5 := hide hcz
          clear hs4 hcz
          clear HM4
          have HD0 : Hid (0 + gk = 0) := by show _ = _; omega
          have hrow : Below w1.heap.size w1 wr := HB5.out
          go_wp2
          go_loopg [6, 8, 9, 13, 59] (n - j) (fun g e bv pv b13 i wx => ∃ q : Nat, g + q = n - j ∧ e = .int .i64 0 ∧ pv = .int .u32 (lastDoc 0 (ps.take (j + q)) : Nat) ∧ i = .int .i64 (q : Int) ∧ (∃ bo bn bc, bv = .slice bo bn bc ∧ Sl wx (.slice bo bn bc) (listB 0 (ps.take (j + q)))) ∧ Below w1.heap.size w1 wx)
          case atStart => exact ⟨0, by omega, rfl, rfl, rfl, ⟨_, _, _, rfl, HS5.out⟩, HB5.out⟩
          case round =>
            obtain ⟨q, hgq, rfl, rfl, rfl, ⟨bo, bn, bc, rfl, hsl⟩, hbq⟩ := hrel
            have HSL := hide hsl
            have HBQ := hide hbq
            clear hsl hbq HS5 HB5 hrow
            by_cases hqn : q < n - j
            · obtain ⟨g1, o1, rfl, q1, q2, hd1, hi1⟩ := (HDR.out _ (HPW.out wr HBQ.out)).at q (by have := HN.out; simp; omega)
              have egd : (ps.drop j).getD q noPo = ps.getD (j + q) noPo := by simp [List.getD, List.getElem?_drop]
              have hst := list_step HOK.out (j + q) (by have := HN.out; omega)
              have hbl := list_bytes HOK.out (by have := HN.out; omega) (j + q)
              rw [egd] at q1 hd1 hi1
              obtain ⟨x, hx⟩ : ∃ x, ps.getD (j + q) noPo = x := ⟨_, rfl⟩
              rw [hx] at q1 hd1 hi1 hst
              obtain ⟨xo, xc, hxv, _, _⟩ := hi1.shape
              rw [hxv] at q2 hi1
              obtain ⟨W2, hW2⟩ : ∃ W2, wr.alloc (.cells #[.int .u32 (x.doc : Int), .slice xo x.pos.length xc] 34) = W2 := ⟨_, rfl⟩
              have hb2 : Below wr.heap.size wr W2 := by rw [← hW2]; exact (Below.refl _ wr).alloc (Nat.le_refl _) _
              have HB2 := hide (HBQ.out.trans (hb2.mono HBQ.out.size))
              have hB2 : Blk W2 wr.heap.size 34 [.int .u32 (x.doc : Int), .slice xo x.pos.length xc] := by rw [← hW2]; exact Blk.new wr _ _
              obtain ⟨x0, x1⟩ := box_po hB2
              have HPB := hide hB2
              have HSW : Sl W2 (.slice bo bn bc) (listB 0 (ps.take (j + q))) := HSL.out.keep (fun q _ hlt => hb2.block q hlt)
              have hpt := put_any W2 (lastDoc 0 (ps.take (j + q))) _ _ HSW (by omega) (.agg #[.int .u32 (x.doc : Int), .slice xo x.pos.length xc]) x ⟨hd1, _, rfl, hi1.below hb2⟩
              rw [if_pos hst.1, check_ok hst.1, ← hst.2.1] at hpt
              have HPT := hide hpt
              have HLD : Hid (lastDoc 0 (ps.take (j + (q + 1))) = x.doc) := hst.2.2
              have HEQ : Hid (ps.take (j + q + 1) = ps.take (j + (q + 1))) := rfl
              have i1 : (q : Int) < ((n - j : Nat) : Int) := by omega
              generalize x.pos.length = xn at *
              generalize x.doc = dx at *
              generalize lastDoc 0 (ps.take (j + q)) = D at *
              clear hx hi1 hxv hb2 hst hbl egd hB2 HSW hpt hcut HSL
              go_wp2_with (first
                | (go_at_call 14; refine HPT.out.mono ?_; rintro e w5 hg5; obtain ⟨bo5, bn5, bc5, rfl, hs5, hm5, hb5⟩ := hg5.sl (listB_ok _ _); have HS5 := hide hs5; have HB5 := hide (HB2.out.trans (hb5.mono HB2.out.size)); obtain ⟨x0, x1⟩ := box_po (HPB.out.below hb5 HPB.out.lt); clear HPT hs5 hb5 hg5 hm5))
              go_roundg (gk - 1)
              case measure => omega
              case rel => exact ⟨q + 1, by omega, rfl, by rw [HLD.out], by go_num, ⟨_, _, _, rfl, by rw [← HEQ.out]; exact HS5.out⟩, HB5.out⟩
            · obtain rfl : q = n - j := by omega
              have hall : ps.take (j + (n - j)) = ps := List.take_of_length_le (by have := HN.out; omega)
              have hsl := HSL.out
              rw [hall] at hsl
              have hsm := refSame_any wr _ _ _ _ hsl (HS1.out.keep (fun q _ hlt => HBQ.out.block q hlt))
              rw [decide_eq_true rfl] at hsm
              have HSM := hide hsm
              clear hsl hsm hall HSL
              go_wp2_with (go_at_call 12; refine HSM.out.mono ?_; rintro e w5 ⟨rfl, hb5⟩; have HB5 := hide (HBQ.out.trans (hb5.mono HBQ.out.size)); clear HSM hb5)
              go_ret
              exact ⟨rfl, HB1.out.trans (HB5.out.mono HB1.out.size)⟩

end Go.Proofs.Ytmjkpgmmfooajaa
