/- The walk of PostingPuts. -/
import Derived.Test.YtmjkpgmmfooajaaPoLive
import Derived.Test.YtmjkpgmmfooajaaPoFew
import Derived.Test.YtmjkpgmmfooajaaPoRPut
import Derived.Test.YtmjkpgmmfooajaaPoCln
import Derived.Test.YtmjkpgmmfooajaaPoDec
import Derived.BigQuiet
namespace Go.Proofs.Ytmjkpgmmfooajaa
set_option maxRecDepth 20000
open Go.RowKit
set_option linter.unusedVariables false
set_option linter.unusedSimpArgs false
set_option maxRecDepth 100000

theorem live_on {w w' : World} (hb : Below w.heap.size w w') : Calls Try.prog 8 #[] w' fun e w'' => e = .returned (.bool true) ∧ Below w.heap.size w w'' :=
  (live_any w').mono fun e w'' ⟨he, h⟩ => ⟨he, hb.trans (h.mono hb.size)⟩
theorem put_bytes {prev : Nat} {zs : List Int} {p : Po} (hz : ByteOk zs) : ByteOk (if mayB prev p = true then zs ++ formP prev p else []) := by
  split
  · exact hz.append' (formP_ok _ _)
  · intro z hz; cases hz
theorem listR_ok (ps : List Po) : ByteOk (listR ps) := by
  unfold listR
  split
  · exact listB_ok _ _
  · intro z hz; cases hz

set_option maxHeartbeats 2000000 in
theorem postingPuts_walk (w : World) (prev : Nat) (vb : Value) (zs : List Int) (v : Value) (us : List Value) (ps : List Po) (hprev : prev < 4294967296) (hz : Sl w vb zs) (h : Pps w v us ps ∧ PosOk ps) :
    Calls Try.prog 3 #[.int .u32 (prev : Int), vb, v] w fun e w' => e = .returned (.bool true) ∧ Below w.heap.size w w' := by
  obtain ⟨h, hpk⟩ := h
  have HPK := hide hpk
  have hzb := hz.bytes
  have HZB := hide hzb
  obtain ⟨ao, cap, rfl, h11, h12⟩ := h.shape
  obtain ⟨bo, bc, rfl⟩ := sl_form' hz
  have HP := hide (fun W hb => h.below (hb : Below w.heap.size w W))
  have HZ := hide (fun W hb => hz.keep (w' := W) (fun j _ hlt => (hb : Below w.heap.size w W).block j hlt))
  have HFW : Hid (∀ W, Below w.heap.size w W → Calls Try.prog 9 #[.slice ao ps.length cap] W fun e w' => e = .returned (.bool (fewB ps)) ∧ Below W.heap.size W w') := fun W hb => few_any W _ us ps (h.below hb)
  obtain ⟨n, hn⟩ : ∃ n, ps.length = n := ⟨_, rfl⟩
  have HN := hide hn
  obtain ⟨bn, hbn⟩ : ∃ n, zs.length = n := ⟨_, rfl⟩
  have HBN := hide hbn
  rw [hn] at HP HFW h11 ⊢
  rw [hbn] at HZ ⊢
  clear h hz hzb hn hbn hpk
  have HC : Hid (Below w.heap.size w w) := Below.refl _ _
  cases hf : fewB ps with
  | false =>
    rw [hf] at HFW
    clear hf
    go_enter Try.func3, Try.ntmps3
    go_wp2_with (first
      | (go_at_call 9; refine (HFW.out _ HC.out).mono ?_; rintro e w3 ⟨rfl, hb⟩; have HC := hide (HC.out.trans (hb.mono HC.out.size)); clear HFW hb)
      | (go_at_call 8; refine (live_on HC.out).mono ?_; rintro e w2 ⟨rfl, hb⟩; have HC := hide hb; clear hb))
    go_ret
    exact ⟨rfl, HC.out⟩
  | true =>
    rw [hf] at HFW
    obtain ⟨hf1, hf2⟩ := few_all hf
    clear hf
    by_cases hb3 : 1000 < bn
    · have hbi : (1000 : Int) < (bn : Int) := by omega
      go_enter Try.func3, Try.ntmps3
      go_wp2_with (first
        | (go_at_call 9; refine (HFW.out _ HC.out).mono ?_; rintro e w3 ⟨rfl, hb⟩; have HC := hide (HC.out.trans (hb.mono HC.out.size)); clear HFW hb)
        | (go_at_call 8; refine (live_on HC.out).mono ?_; rintro e w2 ⟨rfl, hb⟩; have HC := hide hb; clear hb))
      go_ret
      exact ⟨rfl, HC.out⟩
    · have hbi : ¬ (1000 : Int) < (bn : Int) := by omega
      have HXB := hide (listR_ok ps)
      have HL : Hid (∀ W, Below w.heap.size w W → Calls Try.prog 10 #[.slice ao n cap] W (GivesBE W (listR ps) (listE ps))) := fun W hb => list_any W _ us ps (HP.out W hb)
      have HM : Hid (∀ W, Below w.heap.size w W → Calls Try.prog 11 #[.slice ao n cap] W (GivesBE W (listR ps) (listE ps))) := fun W hb => refListP_any W _ us ps (HP.out W hb) hf1
      have HSM : Hid (∀ W a m c a' m' c' XS, Sl W (.slice a m c) XS → Sl W (.slice a' m' c') XS → Calls Try.prog 12 #[.slice a m c, .slice a' m' c'] W fun e w' => e = .returned (.bool true) ∧ Below W.heap.size W w') := fun W a m c a' m' c' XS h1 h2 => by
        have := refSame_any W _ _ XS XS h1 h2
        rwa [decide_eq_true rfl] at this
      have HF2 := hide hf2
      have hn60 : n ≤ 60 := by have := HN.out; omega
      generalize listE ps = E at *
      generalize listR ps = XS at *
      clear hf1 hf2
      go_enter Try.func3, Try.ntmps3
      go_wp2_with (first
        | (go_at_call 9; refine (HFW.out _ HC.out).mono ?_; rintro e w3 ⟨rfl, hb⟩; have HC := hide (HC.out.trans (hb.mono HC.out.size)); clear HFW hb)
        | (go_at_call 8; refine (live_on HC.out).mono ?_; rintro e w2 ⟨rfl, hb⟩; have HC := hide hb; clear hb)
        | (go_at_call 10; refine (HL.out _ HC.out).mono ?_; rintro e w4 hg; obtain ⟨a4, m4, c4, rfl, hs4, hm4, hb⟩ := hg.sl HXB.out; have HS4 := hide hs4; have HC := hide (HC.out.trans (hb.mono HC.out.size)); clear HL hb hg hs4 hm4)
        | (go_at_call 11; refine (HM.out _ HC.out).mono ?_; rintro e w5 hg; obtain ⟨a5, m5, c5, rfl, hs5, hm5, hb⟩ := hg.sl HXB.out; have HS5 := hide hs5; have HS4 := hide (HS4.out.keep (fun j _ hlt => hb.block j hlt)); have HC := hide (HC.out.trans (hb.mono HC.out.size)); clear HM hb hg hs5 hm5)
        | (go_at_call 12; refine (HSM.out _ _ _ _ _ _ _ _ HS4.out HS5.out).mono ?_; rintro e w6 ⟨rfl, hb⟩; have HC := hide (HC.out.trans (hb.mono HC.out.size)); clear hb HS4 HS5))
      go_loopg [7, 8, 9, 10, 12, 13, 14, 49] n (fun g b7 b8 b9 b10 b12 b13 b14 ix wr => ∃ i : Nat, g + i = n ∧ ix = .int .i64 (i : Int) ∧ Below w.heap.size w wr)
      case atStart => exact ⟨0, by omega, rfl, HC.out⟩
      case round =>
        obtain ⟨i, hg, rfl, hbq⟩ := hrel
        have HBQ := hide hbq
        have HG : Hid (gk + i = n) := hg
        clear hbq HC
        by_cases hin : i < n
        · obtain ⟨g1, o1, rfl, q1, q2, hd1, hi1⟩ := (HP.out wr HBQ.out).at i (by have := HN.out; omega)
          have hp0 := (HP.out wr HBQ.out).at 0 (by have := HN.out; omega)
          have hfw := HF2.out i (by have := HN.out; omega)
          have hpk := HPK.out i (by have := HN.out; omega)
          obtain ⟨p, hp⟩ : ∃ p, ps.getD i noPo = p := ⟨_, rfl⟩
          obtain ⟨p0, hp0e⟩ : ∃ p, ps.getD 0 noPo = p := ⟨_, rfl⟩
          rw [hp] at q1 hd1 hi1 hfw hpk
          rw [hp0e] at hp0
          obtain ⟨_, _, he0, z1, z2, hd0, hi0⟩ := hp0
          simp only [Option.some.injEq, Addr.mk.injEq, and_true] at he0
          obtain ⟨rfl, rfl⟩ := he0
          simp only [Nat.zero_mul, Nat.add_zero] at z1 z2
          obtain ⟨xo, xc, hxv, _, _⟩ := hi1.shape
          rw [hxv] at q2 hi1
          obtain ⟨zo, zc, hzv, _, _⟩ := hi0.shape
          rw [hzv] at z2 hi0
          have HPV : Hid (∀ W, Below wr.heap.size wr W → PoV W (.agg #[.int .u32 (p.doc : Int), .slice xo p.pos.length xc]) p) := fun W hb => ⟨hd1, _, rfl, hi1.below hb⟩
          have HZV : Hid (∀ W, Below wr.heap.size wr W → PoV W (.agg #[.int .u32 (p0.doc : Int), .slice zo p0.pos.length zc]) p0) := fun W hb => ⟨hd0, _, rfl, hi0.below hb⟩
          have HCZ0 : Hid (∀ W, Below wr.heap.size wr W → W.cell? ⟨g1, o1, none⟩ = some (.int .u32 (p0.doc : Int)) ∧ W.cell? ⟨g1, o1 + 1, none⟩ = some (.slice zo p0.pos.length zc)) := fun W hb => ⟨cell_below hb z1, cell_below hb z2⟩
          obtain ⟨W2, hW2⟩ : ∃ W2, wr.alloc (.cells #[.int .u32 (p.doc : Int), .slice xo p.pos.length xc] 34) = W2 := ⟨_, rfl⟩
          have hb2 : Below wr.heap.size wr W2 := by rw [← hW2]; exact (Below.refl _ wr).alloc (Nat.le_refl _) _
          have hs2 : W2.heap.size = wr.heap.size + 1 := by rw [← hW2]; simp
          have hB2 : Blk W2 wr.heap.size 34 [.int .u32 (p.doc : Int), .slice xo p.pos.length xc] := by rw [← hW2]; exact Blk.new wr _ _
          have HB2 := hide hb2
          have HS2 := hide hs2
          have HCL0 := hide (cloneP_any W2 _ p (HPV.out W2 hb2) (by omega))
          obtain ⟨x0, x1⟩ := box_po hB2
          have HBP := hide hB2
          have HTR : Hid (∀ W, Below W2.heap.size W2 W → Below wr.heap.size wr W) := fun W hb => HB2.out.trans (hb.mono HB2.out.size)
          have HTW : Hid (∀ W, Below W2.heap.size W2 W → Below w.heap.size w W) := fun W hb => HBQ.out.trans ((HTR.out W hb).mono HBQ.out.size)
          have HPT : Hid (∀ W, Below W2.heap.size W2 W → Calls Try.prog 14 #[.slice bo bn bc, .int .u32 (prev : Int), .agg #[.int .u32 (p.doc : Int), .slice xo p.pos.length xc]] W (GivesBE W (if mayB prev p = true then zs ++ formP prev p else []) (checkP prev p))) := fun W hb => put_any W prev _ zs (HZ.out W (HTW.out W hb)) (by have := HBN.out; omega) _ p (HPV.out W (HTR.out W hb))
          have HRT : Hid (∀ W, Below W2.heap.size W2 W → Calls Try.prog 15 #[.slice bo bn bc, .int .u32 (prev : Int), .agg #[.int .u32 (p.doc : Int), .slice xo p.pos.length xc]] W (GivesBE W (if mayB prev p = true then zs ++ formP prev p else []) (checkP prev p))) := fun W hb => refPutP_any W prev _ zs (HZ.out W (HTW.out W hb)) (by have := HBN.out; omega) _ p (HPV.out W (HTR.out W hb))
          have HCK : Hid (∀ W, Below W2.heap.size W2 W → Calls Try.prog 16 #[.int .u32 (prev : Int), .agg #[.int .u32 (p.doc : Int), .slice xo p.pos.length xc]] W fun e w' => e = .returned (.int .i64 (checkP prev p)) ∧ Below W.heap.size W w') := fun W hb => check_any W prev _ p (HPV.out W (HTR.out W hb))
          have HRK : Hid (∀ W, Below W2.heap.size W2 W → Calls Try.prog 17 #[.int .u32 (prev : Int), .agg #[.int .u32 (p.doc : Int), .slice xo p.pos.length xc]] W fun e w' => e = .returned (.int .i64 (checkP prev p)) ∧ Below W.heap.size W w') := fun W hb => refCheckP_any W prev _ p (HPV.out W (HTR.out W hb))
          have HRB : Hid (ByteOk (if mayB prev p = true then zs ++ formP prev p else [])) := put_bytes HZB.out
          have HSPC : Hid (∀ W v, PoV W v p → Below W2.heap.size W2 W → Calls Try.prog 18 #[v, .agg #[.int .u32 (p.doc : Int), .slice xo p.pos.length xc]] W fun e w' => e = .returned (.bool true) ∧ Below W.heap.size W w') := fun W v hv hb => by
            have := sameP_any W v _ p p hv (HPV.out W (HTR.out W hb))
            rwa [sameP_refl] at this
          have HSA0 : Hid (∀ W, Below W2.heap.size W2 W → Calls Try.prog 18 #[.agg #[.int .u32 (p.doc : Int), .slice xo p.pos.length xc], .agg #[.int .u32 (p0.doc : Int), .slice zo p0.pos.length zc]] W fun e w' => e = .returned (.bool (sameP p p0)) ∧ Below W.heap.size W w') := fun W hb => sameP_any W _ _ p p0 (HPV.out W (HTR.out W hb)) (HZV.out W (HTR.out W hb))
          have HSB0 : Hid (∀ W, Below W2.heap.size W2 W → Calls Try.prog 19 #[.agg #[.int .u32 (p.doc : Int), .slice xo p.pos.length xc], .agg #[.int .u32 (p0.doc : Int), .slice zo p0.pos.length zc]] W fun e w' => e = .returned (.bool (sameP p p0)) ∧ Below W.heap.size W w') := fun W hb => refSameP_any W _ _ p p0 (HPV.out W (HTR.out W hb)) (HZV.out W (HTR.out W hb))
          have HSD : Hid (∀ W u, PoV W (.agg #[.int .u32 (p.doc : Int), u]) ⟨p.doc, decL p.pos p.pos.length⟩ → Below W2.heap.size W2 W → 1 ≤ p.pos.length → Calls Try.prog 18 #[.agg #[.int .u32 (p.doc : Int), u], .agg #[.int .u32 (p.doc : Int), .slice xo p.pos.length xc]] W fun e w' => e = .returned (.bool false) ∧ Below W.heap.size W w') := fun W u hv hb h1 => by
            have := sameP_any W _ _ _ p hv (HPV.out W (HTR.out W hb))
            rwa [sameP_ne (by intro e; have := congrArg Po.pos e; exact decL_ne p.pos h1 hpk this)] at this
          have HNN : Hid (0 < n ∧ n ≤ cap ∧ cap ≤ 9223372036854775807) := ⟨by omega, h11, h12⟩
          have HQ1 := hide hd1
          generalize sameP p p0 = sb at *
          generalize (if mayB prev p = true then zs ++ formP prev p else []) = R at *
          generalize checkP prev p = K at *
          generalize p0.pos.length = zn at *
          generalize p0.doc = d0 at *
          have i1 : (i : Int) < (n : Int) := by omega
          clear hp hp0e hi1 hi0 hxv hzv hd0 hd1 z1 z2 hb2 hB2 hpk hs2
          obtain ⟨d, pos⟩ := p
          simp only at *
          obtain ⟨xn, hxn⟩ : ∃ m, pos.length = m := ⟨_, rfl⟩
          rw [hxn] at HBP x1 q2 hW2 HPT HRT HCK HRK HSPC HSA0 HSB0 HSD hfw
          have HXN := hide hxn
          have HCL : Hid (Calls Try.prog 13 #[.agg #[.int .u32 (d : Int), .slice xo xn xc]] W2 fun e w' => ∃ co cc, e = .returned (.agg #[.int .u32 (d : Int), .slice co xn cc]) ∧ Ints w' W2.heap.size (.slice co xn cc) pos ∧ Below W2.heap.size W2 w') := by
            have := HCL0.out
            rw [hxn] at this
            refine this.mono ?_
            rintro e w' ⟨u, rfl, ⟨_, cu, rfl, hci⟩, hb⟩
            obtain ⟨co, cc, rfl⟩ := hci.shape
            rw [hxn] at hci ⊢
            exact ⟨co, cc, rfl, hci, hb⟩
          have HPX : Hid (∀ W, Below W2.heap.size W2 W → W.cell? ⟨wr.heap.size, 0, none⟩ = some (.int .u32 (d : Int)) ∧ W.cell? ⟨wr.heap.size, 1, none⟩ = some (.slice xo xn xc)) := fun W hb => box_po (HBP.out.below hb HBP.out.lt)
          clear hxn HCL0
          go_wp2_with (first
            | (go_at_call 13; refine HCL.out.mono ?_; rintro e w5 ⟨co, cc, rfl, hci, hb⟩; have hba : Below W2.heap.size W2 (w5.alloc (.cells #[.int .u32 (d : Int), .slice co xn cc] 34)) := hb.alloc hb.size _; have HK := hide hba; have HK5 := hide hb; have HCI := hide hci; clear x0 x1; obtain ⟨x0, x1⟩ := HPX.out _ hba; clear HCL hci hb hba)
            | (go_at_call 14; refine (HPT.out _ HK.out).mono ?_; rintro e w7 hg7; obtain ⟨a7, n7, c7, rfl, hs7, hm7, hb⟩ := hg7.sl HRB.out; have HS7 := hide hs7; have hbk := HK.out.trans (hb.mono HK.out.size); have HCB := hide ((Blk.new w5 34 [.int .u32 (d : Int), .slice co xn cc]).below hb (by simp)); have HD7 := hide hb; have HK := hide hbk; clear x0 x1; obtain ⟨x0, x1⟩ := HPX.out _ hbk; clear HPT hg7 hs7 hm7 hb hbk)
            | (go_at_call 15; refine (HRT.out _ HK.out).mono ?_; rintro e w8 hg8; obtain ⟨a9, n9, c9, rfl, hs8, hm8, hb⟩ := hg8.sl HRB.out; have HS8 := hide hs8; have HS7 := hide (HS7.out.keep (fun j _ hlt => hb.block j hlt)); have hbk := HK.out.trans (hb.mono HK.out.size); have HCB := hide (HCB.out.below hb HCB.out.lt); have HD8 := hide (HD7.out.trans (hb.mono HD7.out.size)); have HK := hide hbk; clear HRT hg8 hs8 hm8 hb hbk x0 x1 HD7))
          have hci8 : Ints w8 W2.heap.size (.slice co xn cc) pos := (HCI.out.only ((Only.refl (fun _ => False) w5).alloc (.cells #[.int .u32 (d : Int), .slice co xn cc] 34)) (fun _ _ h => h)).only (Only.of_below (fun _ => False) HD8.out) (fun _ _ h => h)
          have HCLT : Hid (∀ j, (Value.slice co xn cc).ownBlock = some j → W2.heap.size ≤ j ∧ j < w5.heap.size) := fun j hj => HCI.out.lt j hj
          have HCI8 := hide hci8
          have HKT : Hid (∀ wx, Below w8.heap.size w8 wx → Below W2.heap.size W2 wx) := fun wx hb => HK.out.trans (hb.mono HK.out.size)
          have HCP : Hid (∀ wx, Below w8.heap.size w8 wx → wx.cell? ⟨wr.heap.size, 0, none⟩ = some (.int .u32 (d : Int)) ∧ wx.cell? ⟨wr.heap.size, 1, none⟩ = some (.slice xo xn xc)) := fun wx hb => HPX.out wx (HKT.out wx hb)
          have HCC : Hid (∀ wx, Below w8.heap.size w8 wx → wx.cell? ⟨w5.heap.size, 0, none⟩ = some (.int .u32 (d : Int)) ∧ wx.cell? ⟨w5.heap.size, 1, none⟩ = some (.slice co xn cc)) := fun wx hb => box_po (HCB.out.below hb HCB.out.lt)
          have HCZ : Hid (∀ wx, Below w8.heap.size w8 wx → wx.cell? ⟨g1, o1, none⟩ = some (.int .u32 (d0 : Int)) ∧ wx.cell? ⟨g1, o1 + 1, none⟩ = some (.slice zo zn zc)) := fun wx hb => HCZ0.out wx (HTR.out wx (HKT.out wx hb))
          have HK1 : Hid (∀ wx, Below w8.heap.size w8 wx → Calls Try.prog 16 #[.int .u32 (prev : Int), .agg #[.int .u32 (d : Int), .slice xo xn xc]] wx fun e w' => e = .returned (.int .i64 K) ∧ Below wx.heap.size wx w') := fun wx hb => HCK.out wx (HKT.out wx hb)
          have HK2 : Hid (∀ wx, Below w8.heap.size w8 wx → Calls Try.prog 17 #[.int .u32 (prev : Int), .agg #[.int .u32 (d : Int), .slice xo xn xc]] wx fun e w' => e = .returned (.int .i64 K) ∧ Below wx.heap.size wx w') := fun wx hb => HRK.out wx (HKT.out wx hb)
          have HS12 : Hid (∀ wx, Below w8.heap.size w8 wx → Calls Try.prog 12 #[.slice a7 n7 c7, .slice a9 n9 c9] wx fun e w' => e = .returned (.bool true) ∧ Below wx.heap.size wx w') := fun wx hb => HSM.out wx _ _ _ _ _ _ _ (HS7.out.keep (fun j _ hlt => hb.block j hlt)) (HS8.out.keep (fun j _ hlt => hb.block j hlt))
          have HS18 : Hid (∀ wx, Below w8.heap.size w8 wx → Calls Try.prog 18 #[.agg #[.int .u32 (d : Int), .slice co xn cc], .agg #[.int .u32 (d : Int), .slice xo xn xc]] wx fun e w' => e = .returned (.bool true) ∧ Below wx.heap.size wx w') := fun wx hb => HSPC.out wx _ ⟨HQ1.out, _, rfl, HCI8.out.is.below hb⟩ (HKT.out wx hb)
          have HSA : Hid (∀ wx, Below w8.heap.size w8 wx → Calls Try.prog 18 #[.agg #[.int .u32 (d : Int), .slice xo xn xc], .agg #[.int .u32 (d0 : Int), .slice zo zn zc]] wx fun e w' => e = .returned (.bool sb) ∧ Below wx.heap.size wx w') := fun wx hb => HSA0.out wx (HKT.out wx hb)
          have HSB : Hid (∀ wx, Below w8.heap.size w8 wx → Calls Try.prog 19 #[.agg #[.int .u32 (d : Int), .slice xo xn xc], .agg #[.int .u32 (d0 : Int), .slice zo zn zc]] wx fun e w' => e = .returned (.bool sb) ∧ Below wx.heap.size wx w') := fun wx hb => HSB0.out wx (HKT.out wx hb)
          have HWS : Hid (W2.heap.size = wr.heap.size + 1 ∧ w5.heap.size + 1 ≤ w8.heap.size ∧ W2.heap.size ≤ w5.heap.size) := ⟨HS2.out, by have := HD8.out.size; simpa using this, HK5.out.size⟩
          obtain ⟨PB, hPB⟩ : ∃ x, wr.heap.size = x := ⟨_, rfl⟩
          obtain ⟨CB, hCB⟩ : ∃ x, w5.heap.size = x := ⟨_, rfl⟩
          have HPB := hide hPB
          rw [hCB] at HCC HCLT HCB HWS ⊢
          rw [hPB] at HCP HWS ⊢
          clear hci8 hPB hCB hg q1 q2
          refine wp_region_facts (FL [isV (.int .u32 (prev : Int)), isV (.agg #[.int .u32 (d : Int), .slice xo xn xc]), isV (.int .i64 (K : Int)), isV (.int .u32 (prev : Int)), isV (.agg #[.int .u32 (d : Int), .slice xo xn xc]), isV (.int .i64 (K : Int)), isV (.bool false), isV (.bool false), isV (.slice a7 n7 c7), isV (.slice a9 n9 c9), isV (.bool true), isV (.bool false), isV (.bool false), isV (.bool false), isV (.int .i64 (K : Int)), isV (.int .i64 (K : Int)), isV (.bool false), isV (.bool false), isV (.bool false), isV (.agg #[.int .u32 (d : Int), .slice co xn cc]), isV (.agg #[.int .u32 (d : Int), .slice xo xn xc]), isV (.bool true), isV (.bool false), isV (.bool false), isV (.bool false), isV (.agg #[.int .u32 (d : Int), .slice xo xn xc]), isV (.slice (some ⟨g1, o1, none⟩) n cap), isV (.pointer (some ⟨g1, o1, none⟩)), isV (.agg #[.int .u32 (d0 : Int), .slice zo zn zc]), isV (.bool sb), isV (.agg #[.int .u32 (d : Int), .slice xo xn xc]), isV (.slice (some ⟨g1, o1, none⟩) n cap), isV (.pointer (some ⟨g1, o1, none⟩)), isV (.agg #[.int .u32 (d0 : Int), .slice zo zn zc]), isV (.bool sb), isV (.bool false), isV (.bool false)]) 130 (by kernel_rfl) (by kernel_rfl) (by kernel_rfl) rfl (FL_stable _ (by repeat (first | exact trivial | refine ⟨stable_isV _, ?_⟩))) ?_ ?_
          · refine ⟨?_, ?_, ?_, ?_, ?_, ?_, ?_, ?_, ?_, ?_, ?_, ?_, ?_, ?_, ?_, ?_, ?_, ?_, ?_, ?_, ?_, ?_, ?_, ?_, ?_, ?_, ?_, ?_, ?_, ?_, ?_, ?_, ?_, ?_, ?_, ?_, ?_, trivial⟩
            · intro act wx h
              have e0 : act.eval (.tmp 0) = .int .u32 (prev : Int) := h.old 0 (by kernel_rfl)
              have hbel := h.below
              clear h
              refine gives_by rfl act.eval rfl ?_
              generalize act.eval = ρ at *
              intro hf hc
              go_simp
              exact ⟨Below.refl _ _, rfl⟩
            · intro act wx h
              have e12 : act.eval (.tmp 12) = .pointer (some ⟨PB, 0, none⟩) := h.old 12 (by kernel_rfl)
              have hbel := h.below
              clear h
              obtain ⟨cx, cy⟩ := HCP.out wx hbel
              refine gives_by rfl act.eval rfl ?_
              generalize act.eval = ρ at *
              intro hf hc
              go_simp
              exact ⟨Below.refl _ _, rfl⟩
            · intro act wx h
              obtain ⟨v69, e69, f69⟩ := h.val 0 69 (by kernel_rfl)
              obtain rfl : v69 = .int .u32 (prev : Int) := f69
              obtain ⟨v70, e70, f70⟩ := h.val 1 70 (by kernel_rfl)
              obtain rfl : v70 = .agg #[.int .u32 (d : Int), .slice xo xn xc] := f70
              have hbel := h.below
              clear h
              refine gives_by rfl act.eval rfl ?_
              generalize act.eval = ρ at *
              intro hf hc
              go_simp
              exact call_gives (HK1.out wx hbel) (fun _ => rfl)
            · intro act wx h
              have e0 : act.eval (.tmp 0) = .int .u32 (prev : Int) := h.old 0 (by kernel_rfl)
              have hbel := h.below
              clear h
              refine gives_by rfl act.eval rfl ?_
              generalize act.eval = ρ at *
              intro hf hc
              go_simp
              exact ⟨Below.refl _ _, rfl⟩
            · intro act wx h
              have e12 : act.eval (.tmp 12) = .pointer (some ⟨PB, 0, none⟩) := h.old 12 (by kernel_rfl)
              have hbel := h.below
              clear h
              obtain ⟨cx, cy⟩ := HCP.out wx hbel
              refine gives_by rfl act.eval rfl ?_
              generalize act.eval = ρ at *
              intro hf hc
              go_simp
              exact ⟨Below.refl _ _, rfl⟩
            · intro act wx h
              obtain ⟨v72, e72, f72⟩ := h.val 3 72 (by kernel_rfl)
              obtain rfl : v72 = .int .u32 (prev : Int) := f72
              obtain ⟨v73, e73, f73⟩ := h.val 4 73 (by kernel_rfl)
              obtain rfl : v73 = .agg #[.int .u32 (d : Int), .slice xo xn xc] := f73
              have hbel := h.below
              clear h
              refine gives_by rfl act.eval rfl ?_
              generalize act.eval = ρ at *
              intro hf hc
              go_simp
              exact call_gives (HK2.out wx hbel) (fun _ => rfl)
            · intro act wx h
              obtain ⟨v71, e71, f71⟩ := h.val 2 71 (by kernel_rfl)
              obtain rfl : v71 = .int .i64 (K : Int) := f71
              obtain ⟨v74, e74, f74⟩ := h.val 5 74 (by kernel_rfl)
              obtain rfl : v74 = .int .i64 (K : Int) := f74
              have hbel := h.below
              clear h
              refine gives_by rfl act.eval rfl ?_
              generalize act.eval = ρ at *
              intro hf hc
              go_simp
              exact ⟨Below.refl _ _, rfl⟩
            · intro act wx h
              obtain ⟨v75, e75, f75⟩ := h.val 6 75 (by kernel_rfl)
              obtain rfl : v75 = .bool false := f75
              have hbel := h.below
              clear h
              refine gives_by rfl act.eval rfl ?_
              generalize act.eval = ρ at *
              intro hf hc
              go_simp
              exact ⟨Below.refl _ _, rfl⟩
            · intro act wx h
              have e7 : act.eval (.tmp 7) = .slice a7 n7 c7 := h.old 7 (by kernel_rfl)
              have hg := h.guard 7 76 (by kernel_rfl) false (fun v hv => hv)
              have hbel := h.below
              clear h
              refine gives_by (by simp only [Region.wanted, hg]; rfl) act.eval rfl ?_
              generalize act.eval = ρ at *
              intro hf hc
              go_simp
              exact ⟨Below.refl _ _, rfl⟩
            · intro act wx h
              have e9 : act.eval (.tmp 9) = .slice a9 n9 c9 := h.old 9 (by kernel_rfl)
              have hg := h.guard 7 76 (by kernel_rfl) false (fun v hv => hv)
              have hbel := h.below
              clear h
              refine gives_by (by simp only [Region.wanted, hg]; rfl) act.eval rfl ?_
              generalize act.eval = ρ at *
              intro hf hc
              go_simp
              exact ⟨Below.refl _ _, rfl⟩
            · intro act wx h
              obtain ⟨v77, e77, f77⟩ := h.val 8 77 (by kernel_rfl)
              obtain rfl : v77 = .slice a7 n7 c7 := f77
              obtain ⟨v78, e78, f78⟩ := h.val 9 78 (by kernel_rfl)
              obtain rfl : v78 = .slice a9 n9 c9 := f78
              have hg := h.guard 7 76 (by kernel_rfl) false (fun v hv => hv)
              have hbel := h.below
              clear h
              refine gives_by (by simp only [Region.wanted, hg]; rfl) act.eval rfl ?_
              generalize act.eval = ρ at *
              intro hf hc
              go_simp
              exact call_gives (HS12.out wx hbel) (fun _ => rfl)
            · intro act wx h
              obtain ⟨v79, e79, f79⟩ := h.val 10 79 (by kernel_rfl)
              obtain rfl : v79 = .bool true := f79
              have hg := h.guard 7 76 (by kernel_rfl) false (fun v hv => hv)
              have hbel := h.below
              clear h
              refine gives_by (by simp only [Region.wanted, hg]; rfl) act.eval rfl ?_
              generalize act.eval = ρ at *
              intro hf hc
              go_simp
              exact ⟨Below.refl _ _, rfl⟩
            · intro act wx h
              obtain ⟨v76, e76, f76⟩ := h.val 7 76 (by kernel_rfl)
              obtain rfl : v76 = .bool false := f76
              obtain ⟨v80, e80, f80⟩ := h.val 11 80 (by kernel_rfl)
              obtain rfl : v80 = .bool false := f80
              have hbel := h.below
              clear h
              refine gives_by rfl act.eval rfl ?_
              generalize act.eval = ρ at *
              intro hf hc
              go_simp
              exact ⟨Below.refl _ _, rfl⟩
            · intro act wx h
              obtain ⟨v81, e81, f81⟩ := h.val 12 81 (by kernel_rfl)
              obtain rfl : v81 = .bool false := f81
              have hbel := h.below
              clear h
              refine gives_by rfl act.eval rfl ?_
              generalize act.eval = ρ at *
              intro hf hc
              go_simp
              exact ⟨Below.refl _ _, rfl⟩
            · intro act wx h
              have e8 : act.eval (.tmp 8) = .int .i64 (K : Int) := h.old 8 (by kernel_rfl)
              have hg := h.guard 13 82 (by kernel_rfl) false (fun v hv => hv)
              have hbel := h.below
              clear h
              refine gives_by (by simp only [Region.wanted, hg]; rfl) act.eval rfl ?_
              generalize act.eval = ρ at *
              intro hf hc
              go_simp
              exact ⟨Below.refl _ _, rfl⟩
            · intro act wx h
              have e10 : act.eval (.tmp 10) = .int .i64 (K : Int) := h.old 10 (by kernel_rfl)
              have hg := h.guard 13 82 (by kernel_rfl) false (fun v hv => hv)
              have hbel := h.below
              clear h
              refine gives_by (by simp only [Region.wanted, hg]; rfl) act.eval rfl ?_
              generalize act.eval = ρ at *
              intro hf hc
              go_simp
              exact ⟨Below.refl _ _, rfl⟩
            · intro act wx h
              obtain ⟨v83, e83, f83⟩ := h.val 14 83 (by kernel_rfl)
              obtain rfl : v83 = .int .i64 (K : Int) := f83
              obtain ⟨v84, e84, f84⟩ := h.val 15 84 (by kernel_rfl)
              obtain rfl : v84 = .int .i64 (K : Int) := f84
              have hg := h.guard 13 82 (by kernel_rfl) false (fun v hv => hv)
              have hbel := h.below
              clear h
              refine gives_by (by simp only [Region.wanted, hg]; rfl) act.eval rfl ?_
              generalize act.eval = ρ at *
              intro hf hc
              go_simp
              exact ⟨Below.refl _ _, rfl⟩
            · intro act wx h
              obtain ⟨v82, e82, f82⟩ := h.val 13 82 (by kernel_rfl)
              obtain rfl : v82 = .bool false := f82
              obtain ⟨v85, e85, f85⟩ := h.val 16 85 (by kernel_rfl)
              obtain rfl : v85 = .bool false := f85
              have hbel := h.below
              clear h
              refine gives_by rfl act.eval rfl ?_
              generalize act.eval = ρ at *
              intro hf hc
              go_simp
              exact ⟨Below.refl _ _, rfl⟩
            · intro act wx h
              obtain ⟨v86, e86, f86⟩ := h.val 17 86 (by kernel_rfl)
              obtain rfl : v86 = .bool false := f86
              have hbel := h.below
              clear h
              refine gives_by rfl act.eval rfl ?_
              generalize act.eval = ρ at *
              intro hf hc
              go_simp
              exact ⟨Below.refl _ _, rfl⟩
            · intro act wx h
              have e13 : act.eval (.tmp 13) = .pointer (some ⟨CB, 0, none⟩) := h.old 13 (by kernel_rfl)
              have hg := h.guard 18 87 (by kernel_rfl) false (fun v hv => hv)
              have hbel := h.below
              clear h
              obtain ⟨cx, cy⟩ := HCC.out wx hbel
              refine gives_by (by simp only [Region.wanted, hg]; rfl) act.eval rfl ?_
              generalize act.eval = ρ at *
              intro hf hc
              go_simp
              exact ⟨Below.refl _ _, rfl⟩
            · intro act wx h
              have e12 : act.eval (.tmp 12) = .pointer (some ⟨PB, 0, none⟩) := h.old 12 (by kernel_rfl)
              have hg := h.guard 18 87 (by kernel_rfl) false (fun v hv => hv)
              have hbel := h.below
              clear h
              obtain ⟨cx, cy⟩ := HCP.out wx hbel
              refine gives_by (by simp only [Region.wanted, hg]; rfl) act.eval rfl ?_
              generalize act.eval = ρ at *
              intro hf hc
              go_simp
              exact ⟨Below.refl _ _, rfl⟩
            · intro act wx h
              obtain ⟨v88, e88, f88⟩ := h.val 19 88 (by kernel_rfl)
              obtain rfl : v88 = .agg #[.int .u32 (d : Int), .slice co xn cc] := f88
              obtain ⟨v89, e89, f89⟩ := h.val 20 89 (by kernel_rfl)
              obtain rfl : v89 = .agg #[.int .u32 (d : Int), .slice xo xn xc] := f89
              have hg := h.guard 18 87 (by kernel_rfl) false (fun v hv => hv)
              have hbel := h.below
              clear h
              refine gives_by (by simp only [Region.wanted, hg]; rfl) act.eval rfl ?_
              generalize act.eval = ρ at *
              intro hf hc
              go_simp
              exact call_gives (HS18.out wx hbel) (fun _ => rfl)
            · intro act wx h
              obtain ⟨v90, e90, f90⟩ := h.val 21 90 (by kernel_rfl)
              obtain rfl : v90 = .bool true := f90
              have hg := h.guard 18 87 (by kernel_rfl) false (fun v hv => hv)
              have hbel := h.below
              clear h
              refine gives_by (by simp only [Region.wanted, hg]; rfl) act.eval rfl ?_
              generalize act.eval = ρ at *
              intro hf hc
              go_simp
              exact ⟨Below.refl _ _, rfl⟩
            · intro act wx h
              obtain ⟨v87, e87, f87⟩ := h.val 18 87 (by kernel_rfl)
              obtain rfl : v87 = .bool false := f87
              obtain ⟨v91, e91, f91⟩ := h.val 22 91 (by kernel_rfl)
              obtain rfl : v91 = .bool false := f91
              have hbel := h.below
              clear h
              refine gives_by rfl act.eval rfl ?_
              generalize act.eval = ρ at *
              intro hf hc
              go_simp
              exact ⟨Below.refl _ _, rfl⟩
            · intro act wx h
              obtain ⟨v92, e92, f92⟩ := h.val 23 92 (by kernel_rfl)
              obtain rfl : v92 = .bool false := f92
              have hbel := h.below
              clear h
              refine gives_by rfl act.eval rfl ?_
              generalize act.eval = ρ at *
              intro hf hc
              go_simp
              exact ⟨Below.refl _ _, rfl⟩
            · intro act wx h
              have e12 : act.eval (.tmp 12) = .pointer (some ⟨PB, 0, none⟩) := h.old 12 (by kernel_rfl)
              have hg := h.guard 24 93 (by kernel_rfl) false (fun v hv => hv)
              have hbel := h.below
              clear h
              obtain ⟨cx, cy⟩ := HCP.out wx hbel
              refine gives_by (by simp only [Region.wanted, hg]; rfl) act.eval rfl ?_
              generalize act.eval = ρ at *
              intro hf hc
              go_simp
              exact ⟨Below.refl _ _, rfl⟩
            · intro act wx h
              have e2 : act.eval (.tmp 2) = .slice (some ⟨g1, o1, none⟩) n cap := h.old 2 (by kernel_rfl)
              have hg := h.guard 24 93 (by kernel_rfl) false (fun v hv => hv)
              have hbel := h.below
              clear h
              refine gives_by (by simp only [Region.wanted, hg]; rfl) act.eval rfl ?_
              generalize act.eval = ρ at *
              intro hf hc
              go_simp
              exact ⟨Below.refl _ _, rfl⟩
            · intro act wx h
              obtain ⟨v95, e95, f95⟩ := h.val 26 95 (by kernel_rfl)
              obtain rfl : v95 = .slice (some ⟨g1, o1, none⟩) n cap := f95
              have hg := h.guard 24 93 (by kernel_rfl) false (fun v hv => hv)
              have hbel := h.below
              clear h
              have hnn := HNN.out.1
              have hnc := HNN.out.2.1
              have hnm := HNN.out.2.2
              refine gives_by (by simp only [Region.wanted, hg]; rfl) act.eval rfl ?_
              generalize act.eval = ρ at *
              intro hf hc
              go_simp
              exact ⟨Below.refl _ _, rfl⟩
            · intro act wx h
              obtain ⟨v96, e96, f96⟩ := h.val 27 96 (by kernel_rfl)
              obtain rfl : v96 = .pointer (some ⟨g1, o1, none⟩) := f96
              have hg := h.guard 24 93 (by kernel_rfl) false (fun v hv => hv)
              have hbel := h.below
              clear h
              obtain ⟨cx, cy⟩ := HCZ.out wx hbel
              have hnn := HNN.out.1
              have hnc := HNN.out.2.1
              have hnm := HNN.out.2.2
              refine gives_by (by simp only [Region.wanted, hg]; rfl) act.eval rfl ?_
              generalize act.eval = ρ at *
              intro hf hc
              go_simp
              exact ⟨Below.refl _ _, rfl⟩
            · intro act wx h
              obtain ⟨v94, e94, f94⟩ := h.val 25 94 (by kernel_rfl)
              obtain rfl : v94 = .agg #[.int .u32 (d : Int), .slice xo xn xc] := f94
              obtain ⟨v97, e97, f97⟩ := h.val 28 97 (by kernel_rfl)
              obtain rfl : v97 = .agg #[.int .u32 (d0 : Int), .slice zo zn zc] := f97
              have hg := h.guard 24 93 (by kernel_rfl) false (fun v hv => hv)
              have hbel := h.below
              clear h
              refine gives_by (by simp only [Region.wanted, hg]; rfl) act.eval rfl ?_
              generalize act.eval = ρ at *
              intro hf hc
              go_simp
              exact call_gives (HSA.out wx hbel) (fun _ => rfl)
            · intro act wx h
              have e12 : act.eval (.tmp 12) = .pointer (some ⟨PB, 0, none⟩) := h.old 12 (by kernel_rfl)
              have hg := h.guard 24 93 (by kernel_rfl) false (fun v hv => hv)
              have hbel := h.below
              clear h
              obtain ⟨cx, cy⟩ := HCP.out wx hbel
              refine gives_by (by simp only [Region.wanted, hg]; rfl) act.eval rfl ?_
              generalize act.eval = ρ at *
              intro hf hc
              go_simp
              exact ⟨Below.refl _ _, rfl⟩
            · intro act wx h
              have e2 : act.eval (.tmp 2) = .slice (some ⟨g1, o1, none⟩) n cap := h.old 2 (by kernel_rfl)
              have hg := h.guard 24 93 (by kernel_rfl) false (fun v hv => hv)
              have hbel := h.below
              clear h
              refine gives_by (by simp only [Region.wanted, hg]; rfl) act.eval rfl ?_
              generalize act.eval = ρ at *
              intro hf hc
              go_simp
              exact ⟨Below.refl _ _, rfl⟩
            · intro act wx h
              obtain ⟨v100, e100, f100⟩ := h.val 31 100 (by kernel_rfl)
              obtain rfl : v100 = .slice (some ⟨g1, o1, none⟩) n cap := f100
              have hg := h.guard 24 93 (by kernel_rfl) false (fun v hv => hv)
              have hbel := h.below
              clear h
              have hnn := HNN.out.1
              have hnc := HNN.out.2.1
              have hnm := HNN.out.2.2
              refine gives_by (by simp only [Region.wanted, hg]; rfl) act.eval rfl ?_
              generalize act.eval = ρ at *
              intro hf hc
              go_simp
              exact ⟨Below.refl _ _, rfl⟩
            · intro act wx h
              obtain ⟨v101, e101, f101⟩ := h.val 32 101 (by kernel_rfl)
              obtain rfl : v101 = .pointer (some ⟨g1, o1, none⟩) := f101
              have hg := h.guard 24 93 (by kernel_rfl) false (fun v hv => hv)
              have hbel := h.below
              clear h
              obtain ⟨cx, cy⟩ := HCZ.out wx hbel
              have hnn := HNN.out.1
              have hnc := HNN.out.2.1
              have hnm := HNN.out.2.2
              refine gives_by (by simp only [Region.wanted, hg]; rfl) act.eval rfl ?_
              generalize act.eval = ρ at *
              intro hf hc
              go_simp
              exact ⟨Below.refl _ _, rfl⟩
            · intro act wx h
              obtain ⟨v99, e99, f99⟩ := h.val 30 99 (by kernel_rfl)
              obtain rfl : v99 = .agg #[.int .u32 (d : Int), .slice xo xn xc] := f99
              obtain ⟨v102, e102, f102⟩ := h.val 33 102 (by kernel_rfl)
              obtain rfl : v102 = .agg #[.int .u32 (d0 : Int), .slice zo zn zc] := f102
              have hg := h.guard 24 93 (by kernel_rfl) false (fun v hv => hv)
              have hbel := h.below
              clear h
              refine gives_by (by simp only [Region.wanted, hg]; rfl) act.eval rfl ?_
              generalize act.eval = ρ at *
              intro hf hc
              go_simp
              exact call_gives (HSB.out wx hbel) (fun _ => rfl)
            · intro act wx h
              obtain ⟨v98, e98, f98⟩ := h.val 29 98 (by kernel_rfl)
              obtain rfl : v98 = .bool sb := f98
              obtain ⟨v103, e103, f103⟩ := h.val 34 103 (by kernel_rfl)
              obtain rfl : v103 = .bool sb := f103
              have hg := h.guard 24 93 (by kernel_rfl) false (fun v hv => hv)
              have hbel := h.below
              clear h
              refine gives_by (by simp only [Region.wanted, hg]; rfl) act.eval rfl ?_
              generalize act.eval = ρ at *
              intro hf hc
              go_simp
              exact ⟨Below.refl _ _, rfl⟩
            · intro act wx h
              obtain ⟨v93, e93, f93⟩ := h.val 24 93 (by kernel_rfl)
              obtain rfl : v93 = .bool false := f93
              obtain ⟨v104, e104, f104⟩ := h.val 35 104 (by kernel_rfl)
              obtain rfl : v104 = .bool false := f104
              have hbel := h.below
              clear h
              refine gives_by rfl act.eval rfl ?_
              generalize act.eval = ρ at *
              intro hf hc
              go_simp
              exact ⟨Below.refl _ _, rfl⟩
          · intro vals w9 hb9 hv
            have hv105 : vals 36 = .bool false := hv 36 105 (by kernel_rfl)
            clear hv
            generalize hact : putAll _ vals 0 _ = act
            obtain ⟨x0, x1⟩ := HCP.out w9 hb9
            obtain ⟨y0, y1⟩ := HCC.out w9 hb9
            have HI9 : Hid (Ints w9 W2.heap.size (.slice co xn cc) pos) := HCI8.out.only (Only.of_below (fun _ => False) hb9) (fun _ _ h => h)
            have HK9 := hide (HKT.out w9 hb9)
            have HB9 := hide hb9
            clear hb9
            subst hact
            simp only [putAll, Act.put, List.setIfInBounds_toArray, List.set_cons_zero, List.set_cons_succ, hv105, Nat.zero_add, Nat.reduceAdd]
            clear hv105
            have HCO : Hid (0 < xn → ∃ gc, co = some ⟨gc, 0, none⟩) := fun hx => by
              rcases HI9.out.form with ⟨e, h0⟩ | ⟨g, cap', sp, e, _⟩
              · have := HXN.out; rw [h0] at this; simp at this; omega
              · simp only [Value.slice.injEq] at e
                exact ⟨g, e.1⟩
            have HGK : Hid (gk + i = n) := HG.out
            obtain ⟨GK, hGK⟩ : ∃ x, gk = x := ⟨_, rfl⟩
            have HGG := hide hGK
            go_wp2
            go_loopg [14, 109] xn (fun g b14 kv wx => ∃ k : Nat, g + k = xn ∧ kv = .int .i64 (k : Int) ∧ Only (fun j => (Value.slice co xn cc).ownBlock = some j) w9 wx ∧ Ints wx W2.heap.size (.slice co xn cc) (decL pos k))
            case atStart => exact ⟨0, by omega, rfl, Only.refl _ _, by rw [decL_zero]; exact HI9.out⟩
            case round =>
              obtain ⟨k, hgk, rfl, hon, hix⟩ := hrel
              have HON := hide hon
              have HIX := hide hix
              have HYB : Hid (∀ W', Only (fun j => (Value.slice co xn cc).ownBlock = some j) w9 W' → (W'.cell? ⟨CB, 0, none⟩ = some (.int .u32 (d : Int)) ∧ W'.cell? ⟨CB, 1, none⟩ = some (.slice co xn cc)) ∧ W'.cell? ⟨PB, 0, none⟩ = some (.int .u32 (d : Int)) ∧ W'.cell? ⟨PB, 1, none⟩ = some (.slice xo xn xc) ∧ Below W2.heap.size W2 W') := fun W' ho => by
                have hbB : Blk W' CB 34 [.int .u32 (d : Int), .slice co xn cc] := (HCB.out.below HB9.out HCB.out.lt).only ho (fun e => by have := (HCLT.out _ e).2; omega)
                have hbW : Below W2.heap.size W2 W' := HK9.out.trans (ho.below HK9.out.size (fun j hj e => by have := (HCLT.out j e).1; omega))
                have hpx := HPX.out W' hbW
                rw [HPB.out] at hpx
                exact ⟨box_po hbB, hpx.1, hpx.2, hbW⟩
              clear x0 x1 y0 y1 hon hix
              obtain ⟨⟨y0, y1⟩, x0, x1, hbw⟩ := HYB.out wr HON.out
              have HBW := hide hbw
              clear hbw
              by_cases hkx : k < xn
              · obtain ⟨gc, rfl⟩ := HCO.out (by omega)
                have hlen : (decL pos k).length = xn := by rw [decL_len pos k (by have := HXN.out; omega)]; exact HXN.out
                obtain ⟨cx, fx, hix2⟩ := HIX.out.put hlen k (decI (pos.getD k 0)) hkx
                rw [decL_get pos k (by have := HXN.out; omega)] at cx
                rw [decL_set pos k (by have := HXN.out; omega)] at hix2
                unfold decI at hix2
                obtain ⟨x, hx⟩ : ∃ x, pos.getD k 0 = x := ⟨_, rfl⟩
                rw [hx] at cx hix2
                have HIX2 := hide hix2
                have HO2 : Hid (Only (fun j => (Value.slice (some ⟨gc, 0, none⟩) xn cc).ownBlock = some j) w9 (wr.setCell ⟨gc, k, none⟩ (.int .i64 (wrap64 (x - 1))))) := HON.out.setCell ⟨gc, k, none⟩ _ (fun _ => rfl)
                have i2 : (k : Int) < (xn : Int) := by omega
                have hrw := HIX.out
                unfold Ints at hrw
                rw [hlen] at hrw
                have hlc := (own_len hrw).1
                have hlc2 := (own_len hrw).2
                unfold maxLen at hlc2
                clear hx hix2 hlen hrw
                go_wp2
                go_roundg (gk - 1)
                case measure => omega
                case rel => exact ⟨k + 1, by omega, by go_num, HO2.out, HIX2.out⟩
              · obtain rfl : k = xn := by omega
                have HBW2 : Hid (Below w.heap.size w wr) := HTW.out _ HBW.out
                have hnext : ∀ W', Below wr.heap.size wr W' → Below w.heap.size w W' := fun W' hb => HBW2.out.trans (hb.mono HBW2.out.size)
                have HNX := hide hnext
                clear hnext hgk
                by_cases hx0 : k = 0
                · subst hx0
                  clear HSD
                  go_wp2
                  go_roundg (GK - 1)
                  case measure => have := HGG.out; have := HGK.out; omega
                  case rel => exact ⟨i + 1, by have := HGG.out; have := HGK.out; omega, by go_num, HBW2.out⟩
                · have hkp : (0 : Int) < (k : Int) := by omega
                  have hvv : PoV wr (.agg #[.int .u32 (d : Int), .slice co k cc]) ⟨d, decL pos k⟩ := ⟨HQ1.out, _, rfl, HIX.out.is⟩
                  have HSD2 := hide (HSD.out wr _ hvv HBW.out (by omega))
                  clear hvv HSD
                  go_wp2_with (go_at_call 18; refine HSD2.out.mono ?_; rintro e w10 ⟨rfl, hb⟩; have HB10 := hide (HNX.out _ hb); clear HSD2 hb)
                  go_roundg (GK - 1)
                  case measure => have := HGG.out; have := HGK.out; omega
                  case rel => exact ⟨i + 1, by have := HGG.out; have := HGK.out; omega, by go_num, HB10.out⟩
        · obtain rfl : i = n := by omega
          go_wp2
          go_ret
          exact ⟨rfl, HBQ.out⟩

end Go.Proofs.Ytmjkpgmmfooajaa
