/- Contracts: the document's Put and List of postings (incipitref15). -/
import Derived.Test.YtmjkpgmmfooajaaPoRByt
import Derived.Test.YtmjkpgmmfooajaaPoRChk
import Derived.Test.YtmjkpgmmfooajaaPoList
namespace Go.Proofs.Ytmjkpgmmfooajaa
set_option maxRecDepth 20000
open Go.RowKit
set_option linter.unusedVariables false
set_option linter.unusedSimpArgs false
set_option maxRecDepth 100000

set_option maxHeartbeats 1000000 in
theorem refPutP_any (w : World) (prev : Nat) (vb : Value) (zs : List Int) (hz : Sl w vb zs) (hl : zs.length ≤ 400000) (v : Value) (p : Po) (h : PoV w v p) :
    Calls Try.prog 15 #[vb, .int .u32 (prev : Int), v] w (GivesBE w (if mayB prev p = true then zs ++ formP prev p else []) (checkP prev p)) := by
  obtain ⟨ao, cap, rfl, hu, h0⟩ := h.open
  obtain ⟨w1, hw1⟩ : ∃ w1, w.alloc (.cells #[.int .u32 (p.doc : Int), .slice ao p.pos.length cap] 34) = w1 := ⟨_, rfl⟩
  have hb1 : Below w.heap.size w w1 := by rw [← hw1]; exact (Below.refl _ w).alloc (Nat.le_refl _) _
  have hB1 : Blk w1 w.heap.size 34 [.int .u32 (p.doc : Int), .slice ao p.pos.length cap] := by rw [← hw1]; exact Blk.new w _ _
  have hV1 := h.below hb1
  have HCK := hide (refCheckP_any w1 prev _ p hV1)
  have HBX : Hid (∀ W, Below w1.heap.size w1 W → W.cell? ⟨w.heap.size, 0, none⟩ = some (.int .u32 (p.doc : Int)) ∧ W.cell? ⟨w.heap.size, 1, none⟩ = some (.slice ao p.pos.length cap)) := fun W hb => by
    have := hB1.below hb hB1.lt
    exact ⟨this.cell 0, this.cell 1⟩
  obtain ⟨c0, c1⟩ := HBX.out w1 (Below.refl _ _)
  have HB1 := hide hb1
  obtain ⟨bo, bc, rfl⟩ := sl_form' hz
  cases hm : mayB prev p with
  | false =>
    rw [check_bad hm] at HCK ⊢
    have HN : Hid (∀ w', Below w.heap.size w w' → GivesBE w (if false = true then zs ++ formP prev p else []) 150 (.returned (.tuple #[.slice none 0 0, .int .i64 150])) w') := fun w' hb => ⟨_, rfl, own_nil w' _ _, hb⟩
    generalize (if false = true then zs ++ formP prev p else []) = R at *
    generalize p.pos.length = pn at *
    generalize p.doc = pd at *
    generalize zs.length = zn at *
    clear h hu hz hB1 hV1 hb1 hm
    go_enter Try.func15, Try.ntmps15
    go_wp2_with (go_at_call 17; refine HCK.out.mono ?_; rintro e w2 ⟨rfl, hb⟩; have HB2 := hide (HB1.out.trans (hb.mono HB1.out.size)); clear HCK hb)
    go_ret2
    exact HN.out _ HB2.out
  | true =>
    rw [check_ok hm] at HCK ⊢
    rw [if_pos rfl]
    have hfl := (form_len hm).2.1
    have HFM : Hid (∀ W, Below w1.heap.size w1 W → Calls Try.prog 32 #[.int .u32 (prev : Int), .agg #[.int .u32 (p.doc : Int), .slice ao p.pos.length cap]] W fun e w' => ∃ a m c, e = .returned (.slice a m c) ∧ Sl w' (.slice a m c) (formP prev p) ∧ Below W.heap.size W w') := fun W hb => by
      refine (refBytes_any W prev _ p (hV1.below hb) hm).mono ?_
      rintro e w2 ⟨u, rfl, ho, hbb⟩
      have hs := sl_of_own_len ho (formP_ok prev p)
      obtain ⟨a, m, c, rfl⟩ := sl_form hs
      exact ⟨a, m, c, rfl, hs, hbb⟩
    have HJ : Hid (∀ W u, Below w.heap.size w W → Sl W u (formP prev p) → Calls Try.prog 36 #[.slice bo zs.length bc, u] W fun e w' => ∃ x, e = .returned x ∧ w'.ownsRow w.heap.size 5 1 x (zs ++ formP prev p).length ((zs ++ formP prev p).map (Value.int .u8)) ∧ Below W.heap.size W w') := fun W u hb hu => by
      refine (refJoin_any W _ u zs _ (hz.keep (fun j _ hlt => hb.block j hlt)) hu (by omega)).mono ?_
      rintro e w2 ⟨x, rfl, ho, _, hbb, _⟩
      exact ⟨x, rfl, ownsRow_le' ho hb.size, hbb⟩
    generalize formP prev p = F at *
    generalize zs ++ F = R at *
    generalize p.pos.length = pn at *
    generalize p.doc = pd at *
    generalize zs.length = zn at *
    clear h hu hz hB1 hV1 hb1 hm hfl
    go_enter Try.func15, Try.ntmps15
    go_wp2_with (first
      | (go_at_call 17; refine HCK.out.mono ?_; rintro e w2 ⟨rfl, hb⟩; have HB2 := hide hb; clear c0 c1; obtain ⟨c0, c1⟩ := HBX.out w2 hb; clear HCK hb)
      | (go_at_call 32; refine (HFM.out _ HB2.out).mono ?_; rintro e w3 ⟨a3, m3, c3, rfl, hs, hb⟩; have HS3 := hide hs; have HB3 := hide (HB1.out.trans ((HB2.out.trans (hb.mono HB2.out.size)).mono HB1.out.size)); clear HFM hb hs)
      | (go_at_call 36; refine (HJ.out _ _ HB3.out HS3.out).mono ?_; rintro e w4 ⟨x, rfl, ho, hb⟩; have HO4 := hide ho; have HB4 := hide (HB3.out.trans (hb.mono HB3.out.size)); clear HJ hb ho))
    go_ret2
    exact ⟨_, rfl, HO4.out, HB4.out⟩

set_option maxHeartbeats 1000000 in
theorem refListP_any (w : World) (v : Value) (us : List Value) (ps : List Po) (h : Pps w v us ps) (hf : ps.length ≤ 60) :
    Calls Try.prog 11 #[v] w (GivesBE w (listR ps) (listE ps)) := by
  obtain ⟨ao, cap, rfl, hcap, hmax⟩ := h.shape
  have HP : Hid (∀ W, Below w.heap.size w W → Pps W (.slice ao ps.length cap) us ps) := fun W hb => h.below hb
  have HR : Hid (listR ps = if listOk 0 ps = true then listB 0 ps else []) := rfl
  have HE : Hid (listE ps = if listOk 0 ps = true then 0 else 150) := rfl
  generalize listR ps = R at HR ⊢
  generalize listE ps = E at HE ⊢
  obtain ⟨n, hn⟩ : ∃ n, ps.length = n := ⟨_, rfl⟩
  rw [hn] at hcap HP hf ⊢
  have HN := hide hn
  clear h hn
  go_enter Try.func11, Try.ntmps11
  go_wp2
  go_loopg [4, 5, 6] n (fun g bv dv i wr => ∃ (k D : Nat) (XS : List Int) (a : Option Addr) (c : Nat), g + k = n ∧ dv = .int .u32 (D : Int) ∧ i = .int .i64 (k : Int) ∧ bv = .slice a XS.length c ∧ Ob w w.heap.size wr bv XS ∧ XS = listB 0 (ps.take k) ∧ listOk 0 (ps.take k) = true ∧ D = lastDoc 0 (ps.take k))
  case atStart => exact ⟨0, 0, [], _, _, by omega, rfl, rfl, rfl, ⟨World.ownsRow_made w #[] 0 (Nat.le_refl _) (Nat.zero_le _) rfl, (Below.refl _ w).alloc (Nat.le_refl _) _, by simp⟩, rfl, rfl, rfl⟩
  case round =>
    obtain ⟨k, D, XS, a, c, hg, rfl, rfl, rfl, hO, hX, hok, hD⟩ := hrel
    obtain ⟨W, hW⟩ : ∃ x, x = wr := ⟨_, rfl⟩
    subst hW
    have HO := hide hO
    have HX := hide hX
    have HOK := hide hok
    have HD := hide hD
    clear hO hX hok hD
    by_cases hk : k < n
    · have hki : (k : Int) < (n : Int) := by omega
      have hpp := HP.out W HO.out.2.1
      obtain ⟨b, off, rfl, q1, q2, hd, hI⟩ := hpp.at k (by have := HN.out; omega)
      have hts := take_snocP ps k (by have := HN.out; omega)
      obtain ⟨p, hp⟩ : ∃ p, ps.getD k noPo = p := ⟨_, rfl⟩
      rw [hp] at q1 hd hI hts
      obtain ⟨xo, xc, hu, _, _⟩ := hI.shape
      rw [hu] at q2 hI
      have hV : PoV W (.agg #[.int .u32 (p.doc : Int), .slice xo p.pos.length xc]) p := ⟨hd, _, rfl, hI⟩
      have HCX : Hid (∀ W', Below W.heap.size W W' → W'.cell? ⟨b, off + k * 2, none⟩ = some (.int .u32 (p.doc : Int)) ∧ W'.cell? ⟨b, off + k * 2 + 1, none⟩ = some (.slice xo p.pos.length xc)) := fun W' hb =>
        ⟨(hb.cell (p := ⟨b, off + k * 2, none⟩) (World.block_lt_of_cell? W _ q1)).trans q1, (hb.cell (p := ⟨b, off + k * 2 + 1, none⟩) (World.block_lt_of_cell? W _ q2)).trans q2⟩
      have hxl : XS.length ≤ 600600 := by
        rw [HX.out]
        have h1 := (list_few (ps.take k) 0 HOK.out).2.2
        have : (ps.take k).length ≤ 60 := by simp; omega
        omega
      have HC1 := hide (refCheckP_any W D _ p hV)
      have HTS := hide hts
      cases hm : mayB D p with
      | false =>
        rw [check_bad hm] at HC1
        have hz : listOk 0 ps = false := by
          cases hx : listOk 0 ps with
          | false => rfl
          | true =>
            have := listOk_take hx (k + 1)
            rw [HTS.out, listOk_snoc, ← HD.out, hm, Bool.and_false] at this
            cases this
        have HRN : Hid (R = [] ∧ E = 150) := ⟨by rw [HR.out, hz]; rfl, by rw [HE.out, hz]; rfl⟩
        generalize p.pos.length = pn at *
        generalize p.doc = pd at *
        generalize XS.length = xn at *
        clear hz hm hV hI hu hpp hp hts
        go_wp2_with (go_at_call 17; refine HC1.out.mono ?_; rintro e w2 ⟨rfl, hb⟩; have HB2 := hide hb; clear HC1 hb)
        go_ret2
        obtain ⟨rfl, rfl⟩ := HRN.out
        exact ⟨_, rfl, own_nil _ _ _, HO.out.2.1.trans (HB2.out.mono HO.out.2.2)⟩
      | true =>
        rw [check_ok hm] at HC1
        have hst : listB 0 (ps.take (k + 1)) = listB 0 (ps.take k) ++ formP D p ∧ lastDoc 0 (ps.take (k + 1)) = p.doc ∧ listOk 0 (ps.take (k + 1)) = true := by
          rw [HTS.out, listB_snoc, lastDoc_snoc, listOk_snoc, ← HD.out, hm, HOK.out]
          exact ⟨rfl, rfl, rfl⟩
        have hfl := (form_len hm).2.1
        have HFM : Hid (∀ W', Below W.heap.size W W' → Calls Try.prog 32 #[.int .u32 (D : Int), .agg #[.int .u32 (p.doc : Int), .slice xo p.pos.length xc]] W' fun e w1 => ∃ ao m cap v' w2, e = .returned (.slice ao m cap) ∧ W'.heap.size ≤ w1.heap.size ∧ Below W'.heap.size W' w1 ∧
            (Builtin.append_ #[23, 23] 23 #[.slice a XS.length c, .slice ao m cap]).run Try.prog w1 = .ok v' w2 ∧ Ob w w.heap.size w2 v' (XS ++ formP D p)) := fun W' hb => by
          refine (refBytes_any W' D _ p (hV.below hb) hm).mono ?_
          rintro e w2 ⟨u, rfl, ho, hbb⟩
          have hs := sl_of_own_len ho (formP_ok D p)
          obtain ⟨ao, m, cap, rfl⟩ := sl_form hs
          obtain ⟨v', w3, hr, hO3⟩ := ((HO.out.below hb).below hbb).append ao m cap _ hs (by omega)
          exact ⟨ao, m, cap, v', w3, rfl, hbb.size, hbb, hr, hO3⟩
        have HST := hide hst
        have HCY : Hid (∀ W', Below w.heap.size w W' → W'.cell? ⟨b, off + k * 2, none⟩ = some (.int .u32 (p.doc : Int))) := fun W' hb => by
          obtain ⟨b', off', e, y1, _, _, _⟩ := (HP.out W' hb).at k (by have := HN.out; omega)
          simp only [Option.some.injEq, Addr.mk.injEq, and_true] at e
          obtain ⟨rfl, rfl⟩ := e
          rw [hp] at y1
          exact y1
        generalize formP D p = F at *
        generalize p.pos.length = pn at *
        generalize p.doc = pd at *
        obtain ⟨xn, hxn⟩ : ∃ x, XS.length = x := ⟨_, rfl⟩
        rw [hxn] at HFM hxl ⊢
        have HXN := hide hxn
        clear hm hV hI hu hpp hp hts hst hfl hxn
        go_wp2_with (first
          | (go_at_call 17; refine HC1.out.mono ?_; rintro e w2 ⟨rfl, hb⟩; have HB2 := hide hb; clear q1 q2; obtain ⟨q1, q2⟩ := HCX.out w2 hb; clear HC1 hb)
          | (go_at_call 32; refine (HFM.out _ HB2.out).mono ?_; rintro e w3 ⟨a3, m3, c3, v4, w4, rfl, _, hb3, hr, hO4⟩; have HR4 := hide hr; have HO4 := hide hO4; have HF4 := hide hO4.form; have HB3 := hide (HB2.out.trans (hb3.mono HB2.out.size)); clear q1 q2; have q1 := HCY.out w4 hO4.2.1; clear HFM hr hO4 hb3)
          | (at_builtin; (with_reducible refine wpList_append_run _ rfl (.tmp 21) (.tmp 27) 23 rfl _ _ ?_ ?_ _ _ HR4.out ?_); exact rfl; exact rfl; clear HR4))
        go_roundg (gk - 1)
        case measure => omega
        case rel =>
          obtain ⟨a4, c4, hv⟩ := HF4.out
          exact ⟨k + 1, pd, _, a4, c4, by omega, rfl, by go_num, hv, HO4.out, by rw [HST.out.1, HX.out], HST.out.2.2, HST.out.2.1.symm⟩
    · obtain rfl : k = n := by omega
      go_wp2
      go_ret2
      have hall : ps.take k = ps := List.take_of_length_le (Nat.le_of_eq HN.out)
      have hk2 := HOK.out
      rw [hall] at hk2
      have hXX := HX.out
      rw [hall] at hXX
      refine ⟨.slice a XS.length c, ?_, ?_, HO.out.2.1⟩
      · rw [HE.out, hk2]; rfl
      · rw [HR.out, hk2, if_pos rfl, ← hXX]; exact HO.out.1

end Go.Proofs.Ytmjkpgmmfooajaa
