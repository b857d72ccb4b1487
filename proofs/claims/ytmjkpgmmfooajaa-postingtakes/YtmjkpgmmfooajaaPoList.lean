/- Contract: package posting's List, of postings however many. -/
import Derived.Test.YtmjkpgmmfooajaaPoPut
namespace Go.Proofs.Ytmjkpgmmfooajaa
set_option maxRecDepth 20000
open Go.RowKit
set_option linter.unusedVariables false
set_option linter.unusedSimpArgs false

def listR (ps : List Po) : List Int := if listOk 0 ps = true then listB 0 ps else []
theorem take_snocP (ps : List Po) (k : Nat) (hk : k < ps.length) : ps.take (k + 1) = ps.take k ++ [ps.getD k noPo] := by
  rw [List.take_succ_eq_append_getElem hk]
  simp [List.getD, hk]
theorem listOk_take {ps : List Po} {prev : Nat} (h : listOk prev ps = true) (k : Nat) : listOk prev (ps.take k) = true := by
  have e : ps = ps.take k ++ ps.drop k := (List.take_append_drop k ps).symm
  rw [e, listOk_append, Bool.and_eq_true] at h
  exact h.1
/-- so many postings, so great a document; so many bytes -/
theorem list_few : ∀ (ps : List Po) (prev : Nat), listOk prev ps = true → prev + ps.length ≤ lastDoc prev ps ∧ (ps ≠ [] → lastDoc prev ps ≤ 2147483647) ∧ (listB prev ps).length ≤ 10010 * ps.length
  | [], prev, _ => ⟨Nat.le_refl _, fun h => absurd rfl h, by simp [listB]⟩
  | p :: ps, prev, h => by
    simp only [listOk, Bool.and_eq_true] at h
    have h1 := may_parts h.1
    have h2 := (form_len h.1).2.1
    have ih := list_few ps p.doc h.2
    refine ⟨by rw [lastDoc, List.length_cons]; omega, fun _ => ?_, by rw [listB, List.length_append, List.length_cons]; omega⟩
    rw [lastDoc]
    by_cases hp : ps = []
    · subst hp; exact h1.2.1
    · exact ih.2.1 hp
theorem list_room {ps : List Po} (h : listOk 0 ps = true) : (listB 0 ps).length ≤ 21496311306470 := by
  have h1 := list_few ps 0 h
  by_cases hp : ps = []
  · subst hp; simp [listB]
  · have := h1.2.1 hp
    omega

set_option maxHeartbeats 1000000 in
theorem list_any (w : World) (v : Value) (us : List Value) (ps : List Po) (h : Pps w v us ps) :
    Calls Try.prog 10 #[v] w (GivesBE w (listR ps) (listE ps)) := by
  obtain ⟨ao, cap, rfl, hcap, hmax⟩ := h.shape
  have HP : Hid (∀ W, Below w.heap.size w W → Pps W (.slice ao ps.length cap) us ps) := fun W hb => h.below hb
  have HCK : Hid (∀ W (D : Nat) v p, PoV W v p → Calls Try.prog 16 #[.int .u32 (D : Int), v] W fun e w' => e = .returned (.int .i64 (checkP D p)) ∧ Below W.heap.size W w') := fun W D v p hp => check_any W D v p hp
  have HFM : Hid (∀ W (D : Nat) v p, PoV W v p → mayB D p = true → Calls Try.prog 31 #[.int .u32 (D : Int), v] W fun e w' => ∃ u, e = .returned u ∧ w'.ownsRow W.heap.size 5 1 u (formP D p).length ((formP D p).map (Value.int .u8)) ∧ Below W.heap.size W w') := fun W D v p hp hm => form_any W D v p hp hm
  have HR : Hid (listR ps = if listOk 0 ps = true then listB 0 ps else []) := rfl
  have HE : Hid (listE ps = if listOk 0 ps = true then 0 else 150) := rfl
  generalize listR ps = R at HR ⊢
  generalize listE ps = E at HE ⊢
  obtain ⟨n, hn⟩ : ∃ n, ps.length = n := ⟨_, rfl⟩
  rw [hn] at hcap HP ⊢
  have HN := hide hn
  clear h hn
  go_enter Try.func10, Try.ntmps10
  go_wp2
  go_loopg [4, 5, 11] n (fun g bv dv i wr => ∃ (k D : Nat) (XS : List Int) (a : Option Addr) (c : Nat), g + k = n ∧ dv = .int .u32 (D : Int) ∧ i = .int .i64 (k : Int) ∧ bv = .slice a XS.length c ∧ Ob w w.heap.size wr bv XS ∧ XS = listB 0 (ps.take k) ∧ listOk 0 (ps.take k) = true ∧ D = lastDoc 0 (ps.take k))
  case atStart => exact ⟨0, 0, [], none, 0, by omega, rfl, rfl, rfl, Ob.nil (Below.refl _ _) (Nat.le_refl _), rfl, rfl, rfl⟩
  case round =>
    obtain ⟨k, D, XS, a, c, hg, rfl, rfl, rfl, hO, hX, hok, hD⟩ := hrel
    obtain ⟨W, hW⟩ : ∃ x, x = wr := ⟨_, rfl⟩
    subst hW
    have HO := hide hO
    have HX := hide hX
    have HOK := hide hok
    have HD := hide hD
    clear hO hX hok hD
    by_cases hk : k < n
    · have hki : (k : Int) < (n : Int) := by omega
      obtain ⟨b, off, rfl, q1, q2, hd, hI⟩ := (HP.out W HO.out.2.1).at k (by have := HN.out; omega)
      have hts := take_snocP ps k (by have := HN.out; omega)
      obtain ⟨p, hp⟩ : ∃ p, ps.getD k noPo = p := ⟨_, rfl⟩
      rw [hp] at q1 hd hI hts
      obtain ⟨xo, xc, hu, _, _⟩ := hI.shape
      rw [hu] at q2 hI
      obtain ⟨w2, hw2⟩ : ∃ w2, W.alloc (.cells #[.int .u32 (p.doc : Int), .slice xo p.pos.length xc] 34) = w2 := ⟨_, rfl⟩
      have hb2 : Below W.heap.size W w2 := by rw [← hw2]; exact (Below.refl _ W).alloc (Nat.le_refl _) _
      have hB2 : Blk w2 W.heap.size 34 [.int .u32 (p.doc : Int), .slice xo p.pos.length xc] := by rw [← hw2]; exact Blk.new W _ _
      have hO2 : Ob w w.heap.size w2 (.slice a XS.length c) XS := HO.out.below hb2
      have hV2 : PoV w2 (.agg #[.int .u32 (p.doc : Int), .slice xo p.pos.length xc]) p := ⟨hd, _, rfl, hI.below hb2⟩
      have HBK : Hid (∀ W', Below w2.heap.size w2 W' → Blk W' W.heap.size 34 [.int .u32 (p.doc : Int), .slice xo p.pos.length xc]) := fun W' hb => hB2.below hb hB2.lt
      have HLT : Hid (∀ j, (Value.slice a XS.length c).ownBlock = some j → j < W.heap.size) := fun j hj => (World.ownsRow.lt HO.out.1 j hj).2
      have HBX : Hid (∀ W', Below w2.heap.size w2 W' → W'.cell? ⟨W.heap.size, 0, none⟩ = some (.int .u32 (p.doc : Int)) ∧ W'.cell? ⟨W.heap.size, 1, none⟩ = some (.slice xo p.pos.length xc)) := fun W' hb => by
        have := hB2.below hb hB2.lt
        exact ⟨this.cell 0, this.cell 1⟩
      obtain ⟨c0, c1⟩ := HBX.out w2 (Below.refl _ _)
      have hxl : XS.length ≤ 21496311306470 := by rw [HX.out]; exact list_room HOK.out
      have HC1 := hide (HCK.out w2 D _ p hV2)
      have HTS := hide hts
      have HO2 := hide hO2
      cases hm : mayB D p with
      | false =>
        rw [check_bad hm] at HC1
        have hz : listOk 0 ps = false := by
          cases hx : listOk 0 ps with
          | false => rfl
          | true =>
            have := listOk_take hx (k + 1)
            rw [hts, listOk_snoc, ← HD.out, hm] at this
            simp at this
        have HZ := hide hz
        have HBW := hide HO.out.2.1
        have HB2 := hide hb2
        clear hz hts hp hu hI hB2 hO2 hV2 hb2
        generalize p.pos.length = m at *
        generalize p.doc = d at *
        go_wp2_with (go_at_call 16; refine HC1.out.mono ?_; rintro e w3 ⟨rfl, hb⟩; have HB3 := hide hb; clear HC1 hb)
        go_ret2
        refine ⟨_, by rw [HE.out, HZ.out]; rfl, ?_, (HBW.out.trans (HB2.out.mono HBW.out.size)).trans (HB3.out.mono (by have := HB2.out.size; have := HBW.out.size; omega))⟩
        rw [HR.out, HZ.out]
        exact own_nil _ _ _
      | true =>
        rw [check_ok hm] at HC1
        have HF1 : Hid (∀ W', Below w2.heap.size w2 W' → Calls Try.prog 31 #[.int .u32 (D : Int), .agg #[.int .u32 (p.doc : Int), .slice xo p.pos.length xc]] W' fun e w' => ∃ u, e = .returned u ∧ w'.ownsRow W'.heap.size 5 1 u (formP D p).length ((formP D p).map (Value.int .u8)) ∧ Below W'.heap.size W' w') := fun W' hb => HFM.out W' D _ p (hV2.below hb) hm
        have hfl := (form_len hm).2.1
        have hfo := formP_ok D p
        have HNX : Hid (XS ++ formP D p = listB 0 (ps.take (k + 1))) := by
          show _ = _
          rw [hts, listB_snoc, ← HX.out, ← HD.out]
        have HNK : Hid (listOk 0 (ps.take (k + 1)) = true) := by
          show _ = _
          rw [hts, listOk_snoc, HOK.out, ← HD.out, hm]; rfl
        have HND : Hid (p.doc = lastDoc 0 (ps.take (k + 1))) := by
          show _ = _
          rw [hts, lastDoc_snoc]
        have HFO := hide hfo
        clear hts hp hu hI hB2 hO2 hV2 hb2 hfo
        generalize p.pos.length = m at *
        generalize formP D p = F at *
        generalize p.doc = d at *
        have hlen : XS.length + F.length ≤ 140737488355328 := by omega
        go_wp2_with (first
          | (go_at_call 16; refine HC1.out.mono ?_; rintro e w3 ⟨rfl, hb⟩; have HB3 := hide hb; obtain ⟨d0, d1⟩ := HBX.out w3 hb; have HO3 := hide (HO2.out.below hb); clear HC1 hb c0 c1 hw2)
          | (go_at_call 31; refine (HF1.out w3 HB3.out).mono ?_; rintro e w4 ⟨u, rfl, ho, hb⟩; have hs4 := sl_of_own_len ho HFO.out; obtain ⟨yo, ym, yc, rfl⟩ := sl_form hs4; have hO4 := HO3.out.below hb; obtain ⟨v5, w5, hr, hO5, hg5⟩ := hO4.appendB yo ym yc F hs4 hlen; have HRR := hide hr; have HO5 := hide hO5; have HV5 := hide hO5.form; have hk4 := HBK.out w4 (HB3.out.trans (hb.mono HB3.out.size)); have hB5 : Blk w5 W.heap.size 34 [.int .u32 (d : Int), .slice xo m xc] := (hg5.block _ hk4.lt (fun e => by have := HLT.out _ e.symm; omega)).trans hk4; have e0 := hB5.cell 0; have e1 := hB5.cell 1; clear HF1 hb ho hs4 hO4 hr hO5 d0 d1 HO3 hg5 hk4 hB5)
          | (at_builtin; (with_reducible refine wpList_append_run _ rfl (.tmp 21) (.tmp 24) 23 rfl _ _ ?_ ?_ _ _ HRR.out ?_); exact rfl; exact rfl; clear HRR))
        go_roundg (gk - 1)
        case measure => omega
        case rel =>
          obtain ⟨a5, c5, hv⟩ := HV5.out
          exact ⟨k + 1, d, _, a5, c5, by omega, rfl, by go_num, hv, HO5.out, HNX.out, HNK.out, HND.out⟩
    · obtain rfl : k = n := by omega
      have hz : ps.take k = ps := List.take_of_length_le (by have := HN.out; omega)
      have HZ := hide hz
      clear hz
      go_wp2
      go_ret2
      have hk1 := HOK.out
      have hx1 := HX.out
      rw [HZ.out] at hk1 hx1
      have hR : R = XS := by rw [HR.out, if_pos hk1, hx1]
      rw [hR, HE.out, if_pos hk1]
      exact ⟨_, rfl, HO.out.1, HO.out.2.1⟩

end Go.Proofs.Ytmjkpgmmfooajaa
