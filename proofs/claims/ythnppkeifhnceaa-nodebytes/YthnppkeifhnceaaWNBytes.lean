/- NodeBytes, walked. -/
import Derived.Test.YthnppkeifhnceaaNRefG
import Derived.Test.YthnppkeifhnceaaNLive
import Derived.Test.YthnppkeifhnceaaNFew
namespace Go.Proofs.Ythnppkeifhnceaa
set_option maxRecDepth 20000
open Go.RowKit Go.Shelf
set_option linter.unusedVariables false
set_option linter.unusedSimpArgs false
set_option maxRecDepth 100000
attribute [local go_sem] Oper.semAt_some

theorem nds_1 {w : World} {v : Value} {n : Nd} (h : NdV w v n) {lf : Bool} {p k c : Value} (hv : v = .agg #[.bool lf, p, k, c]) : Nds (w.alloc (.cells #[.bool lf, p, k, c] 26)) w.heap.size [v] [n] := by
  refine ⟨rfl, fun i hi => ?_⟩
  obtain rfl : i = 0 := by simp at hi; omega
  refine ⟨h.alloc _, ?_⟩
  have hB := Blk.new w 26 [.bool lf, p, k, c]
  subst hv
  exact hB.range 0 _ (fun j hj => by rw [Nat.zero_add]; rfl)
theorem sameN_refl (a : Nd) : sameN a a = true := by simp [sameN]

set_option maxHeartbeats 8000000 in
theorem nodeBytes_walk (w : World) (v : Value) (n : Nd) (kind : Int) (bv : Value) (zs : List Int) (hv : NdV w v n) (hk : (Lit.int .i64 kind).wf = true) (hb : Sl w bv zs) :
    Calls Try.prog 4 #[v, .int .i64 kind, bv] w fun e w' => e = .returned (.bool true) ∧ Below w.heap.size w w' := by
  have HLV := hide live_any
  have HFW : Hid (∀ w1, Below w.heap.size w w1 → ∀ lf p k c, v = .agg #[.bool lf, p, k, c] → Calls Try.prog 9 #[.slice (some ⟨w1.heap.size, 0, none⟩) 1 1] (w1.alloc (.cells #[.bool lf, p, k, c] 26)) fun e w' => e = .returned (.bool (fewN [n])) ∧ Below w1.heap.size w1 w') := fun w1 hb lf p k c he =>
    (few_any _ _ 1 [v] [n] (nds_1 (hv.below hb) he) (by simp)).mono fun e w' ⟨h1, h2⟩ => ⟨h1, after_alloc h2⟩
  have HPU : Hid (∀ w1, Below w.heap.size w w1 → Calls Try.prog 18 #[v] w1 fun e w' => ∃ a c, e = .returned (.tuple #[.int .i64 (putK n), .slice a (putB n).length c, .int .i64 (checkN n)]) ∧ ownsB w' w1.heap.size (.slice a (putB n).length c) (putB n) ∧ Below w1.heap.size w1 w') := fun w1 hb => (put_any w1 v n (hv.below hb)).mono fun e w' ⟨u, he, ho, hb'⟩ => by
    obtain ⟨a, c, rfl⟩ := own_form' ho
    exact ⟨a, c, he, ho, hb'⟩
  have HRP : Hid (fewN [n] = true → ∀ w1, Below w.heap.size w w1 → Calls Try.prog 19 #[v] w1 fun e w' => ∃ a c, e = .returned (.tuple #[.int .i64 (putK n), .slice a (putB n).length c, .int .i64 (checkN n)]) ∧ ownsB w' w1.heap.size (.slice a (putB n).length c) (putB n) ∧ Below w1.heap.size w1 w') := fun hf w1 hb => by
    have hq : n.ks.length + n.cs.length ≤ 9223372036854775807 := by
      simp only [fewN, List.all_cons, List.all_nil, Bool.and_true, few1, Bool.and_eq_true, decide_eq_true_iff] at hf
      omega
    refine (refPut_any w1 v n (hv.below hb) hq).mono fun e w' ⟨u, he, ho, hb'⟩ => ?_
    obtain ⟨a, c, rfl⟩ := own_form' ho
    exact ⟨a, c, he, ho, hb'⟩
  have HGT : Hid (zs.length ≤ 50000 → ∀ w1, Below w.heap.size w w1 → Calls Try.prog 20 #[.int .i64 kind, bv] w1 fun e w' => ∃ l p m c k mk kc q mq qc, e = .returned (.tuple #[.agg #[.bool l, .slice p m c, .slice k mk kc, .slice q mq qc], .int .i64 (rgetE kind zs)]) ∧ NdV w' (.agg #[.bool l, .slice p m c, .slice k mk kc, .slice q mq qc]) (rgetN kind zs) ∧ Below w1.heap.size w1 w') := fun hl w1 hb' => (get_any w1 kind bv zs (hb.below hb') hl).mono fun e w' ⟨u, he, hn, hb2⟩ => by
    rw [(get_same kind zs).1] at he
    rw [(get_same kind zs).2] at hn
    obtain ⟨pa, np, pc, ka, nk, kc, ca, nc, cc, rfl⟩ := hn.form
    exact ⟨_, _, _, _, _, _, _, _, _, _, he, hn.val, hb2⟩
  have HRG : Hid (zs.length ≤ 50000 → ∀ w1, Below w.heap.size w w1 → Calls Try.prog 21 #[.int .i64 kind, bv] w1 fun e w' => ∃ l p m c k mk kc q mq qc, e = .returned (.tuple #[.agg #[.bool l, .slice p m c, .slice k mk kc, .slice q mq qc], .int .i64 (rgetE kind zs)]) ∧ NdV w' (.agg #[.bool l, .slice p m c, .slice k mk kc, .slice q mq qc]) (rgetN kind zs) ∧ Below w1.heap.size w1 w') := fun hl w1 hb' => (refGet_any w1 kind bv zs (hb.below hb') hl).mono fun e w' ⟨u, he, hn, hb2⟩ => by
    obtain ⟨pa, np, pc, ka, nk, kc, ca, nc, cc, rfl⟩ := hn.form
    exact ⟨_, _, _, _, _, _, _, _, _, _, he, hn.val, hb2⟩
  have HSM : Hid (∀ wx u1 u2, NdV wx u1 (rgetN kind zs) → NdV wx u2 (rgetN kind zs) → Calls Try.prog 17 #[u1, u2] wx fun e w' => e = .returned (.bool true) ∧ Below wx.heap.size wx w') := fun wx u1 u2 h1 h2 => by rw [← sameN_refl (rgetN kind zs)]; exact refSame_any wx _ _ _ _ h1 h2
  have HOK : Hid (ByteOk (putB n)) := putB_ok hv
  have HEQ : Hid (∀ w1 u1 u2, Sl w1 u1 (putB n) → Sl w1 u2 (putB n) → Calls Try.prog 22 #[u1, u2] w1 fun e w' => e = .returned (.bool true) ∧ w' = w1) := fun w1 u1 u2 h1 h2 => by
    have := equal_any w1 u1 u2 _ _ h1 h2
    rw [decide_eq_true rfl] at this
    exact this
  obtain ⟨pa, pc, ka, kc, ca, cc, xs, ys, rfl, hp1, hk1, hc1, hp2, hk2, hc2, hP, hK, hC⟩ := hv.open
  obtain ⟨a1, c1, rfl⟩ := sl_form' hb
  obtain ⟨L, hL0⟩ : ∃ L, L = zs.length := ⟨_, rfl⟩
  rw [← hL0] at HGT HRG ⊢
  generalize fewN [n] = FW at *
  unfold ndv at HFW HPU HRP ⊢
  generalize n.lf = lf at *
  generalize n.ps.length = np at *
  generalize n.ks.length = nk at *
  generalize n.cs.length = nc at *
  generalize putK n = PK at *
  generalize checkN n = C at *
  generalize rgetE kind zs = E at *
  generalize rgetN kind zs = G at *
  obtain ⟨w1, hw1, HB1, HBB, z0, z1, z2, z3⟩ := nd_box w lf (.slice pa np pc) (.slice ka nk kc) (.slice ca nc cc)
  have HFW1 : Hid (∀ w1, Below w.heap.size w w1 → Calls Try.prog 9 #[.slice (some ⟨w1.heap.size, 0, none⟩) 1 1] (w1.alloc (.cells #[.bool lf, .slice pa np pc, .slice ka nk kc, .slice ca nc cc] 26)) fun e w' => e = .returned (.bool FW) ∧ Below w1.heap.size w1 w') := fun w1 hb => HFW.out w1 hb _ _ _ _ rfl
  clear hv hb hP hK hC HFW hp1 hk1 hc1 hp2 hk2 hc2 hL0
  cases FW with
  | false =>
    go_enter Try.func4, Try.ntmps4
    go_wp2_with (first
      | (go_at_call 9; refine (HFW1.out w2 HB2.out).mono ?_; rintro e w3 ⟨rfl, hb3⟩; have HB3 := hide (HB2.out.trans (hb3.mono HB2.out.size)); have HLV3 := hide (HLV.out w3); clear HFW1 hb3)
      | (go_at_call 8; refine HLV3.out.mono ?_; rintro e w4 ⟨rfl, hb4⟩; have HB4 := hide (HB3.out.trans (hb4.mono HB3.out.size)); clear HLV3 hb4)
      | (go_at_call 8; refine (HLV.out w1).mono ?_; rintro e w2 ⟨rfl, hb2⟩; have HB2 := hide (HB1.out.trans (hb2.mono HB1.out.size)); obtain ⟨y0, y1, y2, y3⟩ := box_ndc (HBB.out.below hb2 HBB.out.lt); clear hb2))
    go_ret
    exact ⟨rfl, HB4.out⟩
  | true =>
    by_cases hL : L ≤ 3000
    · have iL : ¬ (3000 : Int) < (L : Int) := by omega
      have HGT1 := hide (HGT.out (by omega))
      have HRG1 := hide (HRG.out (by omega))
      have HRP1 := hide (HRP.out rfl)
      clear HGT HRG HRP
      go_enter Try.func4, Try.ntmps4
      go_wp2_with (first
        | (go_at_call 8; refine (HLV.out w1).mono ?_; rintro e w2 ⟨rfl, hb2⟩; have HB2 := hide (HB1.out.trans (hb2.mono HB1.out.size)); have HBX2 := hide (HBB.out.below hb2 HBB.out.lt); obtain ⟨y0, y1, y2, y3⟩ := box_ndc HBX2.out; clear HLV hb2)
        | (go_at_call 9; refine (HFW1.out w2 HB2.out).mono ?_; rintro e w3 ⟨rfl, hb3⟩; have HB3 := hide (HB2.out.trans (hb3.mono HB2.out.size)); have HBX3 := hide (HBX2.out.below hb3 HBX2.out.lt); obtain ⟨x0, x1, x2, x3⟩ := box_ndc HBX3.out; clear HFW1 hb3)
        | (go_at_call 18; refine (HPU.out w3 HB3.out).mono ?_; rintro e w4 ⟨a4, c4, rfl, ho4, hb4⟩; have HO4 := hide ho4; have HB4 := hide (HB3.out.trans (hb4.mono HB3.out.size)); have HBX4 := hide (HBX3.out.below hb4 HBX3.out.lt); clear x0 x1 x2 x3; obtain ⟨x0, x1, x2, x3⟩ := box_ndc HBX4.out; clear HPU hb4 ho4)
        | (go_at_call 19; refine (HRP1.out w4 HB4.out).mono ?_; rintro e w5 ⟨a5, c5, rfl, ho5, hb5⟩; have HS4 := hide ((sl_of_own_len HO4.out HOK.out).below hb5); have HS5 := hide (sl_of_own_len ho5 HOK.out); have HB5 := hide (HB4.out.trans (hb5.mono HB4.out.size)); clear HRP1 hb5 ho5 HO4)
        | (go_at_call 20; refine (HGT1.out w5 HB5.out).mono ?_; rintro e w6 ⟨l6, p6, n6, c6, k6, nk6, kc6, q6, nq6, qc6, rfl, hn6, hb6⟩; have HB6 := hide (HB5.out.trans (hb6.mono HB5.out.size)); obtain ⟨w7, hw7, HB7, HC7, s0, s1, s2, s3⟩ := nd_box w6 l6 (.slice p6 n6 c6) (.slice k6 nk6 kc6) (.slice q6 nq6 qc6); have HBW7 := hide (HB6.out.trans (HB7.out.mono HB6.out.size)); have HN7 := hide (hn6.below HB7.out); have hb57 := hb6.trans (HB7.out.mono hb6.size); have HS4' := hide (HS4.out.below hb57); have HS5' := hide (HS5.out.below hb57); clear HGT1 hb6 hn6 HS4 HS5 hb57)
        | (go_at_call 21; refine (HRG1.out w7 HBW7.out).mono ?_; rintro e w8 ⟨l8, p8, n8, c8, k8, nk8, kc8, q8, nq8, qc8, rfl, hn8, hb8⟩; have HB8 := hide (HBW7.out.trans (hb8.mono HBW7.out.size)); obtain ⟨w9, hw9, HB9, HC9, r0, r1, r2, r3⟩ := nd_box w8 l8 (.slice p8 n8 c8) (.slice k8 nk8 kc8) (.slice q8 nq8 qc8); have HBW9 := hide (HB8.out.trans (HB9.out.mono HB8.out.size)); have HN9 := hide (hn8.below HB9.out); have hb79 := hb8.trans (HB9.out.mono hb8.size); have HN7' := hide (HN7.out.below hb79); have HS4 := hide (HS4'.out.below hb79); have HS5 := hide (HS5'.out.below hb79); clear s0 s1 s2 s3; obtain ⟨s0, s1, s2, s3⟩ := box_ndc (HC7.out.below hb79 HC7.out.lt); clear HRG1 hb8 hn8 hb79 HS4' HS5' HN7)
        | (go_at_call 22; refine (HEQ.out w9 _ _ HS4.out HS5.out).mono ?_; rintro e w10 ⟨rfl, hw⟩; subst w10; clear HEQ)
        | (go_at_call 17; refine (HSM.out w9 _ _ HN7'.out HN9.out).mono ?_; rintro e w11 ⟨rfl, hb11⟩; have HB11 := hide (HBW9.out.trans (hb11.mono HBW9.out.size)); clear HSM hb11))
      go_ret
      exact ⟨rfl, HB11.out⟩
    · have iL : (3000 : Int) < (L : Int) := by omega
      go_enter Try.func4, Try.ntmps4
      go_wp2_with (first
        | (go_at_call 9; refine (HFW1.out w2 HB2.out).mono ?_; rintro e w3 ⟨rfl, hb3⟩; have HB3 := hide (HB2.out.trans (hb3.mono HB2.out.size)); have HLV3 := hide (HLV.out w3); clear HFW1 hb3)
        | (go_at_call 8; refine HLV3.out.mono ?_; rintro e w4 ⟨rfl, hb4⟩; have HB4 := hide (HB3.out.trans (hb4.mono HB3.out.size)); clear HLV3 hb4)
        | (go_at_call 8; refine (HLV.out w1).mono ?_; rintro e w2 ⟨rfl, hb2⟩; have HB2 := hide (HB1.out.trans (hb2.mono HB1.out.size)); obtain ⟨y0, y1, y2, y3⟩ := box_ndc (HBB.out.below hb2 HBB.out.lt); clear hb2))
      go_ret
      exact ⟨rfl, HB4.out⟩

end Go.Proofs.Ythnppkeifhnceaa
