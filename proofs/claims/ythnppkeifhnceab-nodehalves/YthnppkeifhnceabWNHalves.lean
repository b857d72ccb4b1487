/- NodeHalves, walked. -/
import Derived.Test.YthnppkeifhnceabNHalP
import Derived.Test.YthnppkeifhnceabNDel
import Derived.Test.YthnppkeifhnceabNLive
import Derived.Test.YthnppkeifhnceabNSame
import Derived.Test.YthnppkeifhnceabNRefN
namespace Go.Proofs.Ythnppkeifhnceab
set_option maxRecDepth 20000
open Go.RowKit Go.Shelf
set_option linter.unusedVariables false
set_option linter.unusedSimpArgs false
set_option maxRecDepth 100000
attribute [local go_sem] Oper.semAt_some

theorem nds_1 {w : World} {v : Value} {n : Nd} (h : NdV w v n) {lf : Bool} {p k c : Value} (hv : v = .agg #[.bool lf, p, k, c]) : Nds (w.alloc (.cells #[.bool lf, p, k, c] 26)) w.heap.size [v] [n] := by
  refine ⟨rfl, fun i hi => ?_⟩
  obtain rfl : i = 0 := by simp at hi; omega
  refine ⟨h.alloc _, ?_⟩
  have hB := Blk.new w 26 [.bool lf, p, k, c]
  subst hv
  exact hB.range 0 _ (fun j hj => by rw [Nat.zero_add]; rfl)

structure Hv (w : World) (ab bb : Nat) (N VA VB : List Value) (A B : Nd) (kv : Value) (K : List Int) (n : Nd) (W : World) : Prop where
  below : Below w.heap.size w W
  nb : Blk W w.heap.size 26 N
  ba : Blk W ab 26 VA
  bb : Blk W bb 26 VB
  nv : NdV W (.agg N.toArray) n
  va : NdV W (.agg VA.toArray) A
  vb : NdV W (.agg VB.toArray) B
  sk : Sl W kv K
theorem Hv.keep {w : World} {ab bb : Nat} {N VA VB : List Value} {A B : Nd} {kv : Value} {K : List Int} {n : Nd} {W W' : World} (h : Hv w ab bb N VA VB A B kv K n W) (hb : Below W.heap.size W W') : Hv w ab bb N VA VB A B kv K n W' :=
  ⟨h.below.trans (hb.mono h.below.size), h.nb.below hb h.nb.lt, h.ba.below hb h.ba.lt, h.bb.below hb h.bb.lt, h.nv.below hb, h.va.below hb, h.vb.below hb, h.sk.below hb⟩
/-- an element is taken out of a row, and the row is stored -/
def DpS (w0 : World) (lb : Nat) (lf : Bool) (p0 kv cv : Value) (xs : List (Value × Value)) (ys : List Value) (cs : List Int) (ps : List (List Int × List Int)) (ks : List (List Int)) (k : Nat) : Nat → (Nat → Value) → World → Prop := fun i vals W => match i with
  | 0 => Dl w0 lb lf p0 kv cv p0 kv cv xs ys cs ps ks W
  | 1 => Dl w0 lb lf p0 kv cv (vals 9) kv cv (xs.take k ++ xs.drop (k + 1)) ys cs (ps.take k ++ ps.drop (k + 1)) ks W ∧ ∃ a n c, vals 9 = .slice a n c
  | _ => Dl w0 lb lf (vals 9) kv cv (vals 9) kv cv (xs.take k ++ xs.drop (k + 1)) ys cs (ps.take k ++ ps.drop (k + 1)) ks W ∧ ∃ a n c, vals 9 = .slice a n c
theorem DpS.cell {w0 : World} {lb : Nat} {lf : Bool} {p0 kv cv : Value} {xs : List (Value × Value)} {ys : List Value} {cs : List Int} {ps : List (List Int × List Int)} {ks : List (List Int)} {k i : Nat} {vals : Nat → Value} {W : World} (hi : i < 2) (h : DpS w0 lb lf p0 kv cv xs ys cs ps ks k i vals W) : W.cell? ⟨lb, 1, none⟩ = some p0 := by
  rcases (show i = 0 ∨ i = 1 by omega) with rfl | rfl
  · exact Blk.cell (show Dl w0 lb lf p0 kv cv p0 kv cv xs ys cs ps ks W from h).box 1
  · exact Blk.cell (show Dl w0 lb lf p0 kv cv (vals 9) kv cv (xs.take k ++ xs.drop (k + 1)) ys cs (ps.take k ++ ps.drop (k + 1)) ks W ∧ ∃ a n c, vals 9 = .slice a n c from h).1.box 1
def DkS (w0 : World) (lb : Nat) (lf : Bool) (pv k0 cv : Value) (xs : List (Value × Value)) (ys : List Value) (cs : List Int) (ps : List (List Int × List Int)) (ks : List (List Int)) (k : Nat) : Nat → (Nat → Value) → World → Prop := fun i vals W => match i with
  | 0 => Dl w0 lb lf pv k0 cv pv k0 cv xs ys cs ps ks W
  | 1 => Dl w0 lb lf pv k0 cv pv (vals 9) cv xs (ys.take k ++ ys.drop (k + 1)) cs ps (ks.take k ++ ks.drop (k + 1)) W ∧ ∃ a n c, vals 9 = .slice a n c
  | _ => Dl w0 lb lf pv (vals 9) cv pv (vals 9) cv xs (ys.take k ++ ys.drop (k + 1)) cs ps (ks.take k ++ ks.drop (k + 1)) W ∧ ∃ a n c, vals 9 = .slice a n c
theorem DkS.cell {w0 : World} {lb : Nat} {lf : Bool} {pv k0 cv : Value} {xs : List (Value × Value)} {ys : List Value} {cs : List Int} {ps : List (List Int × List Int)} {ks : List (List Int)} {k i : Nat} {vals : Nat → Value} {W : World} (hi : i < 2) (h : DkS w0 lb lf pv k0 cv xs ys cs ps ks k i vals W) : W.cell? ⟨lb, 2, none⟩ = some k0 := by
  rcases (show i = 0 ∨ i = 1 by omega) with rfl | rfl
  · exact Blk.cell (show Dl w0 lb lf pv k0 cv pv k0 cv xs ys cs ps ks W from h).box 2
  · exact Blk.cell (show Dl w0 lb lf pv k0 cv pv (vals 9) cv xs (ys.take k ++ ys.drop (k + 1)) cs ps (ks.take k ++ ks.drop (k + 1)) W ∧ ∃ a n c, vals 9 = .slice a n c from h).1.box 2
def DiS (w0 : World) (lb : Nat) (lf : Bool) (pv kv c0 : Value) (xs : List (Value × Value)) (ys : List Value) (cs : List Int) (ps : List (List Int × List Int)) (ks : List (List Int)) (k : Nat) : Nat → (Nat → Value) → World → Prop := fun i vals W => match i with
  | 0 => Dl w0 lb lf pv kv c0 pv kv c0 xs ys cs ps ks W
  | 1 => Dl w0 lb lf pv kv c0 pv kv (vals 10) xs ys (cs.take k ++ cs.drop (k + 1)) ps ks W ∧ ∃ a n c, vals 10 = .slice a n c
  | _ => Dl w0 lb lf pv kv (vals 10) pv kv (vals 10) xs ys (cs.take k ++ cs.drop (k + 1)) ps ks W ∧ ∃ a n c, vals 10 = .slice a n c
theorem DiS.cell {w0 : World} {lb : Nat} {lf : Bool} {pv kv c0 : Value} {xs : List (Value × Value)} {ys : List Value} {cs : List Int} {ps : List (List Int × List Int)} {ks : List (List Int)} {k i : Nat} {vals : Nat → Value} {W : World} (hi : i < 2) (h : DiS w0 lb lf pv kv c0 xs ys cs ps ks k i vals W) : W.cell? ⟨lb, 3, none⟩ = some c0 := by
  rcases (show i = 0 ∨ i = 1 by omega) with rfl | rfl
  · exact Blk.cell (show Dl w0 lb lf pv kv c0 pv kv c0 xs ys cs ps ks W from h).box 3
  · exact Blk.cell (show Dl w0 lb lf pv kv c0 pv kv (vals 10) xs ys (cs.take k ++ cs.drop (k + 1)) ps ks W ∧ ∃ a n c, vals 10 = .slice a n c from h).1.box 3

set_option maxHeartbeats 16000000 in
theorem nodeHalves_walk (w : World) (v : Value) (n : Nd) (i : Nat) (hv : NdV w v n) (hi : i < 256) :
    Calls Try.prog 3 #[v, .int .u8 (i : Int)] w fun e w' => e = .returned (.bool true) ∧ Below w.heap.size w w' := by
  have HLV := hide live_any
  have HFW : Hid (∀ w1, Below w.heap.size w w1 → ∀ lf p k c, v = .agg #[.bool lf, p, k, c] → Calls Try.prog 8 #[.slice (some ⟨w1.heap.size, 0, none⟩) 1 1] (w1.alloc (.cells #[.bool lf, p, k, c] 26)) fun e w' => e = .returned (.bool (fewN [n])) ∧ Below w1.heap.size w1 w') := fun w1 hb lf p k c he =>
    (few_any _ _ 1 [v] [n] (nds_1 (hv.below hb) he) (by simp)).mono fun e w' ⟨h1, h2⟩ => ⟨h1, after_alloc h2⟩
  have HCT : Hid (∀ w1, Below w.heap.size w w1 → Calls Try.prog 6 #[v] w1 fun e w' => ∃ l p a b kx c d q r s k1 k2 k3 l' p' a' b' kx' c' d' q' r' s', e = .returned (.tuple #[.agg #[.bool l, .slice p a b, .slice kx c d, .slice q r s], .slice k1 k2 k3, .agg #[.bool l', .slice p' a' b', .slice kx' c' d', .slice q' r' s'], .int .i64 (cutE n)]) ∧ NdV w' (.agg #[.bool l, .slice p a b, .slice kx c d, .slice q r s]) (cutA n) ∧ Sl w' (.slice k1 k2 k3) (cutK n) ∧ NdV w' (.agg #[.bool l', .slice p' a' b', .slice kx' c' d', .slice q' r' s']) (cutB n) ∧ Below w1.heap.size w1 w') := fun w1 hb => by
    refine (cut_any w1 v n (hv.below hb)).mono ?_
    rintro e w' ⟨u1, k1, k2, k3, u2, rfl, h1, h2, h3, h4⟩
    obtain ⟨l, p, a, b, kx, c, d, q, r, s, rfl, -⟩ := nd_open h1.val
    obtain ⟨l', p', a', b', kx', c', d', q', r', s', rfl, -⟩ := nd_open h3.val
    exact ⟨l, p, a, b, kx, c, d, q, r, s, k1, k2, k3, l', p', a', b', kx', c', d', q', r', s', rfl, h1.val, h2, h3.val, h4⟩
  have HJN : Hid (cutE n = 0 → ∀ wx ua ub kv, NdV wx ua (cutA n) → NdV wx ub (cutB n) → Sl wx kv (cutK n) → Calls Try.prog 9 #[ua, kv, ub] wx fun e w' => ∃ l p m c k mk kc q mq qc, e = .returned (.tuple #[.agg #[.bool l, .slice p m c, .slice k mk kc, .slice q mq qc], .int .i64 0]) ∧ NdV w' (.agg #[.bool l, .slice p m c, .slice k mk kc, .slice q mq qc]) n ∧ Below wx.heap.size wx w') := fun hE wx ua ub kv h1 h2 h3 => by
    refine (join_any wx ua ub _ _ kv _ h1 h2 h3).mono ?_
    rintro e w' ⟨u, he, hn, hb⟩
    rw [(join_back hE).1] at he
    rw [(join_back hE).2] at hn
    obtain ⟨pa, np, pc, ka, nk, kc, ca, nc, cc, rfl⟩ := hn.form
    exact ⟨_, _, _, _, _, _, _, _, _, _, he, hn.val, hb⟩
  have HSM : Hid (∀ wx u1 u2, NdV wx u1 n → NdV wx u2 n → Calls Try.prog 10 #[u1, u2] wx fun e w' => e = .returned (.bool true) ∧ Below wx.heap.size wx w') := fun wx u1 u2 h1 h2 => by rw [← sameN_self n]; exact ndSame_any wx _ _ _ _ h1 h2
  have HRC : Hid (mayN n = true → ∀ wx u, NdV wx u n → Calls Try.prog 11 #[u] wx fun e w' => ∃ l p m c k mk kc q mq qc, e = .returned (.agg #[.bool l, .slice p m c, .slice k mk kc, .slice q mq qc]) ∧ NdN w' wx.heap.size (.agg #[.bool l, .slice p m c, .slice k mk kc, .slice q mq qc]) n ∧ Below wx.heap.size wx w') := fun hm wx u hu => by
    refine (refClone_any wx u n hu (may_few hm)).mono ?_
    rintro e w' ⟨u', rfl, hn, hb⟩
    obtain ⟨pa, np, pc, ka, nk, kc, ca, nc, cc, rfl⟩ := hn.form
    exact ⟨_, _, _, _, _, _, _, _, _, _, rfl, hn, hb⟩
  have HCK : Hid (∀ wx u m, NdV wx u m → Calls Try.prog 12 #[u] wx fun e w' => e = .returned (.int .i64 (checkN m)) ∧ Below wx.heap.size wx w') := fun wx u m hu => check_any wx u m hu
  have HSZ : Hid (∀ wx u m, NdV wx u m → Calls Try.prog 13 #[u] wx fun e w' => e = .returned (.int .i64 (sizeN m)) ∧ Below wx.heap.size wx w') := fun wx u m hu => size_any wx u m hu
  have HFE : Hid (cutE n = 0 → mayN n = true ∧ fewN [n] = true) := fun h => ⟨(cut_may h).1, by simp only [fewN, List.all_cons, List.all_nil, Bool.and_true]; exact may_few (cut_may h).1⟩
  have HML : Hid (cutE n = 0 → n.lf = true → 0 < n.ps.length ∧ n.ps.length ≤ 1000) := fun h hl => by
    have := (mid_bounds (cut_may h).1 (cut_may h).2).1 hl
    omega
  have HMI : Hid (cutE n = 0 → n.lf = false → 0 < n.ks.length ∧ n.ks.length ≤ 999 ∧ n.cs.length = n.ks.length + 1 ∧ n.ps = []) := fun h hl => by
    have h1 := (mid_bounds (cut_may h).1 (cut_may h).2).2 hl
    have h2 := may_bounds (cut_may h).1
    have h3 := (cut_may h).1
    rw [mayN_in hl] at h3
    have h4 := innerB_ps h3
    exact ⟨by omega, by omega, h1.2.1, h4.1⟩
  have HLE : Hid (cutE n = 0 → n.lf = true → n.ks = [] ∧ n.cs = []) := fun h hl => by
    have h3 := (cut_may h).1
    rw [mayN_lf hl] at h3
    exact ⟨(leafB_ps h3).2.1, (leafB_ps h3).2.2.1⟩
  have HF1 := hide (@fit_leaf n)
  have HF2 := hide (@fit_inner n)
  have HV := hide hv
  have hza : ∀ wx : World, (zeroValue 26).run Try.prog wx = .ok (.agg #[.bool false, .slice none 0 0, .slice none 0 0, .slice none 0 0]) wx := fun wx => by kernel_rfl
  obtain ⟨pa, pc, ka, kc, ca, cc, xs, ys, rfl, hp1, hk1, hc1, hp2, hk2, hc2, hP, hK, hC⟩ := hv.open
  unfold ndv at HFW HCT HV ⊢
  obtain ⟨lf, hlf⟩ : ∃ x, n.lf = x := ⟨_, rfl⟩
  obtain ⟨np, hnp⟩ : ∃ x, n.ps.length = x := ⟨_, rfl⟩
  obtain ⟨nk, hnk⟩ : ∃ x, n.ks.length = x := ⟨_, rfl⟩
  obtain ⟨nc, hnc⟩ : ∃ x, n.cs.length = x := ⟨_, rfl⟩
  rw [hlf, hnp, hnk, hnc] at HFW HCT HV ⊢
  have HLF := hide hlf
  have HNP := hide hnp
  have HNK := hide hnk
  have HNC := hide hnc
  obtain ⟨w1, hw1, HB1, HBB, z0, z1, z2, z3⟩ := nd_box w lf (.slice pa np pc) (.slice ka nk kc) (.slice ca nc cc)
  have HFW1 : Hid (∀ w1, Below w.heap.size w w1 → Calls Try.prog 8 #[.slice (some ⟨w1.heap.size, 0, none⟩) 1 1] (w1.alloc (.cells #[.bool lf, .slice pa np pc, .slice ka nk kc, .slice ca nc cc] 26)) fun e w' => e = .returned (.bool (fewN [n])) ∧ Below w1.heap.size w1 w') := fun w1 hb => HFW.out w1 hb _ _ _ _ rfl
  clear hv hP hK hC HFW hp1 hk1 hc1 hp2 hk2 hc2 hlf hnp hnk hnc
  have hiw : IntKind.i64.wrap (i : Int) = (i : Int) := IntWalk.i64_in _ (by omega)
  by_cases hE : cutE n = 0
  · obtain ⟨hmay, hfew⟩ := HFE.out hE
    rw [hfew] at HFW1
    rw [hE] at HCT
    have HJ1 := hide (HJN.out hE)
    have HR1 := hide (HRC.out hmay)
    have HEE := hide hE
    clear HFE HJN HRC hE hmay hfew
    cases lf with
    | true =>
      obtain ⟨hp0, hpm⟩ := HML.out HEE.out HLF.out
      obtain ⟨hk0, hc0⟩ := HLE.out HEE.out HLF.out
      rw [HNP.out] at hp0 hpm
      obtain ⟨K, hK⟩ : ∃ K, K = i % np := ⟨_, rfl⟩
      have hKl : K < np := by rw [hK]; exact Nat.mod_lt _ hp0
      have hrem : (i : Int) % (np : Int) = (K : Int) := by rw [hK]; first | exact (Int.natCast_emod i np).symm | simp
      have hnz' : ¬ np = 0 := by omega
      have hwr : IntKind.i64.wrap (K : Int) = (K : Int) := IntWalk.i64_in _ (by omega)
      have HK0 := hide hk0
      have HC0 := hide hc0
      clear hK hk0 hc0
      go_enter Try.func3, Try.ntmps3
      go_wp2_with ((go_at_call 6; refine (HCT.out w1 HB1.out).mono ?_; rintro e w2 ⟨l, p, a, b, kx, c, d, q, r, s, k1, k2, k3, l', p', a', b', kx', c', d', q', r', s', rfl, hva, hsk, hvb, hb2⟩; have HVA := hide hva; have HVB := hide hvb; have HSK := hide hsk; have HBX2 := hide (HBB.out.below hb2 HBB.out.lt); have HB2 := hide (HB1.out.trans (hb2.mono HB1.out.size)); clear HCT hb2 hva hvb hsk z0 z1 z2 z3))
      obtain ⟨ab, hab⟩ : ∃ x, x = w2.heap.size := ⟨_, rfl⟩
      obtain ⟨bb, hbb⟩ : ∃ x, x = ab + 1 := ⟨_, rfl⟩
      obtain ⟨w3, hw3⟩ : ∃ x, x = (w2.alloc (.cells #[.bool l, .slice p a b, .slice kx c d, .slice q r s] 26)).alloc (.cells #[.bool l', .slice p' a' b', .slice kx' c' d', .slice q' r' s'] 26) := ⟨_, rfl⟩
      have HH3 : Hid (Hv w ab bb [.bool true, .slice pa np pc, .slice ka nk kc, .slice ca nc cc] [.bool l, .slice p a b, .slice kx c d, .slice q r s] [.bool l', .slice p' a' b', .slice kx' c' d', .slice q' r' s'] (cutA n) (cutB n) (.slice k1 k2 k3) (cutK n) n w3) := by
        have hb : Below w2.heap.size w2 w3 := by rw [hw3]; exact ((Below.refl _ w2).alloc (Nat.le_refl _) _).alloc (by simp) _
        refine ⟨HB2.out.trans (hb.mono HB2.out.size), HBX2.out.below hb HBX2.out.lt, ?_, ?_, (HV.out.below HB2.out).below hb, HVA.out.below hb, HVB.out.below hb, HSK.out.below hb⟩
        · rw [hab, hw3]; exact (Blk.new w2 _ _).alloc _
        · rw [hbb, hab, hw3]
          have := Blk.new (w2.alloc (.cells #[.bool l, .slice p a b, .slice kx c d, .slice q r s] 26)) 26 [.bool l', .slice p' a' b', .slice kx' c' d', .slice q' r' s']
          rw [World.size_alloc] at this
          exact this
      simp only [← hab, ← hw3]
      simp only [← hbb]
      have habn : w.heap.size < ab := by have := HBX2.out.lt; omega
      have hbbn : w.heap.size < bb := by omega
      clear hw3 hab hbb HBX2 HB2 HVA HVB HSK HBB HB1 hw1
      have HLV3 := hide (HLV.out w3)
      clear HLV
      go_wp2_with (first | (go_at_call 7; refine HLV3.out.mono ?_; rintro e w4 ⟨rfl, hb4⟩; have HH4 := hide (HH3.out.keep hb4); obtain ⟨⟨x0, x1, x2, x3⟩, _⟩ := node_cells HH4.out.nb; clear hb4 HLV3) | (go_at_call 8; refine (HFW1.out w4 HH4.out.below).mono ?_; rintro e w5 ⟨rfl, hb5⟩; have HH5 := hide (HH4.out.keep hb5); clear HFW1 hb5; (try clear x0 x1 x2 x3); (try clear y0 y1 y2 y3 u0 u1 u2 u3); obtain ⟨⟨y0, y1, y2, y3⟩, _⟩ := node_cells HH5.out.ba; obtain ⟨⟨u0, u1, u2, u3⟩, _⟩ := node_cells HH5.out.bb; skip) | (go_at_call 9; refine (HJ1.out w5 _ _ _ HH5.out.va HH5.out.vb HH5.out.sk).mono ?_; rintro e w6 ⟨l6, p6, n6, c6, kk6, nk6, kc6, q6, nq6, qc6, rfl, hn6, hb6⟩; obtain ⟨w7, hw7, HB7, HC7, s0, s1, s2, s3⟩ := nd_box w6 l6 (.slice p6 n6 c6) (.slice kk6 nk6 kc6) (.slice q6 nq6 qc6); have hb57 := hb6.trans (HB7.out.mono hb6.size); have HH7 := hide (HH5.out.keep hb57); have HN7 := hide (hn6.below HB7.out); (try clear x0 x1 x2 x3); (try clear y0 y1 y2 y3 u0 u1 u2 u3); obtain ⟨⟨x0, x1, x2, x3⟩, _⟩ := node_cells HH7.out.nb; clear HJ1 hb6 hn6 hb57) | (go_at_call 10; refine (HSM.out w7 _ _ HN7.out HH7.out.nv).mono ?_; rintro e w8 ⟨rfl, hb8⟩; have HH8 := hide (HH7.out.keep hb8); (try clear x0 x1 x2 x3); (try clear y0 y1 y2 y3 u0 u1 u2 u3); obtain ⟨⟨x0, x1, x2, x3⟩, _⟩ := node_cells HH8.out.nb; clear HSM hb8 s0 s1 s2 s3 HN7 hw7) | (go_at_call 11; refine (HR1.out w8 _ HH8.out.nv).mono ?_; rintro e w9 ⟨l9, p9, n9, c9, kk9, nk9, kc9, q9, nq9, qc9, rfl, hn9, hb9⟩; obtain ⟨xs9, ys9, hl9, hdl9⟩ := dl_of hn9 hb9; obtain ⟨w10, hw10⟩ : ∃ x, w9.alloc (.cells #[.bool l9, .slice p9 n9 c9, .slice kk9 nk9 kc9, .slice q9 nq9 qc9] 26) = x := ⟨_, rfl⟩; rw [hw10] at hdl9; have HH10 := hide (HH8.out.keep hdl9.below); have HDL := hide hdl9; have HL9 := hide hl9; (try clear x0 x1 x2 x3); (try clear y0 y1 y2 y3 u0 u1 u2 u3); obtain ⟨⟨x0, x1, x2, x3⟩, _⟩ := node_cells HH10.out.nb; clear HR1 hb9 hn9 hl9 hdl9))
      obtain ⟨lb, hlb⟩ : ∃ x, x = w9.heap.size := ⟨_, rfl⟩
      rw [← hlb] at HDL
      simp only [← hlb]
      have HLB0 := hide hlb
      clear hlb hw10
      (try simp only [hrem])
      have hl9 : l9 = true := HL9.out.trans HLF.out
      subst hl9
      have hn9 : n9 = np := by obtain ⟨_, _, e⟩ := own_form' HDL.out.prow; simp only [Value.slice.injEq] at e; have := HDL.out.pl; have := HNP.out; omega
      subst hn9
      have hrow := HDL.out.prow
      have hxl : xs9.length = n9 := by obtain ⟨_, _, e⟩ := own_form' hrow; simp only [Value.slice.injEq] at e; exact e.2.1.symm
      rw [hxl] at hrow
      obtain ⟨sa, sn, sc, hsl, hsr⟩ := src_row Try.underlying22 sizePairE hrow (K + 1) (by omega) (by omega) HDL.out.pcells
      rw [flatP_drop] at hsr
      have hcap := own_len hrow
      have hch := fun wx => cut_head (P := Try.prog) 22 45 2 Try.underlying22 sizePairE p9 n9 c9 K (by omega) hcap.2 wx
      have hK1 : (K : Int) + 1 = ((K + 1 : Nat) : Int) := by omega
      obtain ⟨K1, hK1e⟩ : ∃ x, x = K + 1 := ⟨_, rfl⟩
      rw [← hK1e] at hsl hK1
      have hwK : IntKind.i64.wrap (K1 : Int) = (K1 : Int) := IntWalk.i64_in _ (by omega)
      have hxl2 : n9 = xs9.length := hxl.symm
      have HXL := hide hxl2
      have HK1E := hide hK1e
      clear hrow hxl hxl2 hK1e hsr
      refine wp_region_chain [some (.pointer (some ⟨lb, 1, none⟩)), some (.slice p9 n9 c9), some (.int .i64 (K : Int)), some (.slice p9 K c9), some (.pointer (some ⟨lb, 1, none⟩)), some (.slice p9 n9 c9), some (.int .i64 (K : Int)), some (.int .i64 (K1 : Int)), some (.slice sa sn sc), none, some (.pointer (some ⟨lb, 1, none⟩)), none] [9, 11] (DpS w8 lb true (.slice p9 n9 c9) (.slice kk9 nk9 kc9) (.slice q9 nq9 qc9) xs9 ys9 n.cs n.ps n.ks K) 125 (by kernel_rfl) (by kernel_rfl) (by kernel_rfl) (by kernel_rfl) rfl ?_ ?_ ?_
      · intro vals0
        exact (HDL.out.keep ((Only.refl _ w10).drew) : Dl w8 lb true (.slice p9 n9 c9) (.slice kk9 nk9 kc9) (.slice q9 nq9 qc9) (.slice p9 n9 c9) (.slice kk9 nk9 kc9) (.slice q9 nq9 qc9) (xs9) (ys9) (n.cs) (n.ps) (n.ks) w10.drew)
      · refine ⟨?_, ?_, ?_, ?_, ?_, ?_, ?_, ?_, ?_, ?_, ?_, ?_, trivial⟩
        · intro k vals act wx hk h hs
          have e11 : act.eval (.tmp 11) = .pointer (some ⟨lb, 0, none⟩) := h.old 11 (by kernel_rfl)
          clear h
          refine gives_by rfl act.eval rfl ?_
          generalize act.eval = ρ at *
          intro hf hc
          go_simp
          exact ⟨rfl, hs⟩
        · intro k vals act wx hk h hs
          have e59 : act.eval (.tmp 59) = .pointer (some ⟨lb, 1, none⟩) := h.q 0 59 (by kernel_rfl) rfl
          clear h
          have cx := DpS.cell hk hs
          refine gives_by rfl act.eval rfl ?_
          generalize act.eval = ρ at *
          intro hf hc
          go_simp
          exact ⟨rfl, hs⟩
        · intro k vals act wx hk h hs
          have e12 : act.eval (.tmp 12) = .int .i64 (K : Int) := h.old 12 (by kernel_rfl)
          clear h
          refine gives_by rfl act.eval rfl ?_
          generalize act.eval = ρ at *
          intro hf hc
          go_simp
          exact ⟨rfl, hs⟩
        · intro k vals act wx hk h hs
          have e60 : act.eval (.tmp 60) = .slice p9 n9 c9 := h.q 1 60 (by kernel_rfl) rfl
          have e61 : act.eval (.tmp 61) = .int .i64 (K : Int) := h.q 2 61 (by kernel_rfl) rfl
          clear h
          refine gives_by rfl act.eval rfl ?_
          generalize act.eval = ρ at *
          intro hf hc
          go_simp
          exact ⟨rfl, hs⟩
        · intro k vals act wx hk h hs
          have e11 : act.eval (.tmp 11) = .pointer (some ⟨lb, 0, none⟩) := h.old 11 (by kernel_rfl)
          clear h
          refine gives_by rfl act.eval rfl ?_
          generalize act.eval = ρ at *
          intro hf hc
          go_simp
          exact ⟨rfl, hs⟩
        · intro k vals act wx hk h hs
          have e63 : act.eval (.tmp 63) = .pointer (some ⟨lb, 1, none⟩) := h.q 4 63 (by kernel_rfl) rfl
          clear h
          have cx := DpS.cell hk hs
          refine gives_by rfl act.eval rfl ?_
          generalize act.eval = ρ at *
          intro hf hc
          go_simp
          exact ⟨rfl, hs⟩
        · intro k vals act wx hk h hs
          have e12 : act.eval (.tmp 12) = .int .i64 (K : Int) := h.old 12 (by kernel_rfl)
          clear h
          refine gives_by rfl act.eval rfl ?_
          generalize act.eval = ρ at *
          intro hf hc
          go_simp
          exact ⟨rfl, hs⟩
        · intro k vals act wx hk h hs
          have e65 : act.eval (.tmp 65) = .int .i64 (K : Int) := h.q 6 65 (by kernel_rfl) rfl
          clear h
          refine gives_by rfl act.eval rfl ?_
          generalize act.eval = ρ at *
          intro hf hc
          go_simp
          exact ⟨rfl, hs⟩
        · intro k vals act wx hk h hs
          have e64 : act.eval (.tmp 64) = .slice p9 n9 c9 := h.q 5 64 (by kernel_rfl) rfl
          have e66 : act.eval (.tmp 66) = .int .i64 (K1 : Int) := h.q 7 66 (by kernel_rfl) rfl
          clear h
          refine gives_by rfl act.eval rfl ?_
          generalize act.eval = ρ at *
          intro hf hc
          go_simp
          exact ⟨rfl, hs⟩
        · intro vals act wx h hs
          have e62 : act.eval (.tmp 62) = .slice p9 K c9 := h.q 3 62 (by kernel_rfl) rfl
          have e67 : act.eval (.tmp 67) = .slice sa sn sc := h.q 8 67 (by kernel_rfl) rfl
          clear h
          have hdl : Dl w8 lb true (.slice p9 n9 c9) (.slice kk9 nk9 kc9) (.slice q9 nq9 qc9) (.slice p9 n9 c9) (.slice kk9 nk9 kc9) (.slice q9 nq9 qc9) (xs9) (ys9) (n.cs) (n.ps) (n.ks) wx := hs
          have hrow := hdl.prow
          rw [← HXL.out] at hrow
          obtain ⟨sa', sn', sc', hsl', hsr'⟩ := src_row Try.underlying22 sizePairE hrow (K + 1) (by omega) (by omega) hdl.pcells
          rw [flatP_drop] at hsr'
          have he := (hsl' wx).symm.trans (HK1E.out ▸ hsl wx)
          simp only [Result.ok.injEq, Value.slice.injEq, and_true] at he
          obtain ⟨rfl, rfl, rfl⟩ := he
          obtain ⟨p', w', hr, hd', a', n', c', hp'⟩ := hdl.delP K hKl HXL.out (by omega) _ hsr'
          refine gives_of_run rfl (exec_append (.tmp 62) (.tmp 67) 22 rfl _ _ e62 e67 _ hr) ?_
          exact (⟨hd', a', n', c', hp'⟩ : Dl w8 lb true (.slice p9 n9 c9) (.slice kk9 nk9 kc9) (.slice q9 nq9 qc9) (p') (.slice kk9 nk9 kc9) (.slice q9 nq9 qc9) (xs9.take K ++ xs9.drop (K + 1)) (ys9) (n.cs) (n.ps.take K ++ n.ps.drop (K + 1)) (n.ks) w' ∧ ∃ a n c, p' = .slice a n c)
        · intro k vals act wx hk h hs
          have e11 : act.eval (.tmp 11) = .pointer (some ⟨lb, 0, none⟩) := h.old 11 (by kernel_rfl)
          clear h
          refine gives_by rfl act.eval rfl ?_
          generalize act.eval = ρ at *
          intro hf hc
          go_simp
          exact ⟨rfl, hs⟩
        · intro vals act wx h hs
          have e69 : act.eval (.tmp 69) = .pointer (some ⟨lb, 1, none⟩) := h.q 10 69 (by kernel_rfl) rfl
          have e68 : act.eval (.tmp 68) = vals 9 := h.val 9 68 (by kernel_rfl)
          clear h
          obtain ⟨hdl, a', n', c', h9⟩ : Dl w8 lb true (.slice p9 n9 c9) (.slice kk9 nk9 kc9) (.slice q9 nq9 qc9) (vals 9) (.slice kk9 nk9 kc9) (.slice q9 nq9 qc9) (xs9.take K ++ xs9.drop (K + 1)) (ys9) (n.cs) (n.ps.take K ++ n.ps.drop (K + 1)) (n.ks) wx ∧ ∃ a n c, vals 9 = .slice a n c := hs
          rw [h9] at e68
          have cx : wx.cell? ⟨lb, 1, none⟩ = some (.slice p9 n9 c9) := hdl.box.cell 1
          have f0 : wx.frozen? ⟨lb, 1, none⟩ = false := hdl.box.frozen 1
          have hfin : Dl w8 lb true (vals 9) (.slice kk9 nk9 kc9) (.slice q9 nq9 qc9) (vals 9) (.slice kk9 nk9 kc9) (.slice q9 nq9 qc9) (xs9.take K ++ xs9.drop (K + 1)) (ys9) (n.cs) (n.ps.take K ++ n.ps.drop (K + 1)) (n.ks) (wx.setCell ⟨lb, 1, none⟩ (.slice a' n' c')) ∧ ∃ a n c, vals 9 = .slice a n c := ⟨by have := hdl.put 1 (.slice a' n' c') (.slice a' n' c') (.slice kk9 nk9 kc9) (.slice q9 nq9 qc9) rfl; rw [h9] at this ⊢; exact this, a', n', c', h9⟩
          clear hdl h9
          refine gives_by rfl act.eval rfl ?_
          generalize act.eval = ρ at *
          intro hf hc
          go_simp
          exact hfin
      · intro vals w11 hq hs
        have hs' : Dl w8 lb true (vals 9) (.slice kk9 nk9 kc9) (.slice q9 nq9 qc9) (vals 9) (.slice kk9 nk9 kc9) (.slice q9 nq9 qc9) (xs9.take K ++ xs9.drop (K + 1)) (ys9) (n.cs) (n.ps.take K ++ n.ps.drop (K + 1)) (n.ks) w11 ∧ ∃ a n c, vals 9 = .slice a n c := hs
        obtain ⟨hdl, a', n', c', h9⟩ := hs'
        have HH11 := hide (HH8.out.keep hdl.below)
        have HDW := hide hdl
        clear hq hs hdl
        simp only [putAll, Act.put, List.setIfInBounds_toArray, List.set_cons_zero, List.set_cons_succ, Nat.zero_add, Nat.reduceAdd]
        rw [h9] at HDW
        have HLB := hide HDW.out.box
        have HLN : Hid (NdV w11 (.agg #[.bool true, .slice a' n' c', .slice kk9 nk9 kc9, .slice q9 nq9 qc9]) (⟨true, n.ps.take K ++ n.ps.drop (K + 1), [], []⟩)) := by have := HDW.out.val; rw [HK0.out, HC0.out] at this; exact this
        have HFT : Hid (checkN n = 3 → checkN (⟨true, n.ps.take K ++ n.ps.drop (K + 1), [], []⟩) = 0 → checkN (cutA n) = 0 ∧ checkN (cutB n) = 0 ∧ 60 ≤ sizeN (cutA n) ∧ 60 ≤ sizeN (cutB n)) := HF1.out HEE.out HLF.out K (by rw [HNP.out]; exact hKl)
        obtain ⟨⟨x0, x1, x2, x3⟩, _⟩ := node_cells HH11.out.nb
        obtain ⟨⟨c0, c1, c2, c3⟩, _⟩ := node_cells HLB.out
        clear HDW h9 HDL HF1 HF2 HML HMI HLE
        skip
        have HK1 := hide HCK.out
        have HK2 := hide HCK.out
        by_cases hC : checkN n = 3
        · by_cases hLC : checkN (⟨true, n.ps.take K ++ n.ps.drop (K + 1), [], []⟩) = 0
          · obtain ⟨f1, f2, f3, f4⟩ := HFT.out hC hLC
            have HK3 := hide HCK.out
            have HK4 := hide HCK.out
            have HS1 := hide HSZ.out
            have HS2 := hide HSZ.out
            have i3 : (60 : Int) ≤ (sizeN (cutA n) : Int) := by omega
            have i4 : (60 : Int) ≤ (sizeN (cutB n) : Int) := by omega
            go_wp2_with (first | (go_at_call 12; have hq := HK1.out w11 _ _ HH11.out.nv; rw [hC] at hq; refine hq.mono ?_; rintro e w20 ⟨rfl, hb20⟩; have HH20 := hide (HH11.out.keep hb20); have HLN20 := hide (HLN.out.below hb20); obtain ⟨⟨c0, c1, c2, c3⟩, _⟩ := node_cells (HLB.out.below hb20 HLB.out.lt); (try clear x0 x1 x2 x3); (try clear y0 y1 y2 y3 u0 u1 u2 u3); obtain ⟨⟨y0, y1, y2, y3⟩, _⟩ := node_cells HH20.out.ba; obtain ⟨⟨u0, u1, u2, u3⟩, _⟩ := node_cells HH20.out.bb; clear HK1 hb20 hq) | (go_at_call 12; have hq := HK2.out w20 _ _ HLN20.out; rw [hLC] at hq; refine hq.mono ?_; rintro e w21 ⟨rfl, hb21⟩; have HH21 := hide (HH20.out.keep hb21); (try clear x0 x1 x2 x3); (try clear y0 y1 y2 y3 u0 u1 u2 u3); obtain ⟨⟨y0, y1, y2, y3⟩, _⟩ := node_cells HH21.out.ba; obtain ⟨⟨u0, u1, u2, u3⟩, _⟩ := node_cells HH21.out.bb; clear HK2 hb21 hq) | (go_at_call 12; have hq := HK3.out w21 _ _ HH21.out.va; rw [f1] at hq; refine hq.mono ?_; rintro e w22 ⟨rfl, hb22⟩; have HH22 := hide (HH21.out.keep hb22); (try clear x0 x1 x2 x3); (try clear y0 y1 y2 y3 u0 u1 u2 u3); obtain ⟨⟨y0, y1, y2, y3⟩, _⟩ := node_cells HH22.out.ba; obtain ⟨⟨u0, u1, u2, u3⟩, _⟩ := node_cells HH22.out.bb; clear HK3 hb22 hq) | (go_at_call 12; have hq := HK4.out w22 _ _ HH22.out.vb; rw [f2] at hq; refine hq.mono ?_; rintro e w23 ⟨rfl, hb23⟩; have HH23 := hide (HH22.out.keep hb23); (try clear x0 x1 x2 x3); (try clear y0 y1 y2 y3 u0 u1 u2 u3); obtain ⟨⟨y0, y1, y2, y3⟩, _⟩ := node_cells HH23.out.ba; obtain ⟨⟨u0, u1, u2, u3⟩, _⟩ := node_cells HH23.out.bb; clear HK4 hb23 hq) | (go_at_call 13; refine (HS1.out w23 _ _ HH23.out.va).mono ?_; rintro e w24 ⟨rfl, hb24⟩; have HH24 := hide (HH23.out.keep hb24); (try clear x0 x1 x2 x3); (try clear y0 y1 y2 y3 u0 u1 u2 u3); obtain ⟨⟨y0, y1, y2, y3⟩, _⟩ := node_cells HH24.out.ba; obtain ⟨⟨u0, u1, u2, u3⟩, _⟩ := node_cells HH24.out.bb; clear HS1 hb24) | (go_at_call 13; refine (HS2.out w24 _ _ HH24.out.vb).mono ?_; rintro e w25 ⟨rfl, hb25⟩; have HH25 := hide (HH24.out.keep hb25); clear HS2 hb25))
            go_ret
            exact ⟨rfl, HH25.out.below⟩
          · have hlb : (checkN (⟨true, n.ps.take K ++ n.ps.drop (K + 1), [], []⟩) == 0) = false := by simpa using hLC
            have hln : (checkN (⟨true, n.ps.take K ++ n.ps.drop (K + 1), [], []⟩) != 0) = true := by rw [bne, hlb]; rfl
            go_wp2_with (first | (go_at_call 12; have hq := HK1.out w11 _ _ HH11.out.nv; rw [hC] at hq; refine hq.mono ?_; rintro e w20 ⟨rfl, hb20⟩; have HH20 := hide (HH11.out.keep hb20); have HLN20 := hide (HLN.out.below hb20); obtain ⟨⟨c0, c1, c2, c3⟩, _⟩ := node_cells (HLB.out.below hb20 HLB.out.lt); (try clear x0 x1 x2 x3); (try clear y0 y1 y2 y3 u0 u1 u2 u3); obtain ⟨⟨y0, y1, y2, y3⟩, _⟩ := node_cells HH20.out.ba; obtain ⟨⟨u0, u1, u2, u3⟩, _⟩ := node_cells HH20.out.bb; clear HK1 hb20 hq) | (go_at_call 12; refine (HK2.out w20 _ _ HLN20.out).mono ?_; rintro e w21 ⟨rfl, hb21⟩; have HH21 := hide (HH20.out.keep hb21); clear HK2 hb21))
            go_ret
            exact ⟨rfl, HH21.out.below⟩
        · have hlb : (checkN n == 3) = false := by simpa using hC
          have hln : (checkN n != 3) = true := by rw [bne, hlb]; rfl
          go_wp2_with ((go_at_call 12; refine (HK1.out w11 _ _ HH11.out.nv).mono ?_; rintro e w20 ⟨rfl, hb20⟩; have HH20 := hide (HH11.out.keep hb20); clear HK1 hb20))
          go_ret
          exact ⟨rfl, HH20.out.below⟩
    | false =>
      obtain ⟨hp0, hpm, hcn, hps⟩ := HMI.out HEE.out HLF.out
      rw [HNK.out] at hp0 hpm hcn
      rw [HNC.out] at hcn
      obtain ⟨K, hK⟩ : ∃ K, K = i % nk := ⟨_, rfl⟩
      have hKl : K < nk := by rw [hK]; exact Nat.mod_lt _ hp0
      have hrem : (i : Int) % (nk : Int) = (K : Int) := by rw [hK]; first | exact (Int.natCast_emod i nk).symm | simp
      have hnz' : ¬ nk = 0 := by omega
      have hwr : IntKind.i64.wrap (K : Int) = (K : Int) := IntWalk.i64_in _ (by omega)
      have HCN := hide hcn
      have hcl : nc ≤ 1000 := by omega
      have hKc : K + 1 < nc := by omega
      have HPS := hide hps
      clear hcn hK hps
      go_enter Try.func3, Try.ntmps3
      go_wp2_with ((go_at_call 6; refine (HCT.out w1 HB1.out).mono ?_; rintro e w2 ⟨l, p, a, b, kx, c, d, q, r, s, k1, k2, k3, l', p', a', b', kx', c', d', q', r', s', rfl, hva, hsk, hvb, hb2⟩; have HVA := hide hva; have HVB := hide hvb; have HSK := hide hsk; have HBX2 := hide (HBB.out.below hb2 HBB.out.lt); have HB2 := hide (HB1.out.trans (hb2.mono HB1.out.size)); clear HCT hb2 hva hvb hsk z0 z1 z2 z3))
      obtain ⟨ab, hab⟩ : ∃ x, x = w2.heap.size := ⟨_, rfl⟩
      obtain ⟨bb, hbb⟩ : ∃ x, x = ab + 1 := ⟨_, rfl⟩
      obtain ⟨w3, hw3⟩ : ∃ x, x = (w2.alloc (.cells #[.bool l, .slice p a b, .slice kx c d, .slice q r s] 26)).alloc (.cells #[.bool l', .slice p' a' b', .slice kx' c' d', .slice q' r' s'] 26) := ⟨_, rfl⟩
      have HH3 : Hid (Hv w ab bb [.bool false, .slice pa np pc, .slice ka nk kc, .slice ca nc cc] [.bool l, .slice p a b, .slice kx c d, .slice q r s] [.bool l', .slice p' a' b', .slice kx' c' d', .slice q' r' s'] (cutA n) (cutB n) (.slice k1 k2 k3) (cutK n) n w3) := by
        have hb : Below w2.heap.size w2 w3 := by rw [hw3]; exact ((Below.refl _ w2).alloc (Nat.le_refl _) _).alloc (by simp) _
        refine ⟨HB2.out.trans (hb.mono HB2.out.size), HBX2.out.below hb HBX2.out.lt, ?_, ?_, (HV.out.below HB2.out).below hb, HVA.out.below hb, HVB.out.below hb, HSK.out.below hb⟩
        · rw [hab, hw3]; exact (Blk.new w2 _ _).alloc _
        · rw [hbb, hab, hw3]
          have := Blk.new (w2.alloc (.cells #[.bool l, .slice p a b, .slice kx c d, .slice q r s] 26)) 26 [.bool l', .slice p' a' b', .slice kx' c' d', .slice q' r' s']
          rw [World.size_alloc] at this
          exact this
      simp only [← hab, ← hw3]
      simp only [← hbb]
      have habn : w.heap.size < ab := by have := HBX2.out.lt; omega
      have hbbn : w.heap.size < bb := by omega
      clear hw3 hab hbb HBX2 HB2 HVA HVB HSK HBB HB1 hw1
      have HLV3 := hide (HLV.out w3)
      clear HLV
      go_wp2_with (first | (go_at_call 7; refine HLV3.out.mono ?_; rintro e w4 ⟨rfl, hb4⟩; have HH4 := hide (HH3.out.keep hb4); obtain ⟨⟨x0, x1, x2, x3⟩, _⟩ := node_cells HH4.out.nb; clear hb4 HLV3) | (go_at_call 8; refine (HFW1.out w4 HH4.out.below).mono ?_; rintro e w5 ⟨rfl, hb5⟩; have HH5 := hide (HH4.out.keep hb5); clear HFW1 hb5; (try clear x0 x1 x2 x3); (try clear y0 y1 y2 y3 u0 u1 u2 u3); obtain ⟨⟨y0, y1, y2, y3⟩, _⟩ := node_cells HH5.out.ba; obtain ⟨⟨u0, u1, u2, u3⟩, _⟩ := node_cells HH5.out.bb; skip) | (go_at_call 9; refine (HJ1.out w5 _ _ _ HH5.out.va HH5.out.vb HH5.out.sk).mono ?_; rintro e w6 ⟨l6, p6, n6, c6, kk6, nk6, kc6, q6, nq6, qc6, rfl, hn6, hb6⟩; obtain ⟨w7, hw7, HB7, HC7, s0, s1, s2, s3⟩ := nd_box w6 l6 (.slice p6 n6 c6) (.slice kk6 nk6 kc6) (.slice q6 nq6 qc6); have hb57 := hb6.trans (HB7.out.mono hb6.size); have HH7 := hide (HH5.out.keep hb57); have HN7 := hide (hn6.below HB7.out); (try clear x0 x1 x2 x3); (try clear y0 y1 y2 y3 u0 u1 u2 u3); obtain ⟨⟨x0, x1, x2, x3⟩, _⟩ := node_cells HH7.out.nb; clear HJ1 hb6 hn6 hb57) | (go_at_call 10; refine (HSM.out w7 _ _ HN7.out HH7.out.nv).mono ?_; rintro e w8 ⟨rfl, hb8⟩; have HH8 := hide (HH7.out.keep hb8); (try clear x0 x1 x2 x3); (try clear y0 y1 y2 y3 u0 u1 u2 u3); obtain ⟨⟨x0, x1, x2, x3⟩, _⟩ := node_cells HH8.out.nb; clear HSM hb8 s0 s1 s2 s3 HN7 hw7) | (go_at_call 11; refine (HR1.out w8 _ HH8.out.nv).mono ?_; rintro e w9 ⟨l9, p9, n9, c9, kk9, nk9, kc9, q9, nq9, qc9, rfl, hn9, hb9⟩; obtain ⟨xs9, ys9, hl9, hdl9⟩ := dl_of hn9 hb9; obtain ⟨w10, hw10⟩ : ∃ x, w9.alloc (.cells #[.bool l9, .slice p9 n9 c9, .slice kk9 nk9 kc9, .slice q9 nq9 qc9] 26) = x := ⟨_, rfl⟩; rw [hw10] at hdl9; have HH10 := hide (HH8.out.keep hdl9.below); have HDL := hide hdl9; have HL9 := hide hl9; (try clear x0 x1 x2 x3); (try clear y0 y1 y2 y3 u0 u1 u2 u3); obtain ⟨⟨x0, x1, x2, x3⟩, _⟩ := node_cells HH10.out.nb; clear HR1 hb9 hn9 hl9 hdl9))
      obtain ⟨lb, hlb⟩ : ∃ x, x = w9.heap.size := ⟨_, rfl⟩
      rw [← hlb] at HDL
      simp only [← hlb]
      have HLB0 := hide hlb
      clear hlb hw10
      (try simp only [hrem])
      have hl9 : l9 = false := HL9.out.trans HLF.out
      subst hl9
      have hn9 : nk9 = nk := by obtain ⟨_, _, e⟩ := own_form' HDL.out.krow; simp only [Value.slice.injEq] at e; have := HDL.out.kl; have := HNK.out; omega
      have hm9 : nq9 = nc := by obtain ⟨_, _, e⟩ := own_form' HDL.out.ints; simp only [Value.slice.injEq] at e; have := HNC.out; omega
      subst hn9
      subst hm9
      have hrow := HDL.out.krow
      have hxl : ys9.length = nk9 := by obtain ⟨_, _, e⟩ := own_form' hrow; simp only [Value.slice.injEq] at e; exact e.2.1.symm
      rw [hxl] at hrow
      obtain ⟨sa, sn, sc, hsl, hsr⟩ := src_row Try.underlying23 sizeRowE hrow (K + 1) (by omega) (by omega) HDL.out.kcells
      have hcap := own_len hrow
      have hch := fun wx => cut_head (P := Try.prog) 23 27 1 Try.underlying23 sizeRowE kk9 nk9 kc9 K (by omega) hcap.2 wx
      have hK1 : (K : Int) + 1 = ((K + 1 : Nat) : Int) := by omega
      obtain ⟨K1, hK1e⟩ : ∃ x, x = K + 1 := ⟨_, rfl⟩
      rw [← hK1e] at hsl hK1
      have hwK : IntKind.i64.wrap (K1 : Int) = (K1 : Int) := IntWalk.i64_in _ (by omega)
      have hxl2 : nk9 = ys9.length := hxl.symm
      have HXL := hide hxl2
      have HK1E := hide hK1e
      have hK1b : K1 ≤ 1000 := by omega
      clear hrow hxl hxl2 hK1e hsr
      refine wp_region_chain [some (.pointer (some ⟨lb, 2, none⟩)), some (.slice kk9 nk9 kc9), some (.int .i64 (K : Int)), some (.slice kk9 K kc9), some (.pointer (some ⟨lb, 2, none⟩)), some (.slice kk9 nk9 kc9), some (.int .i64 (K : Int)), some (.int .i64 (K1 : Int)), some (.slice sa sn sc), none, some (.pointer (some ⟨lb, 2, none⟩)), none] [9, 11] (DkS w8 lb false (.slice p9 n9 c9) (.slice kk9 nk9 kc9) (.slice q9 nq9 qc9) xs9 ys9 n.cs n.ps n.ks K) 125 (by kernel_rfl) (by kernel_rfl) (by kernel_rfl) (by kernel_rfl) rfl ?_ ?_ ?_
      · intro vals0
        exact (HDL.out.keep ((Only.refl _ w10).drew) : Dl w8 lb false (.slice p9 n9 c9) (.slice kk9 nk9 kc9) (.slice q9 nq9 qc9) (.slice p9 n9 c9) (.slice kk9 nk9 kc9) (.slice q9 nq9 qc9) (xs9) (ys9) (n.cs) (n.ps) (n.ks) w10.drew)
      · refine ⟨?_, ?_, ?_, ?_, ?_, ?_, ?_, ?_, ?_, ?_, ?_, ?_, trivial⟩
        · intro k vals act wx hk h hs
          have e11 : act.eval (.tmp 11) = .pointer (some ⟨lb, 0, none⟩) := h.old 11 (by kernel_rfl)
          clear h
          refine gives_by rfl act.eval rfl ?_
          generalize act.eval = ρ at *
          intro hf hc
          go_simp
          exact ⟨rfl, hs⟩
        · intro k vals act wx hk h hs
          have e76 : act.eval (.tmp 76) = .pointer (some ⟨lb, 2, none⟩) := h.q 0 76 (by kernel_rfl) rfl
          clear h
          have cx := DkS.cell hk hs
          refine gives_by rfl act.eval rfl ?_
          generalize act.eval = ρ at *
          intro hf hc
          go_simp
          exact ⟨rfl, hs⟩
        · intro k vals act wx hk h hs
          have e13 : act.eval (.tmp 13) = .int .i64 (K : Int) := h.old 13 (by kernel_rfl)
          clear h
          refine gives_by rfl act.eval rfl ?_
          generalize act.eval = ρ at *
          intro hf hc
          go_simp
          exact ⟨rfl, hs⟩
        · intro k vals act wx hk h hs
          have e77 : act.eval (.tmp 77) = .slice kk9 nk9 kc9 := h.q 1 77 (by kernel_rfl) rfl
          have e78 : act.eval (.tmp 78) = .int .i64 (K : Int) := h.q 2 78 (by kernel_rfl) rfl
          clear h
          refine gives_by rfl act.eval rfl ?_
          generalize act.eval = ρ at *
          intro hf hc
          go_simp
          exact ⟨rfl, hs⟩
        · intro k vals act wx hk h hs
          have e11 : act.eval (.tmp 11) = .pointer (some ⟨lb, 0, none⟩) := h.old 11 (by kernel_rfl)
          clear h
          refine gives_by rfl act.eval rfl ?_
          generalize act.eval = ρ at *
          intro hf hc
          go_simp
          exact ⟨rfl, hs⟩
        · intro k vals act wx hk h hs
          have e80 : act.eval (.tmp 80) = .pointer (some ⟨lb, 2, none⟩) := h.q 4 80 (by kernel_rfl) rfl
          clear h
          have cx := DkS.cell hk hs
          refine gives_by rfl act.eval rfl ?_
          generalize act.eval = ρ at *
          intro hf hc
          go_simp
          exact ⟨rfl, hs⟩
        · intro k vals act wx hk h hs
          have e13 : act.eval (.tmp 13) = .int .i64 (K : Int) := h.old 13 (by kernel_rfl)
          clear h
          refine gives_by rfl act.eval rfl ?_
          generalize act.eval = ρ at *
          intro hf hc
          go_simp
          exact ⟨rfl, hs⟩
        · intro k vals act wx hk h hs
          have e82 : act.eval (.tmp 82) = .int .i64 (K : Int) := h.q 6 82 (by kernel_rfl) rfl
          clear h
          refine gives_by rfl act.eval rfl ?_
          generalize act.eval = ρ at *
          intro hf hc
          go_simp
          exact ⟨rfl, hs⟩
        · intro k vals act wx hk h hs
          have e81 : act.eval (.tmp 81) = .slice kk9 nk9 kc9 := h.q 5 81 (by kernel_rfl) rfl
          have e83 : act.eval (.tmp 83) = .int .i64 (K1 : Int) := h.q 7 83 (by kernel_rfl) rfl
          clear h
          refine gives_by rfl act.eval rfl ?_
          generalize act.eval = ρ at *
          intro hf hc
          go_simp
          exact ⟨rfl, hs⟩
        · intro vals act wx h hs
          have e79 : act.eval (.tmp 79) = .slice kk9 K kc9 := h.q 3 79 (by kernel_rfl) rfl
          have e84 : act.eval (.tmp 84) = .slice sa sn sc := h.q 8 84 (by kernel_rfl) rfl
          clear h
          have hdl : Dl w8 lb false (.slice p9 n9 c9) (.slice kk9 nk9 kc9) (.slice q9 nq9 qc9) (.slice p9 n9 c9) (.slice kk9 nk9 kc9) (.slice q9 nq9 qc9) (xs9) (ys9) (n.cs) (n.ps) (n.ks) wx := hs
          have hrow := hdl.krow
          rw [← HXL.out] at hrow
          obtain ⟨sa', sn', sc', hsl', hsr'⟩ := src_row Try.underlying23 sizeRowE hrow (K + 1) (by omega) (by omega) hdl.kcells
          rw [Nat.mul_one] at hsr'
          have he := (hsl' wx).symm.trans (HK1E.out ▸ hsl wx)
          simp only [Result.ok.injEq, Value.slice.injEq, and_true] at he
          obtain ⟨rfl, rfl, rfl⟩ := he
          obtain ⟨p', w', hr, hd', a', n', c', hp'⟩ := hdl.delK K hKl HXL.out (by omega) _ hsr'
          refine gives_of_run rfl (exec_append (.tmp 79) (.tmp 84) 23 rfl _ _ e79 e84 _ hr) ?_
          exact (⟨hd', a', n', c', hp'⟩ : Dl w8 lb false (.slice p9 n9 c9) (.slice kk9 nk9 kc9) (.slice q9 nq9 qc9) (.slice p9 n9 c9) (p') (.slice q9 nq9 qc9) (xs9) (ys9.take K ++ ys9.drop (K + 1)) (n.cs) (n.ps) (n.ks.take K ++ n.ks.drop (K + 1)) w' ∧ ∃ a n c, p' = .slice a n c)
        · intro k vals act wx hk h hs
          have e11 : act.eval (.tmp 11) = .pointer (some ⟨lb, 0, none⟩) := h.old 11 (by kernel_rfl)
          clear h
          refine gives_by rfl act.eval rfl ?_
          generalize act.eval = ρ at *
          intro hf hc
          go_simp
          exact ⟨rfl, hs⟩
        · intro vals act wx h hs
          have e86 : act.eval (.tmp 86) = .pointer (some ⟨lb, 2, none⟩) := h.q 10 86 (by kernel_rfl) rfl
          have e85 : act.eval (.tmp 85) = vals 9 := h.val 9 85 (by kernel_rfl)
          clear h
          obtain ⟨hdl, a', n', c', h9⟩ : Dl w8 lb false (.slice p9 n9 c9) (.slice kk9 nk9 kc9) (.slice q9 nq9 qc9) (.slice p9 n9 c9) (vals 9) (.slice q9 nq9 qc9) (xs9) (ys9.take K ++ ys9.drop (K + 1)) (n.cs) (n.ps) (n.ks.take K ++ n.ks.drop (K + 1)) wx ∧ ∃ a n c, vals 9 = .slice a n c := hs
          rw [h9] at e85
          have cx : wx.cell? ⟨lb, 2, none⟩ = some (.slice kk9 nk9 kc9) := hdl.box.cell 2
          have f0 : wx.frozen? ⟨lb, 2, none⟩ = false := hdl.box.frozen 2
          have hfin : Dl w8 lb false (.slice p9 n9 c9) (vals 9) (.slice q9 nq9 qc9) (.slice p9 n9 c9) (vals 9) (.slice q9 nq9 qc9) (xs9) (ys9.take K ++ ys9.drop (K + 1)) (n.cs) (n.ps) (n.ks.take K ++ n.ks.drop (K + 1)) (wx.setCell ⟨lb, 2, none⟩ (.slice a' n' c')) ∧ ∃ a n c, vals 9 = .slice a n c := ⟨by have := hdl.put 2 (.slice a' n' c') (.slice p9 n9 c9) (.slice a' n' c') (.slice q9 nq9 qc9) rfl; rw [h9] at this ⊢; exact this, a', n', c', h9⟩
          clear hdl h9
          refine gives_by rfl act.eval rfl ?_
          generalize act.eval = ρ at *
          intro hf hc
          go_simp
          exact hfin
      · intro vals w12 hq hs
        have hs' : Dl w8 lb false (.slice p9 n9 c9) (vals 9) (.slice q9 nq9 qc9) (.slice p9 n9 c9) (vals 9) (.slice q9 nq9 qc9) (xs9) (ys9.take K ++ ys9.drop (K + 1)) (n.cs) (n.ps) (n.ks.take K ++ n.ks.drop (K + 1)) w12 ∧ ∃ a n c, vals 9 = .slice a n c := hs
        obtain ⟨hdl, ak, mk, ck, h9⟩ := hs'
        rw [h9] at hdl
        have HD12 := hide hdl
        clear hq hs
        simp only [putAll, Act.put, List.setIfInBounds_toArray, List.set_cons_zero, List.set_cons_succ, Nat.zero_add, Nat.reduceAdd, h9]
        clear h9
        have hrow : w12.ownsRow w8.heap.size 3 1 (.slice q9 nq9 qc9) n.cs.length (iv n.cs) := hdl.ints
        rw [HNC.out] at hrow
        obtain ⟨ta, tn, tc, htl, htr⟩ := src_row Try.underlying24 sizeIntE hrow (K + 1 + 1) (by omega) (by omega) (by intro u hu; simp [iv] at hu; obtain ⟨z, _, rfl⟩ := hu; rfl)
        have hcap2 := own_len hrow
        have hch2 := fun wx => cut_head (P := Try.prog) 24 3 1 Try.underlying24 sizeIntE q9 nq9 qc9 K1 (by have := HK1E.out; omega) hcap2.2 wx
        have hK2 : (K : Int) + 2 = ((K + 1 + 1 : Nat) : Int) := by omega
        obtain ⟨K2, hK2e⟩ : ∃ x, x = K + 1 + 1 := ⟨_, rfl⟩
        rw [← hK2e] at htl hK2
        have hwK2 : IntKind.i64.wrap (K2 : Int) = (K2 : Int) := IntWalk.i64_in _ (by omega)
        have HK2E := hide hK2e
        clear hrow htr hK2e hdl HDL hsl hch
        go_wp2
        refine wp_region_chain [some (.pointer (some ⟨lb, 3, none⟩)), some (.slice q9 nq9 qc9), some (.int .i64 (K : Int)), some (.int .i64 (K1 : Int)), some (.slice q9 K1 qc9), some (.pointer (some ⟨lb, 3, none⟩)), some (.slice q9 nq9 qc9), some (.int .i64 (K : Int)), some (.int .i64 (K2 : Int)), some (.slice ta tn tc), none, some (.pointer (some ⟨lb, 3, none⟩)), none] [10, 12] (DiS w8 lb false (.slice p9 n9 c9) (.slice ak mk ck) (.slice q9 nq9 qc9) xs9 (ys9.take K ++ ys9.drop (K + 1)) n.cs n.ps (n.ks.take K ++ n.ks.drop (K + 1)) (K + 1)) 125 (by kernel_rfl) (by kernel_rfl) (by kernel_rfl) (by kernel_rfl) rfl ?_ ?_ ?_
        · intro vals0
          exact (HD12.out.keep ((Only.refl _ w12).drew) : Dl w8 lb false (.slice p9 n9 c9) (.slice ak mk ck) (.slice q9 nq9 qc9) (.slice p9 n9 c9) (.slice ak mk ck) (.slice q9 nq9 qc9) (xs9) (ys9.take K ++ ys9.drop (K + 1)) (n.cs) (n.ps) (n.ks.take K ++ n.ks.drop (K + 1)) w12.drew)
        · refine ⟨?_, ?_, ?_, ?_, ?_, ?_, ?_, ?_, ?_, ?_, ?_, ?_, ?_, trivial⟩
          · intro k vals act wx hk h hs
            have e11 : act.eval (.tmp 11) = .pointer (some ⟨lb, 0, none⟩) := h.old 11 (by kernel_rfl)
            clear h
            refine gives_by rfl act.eval rfl ?_
            generalize act.eval = ρ at *
            intro hf hc
            go_simp
            exact ⟨rfl, hs⟩
          · intro k vals act wx hk h hs
            have e87 : act.eval (.tmp 87) = .pointer (some ⟨lb, 3, none⟩) := h.q 0 87 (by kernel_rfl) rfl
            clear h
            have cx := DiS.cell hk hs
            refine gives_by rfl act.eval rfl ?_
            generalize act.eval = ρ at *
            intro hf hc
            go_simp
            exact ⟨rfl, hs⟩
          · intro k vals act wx hk h hs
            have e13 : act.eval (.tmp 13) = .int .i64 (K : Int) := h.old 13 (by kernel_rfl)
            clear h
            refine gives_by rfl act.eval rfl ?_
            generalize act.eval = ρ at *
            intro hf hc
            go_simp
            exact ⟨rfl, hs⟩
          · intro k vals act wx hk h hs
            have e89 : act.eval (.tmp 89) = .int .i64 (K : Int) := h.q 2 89 (by kernel_rfl) rfl
            clear h
            refine gives_by rfl act.eval rfl ?_
            generalize act.eval = ρ at *
            intro hf hc
            go_simp
            exact ⟨rfl, hs⟩
          · intro k vals act wx hk h hs
            have e88 : act.eval (.tmp 88) = .slice q9 nq9 qc9 := h.q 1 88 (by kernel_rfl) rfl
            have e90 : act.eval (.tmp 90) = .int .i64 (K1 : Int) := h.q 3 90 (by kernel_rfl) rfl
            clear h
            refine gives_by rfl act.eval rfl ?_
            generalize act.eval = ρ at *
            intro hf hc
            go_simp
            exact ⟨rfl, hs⟩
          · intro k vals act wx hk h hs
            have e11 : act.eval (.tmp 11) = .pointer (some ⟨lb, 0, none⟩) := h.old 11 (by kernel_rfl)
            clear h
            refine gives_by rfl act.eval rfl ?_
            generalize act.eval = ρ at *
            intro hf hc
            go_simp
            exact ⟨rfl, hs⟩
          · intro k vals act wx hk h hs
            have e92 : act.eval (.tmp 92) = .pointer (some ⟨lb, 3, none⟩) := h.q 5 92 (by kernel_rfl) rfl
            clear h
            have cx := DiS.cell hk hs
            refine gives_by rfl act.eval rfl ?_
            generalize act.eval = ρ at *
            intro hf hc
            go_simp
            exact ⟨rfl, hs⟩
          · intro k vals act wx hk h hs
            have e13 : act.eval (.tmp 13) = .int .i64 (K : Int) := h.old 13 (by kernel_rfl)
            clear h
            refine gives_by rfl act.eval rfl ?_
            generalize act.eval = ρ at *
            intro hf hc
            go_simp
            exact ⟨rfl, hs⟩
          · intro k vals act wx hk h hs
            have e94 : act.eval (.tmp 94) = .int .i64 (K : Int) := h.q 7 94 (by kernel_rfl) rfl
            clear h
            refine gives_by rfl act.eval rfl ?_
            generalize act.eval = ρ at *
            intro hf hc
            go_simp
            exact ⟨rfl, hs⟩
          · intro k vals act wx hk h hs
            have e93 : act.eval (.tmp 93) = .slice q9 nq9 qc9 := h.q 6 93 (by kernel_rfl) rfl
            have e95 : act.eval (.tmp 95) = .int .i64 (K2 : Int) := h.q 8 95 (by kernel_rfl) rfl
            clear h
            refine gives_by rfl act.eval rfl ?_
            generalize act.eval = ρ at *
            intro hf hc
            go_simp
            exact ⟨rfl, hs⟩
          · intro vals act wx h hs
            have e91 : act.eval (.tmp 91) = .slice q9 K1 qc9 := h.q 4 91 (by kernel_rfl) rfl
            have e96 : act.eval (.tmp 96) = .slice ta tn tc := h.q 9 96 (by kernel_rfl) rfl
            clear h
            have hdl : Dl w8 lb false (.slice p9 n9 c9) (.slice ak mk ck) (.slice q9 nq9 qc9) (.slice p9 n9 c9) (.slice ak mk ck) (.slice q9 nq9 qc9) (xs9) (ys9.take K ++ ys9.drop (K + 1)) (n.cs) (n.ps) (n.ks.take K ++ n.ks.drop (K + 1)) wx := hs
            have hrow : wx.ownsRow w8.heap.size 3 1 (.slice q9 nq9 qc9) n.cs.length (iv n.cs) := hdl.ints
            rw [HNC.out] at hrow
            obtain ⟨sa', sn', sc', hsl', hsr'⟩ := src_row Try.underlying24 sizeIntE hrow (K + 1 + 1) (by omega) (by omega) (by intro u hu; simp [iv] at hu; obtain ⟨z, _, rfl⟩ := hu; rfl)
            rw [Nat.mul_one, show (iv n.cs).drop (K + 1 + 1) = iv (n.cs.drop (K + 1 + 1)) by simp [iv]] at hsr'
            have he := (hsl' wx).symm.trans (HK2E.out ▸ htl wx)
            simp only [Result.ok.injEq, Value.slice.injEq, and_true] at he
            obtain ⟨rfl, rfl, rfl⟩ := he
            obtain ⟨p', w', hr, hd', a', n', c', hp'⟩ := hdl.delI (K + 1) (by omega) HNC.out.symm (by omega) _ hsr'
            rw [← HK1E.out] at hr
            refine gives_of_run rfl (exec_append (.tmp 91) (.tmp 96) 24 rfl _ _ e91 e96 _ hr) ?_
            exact (⟨hd', a', n', c', hp'⟩ : Dl w8 lb false (.slice p9 n9 c9) (.slice ak mk ck) (.slice q9 nq9 qc9) (.slice p9 n9 c9) (.slice ak mk ck) (p') (xs9) (ys9.take K ++ ys9.drop (K + 1)) (n.cs.take (K + 1) ++ n.cs.drop (K + 1 + 1)) (n.ps) (n.ks.take K ++ n.ks.drop (K + 1)) w' ∧ ∃ a n c, p' = .slice a n c)
          · intro k vals act wx hk h hs
            have e11 : act.eval (.tmp 11) = .pointer (some ⟨lb, 0, none⟩) := h.old 11 (by kernel_rfl)
            clear h
            refine gives_by rfl act.eval rfl ?_
            generalize act.eval = ρ at *
            intro hf hc
            go_simp
            exact ⟨rfl, hs⟩
          · intro vals act wx h hs
            have e98 : act.eval (.tmp 98) = .pointer (some ⟨lb, 3, none⟩) := h.q 11 98 (by kernel_rfl) rfl
            have e97 : act.eval (.tmp 97) = vals 10 := h.val 10 97 (by kernel_rfl)
            clear h
            obtain ⟨hdl, a', n', c', h9⟩ : Dl w8 lb false (.slice p9 n9 c9) (.slice ak mk ck) (.slice q9 nq9 qc9) (.slice p9 n9 c9) (.slice ak mk ck) (vals 10) (xs9) (ys9.take K ++ ys9.drop (K + 1)) (n.cs.take (K + 1) ++ n.cs.drop (K + 1 + 1)) (n.ps) (n.ks.take K ++ n.ks.drop (K + 1)) wx ∧ ∃ a n c, vals 10 = .slice a n c := hs
            rw [h9] at e97
            have cx : wx.cell? ⟨lb, 3, none⟩ = some (.slice q9 nq9 qc9) := hdl.box.cell 3
            have f0 : wx.frozen? ⟨lb, 3, none⟩ = false := hdl.box.frozen 3
            have hfin : Dl w8 lb false (.slice p9 n9 c9) (.slice ak mk ck) (vals 10) (.slice p9 n9 c9) (.slice ak mk ck) (vals 10) (xs9) (ys9.take K ++ ys9.drop (K + 1)) (n.cs.take (K + 1) ++ n.cs.drop (K + 1 + 1)) (n.ps) (n.ks.take K ++ n.ks.drop (K + 1)) (wx.setCell ⟨lb, 3, none⟩ (.slice a' n' c')) ∧ ∃ a n c, vals 10 = .slice a n c := ⟨by have := hdl.put 3 (.slice a' n' c') (.slice p9 n9 c9) (.slice ak mk ck) (.slice a' n' c') rfl; rw [h9] at this ⊢; exact this, a', n', c', h9⟩
            clear hdl h9
            refine gives_by rfl act.eval rfl ?_
            generalize act.eval = ρ at *
            intro hf hc
            go_simp
            exact hfin
        · intro vals w11 hq hs
          have hs' : Dl w8 lb false (.slice p9 n9 c9) (.slice ak mk ck) (vals 10) (.slice p9 n9 c9) (.slice ak mk ck) (vals 10) (xs9) (ys9.take K ++ ys9.drop (K + 1)) (n.cs.take (K + 1) ++ n.cs.drop (K + 1 + 1)) (n.ps) (n.ks.take K ++ n.ks.drop (K + 1)) w11 ∧ ∃ a n c, vals 10 = .slice a n c := hs
          obtain ⟨hdl, a', n', c', h9⟩ := hs'
          have HH11 := hide (HH8.out.keep hdl.below)
          have HDW := hide hdl
          clear hq hs hdl
          simp only [putAll, Act.put, List.setIfInBounds_toArray, List.set_cons_zero, List.set_cons_succ, Nat.zero_add, Nat.reduceAdd]
          rw [h9] at HDW
          have HLB := hide HDW.out.box
          have HLN : Hid (NdV w11 (.agg #[.bool false, .slice p9 n9 c9, .slice ak mk ck, .slice a' n' c']) (⟨false, [], n.ks.take K ++ n.ks.drop (K + 1), n.cs.take (K + 1) ++ n.cs.drop (K + 2)⟩)) := by have := HDW.out.val; rw [HPS.out] at this; exact this
          have HFT : Hid (checkN n = 3 → checkN (⟨false, [], n.ks.take K ++ n.ks.drop (K + 1), n.cs.take (K + 1) ++ n.cs.drop (K + 2)⟩) = 0 → checkN (cutA n) = 0 ∧ checkN (cutB n) = 0 ∧ 60 ≤ sizeN (cutA n) ∧ 60 ≤ sizeN (cutB n)) := HF2.out HEE.out HLF.out K (by rw [HNK.out]; exact hKl)
          obtain ⟨⟨x0, x1, x2, x3⟩, _⟩ := node_cells HH11.out.nb
          obtain ⟨⟨c0, c1, c2, c3⟩, _⟩ := node_cells HLB.out
          clear HDW h9 HD12 HF1 HF2 HML HMI HLE
          have HK1 := hide HCK.out
          have HK2 := hide HCK.out
          by_cases hC : checkN n = 3
          · by_cases hLC : checkN (⟨false, [], n.ks.take K ++ n.ks.drop (K + 1), n.cs.take (K + 1) ++ n.cs.drop (K + 2)⟩) = 0
            · obtain ⟨f1, f2, f3, f4⟩ := HFT.out hC hLC
              have HK3 := hide HCK.out
              have HK4 := hide HCK.out
              have HS1 := hide HSZ.out
              have HS2 := hide HSZ.out
              have i3 : (60 : Int) ≤ (sizeN (cutA n) : Int) := by omega
              have i4 : (60 : Int) ≤ (sizeN (cutB n) : Int) := by omega
              go_wp2_with (first | (go_at_call 12; have hq := HK1.out w11 _ _ HH11.out.nv; rw [hC] at hq; refine hq.mono ?_; rintro e w20 ⟨rfl, hb20⟩; have HH20 := hide (HH11.out.keep hb20); have HLN20 := hide (HLN.out.below hb20); obtain ⟨⟨c0, c1, c2, c3⟩, _⟩ := node_cells (HLB.out.below hb20 HLB.out.lt); (try clear x0 x1 x2 x3); (try clear y0 y1 y2 y3 u0 u1 u2 u3); obtain ⟨⟨y0, y1, y2, y3⟩, _⟩ := node_cells HH20.out.ba; obtain ⟨⟨u0, u1, u2, u3⟩, _⟩ := node_cells HH20.out.bb; clear HK1 hb20 hq) | (go_at_call 12; have hq := HK2.out w20 _ _ HLN20.out; rw [hLC] at hq; refine hq.mono ?_; rintro e w21 ⟨rfl, hb21⟩; have HH21 := hide (HH20.out.keep hb21); (try clear x0 x1 x2 x3); (try clear y0 y1 y2 y3 u0 u1 u2 u3); obtain ⟨⟨y0, y1, y2, y3⟩, _⟩ := node_cells HH21.out.ba; obtain ⟨⟨u0, u1, u2, u3⟩, _⟩ := node_cells HH21.out.bb; clear HK2 hb21 hq) | (go_at_call 12; have hq := HK3.out w21 _ _ HH21.out.va; rw [f1] at hq; refine hq.mono ?_; rintro e w22 ⟨rfl, hb22⟩; have HH22 := hide (HH21.out.keep hb22); (try clear x0 x1 x2 x3); (try clear y0 y1 y2 y3 u0 u1 u2 u3); obtain ⟨⟨y0, y1, y2, y3⟩, _⟩ := node_cells HH22.out.ba; obtain ⟨⟨u0, u1, u2, u3⟩, _⟩ := node_cells HH22.out.bb; clear HK3 hb22 hq) | (go_at_call 12; have hq := HK4.out w22 _ _ HH22.out.vb; rw [f2] at hq; refine hq.mono ?_; rintro e w23 ⟨rfl, hb23⟩; have HH23 := hide (HH22.out.keep hb23); (try clear x0 x1 x2 x3); (try clear y0 y1 y2 y3 u0 u1 u2 u3); obtain ⟨⟨y0, y1, y2, y3⟩, _⟩ := node_cells HH23.out.ba; obtain ⟨⟨u0, u1, u2, u3⟩, _⟩ := node_cells HH23.out.bb; clear HK4 hb23 hq) | (go_at_call 13; refine (HS1.out w23 _ _ HH23.out.va).mono ?_; rintro e w24 ⟨rfl, hb24⟩; have HH24 := hide (HH23.out.keep hb24); (try clear x0 x1 x2 x3); (try clear y0 y1 y2 y3 u0 u1 u2 u3); obtain ⟨⟨y0, y1, y2, y3⟩, _⟩ := node_cells HH24.out.ba; obtain ⟨⟨u0, u1, u2, u3⟩, _⟩ := node_cells HH24.out.bb; clear HS1 hb24) | (go_at_call 13; refine (HS2.out w24 _ _ HH24.out.vb).mono ?_; rintro e w25 ⟨rfl, hb25⟩; have HH25 := hide (HH24.out.keep hb25); clear HS2 hb25))
              go_ret
              exact ⟨rfl, HH25.out.below⟩
            · have hlb : (checkN (⟨false, [], n.ks.take K ++ n.ks.drop (K + 1), n.cs.take (K + 1) ++ n.cs.drop (K + 2)⟩) == 0) = false := by simpa using hLC
              have hln : (checkN (⟨false, [], n.ks.take K ++ n.ks.drop (K + 1), n.cs.take (K + 1) ++ n.cs.drop (K + 2)⟩) != 0) = true := by rw [bne, hlb]; rfl
              go_wp2_with (first | (go_at_call 12; have hq := HK1.out w11 _ _ HH11.out.nv; rw [hC] at hq; refine hq.mono ?_; rintro e w20 ⟨rfl, hb20⟩; have HH20 := hide (HH11.out.keep hb20); have HLN20 := hide (HLN.out.below hb20); obtain ⟨⟨c0, c1, c2, c3⟩, _⟩ := node_cells (HLB.out.below hb20 HLB.out.lt); (try clear x0 x1 x2 x3); (try clear y0 y1 y2 y3 u0 u1 u2 u3); obtain ⟨⟨y0, y1, y2, y3⟩, _⟩ := node_cells HH20.out.ba; obtain ⟨⟨u0, u1, u2, u3⟩, _⟩ := node_cells HH20.out.bb; clear HK1 hb20 hq) | (go_at_call 12; refine (HK2.out w20 _ _ HLN20.out).mono ?_; rintro e w21 ⟨rfl, hb21⟩; have HH21 := hide (HH20.out.keep hb21); clear HK2 hb21))
              go_ret
              exact ⟨rfl, HH21.out.below⟩
          · have hlb : (checkN n == 3) = false := by simpa using hC
            have hln : (checkN n != 3) = true := by rw [bne, hlb]; rfl
            go_wp2_with ((go_at_call 12; refine (HK1.out w11 _ _ HH11.out.nv).mono ?_; rintro e w20 ⟨rfl, hb20⟩; have HH20 := hide (HH11.out.keep hb20); clear HK1 hb20))
            go_ret
            exact ⟨rfl, HH20.out.below⟩
  · have hEb : (cutE n == 0) = false := by simpa using hE
    have hEn : (cutE n != 0) = true := by rw [bne, hEb]; rfl
    generalize cutE n = E at *
    cases hfw : fewN [n] with
    | true =>
      rw [hfw] at HFW1
      go_enter Try.func3, Try.ntmps3
      go_wp2_with ((go_at_call 6; refine (HCT.out w1 HB1.out).mono ?_; rintro e w2 ⟨l, p, a, b, kx, c, d, q, r, s, k1, k2, k3, l', p', a', b', kx', c', d', q', r', s', rfl, hva, hsk, hvb, hb2⟩; have HVA := hide hva; have HVB := hide hvb; have HSK := hide hsk; have HBX2 := hide (HBB.out.below hb2 HBB.out.lt); have HB2 := hide (HB1.out.trans (hb2.mono HB1.out.size)); clear HCT hb2 hva hvb hsk z0 z1 z2 z3))
      obtain ⟨ab, hab⟩ : ∃ x, x = w2.heap.size := ⟨_, rfl⟩
      obtain ⟨bb, hbb⟩ : ∃ x, x = ab + 1 := ⟨_, rfl⟩
      obtain ⟨w3, hw3⟩ : ∃ x, x = (w2.alloc (.cells #[.bool l, .slice p a b, .slice kx c d, .slice q r s] 26)).alloc (.cells #[.bool l', .slice p' a' b', .slice kx' c' d', .slice q' r' s'] 26) := ⟨_, rfl⟩
      have HH3 : Hid (Hv w ab bb [.bool lf, .slice pa np pc, .slice ka nk kc, .slice ca nc cc] [.bool l, .slice p a b, .slice kx c d, .slice q r s] [.bool l', .slice p' a' b', .slice kx' c' d', .slice q' r' s'] (cutA n) (cutB n) (.slice k1 k2 k3) (cutK n) n w3) := by
        have hb : Below w2.heap.size w2 w3 := by rw [hw3]; exact ((Below.refl _ w2).alloc (Nat.le_refl _) _).alloc (by simp) _
        refine ⟨HB2.out.trans (hb.mono HB2.out.size), HBX2.out.below hb HBX2.out.lt, ?_, ?_, (HV.out.below HB2.out).below hb, HVA.out.below hb, HVB.out.below hb, HSK.out.below hb⟩
        · rw [hab, hw3]; exact (Blk.new w2 _ _).alloc _
        · rw [hbb, hab, hw3]
          have := Blk.new (w2.alloc (.cells #[.bool l, .slice p a b, .slice kx c d, .slice q r s] 26)) 26 [.bool l', .slice p' a' b', .slice kx' c' d', .slice q' r' s']
          rw [World.size_alloc] at this
          exact this
      simp only [← hab, ← hw3]
      simp only [← hbb]
      have habn : w.heap.size < ab := by have := HBX2.out.lt; omega
      have hbbn : w.heap.size < bb := by omega
      clear hw3 hab hbb HBX2 HB2 HVA HVB HSK HBB HB1 hw1
      go_wp2_with (first | (go_at_call 8; refine (HFW1.out w4 HH4.out.below).mono ?_; rintro e w5 ⟨rfl, hb5⟩; have HH5 := hide (HH4.out.keep hb5); clear HFW1 hb5; (try clear x0 x1 x2 x3); (try clear y0 y1 y2 y3 u0 u1 u2 u3); obtain ⟨⟨y0, y1, y2, y3⟩, _⟩ := node_cells HH5.out.ba; obtain ⟨⟨u0, u1, u2, u3⟩, _⟩ := node_cells HH5.out.bb; have HLV5 := hide (HLV.out w5); clear HLV) | (go_at_call 7; refine HLV5.out.mono ?_; rintro e w6 ⟨rfl, hb6⟩; have HB6 := hide (HH5.out.below.trans (hb6.mono HH5.out.below.size)); clear HLV5 hb6) | (go_at_call 7; refine (HLV.out w3).mono ?_; rintro e w4 ⟨rfl, hb4⟩; have HH4 := hide (HH3.out.keep hb4); obtain ⟨⟨x0, x1, x2, x3⟩, _⟩ := node_cells HH4.out.nb; clear hb4))
      go_ret
      exact ⟨rfl, HB6.out⟩
    | false =>
      rw [hfw] at HFW1
      go_enter Try.func3, Try.ntmps3
      go_wp2_with ((go_at_call 6; refine (HCT.out w1 HB1.out).mono ?_; rintro e w2 ⟨l, p, a, b, kx, c, d, q, r, s, k1, k2, k3, l', p', a', b', kx', c', d', q', r', s', rfl, hva, hsk, hvb, hb2⟩; have HVA := hide hva; have HVB := hide hvb; have HSK := hide hsk; have HBX2 := hide (HBB.out.below hb2 HBB.out.lt); have HB2 := hide (HB1.out.trans (hb2.mono HB1.out.size)); clear HCT hb2 hva hvb hsk z0 z1 z2 z3))
      obtain ⟨ab, hab⟩ : ∃ x, x = w2.heap.size := ⟨_, rfl⟩
      obtain ⟨bb, hbb⟩ : ∃ x, x = ab + 1 := ⟨_, rfl⟩
      obtain ⟨w3, hw3⟩ : ∃ x, x = (w2.alloc (.cells #[.bool l, .slice p a b, .slice kx c d, .slice q r s] 26)).alloc (.cells #[.bool l', .slice p' a' b', .slice kx' c' d', .slice q' r' s'] 26) := ⟨_, rfl⟩
      have HH3 : Hid (Hv w ab bb [.bool lf, .slice pa np pc, .slice ka nk kc, .slice ca nc cc] [.bool l, .slice p a b, .slice kx c d, .slice q r s] [.bool l', .slice p' a' b', .slice kx' c' d', .slice q' r' s'] (cutA n) (cutB n) (.slice k1 k2 k3) (cutK n) n w3) := by
        have hb : Below w2.heap.size w2 w3 := by rw [hw3]; exact ((Below.refl _ w2).alloc (Nat.le_refl _) _).alloc (by simp) _
        refine ⟨HB2.out.trans (hb.mono HB2.out.size), HBX2.out.below hb HBX2.out.lt, ?_, ?_, (HV.out.below HB2.out).below hb, HVA.out.below hb, HVB.out.below hb, HSK.out.below hb⟩
        · rw [hab, hw3]; exact (Blk.new w2 _ _).alloc _
        · rw [hbb, hab, hw3]
          have := Blk.new (w2.alloc (.cells #[.bool l, .slice p a b, .slice kx c d, .slice q r s] 26)) 26 [.bool l', .slice p' a' b', .slice kx' c' d', .slice q' r' s']
          rw [World.size_alloc] at this
          exact this
      simp only [← hab, ← hw3]
      simp only [← hbb]
      have habn : w.heap.size < ab := by have := HBX2.out.lt; omega
      have hbbn : w.heap.size < bb := by omega
      clear hw3 hab hbb HBX2 HB2 HVA HVB HSK HBB HB1 hw1
      go_wp2_with (first | (go_at_call 8; refine (HFW1.out w4 HH4.out.below).mono ?_; rintro e w5 ⟨rfl, hb5⟩; have HH5 := hide (HH4.out.keep hb5); clear HFW1 hb5; (try clear x0 x1 x2 x3); (try clear y0 y1 y2 y3 u0 u1 u2 u3); obtain ⟨⟨y0, y1, y2, y3⟩, _⟩ := node_cells HH5.out.ba; obtain ⟨⟨u0, u1, u2, u3⟩, _⟩ := node_cells HH5.out.bb; have HLV5 := hide (HLV.out w5); clear HLV) | (go_at_call 7; refine HLV5.out.mono ?_; rintro e w6 ⟨rfl, hb6⟩; have HB6 := hide (HH5.out.below.trans (hb6.mono HH5.out.below.size)); clear HLV5 hb6) | (go_at_call 7; refine (HLV.out w3).mono ?_; rintro e w4 ⟨rfl, hb4⟩; have HH4 := hide (HH3.out.keep hb4); obtain ⟨⟨x0, x1, x2, x3⟩, _⟩ := node_cells HH4.out.nb; clear hb4))
      go_ret
      exact ⟨rfl, HB6.out⟩

end Go.Proofs.Ythnppkeifhnceab
