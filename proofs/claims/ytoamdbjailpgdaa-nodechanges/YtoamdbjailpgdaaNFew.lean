/- Contract: whether nodes have little (incipitlaw10.few). -/
import Derived.Test.YtoamdbjailpgdaaNCheck
namespace Go.Proofs.Ytoamdbjailpgdaa
set_option maxRecDepth 20000
open Go.RowKit
set_option linter.unusedVariables false
set_option linter.unusedSimpArgs false
set_option maxRecDepth 100000

def fewP (p : List Int × List Int) : Bool := decide (p.1.length ≤ 300) && decide (p.2.length ≤ 300)
def fewK (k : List Int) : Bool := decide (k.length ≤ 300)
def few1 (n : Nd) : Bool := decide (n.ps.length ≤ 300) && decide (n.ks.length ≤ 300) && decide (n.cs.length ≤ 300) && n.ps.all fewP && n.ks.all fewK
def fewN (ns : List Nd) : Bool := ns.all few1

/-- a []api.Node that is read -/
def Nds (w : World) (b : Nat) (vs : List Value) (ns : List Nd) : Prop :=
  vs.length = ns.length ∧ ∀ i, i < ns.length → NdV w (vs.getD i undef) (ns.getD i noNd) ∧ w.rangeAt b (i * 4) (vs.getD i undef).cells.toList
theorem Nds.below {w w' : World} {b : Nat} {vs : List Value} {ns : List Nd} (h : Nds w b vs ns) (hb : Below w.heap.size w w') : Nds w' b vs ns :=
  ⟨h.1, fun i hi => ⟨(h.2 i hi).1.below hb, range_keep (h.2 i hi).2 (fun hlt => hb.block b hlt)⟩⟩

theorem all_step {α : Type} (p : α → Bool) (d : α) (l : List α) (k : Nat) (h : k < l.length) : (l.drop k).all p = (p (l.getD k d) && (l.drop (k + 1)).all p) := by
  rw [List.drop_eq_getElem_cons h, List.all_cons]; simp [List.getD, h]
theorem all_end {α : Type} (p : α → Bool) (l : List α) (k : Nat) (h : l.length ≤ k) : (l.drop k).all p = true := by
  rw [List.drop_of_length_le h]; rfl

set_option maxHeartbeats 4000000 in
theorem few_any (w : World) (b cap : Nat) (vs : List Value) (ns : List Nd) (h : Nds w b vs ns) (hN : ns.length ≤ 1000) :
    Calls Try.prog 9 #[.slice (some ⟨b, 0, none⟩) ns.length cap] w fun e w' => e = .returned (.bool (fewN ns)) ∧ Below w.heap.size w w' := by
  have HD := hide h
  have HF : Hid (fewN ns = ns.all few1) := rfl
  obtain ⟨N, hNN⟩ : ∃ N, ns.length = N := ⟨_, rfl⟩
  have HNL := hide hNN
  rw [hNN] at hN ⊢
  generalize fewN ns = FW at *
  clear h hNN
  go_enter Try.func9, Try.ntmps9
  go_wp2
  go_loopg [11] N (fun g i wr => ∃ (j : Nat), g + j = N ∧ i = .int .i64 j ∧ ns.all few1 = (ns.drop j).all few1 ∧ Below w.heap.size w wr)
  case atStart => exact ⟨0, by omega, rfl, rfl, Below.refl _ _⟩
  case round =>
    obtain ⟨j, hgj, rfl, hall, hbr⟩ := hrel
    obtain ⟨W0, rfl⟩ : ∃ x, x = wr := ⟨_, rfl⟩
    have HA := hide hall
    have HBR := hide hbr
    clear hall hbr
    by_cases hj : j < N
    · have hji : (j : Int) < (N : Int) := by omega
      obtain ⟨hv, hr⟩ := (HD.out.below HBR.out).2 j (by rw [HNL.out]; exact hj)
      have HST := hide (all_step few1 noNd ns j (by rw [HNL.out]; exact hj))
      obtain ⟨gO, rfl⟩ : ∃ x, x = gk := ⟨_, rfl⟩
      generalize vs.getD j undef = v at *
      generalize ns.getD j noNd = n at *
      obtain ⟨pa, pc, ka, kc, ca, cc, xs, ys, rfl, hp1, hk1, hc1, hp2, hk2, hc2, hP, hK, hC⟩ := hv.open
      have q0 : W0.cell? ⟨b, j * 4, none⟩ = some (.bool n.lf) := hr 0 _ rfl
      have q1 : W0.cell? ⟨b, j * 4 + 1, none⟩ = some (.slice pa n.ps.length pc) := hr 1 _ rfl
      have q2 : W0.cell? ⟨b, j * 4 + 2, none⟩ = some (.slice ka n.ks.length kc) := hr 2 _ rfl
      have q3 : W0.cell? ⟨b, j * 4 + 3, none⟩ = some (.slice ca n.cs.length cc) := hr 3 _ rfl
      have HP := hide hP
      have HK := hide hK
      have HF1 : Hid (few1 n = (decide (n.ps.length ≤ 300) && decide (n.ks.length ≤ 300) && decide (n.cs.length ≤ 300) && n.ps.all fewP && n.ks.all fewK)) := rfl
      obtain ⟨np, hnp⟩ : ∃ m, n.ps.length = m := ⟨_, rfl⟩
      obtain ⟨nk, hnk⟩ : ∃ m, n.ks.length = m := ⟨_, rfl⟩
      generalize n.cs.length = nc at *
      have HNP := hide hnp
      have HNK := hide hnk
      rw [hnp] at q1 hp1 HP HF1
      rw [hnk] at q2 hk1 HK HF1
      generalize n.lf = lf at *
      generalize few1 n = F1 at *
      clear hP hK hC hv hr hnp hnk
      obtain ⟨w1, hw1, HB1, HBB, z0, z1, z2, z3⟩ := nd_box W0 lf (.slice pa np pc) (.slice ka nk kc) (.slice ca nc cc)
      have HBW := hide (HBR.out.trans (HB1.out.mono HBR.out.size))
      by_cases h1 : np ≤ 300
      · have i1 : ¬ (300 : Int) < (np : Int) := by omega
        by_cases h2 : nk ≤ 300
        · have i2 : ¬ (300 : Int) < (nk : Int) := by omega
          by_cases h3 : nc ≤ 300
          · have i3 : ¬ (300 : Int) < (nc : Int) := by omega
            have HF2 : Hid (F1 = (n.ps.all fewP && n.ks.all fewK)) := by show F1 = _; rw [HF1.out]; simp [h1, h2, h3]
            clear HF1
            go_wp2
            clear q0 q1 q2 q3
            go_loopg [34] np (fun g i wr2 => ∃ (k : Nat), g + k = np ∧ i = .int .i64 k ∧ n.ps.all fewP = (n.ps.drop k).all fewP ∧ Below w1.heap.size w1 wr2)
            case atStart => exact ⟨0, by omega, rfl, rfl, Below.refl _ _⟩
            case round =>
              obtain ⟨k, hgk, rfl, hall, hbr⟩ := hrel
              obtain ⟨W2, rfl⟩ : ∃ x, x = wr := ⟨_, rfl⟩
              have HA2 := hide hall
              have HBR2 := hide hbr
              obtain ⟨y0, y1, y2, y3⟩ := box_ndc (HBB.out.below hbr HBB.out.lt)
              have HBW2 := hide (HB1.out.trans (hbr.mono HB1.out.size))
              have HBW3 := hide (HBW.out.trans (hbr.mono HBW.out.size))
              clear hall hbr z0 z1 z2 z3
              by_cases hk : k < np
              · have hki : (k : Int) < (np : Int) := by omega
                have hkl : k < n.ps.length := by rw [HNP.out]; exact hk
                obtain ⟨pb, poff, rfl, hr, hs1, hs2⟩ := (HP.out.below HBW2.out).at k hkl
                have HSP := hide (all_step fewP ([], []) n.ps k hkl)
                generalize xs.getD k nil2 = x at *
                generalize n.ps.getD k ([], []) = p at *
                obtain ⟨u1, u2⟩ := x
                obtain ⟨p1, p2⟩ := p
                simp only at hr hs1 hs2
                have r1 : W2.cell? ⟨pb, poff + k * 2, none⟩ = some u1 := hr 0 u1 rfl
                have r2 : W2.cell? ⟨pb, poff + k * 2 + 1, none⟩ = some u2 := hr 1 u2 rfl
                obtain ⟨a1, c1, rfl⟩ := sl_form' hs1
                obtain ⟨a2, c2, rfl⟩ := sl_form' hs2
                have HFP : Hid (fewP (p1, p2) = (decide (p1.length ≤ 300) && decide (p2.length ≤ 300))) := rfl
                generalize fewP (p1, p2) = FP at *
                generalize p1.length = n1 at *
                generalize p2.length = n2 at *
                obtain ⟨w3, hw3⟩ : ∃ w3, W2.alloc (.cells #[.slice a1 n1 c1, .slice a2 n2 c2] 36) = w3 := ⟨_, rfl⟩
                have hB3 : Blk w3 W2.heap.size 36 [.slice a1 n1 c1, .slice a2 n2 c2] := by rw [← hw3]; exact Blk.new W2 _ _
                have hb3 : Below W2.heap.size W2 w3 := by rw [← hw3]; exact (Below.refl _ W2).alloc (Nat.le_refl _) _
                have s1 : w3.cell? ⟨W2.heap.size, 0, none⟩ = some (.slice a1 n1 c1) := hB3.cell 0
                have s2 : w3.cell? ⟨W2.heap.size, 1, none⟩ = some (.slice a2 n2 c2) := hB3.cell 1
                have HB3 := hide hb3
                clear hr hs1 hs2 hB3 hb3
                by_cases g1 : n1 ≤ 300
                · have j1 : ¬ (300 : Int) < (n1 : Int) := by omega
                  by_cases g2 : n2 ≤ 300
                  · have j2 : ¬ (300 : Int) < (n2 : Int) := by omega
                    go_wp2
                    go_roundg (gk - 1)
                    case measure => omega
                    case rel => exact ⟨k + 1, by omega, by go_num, by rw [HA2.out, HSP.out, HFP.out]; simp [g1, g2], HBR2.out.trans (HB3.out.mono HBR2.out.size)⟩
                  · have j2 : (300 : Int) < (n2 : Int) := by omega
                    go_wp2
                    go_ret
                    exact ⟨ret_bool (by rw [HF.out, HA.out, HST.out, HF2.out, HA2.out, HSP.out, HFP.out]; simp [g2]), HBW3.out.trans (HB3.out.mono HBW3.out.size)⟩
                · have j1 : (300 : Int) < (n1 : Int) := by omega
                  go_wp2
                  go_ret
                  exact ⟨ret_bool (by rw [HF.out, HA.out, HST.out, HF2.out, HA2.out, HSP.out, HFP.out]; simp [g1]), HBW3.out.trans (HB3.out.mono HBW3.out.size)⟩
              · have HPT : Hid (n.ps.all fewP = true) := by show n.ps.all fewP = true; rw [HA2.out]; exact all_end _ _ _ (by have := HNP.out; omega)
                go_wp2
                go_loopg [52] nk (fun g i wr3 => ∃ (m : Nat), g + m = nk ∧ i = .int .i64 m ∧ n.ks.all fewK = (n.ks.drop m).all fewK ∧ W2 = wr3)
                case atStart => exact ⟨0, by omega, rfl, rfl, rfl⟩
                case round =>
                  obtain ⟨m, hgm, rfl, hall, hwr⟩ := hrel
                  subst hwr
                  have HA3 := hide hall
                  clear hall
                  by_cases hm : m < nk
                  · have hmi : (m : Int) < (nk : Int) := by omega
                    have hml : m < n.ks.length := by rw [HNK.out]; exact hm
                    obtain ⟨kb, koff, rfl, r1, hs1⟩ := (HK.out.below HBW2.out).at m hml
                    have HSK := hide (all_step fewK [] n.ks m hml)
                    generalize ys.getD m nilS = x at *
                    generalize n.ks.getD m [] = p at *
                    obtain ⟨a1, c1, rfl⟩ := sl_form' hs1
                    have HFK : Hid (fewK p = decide (p.length ≤ 300)) := rfl
                    generalize fewK p = FK at *
                    generalize p.length = n1 at *
                    clear hs1
                    by_cases g1 : n1 ≤ 300
                    · have j1 : ¬ (300 : Int) < (n1 : Int) := by omega
                      go_wp2
                      go_roundg (gk - 1)
                      case measure => omega
                      case rel => exact ⟨m + 1, by omega, by go_num, by rw [HA3.out, HSK.out, HFK.out]; simp [g1], rfl⟩
                    · have j1 : (300 : Int) < (n1 : Int) := by omega
                      go_wp2
                      go_ret
                      exact ⟨ret_bool (by rw [HF.out, HA.out, HST.out, HF2.out, HPT.out, HA3.out, HSK.out, HFK.out]; simp [g1]), HBW3.out⟩
                  · have HKT : Hid (n.ks.all fewK = true) := by show n.ks.all fewK = true; rw [HA3.out]; exact all_end _ _ _ (by have := HNK.out; omega)
                    go_wp2
                    go_roundg (gO - 1)
                    case measure => omega
                    case rel => exact ⟨j + 1, by omega, by go_num, by rw [HA.out, HST.out, HF2.out, HPT.out, HKT.out]; simp, HBW3.out⟩
          · have i3 : (300 : Int) < (nc : Int) := by omega
            go_wp2
            go_ret
            exact ⟨ret_bool (by rw [HF.out, HA.out, HST.out, HF1.out]; simp [h3]), HBW.out⟩
        · have i2 : (300 : Int) < (nk : Int) := by omega
          go_wp2
          go_ret
          exact ⟨ret_bool (by rw [HF.out, HA.out, HST.out, HF1.out]; simp [h2]), HBW.out⟩
      · have i1 : (300 : Int) < (np : Int) := by omega
        go_wp2
        go_ret
        exact ⟨ret_bool (by rw [HF.out, HA.out, HST.out, HF1.out]; simp [h1]), HBW.out⟩
    · go_wp2
      go_ret
      exact ⟨ret_bool (by rw [HF.out, HA.out]; exact (all_end _ _ _ (by have := HNL.out; omega)).symm), HBR.out⟩

end Go.Proofs.Ytoamdbjailpgdaa
