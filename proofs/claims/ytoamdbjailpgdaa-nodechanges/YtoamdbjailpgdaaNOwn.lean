/- Contracts: package node's owned and leaf. -/
import Derived.Test.YtoamdbjailpgdaaNGv
import Derived.Test.YtoamdbjailpgdaaNSlc
import Derived.Test.YtoamdbjailpgdaaNClone
namespace Go.Proofs.Ytoamdbjailpgdaa
set_option maxRecDepth 20000
open Go.RowKit Go.Shelf
set_option linter.unusedVariables false
set_option linter.unusedSimpArgs false
set_option maxRecDepth 100000
attribute [local go_sem] Oper.semAt_some

def ownN (n : Nd) : Nd := if mayN n then n else noNd
def ownE (n : Nd) : Int := if mayN n then 0 else 100
theorem may_few {n : Nd} (h : mayN n = true) : few1 n = true := by
  obtain ⟨h1, h2, h3, h4, h5⟩ := may_bounds h
  simp only [few1, Bool.and_eq_true, decide_eq_true_iff, List.all_eq_true]
  refine ⟨⟨⟨⟨by omega, by omega⟩, by omega⟩, fun p hp => ?_⟩, fun k hk => ?_⟩
  · have := h4 p hp
    simp only [fewP, Bool.and_eq_true, decide_eq_true_iff]
    omega
  · have := h5 k hk
    simp only [fewK, decide_eq_true_iff]
    omega

set_option maxHeartbeats 1000000 in
theorem owned_any (w : World) (v : Value) (n : Nd) (h : NdV w v n) : Calls Try.prog 73 #[v] w (GivesN w (ownN n) (ownE n)) := by
  have HM : Hid (∀ w1, Below w.heap.size w w1 → Calls Try.prog 49 #[v] w1 fun e w' => e = .returned (.bool (mayN n)) ∧ Below w1.heap.size w1 w') := fun w1 hb => mayBe_any w1 v n (h.below hb)
  have HC : Hid (mayN n = true → ∀ w1, Below w.heap.size w w1 → Calls Try.prog 11 #[v] w1 fun e w' => ∃ u, e = .returned u ∧ NdN w' w1.heap.size u n ∧ Below w1.heap.size w1 w') := fun hm w1 hb => ndClone_any w1 v n (h.below hb) (may_few hm)
  have HN : Hid (ownN n = if mayN n then n else noNd) := rfl
  have HE : Hid (ownE n = if mayN n then 0 else 100) := rfl
  have hza : ∀ wx : World, (zeroValue 26).run Try.prog wx = .ok (.agg #[.bool false, .slice none 0 0, .slice none 0 0, .slice none 0 0]) wx := fun wx => by kernel_rfl
  obtain ⟨lf, pa, np, pc, ka, nk, kc, ca, nc, cc, rfl, hlf, -⟩ := nd_open h
  obtain ⟨w1, hw1⟩ : ∃ w1, (w.alloc (.cells #[.bool lf, .slice pa np pc, .slice ka nk kc, .slice ca nc cc] 26)).alloc (.cells #[.bool false, .slice none 0 0, .slice none 0 0, .slice none 0 0] 26) = w1 := ⟨_, rfl⟩
  have HA : Hid (Blk w1 w.heap.size 26 [.bool lf, .slice pa np pc, .slice ka nk kc, .slice ca nc cc]) := by rw [← hw1]; exact (Blk.new w _ _).alloc _
  have HB : Hid (Blk w1 (w.heap.size + 1) 26 zeroC) := by
    have := Blk.new (w.alloc (.cells #[.bool lf, .slice pa np pc, .slice ka nk kc, .slice ca nc cc] 26)) 26 zeroC
    rw [World.size_alloc] at this
    rw [← hw1]; exact this
  have HBL : Hid (Below w.heap.size w w1) := by rw [← hw1]; exact ((Below.refl _ w).alloc (Nat.le_refl _) _).alloc (by simp) _
  have HS1 : Hid (w1.heap.size = w.heap.size + 2) := by show _ = _; rw [← hw1]; simp
  obtain ⟨⟨z0, z1, z2, z3⟩, _⟩ := node_cells HA.out
  clear h hlf
  cases hm : mayN n with
  | false =>
    rw [hm] at HN HE HM
    simp only [Bool.false_eq_true, if_false] at HN HE
    rw [HN.out, HE.out]
    clear HN HE HC hm
    go_enter Try.func73, Try.ntmps73
    go_wp2_with (go_at_call 49; refine (HM.out w1 HBL.out).mono ?_; rintro e w2 ⟨rfl, hb2⟩; have hB2 := HB.out.below hb2 HB.out.lt; obtain ⟨⟨d0, d1, d2, d3⟩, k0, k1, k2, k3⟩ := node_cells hB2; have HB2 := hide hB2; have HBL2 := hide (HBL.out.trans (hb2.mono HBL.out.size)); clear HM hb2 hB2)
    (try simp only [Exit.inBlock, Exit.then])
    refine bodyPost_ret (ret_node1 rfl _ _ (w.heap.size + 1) _ _ _ _ _ rfl rfl (laidN_blk HB2.out _ _ _ _)) rfl ?_
    exact GivesN.no 100 (HBL2.out.trans ((laidN_only w2 (w.heap.size + 1) _ _ _ _).below HBL2.out.size (fun j hj e => by omega)))
  | true =>
    have HC1 := hide (HC.out hm)
    rw [hm] at HN HE HM
    simp only [if_true] at HN HE
    rw [HN.out, HE.out]
    clear HN HE HC hm
    go_enter Try.func73, Try.ntmps73
    go_wp2_with (first
      | (go_at_call 49; refine (HM.out w1 HBL.out).mono ?_; rintro e w2 ⟨rfl, hb2⟩; have hA2 := HA.out.below hb2 HA.out.lt; have hB2 := HB.out.below hb2 HB.out.lt; clear z0 z1 z2 z3; obtain ⟨⟨z0, z1, z2, z3⟩, _⟩ := node_cells hA2; have HB2 := hide hB2; have HBL2 := hide (HBL.out.trans (hb2.mono HBL.out.size)); have HS2 : Hid (w.heap.size + 2 ≤ w2.heap.size) := (by have := hb2.size; have := HS1.out; show _ ≤ _; omega); clear HM hb2 hA2 hB2)
      | (go_at_call 11; refine (HC1.out w2 HBL2.out).mono ?_; rintro e w3 ⟨u3, rfl, hn3, hb3⟩; obtain ⟨pa3, np3, pc3, ka3, nk3, kc3, ca3, nc3, cc3, rfl⟩ := hn3.form; have hB3 := HB2.out.below hb3 HB2.out.lt; obtain ⟨⟨d0, d1, d2, d3⟩, k0, k1, k2, k3⟩ := node_cells hB3; have HB3 := hide hB3; have HN3 := hide hn3; have HBL3 := hide (HBL2.out.trans (hb3.mono HBL2.out.size)); clear HC1 hb3 hB3 hn3))
    (try simp only [Exit.inBlock, Exit.then])
    refine bodyPost_ret (ret_node1 rfl _ _ (w.heap.size + 1) _ _ _ _ _ rfl rfl (laidN_blk HB3.out _ _ _ _)) rfl ?_
    exact ⟨_, rfl, (HN3.out.only (laidN_only w3 (w.heap.size + 1) _ _ _ _) (fun j hj => by have := HS2.out; omega)).le (by have := HS2.out; omega), HBL3.out.trans ((laidN_only w3 (w.heap.size + 1) _ _ _ _).below HBL3.out.size (fun j hj e => by omega))⟩

set_option maxHeartbeats 1000000 in
theorem leaf_any (w : World) (g : Nat) (vs : List Value) (rows : List (List Value)) (hl : vs.length = rows.length) (hk : vs.length ≤ 5) (hB : Blk w g 22 vs) (hr : ∀ i, i < vs.length → RowR w 2 (vs.getD i nilS) (rows.getD i [])) :
    Calls Try.prog 74 #[.slice (some ⟨g, 0, none⟩) vs.length vs.length] w fun e w' => ∃ a N c, e = .returned (.agg #[.bool true, .slice a N c, .slice none 0 0, .slice none 0 0]) ∧ w'.ownsRow w.heap.size 36 2 (.slice a N c) N rows.flatten ∧ Below w.heap.size w w' := by
  obtain ⟨w1, hw1⟩ : ∃ w1, w.alloc (.cells #[.bool false, .slice none 0 0, .slice none 0 0, .slice none 0 0] 26) = w1 := ⟨_, rfl⟩
  have hb1 : Below w.heap.size w w1 := by rw [← hw1]; exact (Below.refl _ w).alloc (Nat.le_refl _) _
  have HB0 : Hid (Blk w1 w.heap.size 26 zeroC) := by rw [← hw1]; exact Blk.new w _ _
  have HC := hide (concatP_any w1 g vs rows hl hk (hB.below hb1 hB.lt) (fun i hi => (hr i hi).below hb1))
  have HB1 := hide hb1
  have hs1 := HB0.out.lt
  generalize vs.length = K at *
  clear hB hr hl hb1
  go_enter Try.func74, Try.ntmps74
  go_wp2_with (go_at_call 95; refine HC.out.mono ?_; rintro e w2 ⟨a, N, c, rfl, ho, hb2⟩; have hB2 := HB0.out.below hb2 HB0.out.lt; obtain ⟨⟨d0, d1, d2, d3⟩, k0, k1, k2, k3⟩ := node_cells hB2; have HB2 := hide hB2; have HO := hide ho; have HBL := hide (HB1.out.trans (hb2.mono HB1.out.size)); clear HC hb2 hB2 ho)
  (try simp only [Exit.inBlock, Exit.then])
  refine bodyPost_ret (results_cell_row rfl _ _ w.heap.size 26 #[.bool true, .slice a N c, .slice none 0 0, .slice none 0 0] (0, 0) _ rfl (laidN_blk HB2.out _ _ _ _) Try.underlying26 rfl sizeNode) rfl ?_
  have ho := laidN_only w2 w.heap.size (.bool true) (.slice a N c) (.slice none 0 0) (.slice none 0 0)
  exact ⟨a, N, c, rfl, own_le' (ownsRow_only HO.out ho (fun j hj e => by have := (row_blk HO.out hj).1; omega)) (by omega), HBL.out.trans (ho.below HBL.out.size (fun j hj e => by omega))⟩

end Go.Proofs.Ytoamdbjailpgdaa
