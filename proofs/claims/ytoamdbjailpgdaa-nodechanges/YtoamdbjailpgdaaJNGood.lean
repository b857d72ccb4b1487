/- Contract: the document's good. -/
import Derived.Test.YtoamdbjailpgdaaNOwn
import Derived.Test.YtoamdbjailpgdaaNRefM
import Derived.Test.YtoamdbjailpgdaaJNKeep
namespace Go.Proofs.Ytoamdbjailpgdaa
set_option maxRecDepth 20000
open Go.RowKit Go.Shelf
set_option linter.unusedVariables false
set_option linter.unusedSimpArgs false
set_option maxRecDepth 100000
attribute [local go_sem] Oper.semAt_some

set_option maxHeartbeats 1000000 in
theorem good_any (w : World) (v : Value) (n : Nd) (h : NdV w v n) (hq : n.ks.length + n.cs.length ≤ 9223372036854775807) : Calls Try.prog 75 #[v] w (GivesN w (ownN n) (ownE n)) := by
  have HM : Hid (∀ w1, Below w.heap.size w w1 → Calls Try.prog 25 #[v] w1 fun e w' => e = .returned (.bool (mayN n)) ∧ Below w1.heap.size w1 w') := fun w1 hb => refMay_any w1 v n (h.below hb) hq
  have HC : Hid (mayN n = true → ∀ w1, Below w.heap.size w w1 → Calls Try.prog 10 #[v] w1 fun e w' => ∃ u, e = .returned u ∧ NdN w' w1.heap.size u n ∧ Below w1.heap.size w1 w') := fun hm w1 hb => refClone_any w1 v n (h.below hb) (may_few hm)
  have HN : Hid (ownN n = if mayN n then n else noNd) := rfl
  have HE : Hid (ownE n = if mayN n then 0 else 100) := rfl
  have hza : ∀ wx : World, (zeroValue 26).run Try.prog wx = .ok (.agg #[.bool false, .slice none 0 0, .slice none 0 0, .slice none 0 0]) wx := fun wx => by kernel_rfl
  obtain ⟨lf, pa, np, pc, ka, nk, kc, ca, nc, cc, rfl, hlf, -⟩ := nd_open h
  obtain ⟨w1, hw1⟩ : ∃ w1, (w.alloc (.cells #[.bool lf, .slice pa np pc, .slice ka nk kc, .slice ca nc cc] 26)).alloc (.cells #[.bool false, .slice none 0 0, .slice none 0 0, .slice none 0 0] 26) = w1 := ⟨_, rfl⟩
  have HA : Hid (Blk w1 w.heap.size 26 [.bool lf, .slice pa np pc, .slice ka nk kc, .slice ca nc cc]) := by rw [← hw1]; exact (Blk.new w _ _).alloc _
  have HB : Hid (Blk w1 (w.heap.size + 1) 26 zeroC) := by
    have := Blk.new (w.alloc (.cells #[.bool lf, .slice pa np pc, .slice ka nk kc, .slice ca nc cc] 26)) 26 zeroC
    rw [World.size_alloc] at this
    rw [← hw1]; exact this
  have HBL : Hid (Below w.heap.size w w1) := by rw [← hw1]; exact ((Below.refl _ w).alloc (Nat.le_refl _) _).alloc (by simp) _
  have HS1 : Hid (w1.heap.size = w.heap.size + 2) := by show _ = _; rw [← hw1]; simp
  obtain ⟨⟨z0, z1, z2, z3⟩, _⟩ := node_cells HA.out
  clear h hlf hq
  cases hm : mayN n with
  | false =>
    rw [hm] at HN HE HM
    simp only [Bool.false_eq_true, if_false] at HN HE
    rw [HN.out, HE.out]
    clear HN HE HC hm
    go_enter Try.func75, Try.ntmps75
    go_wp2_with (go_at_call 25; refine (HM.out w1 HBL.out).mono ?_; rintro e w2 ⟨rfl, hb2⟩; have hB2 := HB.out.below hb2 HB.out.lt; obtain ⟨⟨d0, d1, d2, d3⟩, k0, k1, k2, k3⟩ := node_cells hB2; have HB2 := hide hB2; have HBL2 := hide (HBL.out.trans (hb2.mono HBL.out.size)); clear HM hb2 hB2)
    (try simp only [Exit.inBlock, Exit.then])
    refine bodyPost_ret (ret_node1 rfl _ _ (w.heap.size + 1) _ _ _ _ _ rfl rfl (laidN_blk HB2.out _ _ _ _)) rfl ?_
    exact GivesN.no 100 (HBL2.out.trans ((laidN_only w2 (w.heap.size + 1) _ _ _ _).below HBL2.out.size (fun j hj e => by omega)))
  | true =>
    have HC1 := hide (HC.out hm)
    rw [hm] at HN HE HM
    simp only [if_true] at HN HE
    rw [HN.out, HE.out]
    clear HN HE HC hm
    go_enter Try.func75, Try.ntmps75
    go_wp2_with (first
      | (go_at_call 25; refine (HM.out w1 HBL.out).mono ?_; rintro e w2 ⟨rfl, hb2⟩; have hA2 := HA.out.below hb2 HA.out.lt; have hB2 := HB.out.below hb2 HB.out.lt; clear z0 z1 z2 z3; obtain ⟨⟨z0, z1, z2, z3⟩, _⟩ := node_cells hA2; have HB2 := hide hB2; have HBL2 := hide (HBL.out.trans (hb2.mono HBL.out.size)); have HS2 : Hid (w.heap.size + 2 ≤ w2.heap.size) := (by have := hb2.size; have := HS1.out; show _ ≤ _; omega); clear HM hb2 hA2 hB2)
      | (go_at_call 10; refine (HC1.out w2 HBL2.out).mono ?_; rintro e w3 ⟨u3, rfl, hn3, hb3⟩; obtain ⟨pa3, np3, pc3, ka3, nk3, kc3, ca3, nc3, cc3, rfl⟩ := hn3.form; have hB3 := HB2.out.below hb3 HB2.out.lt; obtain ⟨⟨d0, d1, d2, d3⟩, k0, k1, k2, k3⟩ := node_cells hB3; have HB3 := hide hB3; have HN3 := hide hn3; have HBL3 := hide (HBL2.out.trans (hb3.mono HBL2.out.size)); clear HC1 hb3 hB3 hn3))
    (try simp only [Exit.inBlock, Exit.then])
    refine bodyPost_ret (ret_node1 rfl _ _ (w.heap.size + 1) _ _ _ _ _ rfl rfl (laidN_blk HB3.out _ _ _ _)) rfl ?_
    exact ⟨_, rfl, (HN3.out.only (laidN_only w3 (w.heap.size + 1) _ _ _ _) (fun j hj => by have := HS2.out; omega)).le (by have := HS2.out; omega), HBL3.out.trans ((laidN_only w3 (w.heap.size + 1) _ _ _ _).below HBL3.out.size (fun j hj e => by omega))⟩

end Go.Proofs.Ytoamdbjailpgdaa
