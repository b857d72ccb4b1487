/- Contract: package posting's Clone. -/
import Derived.Test.YtmjkpgmmfooajaaPoGv
import Derived.Test.YtmjkpgmmfooajaaPoPut
import Derived.Deep.RegionWith
namespace Go.Proofs.Ytmjkpgmmfooajaa
set_option maxRecDepth 20000
open Go.RowKit
set_option linter.unusedVariables false
set_option linter.unusedSimpArgs false
set_option maxRecDepth 100000

theorem ret_po0 {fn : Func} {p : Tmp} (h : fn.results = #[.cell p 34]) (tmps : Array Value) (w : World) (b : Nat) (x0 x1 : Value) (hp : tmps.getD p undef = .pointer (some ⟨b, 0, none⟩)) (hB : Blk w b 34 [x0, x1]) :
    (results fn tmps).run Try.prog w = .ok (.agg #[x0, x1]) w :=
  results_cell_row h tmps w b 34 #[x0, x1] (0, 0) _ hp hB Try.underlying34 rfl sizePo

set_option maxHeartbeats 2000000 in
theorem cloneP_any (w : World) (v : Value) (p : Po) (h : PoV w v p) (hl : p.pos.length ≤ 1000000) :
    Calls Try.prog 13 #[v] w fun e w' => ∃ u, e = .returned u ∧ PoN w' w.heap.size u p ∧ Below w.heap.size w w' := by
  obtain ⟨ao, cap, rfl, hu, h0⟩ := h.open
  obtain ⟨d, zs⟩ := p
  simp only at hu h0 hl ⊢
  obtain ⟨w2, hw2⟩ : ∃ w2, (w.alloc (.cells #[.int .u32 (d : Int), .slice ao zs.length cap] 34)).alloc (.cells #[.int .u32 0, .slice none 0 0] 34) = w2 := ⟨_, rfl⟩
  have hb2 : Below w.heap.size w w2 := by rw [← hw2]; exact ((Below.refl _ w).alloc (Nat.le_refl _) _).alloc (by simp) _
  have hA : Blk w2 w.heap.size 34 [.int .u32 (d : Int), .slice ao zs.length cap] := by rw [← hw2]; exact (Blk.new w _ _).alloc _
  have hB : Blk w2 (w.heap.size + 1) 34 [.int .u32 0, .slice none 0 0] := by
    rw [← hw2]
    have := Blk.new (w.alloc (.cells #[.int .u32 (d : Int), .slice ao zs.length cap] 34)) 34 [.int .u32 0, .slice none 0 0]
    rwa [World.size_alloc] at this
  have hs2 : w2.heap.size = w.heap.size + 2 := by rw [← hw2]; simp
  have hcl := sClone_any w2.drew _ zs ((hu.below hb2).below (below_drewN (Below.refl _ w2) 1)) hl
  have HCL : Hid (Calls Try.prog 34 #[.slice ao zs.length cap] w2.drew fun e w' => ∃ a n c, e = .returned (.slice a n c) ∧ Ints w' (w.heap.size + 2) (.slice a n c) zs ∧ Below w2.heap.size w2 w') := by
    refine hcl.mono ?_
    rintro e w' ⟨u, rfl, hi, hb⟩
    obtain ⟨a, c, rfl⟩ := hi.shape
    exact ⟨a, _, c, rfl, hi.base (by rw [World.size_drew]; omega), (below_drewN (Below.refl _ w2) 1).trans hb⟩
  obtain ⟨a0, a1⟩ := box_po hA
  obtain ⟨⟨b0, b1⟩, b2, b3⟩ := po_cells hB
  have HA := hide hA
  have HB := hide hB
  have HB2 := hide hb2
  generalize zs.length = n at *
  clear h hu hA hB hb2 hcl
  go_enter Try.func13, Try.ntmps13
  go_wp2
  go_region_with (go_at_call 34; refine HCL.out.mono ?_; rintro e w3 ⟨a3, n3, c3, rfl, hi, hb⟩; have HI := hide hi; have HB3 := hide hb; obtain ⟨⟨b0, b1⟩, b2, b3⟩ := po_cells (HB.out.below hb HB.out.lt); obtain ⟨a0, a1⟩ := box_po (HA.out.below hb HA.out.lt); clear hi hb)
  all_goals go_wp2
  all_goals
    refine bodyPost_ret (ret_po0 rfl _ _ (w.heap.size + 1) (.int .u32 (d : Int)) (.slice a3 n3 c3) rfl (laidP_blk (HB.out.below HB3.out HB.out.lt) _ _)) rfl ?_
    have ho := laidP_only w3 (w.heap.size + 1) (.int .u32 (d : Int)) (.slice a3 n3 c3)
    refine ⟨_, rfl, ⟨h0, _, rfl, ?_⟩, (HB2.out.trans (HB3.out.mono HB2.out.size)).trans (ho.below (by have := HB3.out.size; omega) (fun j hj e => by omega))⟩
    exact (HI.out.only ho (fun j hj e => by have := (HI.out.lt j hj).1; omega)).base (by omega)

end Go.Proofs.Ytmjkpgmmfooajaa
