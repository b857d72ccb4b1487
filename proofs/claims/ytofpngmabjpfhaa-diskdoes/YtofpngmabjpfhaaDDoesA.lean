/- Contract: does, whatever the act is; a device that was cloned, and then left behind. -/
import Derived.Test.YtofpngmabjpfhaaDDoesL
namespace Go.Proofs.Ytofpngmabjpfhaa
open Go.RowKit
set_option linter.unusedVariables false

theorem does_any (w0 w : World) (b r n c q : Nat) (qs : List Value) (o : OpA) (hB : Both w0 w b r n c) (hq : Blk w q 35 qs) (ho : OpOk w0 o) (hc : c ≤ 1000) (hn : n ≤ 100) :
    Calls Try.prog 12 #[dp b, dp r, .agg (opc o).toArray] w fun e w' => e = .returned (.bool true) ∧ Both w0 w' b r n (c + 1) ∧ Blk w' q 35 qs := by
  by_cases k0 : o.dO = 0
  · exact does_write w0 w b r n c q qs o hB hq ho hc k0
  by_cases k1 : o.dO = 1
  · exact does_raw w0 w b r n c q qs o hB hq ho hc k1
  by_cases k2 : o.dO = 2
  · exact does_sync w0 w b r n c q qs o hB hq ho hc k2
  by_cases k3 : o.dO = 3
  · exact does_arm w0 w b r n c q qs o hB hq ho hc k3
  by_cases k4 : o.dO = 4
  · exact does_calm w0 w b r n c q qs o hB hq ho hc k4
  by_cases k5 : o.dO = 5
  · exact does_crash w0 w b r n c q qs o hB hq ho hc k5
  by_cases k6 : o.dO = 6
  · exact does_load w0 w b r n c q qs o hB hq ho hc hn k6
  exact does_none w0 w b r n c q qs o hB hq ho hc (fun j hj e => by omega)

theorem Both.below {w0 w w' : World} {b r n c : Nat} (h : Both w0 w b r n c) (hb : Below w.heap.size w w') : Both w0 w' b r n c := by
  obtain ⟨d, F, G, h1, h2, h3, h4, h5, h6, h7⟩ := h
  have hs := hb.size
  exact ⟨d, F, G, h1.below hb, h2.below hb, h3, fun k hk => ⟨(h4 k hk).1, Nat.lt_of_lt_of_le (h4 k hk).2 hs⟩, fun k hk => ⟨(h5 k hk).1, Nat.lt_of_lt_of_le (h5 k hk).2 hs⟩, below_then h6 hb (Nat.le_refl _), h7⟩
theorem Both.bel {w0 w : World} {b r n c : Nat} (h : Both w0 w b r n c) : Below w0.heap.size w0 w := by
  obtain ⟨d, F, G, h1, h2, h3, h4, h5, h6, h7⟩ := h
  exact h6
theorem same_both {w0 w : World} {b r n c : Nat} (p : Int) (h : Both w0 w b r n c) :
    Calls Try.prog 13 #[dp b, dp r, .int .i64 p] w fun e w' => e = .returned (.bool true) ∧ Below w.heap.size w w' := by
  obtain ⟨d, F, G, h1, h2, _⟩ := h
  exact same_any w b r F G d p h1 h2

/-- a device at b that is left behind; those at cb and r hold the same -/
def Spare (w0 w : World) (b cb r n m c : Nat) : Prop := ∃ (d e : Dv) (F G H : Nat → Prop), Dev w b F d ∧ Dev w cb G e ∧ Ref w r H e ∧ (∀ k, F k → ¬ G k) ∧ (∀ k, F k → ¬ H k) ∧ (∀ k, G k → ¬ H k) ∧ (∀ k, F k → w0.heap.size ≤ k ∧ k < w.heap.size) ∧ (∀ k, G k → w0.heap.size ≤ k ∧ k < w.heap.size) ∧ (∀ k, H k → w0.heap.size ≤ k ∧ k < w.heap.size) ∧ Below w0.heap.size w0 w ∧ Sized n m d ∧ Sized n c e
theorem Spare.both {w0 w : World} {b cb r n m c : Nat} (h : Spare w0 w b cb r n m c) : Both w0 w cb r n c := by
  obtain ⟨d, e, F, G, H, h1, h2, h3, h4, h5, h6, h7, h8, h9, h10, h11, h12⟩ := h
  exact ⟨e, G, H, h2, h3, h6, h8, h9, h10, h12⟩
theorem Spare.below {w0 w w' : World} {b cb r n m c : Nat} (h : Spare w0 w b cb r n m c) (hb : Below w.heap.size w w') : Spare w0 w' b cb r n m c := by
  obtain ⟨d, e, F, G, H, h1, h2, h3, h4, h5, h6, h7, h8, h9, h10, h11, h12⟩ := h
  have hs := hb.size
  exact ⟨d, e, F, G, H, h1.below hb, h2.below hb, h3.below hb, h4, h5, h6, fun k hk => ⟨(h7 k hk).1, Nat.lt_of_lt_of_le (h7 k hk).2 hs⟩, fun k hk => ⟨(h8 k hk).1, Nat.lt_of_lt_of_le (h8 k hk).2 hs⟩, fun k hk => ⟨(h9 k hk).1, Nat.lt_of_lt_of_le (h9 k hk).2 hs⟩, below_then h10 hb (Nat.le_refl _), h11, h12⟩
theorem clone_both {w0 w : World} {b r n c : Nat} (h : Both w0 w b r n c) (hc : c ≤ 1001) :
    Calls Try.prog 14 #[dp b] w fun e w' => ∃ cb, e = .returned (dp cb) ∧ Below w.heap.size w w' ∧ Spare w0 w' b cb r n c c := by
  obtain ⟨d, F, G, h1, h2, h3, h4, h5, h6, h7⟩ := h
  have hw0 := h6.size
  refine (clone_any w b F d h1 (by have := h7.2.1; omega)).mono ?_
  rintro e w' ⟨cb, rfl, hC, hb⟩
  have hs := hb.size
  refine ⟨cb, rfl, hb, d, d, F, _, G, h1.below hb, hC.bound, h2.below hb, fun k hk hg => ?_, h3, fun k hk hg => ?_, fun k hk => ⟨(h4 k hk).1, Nat.lt_of_lt_of_le (h4 k hk).2 hs⟩, fun k hk => ⟨Nat.le_trans hw0 hk.1, hk.2⟩, fun k hk => ⟨(h5 k hk).1, Nat.lt_of_lt_of_le (h5 k hk).2 hs⟩, below_then h6 hb (Nat.le_refl _), h7, h7⟩
  · have := (h4 k hk).2; have := hg.1; omega
  · have := (h5 k hg).2; have := hk.1; omega
theorem spare_write {w0 w : World} {b cb r n m c : Nat} (h : Spare w0 w b cb r n m c) (hm : m ≤ 1001) (p : Int) (v : Value) (zs : List Int) (hS : Sl w v zs) :
    Calls Try.prog 15 #[dp b, .int .i64 p, v] w fun e w' => ∃ E, e = .returned (.int .i64 E) ∧ Spare w0 w' b cb r n (m + 1) c := by
  obtain ⟨d, e, F, G, H, h1, h2, h3, h4, h5, h6, h7, h8, h9, h10, h11, h12⟩ := h
  have hw0 := h10.size
  refine (write_all w b F d p v zs h1 hS (by have := h11.2.1; omega) (by have := h11.2.2; omega)).mono ?_
  rintro _ w' ⟨rfl, hd, ho⟩
  have hs := ho.size
  refine ⟨_, rfl, _, e, _, G, H, hd.bound, h2.keep ho (fun k hg hf => h4 k hf hg), h3.keep ho (fun k hg hf => h5 k hf hg), fun k hk hg => ?_, fun k hk hg => ?_, h6, fun k hk => ⟨?_, hk.2⟩, fun k hk => ⟨(h8 k hk).1, Nat.lt_of_lt_of_le (h8 k hk).2 hs⟩, fun k hk => ⟨(h9 k hk).1, Nat.lt_of_lt_of_le (h9 k hk).2 hs⟩, h10.trans (ho.below h10.size (fun k hk hf => by have := h7 k hf; omega)), sized_write h11 p zs, h12⟩
  · rcases hk.1 with hf | hf
    · exact h4 k hf hg
    · have := (h8 k hg).2; omega
  · rcases hk.1 with hf | hf
    · exact h5 k hf hg
    · have := (h9 k hg).2; omega
  · rcases hk.1 with hf | hf
    · exact (h7 k hf).1
    · omega
theorem spare_crash {w0 w : World} {b cb r n m c : Nat} (h : Spare w0 w b cb r n m c) (v : Value) (pk : List Int) (hS : Sl (w.alloc (.cells (pc pk).toArray 5)) v pk) (hv : v.ownBlock = some w.heap.size) :
    Calls Try.prog 17 #[dp b, v] (w.alloc (.cells (pc pk).toArray 5)) fun e w' => e = .returned (.int .i64 0) ∧ Both w0 w' cb r n c := by
  have hbA : Below w.heap.size w (w.alloc (.cells (pc pk).toArray 5)) := (Below.refl _ w).alloc (Nat.le_refl _) _
  obtain ⟨d, e, F, G, H, h1, h2, h3, h4, h5, h6, h7, h8, h9, h10, h11, h12⟩ := h
  have hw0 := h10.size
  have h10' := below_then h10 hbA (Nat.le_refl _)
  refine (crash_any _ b F d v pk (h1.below hbA) hS (fun _ k hk hf => ?_)).mono ?_
  · rw [hv] at hk
    have := (h7 k hf).2
    simp at hk
    omega
  rintro _ w' ⟨rfl, hd, ho⟩
  have hs : w.heap.size ≤ w'.heap.size := Nat.le_trans hbA.size ho.size
  exact ⟨rfl, e, G, H, (h2.below hbA).keep ho (fun k hg hf => h4 k hf hg), (h3.below hbA).keep ho (fun k hg hf => h5 k hf hg), h6, fun k hk => ⟨(h8 k hk).1, Nat.lt_of_lt_of_le (h8 k hk).2 hs⟩, fun k hk => ⟨(h9 k hk).1, Nat.lt_of_lt_of_le (h9 k hk).2 hs⟩, h10'.trans (ho.below h10'.size (fun k hk hf => by have := h7 k hf; omega)), h12⟩

end Go.Proofs.Ytofpngmabjpfhaa
