/- Contracts: package words' termOf. -/
import Derived.Test.YtgeclnnhblffkaaDoorWdStop
import Derived.Test.YtgeclnnhblffkaaDoorRegion
namespace Go.Proofs.YtgeclnnhblffkaaDoor
set_option maxRecDepth 20000
open Go.RowKit
set_option linter.unusedVariables false
set_option linter.unusedSimpArgs false
set_option maxRecDepth 100000

def isSlz (zs : List Int) : Value → World → Prop := fun v w => Sl w v zs
theorem stable_isSlz (zs : List Int) : ∀ v w w', Below w.heap.size w w' → isSlz zs v w → isSlz zs v w' := fun v w w' hb h => h.below hb

set_option maxHeartbeats 1000000 in
theorem termOf_any (w : World) (v : Value) (C : Cn) (h : CnfV w v C) (m : Nat) (hm : C.cap = (m : Int)) (hm2 : m ≤ 100) (L : List Nat) (hLt : ∀ r ∈ L, letN r = true) (hL : Let w) :
    Calls Tryd.prog 59 #[v, .string (strOfNums (fmL L))] w fun e w' => e = .returned (.string (strOfNums (termZ (useL C.fs) m L))) ∧ Below w.heap.size w w' := by
  obtain ⟨fo, fc, so, sc, w1, rfl, hw1, hb1, hB, hT, hS⟩ := box_cnf w v C h
  rw [hm] at hw1 hB ⊢
  have hlen : (fmL (L.take m)).length ≤ 1000 := by
    have := (fmL_len2 (L.take m) (fun r hr => hLt r (List.mem_of_mem_take hr))).2
    have : (L.take m).length ≤ m := by simp; omega
    omega
  have HLR : Hid (∀ wx, Below w1.heap.size w1 wx → Calls Tryd.prog 84 #[.string (strOfNums (fmL L)), .int .i64 (m : Int)] wx fun e w' => e = .returned (.string (strOfNums (fmL (L.take m)))) ∧ Below wx.heap.size wx w') := fun wx _ => leadRunes_any wx L hLt m hm2
  have HCV : Hid (∀ wx, ∃ c w', (convert 9 26 (.string (strOfNums (fmL (L.take m))))).run Tryd.prog wx = .ok (.slice (some ⟨wx.heap.size, 0, none⟩) (fmL (L.take m)).length c) w' ∧ Sl w' (.slice (some ⟨wx.heap.size, 0, none⟩) (fmL (L.take m)).length c) (fmL (L.take m)) ∧ Below wx.heap.size wx w') := fun wx => conv_sl wx _ (fmL_ok _) (by omega)
  have HTX : Hid (∀ wx u, Below w1.heap.size w1 wx → Sl wx u (fmL (L.take m)) → Calls Tryd.prog 83 #[.slice fo C.fs.length fc, u] wx fun e w' => e = .returned (.string (strOfNums (termZ (useL C.fs) m L))) ∧ Below wx.heap.size wx w') := fun wx u hb hu => by
    have hbb := hb1.trans (hb.mono hb1.size)
    have := text_any wx _ C.fs (hT.below hbb) u _ hu (by omega) (hL.below hbb)
    rwa [term_text C.fs m L hLt] at this
  have HBX := hide hB
  have HB1 := hide hb1
  generalize termZ (useL C.fs) m L = T3 at *
  generalize strOfNums T3 = S3 at *
  generalize fmL (L.take m) = Z2 at *
  generalize Z2.length = N2 at *
  generalize strOfNums Z2 = S2 at *
  generalize strOfNums (fmL L) = S1 at *
  generalize C.fs.length = fn at *
  generalize C.ss.length = sn at *
  clear h hT hS hB hb1 hLt hL hm hlen
  go_enter Tryd.func59, Tryd.ntmps59
  go_wp2
  clear hw1
  refine wp_region_facts (FL [isV (.pointer (some ⟨w.heap.size, 0, none⟩)), isV (.slice fo fn fc), isV (.string S1), isV (.pointer (some ⟨w.heap.size, 2, none⟩)), isV (.int .i64 (m : Int)), isV (.string S2), isSlz Z2, isV (.string S3), isV (.string S3)]) 13 (by kernel_rfl) (by kernel_rfl) (by kernel_rfl) rfl (FL_stable _ (by repeat (first | exact trivial | refine ⟨stable_isV _, ?_⟩ | refine ⟨stable_isSlz _, ?_⟩))) ?_ ?_
  · refine ⟨?_, ?_, ?_, ?_, ?_, ?_, ?_, ?_, ?_, trivial⟩
    · intro act wx h
      have e2 : act.eval (.tmp 2) = .pointer (some ⟨w.heap.size, 0, none⟩) := h.old 2 (by kernel_rfl)
      have hbel := h.below
      clear h
      refine gives_by rfl act.eval rfl ?_
      generalize act.eval = ρ at *
      intro hf hc
      go_simp
      exact ⟨Below.refl _ _, rfl⟩
    · intro act wx h
      obtain ⟨v5, e5, f5⟩ := h.val 0 5 (by kernel_rfl)
      obtain rfl : v5 = .pointer (some ⟨w.heap.size, 0, none⟩) := f5
      have hbel := h.below
      clear h
      have hB := HBX.out.below hbel HBX.out.lt
      have cx := hB.cell 0
      clear hB
      refine gives_by rfl act.eval rfl ?_
      generalize act.eval = ρ at *
      intro hf hc
      go_simp
      exact ⟨Below.refl _ _, rfl⟩
    · intro act wx h
      have e1 : act.eval (.tmp 1) = .string S1 := h.old 1 (by kernel_rfl)
      have hbel := h.below
      clear h
      refine gives_by rfl act.eval rfl ?_
      generalize act.eval = ρ at *
      intro hf hc
      go_simp
      exact ⟨Below.refl _ _, rfl⟩
    · intro act wx h
      have e2 : act.eval (.tmp 2) = .pointer (some ⟨w.heap.size, 0, none⟩) := h.old 2 (by kernel_rfl)
      have hbel := h.below
      clear h
      refine gives_by rfl act.eval rfl ?_
      generalize act.eval = ρ at *
      intro hf hc
      go_simp
      exact ⟨Below.refl _ _, rfl⟩
    · intro act wx h
      obtain ⟨v8, e8, f8⟩ := h.val 3 8 (by kernel_rfl)
      obtain rfl : v8 = .pointer (some ⟨w.heap.size, 2, none⟩) := f8
      have hbel := h.below
      clear h
      have hB := HBX.out.below hbel HBX.out.lt
      have cx : wx.cell? ⟨w.heap.size, 2, none⟩ = some (.int .i64 (m : Int)) := hB.cell 2
      clear hB
      refine gives_by rfl act.eval rfl ?_
      generalize act.eval = ρ at *
      intro hf hc
      go_simp
      exact ⟨Below.refl _ _, rfl⟩
    · intro act wx h
      obtain ⟨v7, e7, f7⟩ := h.val 2 7 (by kernel_rfl)
      obtain rfl : v7 = .string S1 := f7
      obtain ⟨v9, e9, f9⟩ := h.val 4 9 (by kernel_rfl)
      obtain rfl : v9 = .int .i64 (m : Int) := f9
      have hbel := h.below
      clear h
      refine gives_by rfl act.eval rfl ?_
      generalize act.eval = ρ at *
      intro hf hc
      go_simp
      exact call_gives (HLR.out wx hbel) (fun _ => rfl)
    · intro act wx h
      obtain ⟨v10, e10, f10⟩ := h.val 5 10 (by kernel_rfl)
      obtain rfl : v10 = .string S2 := f10
      have hbel := h.below
      clear h
      obtain ⟨c, wy, hrc, hsc, hbc⟩ := HCV.out wx
      refine gives_by rfl act.eval rfl ?_
      generalize act.eval = ρ at *
      intro hf hc
      go_simp
      exact ⟨hbc, hsc⟩
    · intro act wx h
      obtain ⟨v6, e6, f6⟩ := h.val 1 6 (by kernel_rfl)
      obtain rfl : v6 = .slice fo fn fc := f6
      obtain ⟨v11, e11, f11⟩ := h.val 6 11 (by kernel_rfl)
      obtain h11 : Hid (Sl wx v11 Z2) := f11
      have hbel := h.below
      clear h
      refine gives_by rfl act.eval rfl ?_
      generalize act.eval = ρ at *
      intro hf hc
      go_simp
      exact call_gives (HTX.out wx v11 hbel f11.out) (fun _ => rfl)
    · intro act wx h
      obtain ⟨v12, e12, f12⟩ := h.val 7 12 (by kernel_rfl)
      obtain rfl : v12 = .string S3 := f12
      have hbel := h.below
      clear h
      refine gives_by rfl act.eval rfl ?_
      generalize act.eval = ρ at *
      intro hf hc
      go_simp
      exact ⟨Below.refl _ _, rfl⟩
  · intro vals w8 hb8 hv
    have hv4 : vals 8 = .string S3 := hv 8 4 (by kernel_rfl)
    clear hv
    generalize hact : putAll _ vals 0 _ = act
    have HB8 := hide hb8
    clear hb8
    subst hact
    simp only [putAll, Act.put, List.setIfInBounds_toArray, List.set_cons_zero, List.set_cons_succ, hv4, Nat.zero_add, Nat.reduceAdd]
    clear hv4
    go_wp2
    go_ret
    exact ⟨rfl, HB1.out.trans (HB8.out.mono HB1.out.size)⟩

end Go.Proofs.YtgeclnnhblffkaaDoor
