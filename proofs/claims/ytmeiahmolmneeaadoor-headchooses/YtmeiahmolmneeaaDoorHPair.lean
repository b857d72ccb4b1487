/- Pages in a row, and what is chosen of them; a head that comes in. -/
import Derived.Test.YtmeiahmolmneeaaDoorHShort
namespace Go.Proofs.YtmeiahmolmneeaaDoor
set_option maxRecDepth 20000
open Go.RowKit
set_option linter.unusedVariables false

theorem parts_blk {w : World} {g : Nat} {vs : List Value} {pss : List (List Int)} (hg : Blk w g 24 vs) (hl : vs.length = pss.length) (hm : vs.length ≤ 1000) (h : ∀ i, i < vs.length → Sl w (vs.getD i (.slice none 0 0)) (pss.getD i [])) : Parts w (.slice (some ⟨g, 0, none⟩) vs.length vs.length) vs pss := by
  refine ⟨hl, some ⟨g, 0, none⟩, vs.length, rfl, Nat.le_refl _, by unfold maxLen; omega, h, fun _ => ⟨g, 0, rfl, fun i hi => ?_⟩⟩
  rw [hg.cell, Nat.zero_add, List.getElem?_eq_getElem hi]
  simp [List.getD, hi]

/-- a page at the place where it belongs, and none at the other one -/
def vsR (R : Nat) (v : Value) : List Value := if R = 0 then [v, .slice none 0 0] else [.slice none 0 0, v]
def psR (R : Nat) (zs : List Int) : List (List Int) := if R = 0 then [zs, []] else [[], zs]
theorem set_vsR (R : Nat) (v : Value) (hR : R < 2) : [Value.slice none 0 0, .slice none 0 0].set R v = vsR R v := by
  rcases (by omega : R = 0 ∨ R = 1) with rfl | rfl <;> rfl
theorem parts_R {w : World} {g R : Nat} {v : Value} {zs : List Int} (hg : Blk w g 24 (vsR R v)) (hR : R < 2) (h : Sl w v zs) : Parts w (.slice (some ⟨g, 0, none⟩) 2 2) (vsR R v) (psR R zs) := by
  rcases (by omega : R = 0 ∨ R = 1) with rfl | rfl
  · exact parts_blk (vs := [v, .slice none 0 0]) (pss := [zs, []]) hg rfl (by simp) (fun i hi => by
      match i, hi with
      | 0, _ => exact h
      | 1, _ => exact Sl.nil w)
  · exact parts_blk (vs := [.slice none 0 0, v]) (pss := [[], zs]) hg rfl (by simp) (fun i hi => by
      match i, hi with
      | 0, _ => exact Sl.nil w
      | 1, _ => exact h)

theorem choose_two (pages : Int) (a b : List Int) : chooseS pages [a, b] = stepC (stepC ⟨noHd, 0, 60⟩ 0 (atB 0 a pages) (atH 0 a pages)) 1 (atB 1 b pages) (atH 1 b pages) := rfl
theorem choose_R (h : Hd) (hm : mayB h.p h.ms h.us.length = true) (he : h.e < 18446744073709551616) : chooseS h.p (psR (h.e % 2) (layS h)) = ⟨h, ((h.e % 2 : Nat) : Int), 0⟩ := by
  have hs0 := at_short 0 [] h.p (by simp)
  have hs1 := at_short 1 [] h.p (by simp)
  rcases (by omega : h.e % 2 = 0 ∨ h.e % 2 = 1) with hR | hR
  · obtain ⟨h1, h2⟩ := at_lay h hm he 0 h.p
    rw [decide_eq_true ⟨hR, rfl⟩] at h1
    rw [hR]
    show chooseS h.p [layS h, []] = _
    rw [choose_two, h1, h2 hR rfl, stepC_yes rfl (.inl (by simp)), hs1, stepC_no (by simp)]
  · obtain ⟨h1, h2⟩ := at_lay h hm he 1 h.p
    rw [decide_eq_true ⟨hR, rfl⟩] at h1
    rw [hR]
    show chooseS h.p [[], layS h] = _
    have s0 : stepC ⟨noHd, 0, 60⟩ 0 (atB 0 [] h.p) (atH 0 [] h.p) = ⟨noHd, 0, 60⟩ := by rw [hs0]; exact stepC_no (by simp)
    rw [choose_two, s0, h1, h2 hR rfl, stepC_yes rfl (.inl (by simp))]

theorem infoSl : (Tryd.prog.info? 24).map (fun i => (i.zero, i.size, i.bytes)) = some (some (.slice none 0 0), 1, 24) := by kernel_rfl
theorem make_two (wx : World) : (Instr.makeSlice 40 (.int .i64 2) (.int .i64 2)).run Tryd.prog wx = .ok (.slice (some ⟨wx.heap.size, 0, none⟩) 2 2) (wx.alloc (.cells #[.slice none 0 0, .slice none 0 0] 24)) := by
  have := run_make_row' (P := Tryd.prog) 40 24 (.slice none 0 0) 24 Tryd.underlying40 infoSl rfl .i64 .i64 2 (by omega) (by omega) wx
  rw [show madeCells #[Value.slice none 0 0] 2 = #[.slice none 0 0, .slice none 0 0] from Array.toList_inj.1 (toList_madeCells_one _ _)] at this
  exact this

theorem and1R (R : Nat) (hR : R < 2) : bits .and .i64 (R : Int) 1 = (R : Int) := by
  rcases (by omega : R = 0 ∨ R = 1) with rfl | rfl <;> decide

/-- a head that comes in -/
def HdIn (w : World) (v : Value) (h : Hd) : Prop := HdV w v h

def isOwnN (B : Nat) (zs : List Int) : Value → World → Prop := fun v w => ∃ a c, v = .slice a zs.length c ∧ w.ownsRow B 5 1 (.slice a zs.length c) zs.length (zs.map (Value.int .u8))

end Go.Proofs.YtmeiahmolmneeaaDoor
