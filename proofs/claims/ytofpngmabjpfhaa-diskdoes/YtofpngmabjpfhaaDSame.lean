/- Contract: same. -/
import Derived.Test.YtofpngmabjpfhaaDRefN
namespace Go.Proofs.Ytofpngmabjpfhaa
open Go.RowKit
set_option linter.unusedVariables false

section
variable {w : World} {b r : Nat} {F G : Nat → Prop} {d : Dv}
theorem refRead_no (h : Ref w r G d) (p E : Int) (hE : (¬ (0 ≤ p ∧ p < d.st.length) ∧ E = 1) ∨ ((0 ≤ p ∧ p < d.st.length) ∧ d.off = true ∧ E = 5)) : Calls Try.prog 38 #[dp r, .int .i64 p] w fun e w' => e = .returned (.tuple #[.slice none 0 0, .int .i64 E]) ∧ w' = w := by
  rcases hE with ⟨h1, rfl⟩ | ⟨h1, h2, rfl⟩
  · exact refRead_arg w r G d p h h1
  · exact refRead_off w r G d p h h1 h2
theorem read_no (h : Dev w b F d) (p E : Int) (hE : (¬ (0 ≤ p ∧ p < d.st.length) ∧ E = 1) ∨ ((0 ≤ p ∧ p < d.st.length) ∧ d.off = true ∧ E = 5)) : Calls Try.prog 23 #[dp b, .int .i64 p] w fun e w' => e = .returned (.tuple #[.slice none 0 0, .int .i64 E]) ∧ w' = w := by
  rcases hE with ⟨h1, rfl⟩ | ⟨h1, h2, rfl⟩
  · exact read_arg w b F d p h h1
  · exact read_off w b F d p h h1 h2
end
def isBytes (cs : List Value) : Prop := ∀ j, j < 256 → ∃ y : Int, cs[j]? = some (.int .u8 y)
theorem isBytes_set {cs : List Value} (h : isBytes cs) (k : Nat) (y : Int) : isBytes (cs.set k (.int .u8 y)) := by
  intro j hj
  obtain ⟨z, hz⟩ := h j hj
  rw [List.getElem?_set]
  split
  · rename_i e
    subst e
    rw [if_pos (List.getElem?_eq_some_iff.1 hz).1]
    exact ⟨y, rfl⟩
  · exact ⟨z, hz⟩
theorem isBytes_pc {zs : List Int} (h : zs.length = 256) : isBytes (pc zs) := fun j hj => ⟨zs.getD j 0, by unfold pc; rw [List.getElem?_map, List.getElem?_eq_getElem (by omega), List.getD_eq_getElem?_getD, List.getElem?_eq_getElem (by omega)]; rfl⟩

set_option maxHeartbeats 2000000 in
set_option maxRecDepth 20000 in
theorem same_no (w : World) (b r : Nat) (F G : Nat → Prop) (d : Dv) (p E : Int) (hD : Dev w b F d) (hR : Ref w r G d) (hE : (¬ (0 ≤ p ∧ p < d.st.length) ∧ E = 1) ∨ ((0 ≤ p ∧ p < d.st.length) ∧ d.off = true ∧ E = 5)) :
    Calls Try.prog 13 #[dp b, dp r, .int .i64 p] w fun e w' => e = .returned (.bool true) ∧ Below w.heap.size w w' := by
  have H1 := hide (read_no hD p E hE)
  have H2 := hide (refRead_no hR p E hE)
  have H3 := hide (read_no hD p E hE)
  have HD := hide hD
  have HSm : Hid (∀ wx, Only (fun _ => False) w wx → Calls Try.prog 18 #[.slice none 0 0, .slice none 0 0] wx fun e w' => e = .returned (.bool true) ∧ Below wx.heap.size wx w') := fun wx _ => by
    have := refSame_any wx (.slice none 0 0) (.slice none 0 0) [] [] (Sl.nil wx) (Sl.nil wx)
    rwa [decide_eq_true rfl] at this
  have HDx : Hid (∀ wx, Only (fun _ => False) w wx → Dev wx b F d) := fun wx hx => hD.keep hx (fun _ _ h => h)
  obtain ⟨sv, wv, svs, wvs, h⟩ := hR
  obtain ⟨asv, csv, rfl⟩ := own_form' h.st
  obtain ⟨aw, cw, rfl⟩ := own_form' h.ws
  have HC : Hid (∀ wx, Only (fun _ => False) w wx → wx.cell? ⟨r, 0, none⟩ = some (.slice asv d.st.length csv) ∧ wx.cell? ⟨r, 1, none⟩ = some (.slice aw d.ws.length cw) ∧ wx.cell? ⟨r, 3, none⟩ = some (.bool d.off) ∧ wx.cell? ⟨r, 4, none⟩ = some (.int .i64 d.done)) := fun wx hx => ⟨(Blk.only h.blk hx (fun h => h)).cell 0, (Blk.only h.blk hx (fun h => h)).cell 1, (Blk.only h.blk hx (fun h => h)).cell 3, (Blk.only h.blk hx (fun h => h)).cell 4⟩
  clear h hD hE HD
  go_enter Try.func13, Try.ntmps13
  go_wp2_with (first
    | (go_at_call 23; refine H1.out.mono ?_; rintro e w1 ⟨rfl, hw⟩; subst w1; clear H1)
    | (go_at_call 38; refine H2.out.mono ?_; rintro e w1 ⟨rfl, hw⟩; subst w1; clear H2)
    | (go_at_call 23; refine H3.out.mono ?_; rintro e w1 ⟨rfl, hw⟩; subst w1; clear H3))
  go_loopg [28] 0 (fun g i wr => g = 0 ∧ i = .int .i64 0 ∧ w = wr)
  case atStart => exact ⟨rfl, rfl, rfl⟩
  case round =>
    obtain ⟨rfl, rfl, rfl⟩ := hrel
    go_wp2_with (go_at_call 23; refine H3.out.mono ?_; rintro e w1 ⟨rfl, hw⟩; subst w1; clear H3)
    refine wp_region_only (fun _ => False) [isV (.pointer (some ⟨b, 0, none⟩)), isV (.bool (!d.off)), isV (.pointer (some ⟨r, 0, none⟩)), isV (.pointer (some ⟨r, 0, none⟩)), isV (.pointer (some ⟨r, 3, none⟩)), isV (.bool d.off), isV (.bool (!d.off)), isV (.bool true), isV (.bool true), isV (.pointer (some ⟨b, 0, none⟩)), isV (.int .i64 (d.ws.length : Int)), isV (.pointer (some ⟨r, 0, none⟩)), isV (.pointer (some ⟨r, 0, none⟩)), isV (.pointer (some ⟨r, 1, none⟩)), isV (.slice aw d.ws.length cw), isV (.int .i64 (d.ws.length : Int)), isV (.bool true), isV (.bool true), isV (.bool true), isV (.pointer (some ⟨b, 0, none⟩)), isV (.int .i64 (d.done : Int)), isV (.pointer (some ⟨r, 0, none⟩)), isV (.pointer (some ⟨r, 0, none⟩)), isV (.pointer (some ⟨r, 4, none⟩)), isV (.int .i64 (d.done : Int)), isV (.bool true), isV (.bool true), isV (.bool true), isV (.pointer (some ⟨b, 0, none⟩)), isV (.int .i64 (d.st.length : Int)), isV (.pointer (some ⟨r, 0, none⟩)), isV (.pointer (some ⟨r, 0, none⟩)), isV (.pointer (some ⟨r, 0, none⟩)), isV (.slice asv d.st.length csv), isV (.int .i64 (d.st.length : Int)), isV (.bool true), isV (.bool true), isV (.bool true), isV (.int .i64 E), isV (.int .i64 E), isV (.bool true), isV (.bool true), isV (.bool true), isV (.slice none 0 0), isV (.int .i64 (0 : Int)), isV (.slice none 0 0), isV (.int .i64 (0 : Int)), isV (.bool true), isV (.bool true), isV (.bool true), isV (.slice none 0 0), isV (.slice none 0 0), isV (.bool true), isV (.bool true)] 99 98 54 (by kernel_rfl) (by kernel_rfl) (by kernel_rfl) (by kernel_rfl) rfl ?_ ?_ ?_
    · repeat (first | exact trivial | refine allStL_isV ?_)
    · refine ⟨?_, ?_, ?_, ?_, ?_, ?_, ?_, ?_, ?_, ?_, ?_, ?_, ?_, ?_, ?_, ?_, ?_, ?_, ?_, ?_, ?_, ?_, ?_, ?_, ?_, ?_, ?_, ?_, ?_, ?_, ?_, ?_, ?_, ?_, ?_, ?_, ?_, ?_, ?_, ?_, ?_, ?_, ?_, ?_, ?_, ?_, ?_, ?_, ?_, ?_, ?_, ?_, ?_, ?_, trivial⟩
      · intro a wx h
        have e0 : a.eval (.tmp 0) = .pointer (some ⟨b, 0, none⟩) := h.old 0 (by kernel_rfl)
        have hrel := h.rel
        clear h
        refine gives_by rfl a.eval rfl ?_
        generalize a.eval = ρ at *
        intro hf hc
        go_simp
        exact ⟨relM_quiet (by decide) (Only.refl _ _), rfl⟩
      · intro a wx h
        obtain ⟨v44, e44, f44⟩ := h.val 0 44 (by kernel_rfl)
        obtain rfl : v44 = .pointer (some ⟨b, 0, none⟩) := f44
        have hrel := h.rel
        clear h
        refine gives_by rfl a.eval rfl ?_
        generalize a.eval = ρ at *
        intro hf hc
        go_simp
        refine (on_any wx b F d (HDx.out wx hrel)).mono ?_
        rintro e wy ⟨rfl, hww⟩
        subst hww
        exact ⟨_, rfl, relM_quiet (by decide) (Only.refl _ _), rfl⟩
      · intro a wx h
        have e1 : a.eval (.tmp 1) = .pointer (some ⟨r, 0, none⟩) := h.old 1 (by kernel_rfl)
        have hrel := h.rel
        clear h
        refine gives_by rfl a.eval rfl ?_
        generalize a.eval = ρ at *
        intro hf hc
        go_simp
        exact ⟨relM_quiet (by decide) (Only.refl _ _), rfl⟩
      · intro a wx h
        obtain ⟨v46, e46, f46⟩ := h.val 2 46 (by kernel_rfl)
        obtain rfl : v46 = .pointer (some ⟨r, 0, none⟩) := f46
        have hrel := h.rel
        clear h
        refine gives_by rfl a.eval rfl ?_
        generalize a.eval = ρ at *
        intro hf hc
        go_simp
        exact ⟨relM_quiet (by decide) (Only.refl _ _), rfl⟩
      · intro a wx h
        obtain ⟨v47, e47, f47⟩ := h.val 3 47 (by kernel_rfl)
        obtain rfl : v47 = .pointer (some ⟨r, 0, none⟩) := f47
        have hrel := h.rel
        clear h
        refine gives_by rfl a.eval rfl ?_
        generalize a.eval = ρ at *
        intro hf hc
        go_simp
        exact ⟨relM_quiet (by decide) (Only.refl _ _), rfl⟩
      · intro a wx h
        obtain ⟨v48, e48, f48⟩ := h.val 4 48 (by kernel_rfl)
        obtain rfl : v48 = .pointer (some ⟨r, 3, none⟩) := f48
        have hrel := h.rel
        clear h
        have cx := (HC.out wx hrel).2.2.1
        refine gives_by rfl a.eval rfl ?_
        generalize a.eval = ρ at *
        intro hf hc
        go_simp
        exact ⟨relM_quiet (by decide) (Only.refl _ _), rfl⟩
      · intro a wx h
        obtain ⟨v49, e49, f49⟩ := h.val 5 49 (by kernel_rfl)
        obtain rfl : v49 = .bool d.off := f49
        have hrel := h.rel
        clear h
        refine gives_by rfl a.eval rfl ?_
        generalize a.eval = ρ at *
        intro hf hc
        go_simp
        exact ⟨relM_quiet (by decide) (Only.refl _ _), rfl⟩
      · intro a wx h
        obtain ⟨v45, e45, f45⟩ := h.val 1 45 (by kernel_rfl)
        obtain rfl : v45 = .bool (!d.off) := f45
        obtain ⟨v50, e50, f50⟩ := h.val 6 50 (by kernel_rfl)
        obtain rfl : v50 = .bool (!d.off) := f50
        have hrel := h.rel
        clear h
        refine gives_by rfl a.eval rfl ?_
        generalize a.eval = ρ at *
        intro hf hc
        go_simp
        exact ⟨relM_quiet (by decide) (Only.refl _ _), rfl⟩
      · intro a wx h
        obtain ⟨v51, e51, f51⟩ := h.val 7 51 (by kernel_rfl)
        obtain rfl : v51 = .bool true := f51
        have hrel := h.rel
        clear h
        refine gives_by rfl a.eval rfl ?_
        generalize a.eval = ρ at *
        intro hf hc
        go_simp
        exact ⟨relM_quiet (by decide) (Only.refl _ _), rfl⟩
      · intro a wx h
        have e0 : a.eval (.tmp 0) = .pointer (some ⟨b, 0, none⟩) := h.old 0 (by kernel_rfl)
        have hg := h.guard 8 52 (by kernel_rfl) true (fun v hv => hv)
        have hrel := h.rel
        clear h
        refine gives_by (by simp only [Region.wanted, hg]; rfl) a.eval rfl ?_
        generalize a.eval = ρ at *
        intro hf hc
        go_simp
        exact ⟨relM_quiet (by decide) (Only.refl _ _), rfl⟩
      · intro a wx h
        obtain ⟨v53, e53, f53⟩ := h.val 9 53 (by kernel_rfl)
        obtain rfl : v53 = .pointer (some ⟨b, 0, none⟩) := f53
        have hg := h.guard 8 52 (by kernel_rfl) true (fun v hv => hv)
        have hrel := h.rel
        clear h
        refine gives_by (by simp only [Region.wanted, hg]; rfl) a.eval rfl ?_
        generalize a.eval = ρ at *
        intro hf hc
        go_simp
        refine (waits_any wx b F d (HDx.out wx hrel)).mono ?_
        rintro e wy ⟨rfl, hww⟩
        subst hww
        exact ⟨_, rfl, relM_quiet (by decide) (Only.refl _ _), rfl⟩
      · intro a wx h
        have e1 : a.eval (.tmp 1) = .pointer (some ⟨r, 0, none⟩) := h.old 1 (by kernel_rfl)
        have hg := h.guard 8 52 (by kernel_rfl) true (fun v hv => hv)
        have hrel := h.rel
        clear h
        refine gives_by (by simp only [Region.wanted, hg]; rfl) a.eval rfl ?_
        generalize a.eval = ρ at *
        intro hf hc
        go_simp
        exact ⟨relM_quiet (by decide) (Only.refl _ _), rfl⟩
      · intro a wx h
        obtain ⟨v55, e55, f55⟩ := h.val 11 55 (by kernel_rfl)
        obtain rfl : v55 = .pointer (some ⟨r, 0, none⟩) := f55
        have hg := h.guard 8 52 (by kernel_rfl) true (fun v hv => hv)
        have hrel := h.rel
        clear h
        refine gives_by (by simp only [Region.wanted, hg]; rfl) a.eval rfl ?_
        generalize a.eval = ρ at *
        intro hf hc
        go_simp
        exact ⟨relM_quiet (by decide) (Only.refl _ _), rfl⟩
      · intro a wx h
        obtain ⟨v56, e56, f56⟩ := h.val 12 56 (by kernel_rfl)
        obtain rfl : v56 = .pointer (some ⟨r, 0, none⟩) := f56
        have hg := h.guard 8 52 (by kernel_rfl) true (fun v hv => hv)
        have hrel := h.rel
        clear h
        refine gives_by (by simp only [Region.wanted, hg]; rfl) a.eval rfl ?_
        generalize a.eval = ρ at *
        intro hf hc
        go_simp
        exact ⟨relM_quiet (by decide) (Only.refl _ _), rfl⟩
      · intro a wx h
        obtain ⟨v57, e57, f57⟩ := h.val 13 57 (by kernel_rfl)
        obtain rfl : v57 = .pointer (some ⟨r, 1, none⟩) := f57
        have hg := h.guard 8 52 (by kernel_rfl) true (fun v hv => hv)
        have hrel := h.rel
        clear h
        have cx := (HC.out wx hrel).2.1
        refine gives_by (by simp only [Region.wanted, hg]; rfl) a.eval rfl ?_
        generalize a.eval = ρ at *
        intro hf hc
        go_simp
        exact ⟨relM_quiet (by decide) (Only.refl _ _), rfl⟩
      · intro a wx h
        obtain ⟨v58, e58, f58⟩ := h.val 14 58 (by kernel_rfl)
        obtain rfl : v58 = .slice aw d.ws.length cw := f58
        have hg := h.guard 8 52 (by kernel_rfl) true (fun v hv => hv)
        have hrel := h.rel
        clear h
        refine gives_by (by simp only [Region.wanted, hg]; rfl) a.eval rfl ?_
        generalize a.eval = ρ at *
        intro hf hc
        go_simp
        exact ⟨relM_quiet (by decide) (Only.refl _ _), rfl⟩
      · intro a wx h
        obtain ⟨v54, e54, f54⟩ := h.val 10 54 (by kernel_rfl)
        obtain rfl : v54 = .int .i64 (d.ws.length : Int) := f54
        obtain ⟨v59, e59, f59⟩ := h.val 15 59 (by kernel_rfl)
        obtain rfl : v59 = .int .i64 (d.ws.length : Int) := f59
        have hg := h.guard 8 52 (by kernel_rfl) true (fun v hv => hv)
        have hrel := h.rel
        clear h
        refine gives_by (by simp only [Region.wanted, hg]; rfl) a.eval rfl ?_
        generalize a.eval = ρ at *
        intro hf hc
        go_simp
        exact ⟨relM_quiet (by decide) (Only.refl _ _), rfl⟩
      · intro a wx h
        obtain ⟨v52, e52, f52⟩ := h.val 8 52 (by kernel_rfl)
        obtain rfl : v52 = .bool true := f52
        obtain ⟨v60, e60, f60⟩ := h.val 16 60 (by kernel_rfl)
        obtain rfl : v60 = .bool true := f60
        have hrel := h.rel
        clear h
        refine gives_by rfl a.eval rfl ?_
        generalize a.eval = ρ at *
        intro hf hc
        go_simp
        exact ⟨relM_quiet (by decide) (Only.refl _ _), rfl⟩
      · intro a wx h
        obtain ⟨v61, e61, f61⟩ := h.val 17 61 (by kernel_rfl)
        obtain rfl : v61 = .bool true := f61
        have hrel := h.rel
        clear h
        refine gives_by rfl a.eval rfl ?_
        generalize a.eval = ρ at *
        intro hf hc
        go_simp
        exact ⟨relM_quiet (by decide) (Only.refl _ _), rfl⟩
      · intro a wx h
        have e0 : a.eval (.tmp 0) = .pointer (some ⟨b, 0, none⟩) := h.old 0 (by kernel_rfl)
        have hg := h.guard 18 62 (by kernel_rfl) true (fun v hv => hv)
        have hrel := h.rel
        clear h
        refine gives_by (by simp only [Region.wanted, hg]; rfl) a.eval rfl ?_
        generalize a.eval = ρ at *
        intro hf hc
        go_simp
        exact ⟨relM_quiet (by decide) (Only.refl _ _), rfl⟩
      · intro a wx h
        obtain ⟨v63, e63, f63⟩ := h.val 19 63 (by kernel_rfl)
        obtain rfl : v63 = .pointer (some ⟨b, 0, none⟩) := f63
        have hg := h.guard 18 62 (by kernel_rfl) true (fun v hv => hv)
        have hrel := h.rel
        clear h
        refine gives_by (by simp only [Region.wanted, hg]; rfl) a.eval rfl ?_
        generalize a.eval = ρ at *
        intro hf hc
        go_simp
        refine (ops_any wx b F d (HDx.out wx hrel)).mono ?_
        rintro e wy ⟨rfl, hww⟩
        subst hww
        exact ⟨_, rfl, relM_quiet (by decide) (Only.refl _ _), rfl⟩
      · intro a wx h
        have e1 : a.eval (.tmp 1) = .pointer (some ⟨r, 0, none⟩) := h.old 1 (by kernel_rfl)
        have hg := h.guard 18 62 (by kernel_rfl) true (fun v hv => hv)
        have hrel := h.rel
        clear h
        refine gives_by (by simp only [Region.wanted, hg]; rfl) a.eval rfl ?_
        generalize a.eval = ρ at *
        intro hf hc
        go_simp
        exact ⟨relM_quiet (by decide) (Only.refl _ _), rfl⟩
      · intro a wx h
        obtain ⟨v65, e65, f65⟩ := h.val 21 65 (by kernel_rfl)
        obtain rfl : v65 = .pointer (some ⟨r, 0, none⟩) := f65
        have hg := h.guard 18 62 (by kernel_rfl) true (fun v hv => hv)
        have hrel := h.rel
        clear h
        refine gives_by (by simp only [Region.wanted, hg]; rfl) a.eval rfl ?_
        generalize a.eval = ρ at *
        intro hf hc
        go_simp
        exact ⟨relM_quiet (by decide) (Only.refl _ _), rfl⟩
      · intro a wx h
        obtain ⟨v66, e66, f66⟩ := h.val 22 66 (by kernel_rfl)
        obtain rfl : v66 = .pointer (some ⟨r, 0, none⟩) := f66
        have hg := h.guard 18 62 (by kernel_rfl) true (fun v hv => hv)
        have hrel := h.rel
        clear h
        refine gives_by (by simp only [Region.wanted, hg]; rfl) a.eval rfl ?_
        generalize a.eval = ρ at *
        intro hf hc
        go_simp
        exact ⟨relM_quiet (by decide) (Only.refl _ _), rfl⟩
      · intro a wx h
        obtain ⟨v67, e67, f67⟩ := h.val 23 67 (by kernel_rfl)
        obtain rfl : v67 = .pointer (some ⟨r, 4, none⟩) := f67
        have hg := h.guard 18 62 (by kernel_rfl) true (fun v hv => hv)
        have hrel := h.rel
        clear h
        have cx := (HC.out wx hrel).2.2.2
        refine gives_by (by simp only [Region.wanted, hg]; rfl) a.eval rfl ?_
        generalize a.eval = ρ at *
        intro hf hc
        go_simp
        exact ⟨relM_quiet (by decide) (Only.refl _ _), rfl⟩
      · intro a wx h
        obtain ⟨v64, e64, f64⟩ := h.val 20 64 (by kernel_rfl)
        obtain rfl : v64 = .int .i64 (d.done : Int) := f64
        obtain ⟨v68, e68, f68⟩ := h.val 24 68 (by kernel_rfl)
        obtain rfl : v68 = .int .i64 (d.done : Int) := f68
        have hg := h.guard 18 62 (by kernel_rfl) true (fun v hv => hv)
        have hrel := h.rel
        clear h
        refine gives_by (by simp only [Region.wanted, hg]; rfl) a.eval rfl ?_
        generalize a.eval = ρ at *
        intro hf hc
        go_simp
        exact ⟨relM_quiet (by decide) (Only.refl _ _), rfl⟩
      · intro a wx h
        obtain ⟨v62, e62, f62⟩ := h.val 18 62 (by kernel_rfl)
        obtain rfl : v62 = .bool true := f62
        obtain ⟨v69, e69, f69⟩ := h.val 25 69 (by kernel_rfl)
        obtain rfl : v69 = .bool true := f69
        have hrel := h.rel
        clear h
        refine gives_by rfl a.eval rfl ?_
        generalize a.eval = ρ at *
        intro hf hc
        go_simp
        exact ⟨relM_quiet (by decide) (Only.refl _ _), rfl⟩
      · intro a wx h
        obtain ⟨v70, e70, f70⟩ := h.val 26 70 (by kernel_rfl)
        obtain rfl : v70 = .bool true := f70
        have hrel := h.rel
        clear h
        refine gives_by rfl a.eval rfl ?_
        generalize a.eval = ρ at *
        intro hf hc
        go_simp
        exact ⟨relM_quiet (by decide) (Only.refl _ _), rfl⟩
      · intro a wx h
        have e0 : a.eval (.tmp 0) = .pointer (some ⟨b, 0, none⟩) := h.old 0 (by kernel_rfl)
        have hg := h.guard 27 71 (by kernel_rfl) true (fun v hv => hv)
        have hrel := h.rel
        clear h
        refine gives_by (by simp only [Region.wanted, hg]; rfl) a.eval rfl ?_
        generalize a.eval = ρ at *
        intro hf hc
        go_simp
        exact ⟨relM_quiet (by decide) (Only.refl _ _), rfl⟩
      · intro a wx h
        obtain ⟨v72, e72, f72⟩ := h.val 28 72 (by kernel_rfl)
        obtain rfl : v72 = .pointer (some ⟨b, 0, none⟩) := f72
        have hg := h.guard 27 71 (by kernel_rfl) true (fun v hv => hv)
        have hrel := h.rel
        clear h
        refine gives_by (by simp only [Region.wanted, hg]; rfl) a.eval rfl ?_
        generalize a.eval = ρ at *
        intro hf hc
        go_simp
        refine (pages_any wx b F d (HDx.out wx hrel)).mono ?_
        rintro e wy ⟨rfl, hww⟩
        subst hww
        exact ⟨_, rfl, relM_quiet (by decide) (Only.refl _ _), rfl⟩
      · intro a wx h
        have e1 : a.eval (.tmp 1) = .pointer (some ⟨r, 0, none⟩) := h.old 1 (by kernel_rfl)
        have hg := h.guard 27 71 (by kernel_rfl) true (fun v hv => hv)
        have hrel := h.rel
        clear h
        refine gives_by (by simp only [Region.wanted, hg]; rfl) a.eval rfl ?_
        generalize a.eval = ρ at *
        intro hf hc
        go_simp
        exact ⟨relM_quiet (by decide) (Only.refl _ _), rfl⟩
      · intro a wx h
        obtain ⟨v74, e74, f74⟩ := h.val 30 74 (by kernel_rfl)
        obtain rfl : v74 = .pointer (some ⟨r, 0, none⟩) := f74
        have hg := h.guard 27 71 (by kernel_rfl) true (fun v hv => hv)
        have hrel := h.rel
        clear h
        refine gives_by (by simp only [Region.wanted, hg]; rfl) a.eval rfl ?_
        generalize a.eval = ρ at *
        intro hf hc
        go_simp
        exact ⟨relM_quiet (by decide) (Only.refl _ _), rfl⟩
      · intro a wx h
        obtain ⟨v75, e75, f75⟩ := h.val 31 75 (by kernel_rfl)
        obtain rfl : v75 = .pointer (some ⟨r, 0, none⟩) := f75
        have hg := h.guard 27 71 (by kernel_rfl) true (fun v hv => hv)
        have hrel := h.rel
        clear h
        refine gives_by (by simp only [Region.wanted, hg]; rfl) a.eval rfl ?_
        generalize a.eval = ρ at *
        intro hf hc
        go_simp
        exact ⟨relM_quiet (by decide) (Only.refl _ _), rfl⟩
      · intro a wx h
        obtain ⟨v76, e76, f76⟩ := h.val 32 76 (by kernel_rfl)
        obtain rfl : v76 = .pointer (some ⟨r, 0, none⟩) := f76
        have hg := h.guard 27 71 (by kernel_rfl) true (fun v hv => hv)
        have hrel := h.rel
        clear h
        have cx := (HC.out wx hrel).1
        refine gives_by (by simp only [Region.wanted, hg]; rfl) a.eval rfl ?_
        generalize a.eval = ρ at *
        intro hf hc
        go_simp
        exact ⟨relM_quiet (by decide) (Only.refl _ _), rfl⟩
      · intro a wx h
        obtain ⟨v77, e77, f77⟩ := h.val 33 77 (by kernel_rfl)
        obtain rfl : v77 = .slice asv d.st.length csv := f77
        have hg := h.guard 27 71 (by kernel_rfl) true (fun v hv => hv)
        have hrel := h.rel
        clear h
        refine gives_by (by simp only [Region.wanted, hg]; rfl) a.eval rfl ?_
        generalize a.eval = ρ at *
        intro hf hc
        go_simp
        exact ⟨relM_quiet (by decide) (Only.refl _ _), rfl⟩
      · intro a wx h
        obtain ⟨v73, e73, f73⟩ := h.val 29 73 (by kernel_rfl)
        obtain rfl : v73 = .int .i64 (d.st.length : Int) := f73
        obtain ⟨v78, e78, f78⟩ := h.val 34 78 (by kernel_rfl)
        obtain rfl : v78 = .int .i64 (d.st.length : Int) := f78
        have hg := h.guard 27 71 (by kernel_rfl) true (fun v hv => hv)
        have hrel := h.rel
        clear h
        refine gives_by (by simp only [Region.wanted, hg]; rfl) a.eval rfl ?_
        generalize a.eval = ρ at *
        intro hf hc
        go_simp
        exact ⟨relM_quiet (by decide) (Only.refl _ _), rfl⟩
      · intro a wx h
        obtain ⟨v71, e71, f71⟩ := h.val 27 71 (by kernel_rfl)
        obtain rfl : v71 = .bool true := f71
        obtain ⟨v79, e79, f79⟩ := h.val 35 79 (by kernel_rfl)
        obtain rfl : v79 = .bool true := f79
        have hrel := h.rel
        clear h
        refine gives_by rfl a.eval rfl ?_
        generalize a.eval = ρ at *
        intro hf hc
        go_simp
        exact ⟨relM_quiet (by decide) (Only.refl _ _), rfl⟩
      · intro a wx h
        obtain ⟨v80, e80, f80⟩ := h.val 36 80 (by kernel_rfl)
        obtain rfl : v80 = .bool true := f80
        have hrel := h.rel
        clear h
        refine gives_by rfl a.eval rfl ?_
        generalize a.eval = ρ at *
        intro hf hc
        go_simp
        exact ⟨relM_quiet (by decide) (Only.refl _ _), rfl⟩
      · intro a wx h
        have e8 : a.eval (.tmp 8) = .int .i64 E := h.old 8 (by kernel_rfl)
        have hg := h.guard 37 81 (by kernel_rfl) true (fun v hv => hv)
        have hrel := h.rel
        clear h
        refine gives_by (by simp only [Region.wanted, hg]; rfl) a.eval rfl ?_
        generalize a.eval = ρ at *
        intro hf hc
        go_simp
        exact ⟨relM_quiet (by decide) (Only.refl _ _), rfl⟩
      · intro a wx h
        have e10 : a.eval (.tmp 10) = .int .i64 E := h.old 10 (by kernel_rfl)
        have hg := h.guard 37 81 (by kernel_rfl) true (fun v hv => hv)
        have hrel := h.rel
        clear h
        refine gives_by (by simp only [Region.wanted, hg]; rfl) a.eval rfl ?_
        generalize a.eval = ρ at *
        intro hf hc
        go_simp
        exact ⟨relM_quiet (by decide) (Only.refl _ _), rfl⟩
      · intro a wx h
        obtain ⟨v82, e82, f82⟩ := h.val 38 82 (by kernel_rfl)
        obtain rfl : v82 = .int .i64 E := f82
        obtain ⟨v83, e83, f83⟩ := h.val 39 83 (by kernel_rfl)
        obtain rfl : v83 = .int .i64 E := f83
        have hg := h.guard 37 81 (by kernel_rfl) true (fun v hv => hv)
        have hrel := h.rel
        clear h
        refine gives_by (by simp only [Region.wanted, hg]; rfl) a.eval rfl ?_
        generalize a.eval = ρ at *
        intro hf hc
        go_simp
        exact ⟨relM_quiet (by decide) (Only.refl _ _), rfl⟩
      · intro a wx h
        obtain ⟨v81, e81, f81⟩ := h.val 37 81 (by kernel_rfl)
        obtain rfl : v81 = .bool true := f81
        obtain ⟨v84, e84, f84⟩ := h.val 40 84 (by kernel_rfl)
        obtain rfl : v84 = .bool true := f84
        have hrel := h.rel
        clear h
        refine gives_by rfl a.eval rfl ?_
        generalize a.eval = ρ at *
        intro hf hc
        go_simp
        exact ⟨relM_quiet (by decide) (Only.refl _ _), rfl⟩
      · intro a wx h
        obtain ⟨v85, e85, f85⟩ := h.val 41 85 (by kernel_rfl)
        obtain rfl : v85 = .bool true := f85
        have hrel := h.rel
        clear h
        refine gives_by rfl a.eval rfl ?_
        generalize a.eval = ρ at *
        intro hf hc
        go_simp
        exact ⟨relM_quiet (by decide) (Only.refl _ _), rfl⟩
      · intro a wx h
        have e7 : a.eval (.tmp 7) = .slice none 0 0 := h.old 7 (by kernel_rfl)
        have hg := h.guard 42 86 (by kernel_rfl) true (fun v hv => hv)
        have hrel := h.rel
        clear h
        refine gives_by (by simp only [Region.wanted, hg]; rfl) a.eval rfl ?_
        generalize a.eval = ρ at *
        intro hf hc
        go_simp
        exact ⟨relM_quiet (by decide) (Only.refl _ _), rfl⟩
      · intro a wx h
        obtain ⟨v87, e87, f87⟩ := h.val 43 87 (by kernel_rfl)
        obtain rfl : v87 = .slice none 0 0 := f87
        have hg := h.guard 42 86 (by kernel_rfl) true (fun v hv => hv)
        have hrel := h.rel
        clear h
        refine gives_by (by simp only [Region.wanted, hg]; rfl) a.eval rfl ?_
        generalize a.eval = ρ at *
        intro hf hc
        go_simp
        exact ⟨relM_quiet (by decide) (Only.refl _ _), rfl⟩
      · intro a wx h
        have e9 : a.eval (.tmp 9) = .slice none 0 0 := h.old 9 (by kernel_rfl)
        have hg := h.guard 42 86 (by kernel_rfl) true (fun v hv => hv)
        have hrel := h.rel
        clear h
        refine gives_by (by simp only [Region.wanted, hg]; rfl) a.eval rfl ?_
        generalize a.eval = ρ at *
        intro hf hc
        go_simp
        exact ⟨relM_quiet (by decide) (Only.refl _ _), rfl⟩
      · intro a wx h
        obtain ⟨v89, e89, f89⟩ := h.val 45 89 (by kernel_rfl)
        obtain rfl : v89 = .slice none 0 0 := f89
        have hg := h.guard 42 86 (by kernel_rfl) true (fun v hv => hv)
        have hrel := h.rel
        clear h
        refine gives_by (by simp only [Region.wanted, hg]; rfl) a.eval rfl ?_
        generalize a.eval = ρ at *
        intro hf hc
        go_simp
        exact ⟨relM_quiet (by decide) (Only.refl _ _), rfl⟩
      · intro a wx h
        obtain ⟨v88, e88, f88⟩ := h.val 44 88 (by kernel_rfl)
        obtain rfl : v88 = .int .i64 (0 : Int) := f88
        obtain ⟨v90, e90, f90⟩ := h.val 46 90 (by kernel_rfl)
        obtain rfl : v90 = .int .i64 (0 : Int) := f90
        have hg := h.guard 42 86 (by kernel_rfl) true (fun v hv => hv)
        have hrel := h.rel
        clear h
        refine gives_by (by simp only [Region.wanted, hg]; rfl) a.eval rfl ?_
        generalize a.eval = ρ at *
        intro hf hc
        go_simp
        exact ⟨relM_quiet (by decide) (Only.refl _ _), rfl⟩
      · intro a wx h
        obtain ⟨v86, e86, f86⟩ := h.val 42 86 (by kernel_rfl)
        obtain rfl : v86 = .bool true := f86
        obtain ⟨v91, e91, f91⟩ := h.val 47 91 (by kernel_rfl)
        obtain rfl : v91 = .bool true := f91
        have hrel := h.rel
        clear h
        refine gives_by rfl a.eval rfl ?_
        generalize a.eval = ρ at *
        intro hf hc
        go_simp
        exact ⟨relM_quiet (by decide) (Only.refl _ _), rfl⟩
      · intro a wx h
        obtain ⟨v92, e92, f92⟩ := h.val 48 92 (by kernel_rfl)
        obtain rfl : v92 = .bool true := f92
        have hrel := h.rel
        clear h
        refine gives_by rfl a.eval rfl ?_
        generalize a.eval = ρ at *
        intro hf hc
        go_simp
        exact ⟨relM_quiet (by decide) (Only.refl _ _), rfl⟩
      · intro a wx h
        have e12 : a.eval (.tmp 12) = .slice none 0 0 := h.old 12 (by kernel_rfl)
        have hg := h.guard 49 93 (by kernel_rfl) true (fun v hv => hv)
        have hrel := h.rel
        clear h
        refine gives_by (by simp only [Region.wanted, hg]; rfl) a.eval rfl ?_
        generalize a.eval = ρ at *
        intro hf hc
        go_simp
        exact ⟨relM_quiet (by decide) (Only.refl _ _), rfl⟩
      · intro a wx h
        have e9 : a.eval (.tmp 9) = .slice none 0 0 := h.old 9 (by kernel_rfl)
        have hg := h.guard 49 93 (by kernel_rfl) true (fun v hv => hv)
        have hrel := h.rel
        clear h
        refine gives_by (by simp only [Region.wanted, hg]; rfl) a.eval rfl ?_
        generalize a.eval = ρ at *
        intro hf hc
        go_simp
        exact ⟨relM_quiet (by decide) (Only.refl _ _), rfl⟩
      · intro a wx h
        obtain ⟨v94, e94, f94⟩ := h.val 50 94 (by kernel_rfl)
        obtain rfl : v94 = .slice none 0 0 := f94
        obtain ⟨v95, e95, f95⟩ := h.val 51 95 (by kernel_rfl)
        obtain rfl : v95 = .slice none 0 0 := f95
        have hg := h.guard 49 93 (by kernel_rfl) true (fun v hv => hv)
        have hrel := h.rel
        clear h
        refine gives_by (by simp only [Region.wanted, hg]; rfl) a.eval rfl ?_
        generalize a.eval = ρ at *
        intro hf hc
        go_simp
        refine (HSm.out wx hrel).mono ?_
        rintro e wy ⟨rfl, hb⟩
        exact ⟨_, rfl, relM_quiet (by decide) (Only.of_below _ hb), rfl⟩
      · intro a wx h
        obtain ⟨v93, e93, f93⟩ := h.val 49 93 (by kernel_rfl)
        obtain rfl : v93 = .bool true := f93
        obtain ⟨v96, e96, f96⟩ := h.val 52 96 (by kernel_rfl)
        obtain rfl : v96 = .bool true := f96
        have hrel := h.rel
        clear h
        refine gives_by rfl a.eval rfl ?_
        generalize a.eval = ρ at *
        intro hf hc
        go_simp
        exact ⟨relM_quiet (by decide) (Only.refl _ _), rfl⟩
    · intro oL hoL vals w3 ho3 hv
      simp only [List.getElem?_toArray, List.getElem?_cons_succ, List.getElem?_cons_zero, Option.some.injEq] at hoL
      subst hoL
      have hv53 : vals 53 = .bool true := hv 53 97 (by decide) (by kernel_rfl)
      clear hv
      generalize hact : putAll _ vals 0 _ = act
      have HO3 := hide (ho3.below (Nat.le_refl _) (fun _ _ h => h))
      clear ho3
      subst hact
      simp only [List.dropLast, putAll, Act.put, List.setIfInBounds_toArray, List.set_cons_zero, List.set_cons_succ, hv53]
      refine gives_of_run rfl (exec_assign (.tmp 97) rfl (.bool true) rfl) ?_
      clear hv53
      go_wp2
      go_ret
      exact ⟨rfl, HO3.out⟩

set_option maxHeartbeats 4000000 in
set_option maxRecDepth 20000 in
theorem same_ok (w : World) (b r : Nat) (F G : Nat → Prop) (d : Dv) (p : Nat) (hD : Dev w b F d) (hR : Ref w r G d) (hp : p < d.st.length) (hon : d.off = false) :
    Calls Try.prog 13 #[dp b, dp r, .int .i64 p] w fun e w' => e = .returned (.bool true) ∧ Below w.heap.size w w' := by
  have hok := hD.ok.shows hp
  have H1 := hide (read_ok w b F d p hD hp hon)
  have H2 : Hid (∀ w1, Below w.heap.size w w1 → Calls Try.prog 38 #[dp r, .int .i64 p] w1 _) := fun w1 hb => refRead_ok w1 r G d p (hR.below hb) hp hon
  have H3 : Hid (∀ w3, Only (fun k => w.heap.size ≤ k) w w3 → Calls Try.prog 23 #[dp b, .int .i64 p] w3 _) := fun w3 ho => read_ok w3 b (fun k => F k ∧ k < w.heap.size) d p (hD.bound.keep ho (fun k hk h => by omega)) hp hon
  have HDy : Hid (∀ w3, Only (fun k => w.heap.size ≤ k) w w3 → Dev w3 b (fun k => F k ∧ k < w.heap.size) d) := fun w3 ho => hD.bound.keep ho (fun k hk h => by omega)
  have HRy : Hid (∀ w3, Only (fun k => w.heap.size ≤ k) w w3 → Ref w3 r (fun k => G k ∧ k < w.heap.size) d) := fun w3 ho => hR.bound.keep ho (fun k hk h => by omega)
  obtain ⟨zs, hzs⟩ : ∃ zs, zs = showsD d p := ⟨_, rfl⟩
  rw [← hzs] at H1 H2 H3 hok
  have HOK := hide hok
  have hz256 := hok.1
  clear hD hR hp hon hzs hok
  go_enter Try.func13, Try.ntmps13
  go_wp2_with (first
    | (go_at_call 23; refine H1.out.mono ?_; rintro e w1 ⟨rfl, hB1, hb1⟩; have HB1 := hide hB1; have Hb1 := hide hb1; clear H1 hB1 hb1)
    | (go_at_call 38; refine (H2.out w1 Hb1.out).mono ?_; rintro e w2 ⟨⟨ab, cb, rfl, hs2, hk2⟩, hb2⟩; have HS2 := hide hs2; have HK2 := hide hk2; have Hb2 := hide hb2; clear H2 hs2 hk2 hb2))
  have hs1 := Hb1.out.size
  have hs2 := Hb2.out.size
  have hlt1 : w.heap.size < w1.heap.size := HB1.out.lt
  have HB2 : Hid (Blk w2 w.heap.size 73 (pc zs)) := HB1.out.below Hb2.out hlt1
  have Hbb2 : Hid (Below w.heap.size w w2) := below_then Hb1.out Hb2.out (Nat.le_refl _)
  clear HB1 Hb2
  go_loopg [28] 256 (fun g i wr => ∃ (k : Nat) (cs : List Value), g + k = 256 ∧ i = .int .i64 k ∧ Blk wr w.heap.size 73 cs ∧ isBytes cs ∧ Only (· = w.heap.size) w2 wr)
  case atStart => exact ⟨0, _, rfl, rfl, HB2.out, isBytes_pc hz256, Only.refl _ _⟩
  case round =>
    obtain ⟨k, cs, hk, rfl, hB, hy, ho⟩ := hrel
    cases gk with
    | succ g =>
      have hk2 : k < 256 := by omega
      have hki : (k : Int) < 256 := by omega
      obtain ⟨y, hyk⟩ := hy k hk2
      have cy := (hB.cell k).trans hyk
      have fy := hB.frozen k
      have HB := hide hB
      have HY := hide hy
      have HO := hide ho
      clear hB hy ho hyk
      go_wp2
      go_roundg g
      case measure => omega
      case rel => exact ⟨k + 1, _, by omega, by go_num, HB.out.set k _, isBytes_set HY.out k _, HO.out.setCell ⟨w.heap.size, k, none⟩ _ (fun _ => rfl)⟩
    | zero =>
      obtain rfl : k = 256 := by omega
      obtain ⟨w3, rfl⟩ : ∃ x, x = wr := ⟨_, rfl⟩
      have hO3 : Only (fun k => w.heap.size ≤ k) w w3 := (Only.of_below _ Hbb2.out).trans ho (fun k hk e => by omega)
      have HO3 := hide hO3
      have hS3 : Sl w3 (.slice ab 256 cb) zs := HS2.out.only ho (fun k hk e => by have := HK2.out k hk; omega)
      have HS3 := hide hS3
      have HBw : Hid (Below w.heap.size w w3) := Hbb2.out.trans (ho.below Hbb2.out.size (fun k hk e => by omega))
      clear hB hy ho hO3 hS3
      go_wp2_with (go_at_call 23; refine (H3.out w3 HO3.out).mono ?_; rintro e w4 ⟨rfl, hB4, hb4⟩; have HB4 := hide hB4; have Hb4 := hide hb4; clear H3 hB4 hb4)
      have hO4 : Only (fun k => w.heap.size ≤ k) w w4 := HO3.out.trans (Only.of_below (fun _ => False) Hb4.out) (fun _ _ h => h.elim)
      have HDx : Hid (∀ wx, Only (fun _ => False) w4 wx → Dev wx b (fun k => F k ∧ k < w.heap.size) d) := fun wx hx => HDy.out wx (hO4.trans hx (fun _ _ h => h.elim))
      have HSm : Hid (∀ wx, Only (fun _ => False) w4 wx → Calls Try.prog 18 #[.slice (some ⟨w3.heap.size, 0, none⟩) 256 256, .slice ab 256 cb] wx fun e w' => e = .returned (.bool true) ∧ Below wx.heap.size wx w') := fun wx hx => by
        have := refSame_any wx _ _ zs zs (sl_page (HB4.out.only hx (fun h => h)) HOK.out) ((HS3.out.below Hb4.out).only hx (fun _ _ h => h))
        rwa [decide_eq_true rfl] at this
      obtain ⟨sv, wv, svs, wvs, h⟩ := HRy.out w4 hO4
      obtain ⟨asv, csv, rfl⟩ := own_form' h.st
      obtain ⟨aw, cw, rfl⟩ := own_form' h.ws
      have HC : Hid (∀ wx, Only (fun _ => False) w4 wx → wx.cell? ⟨r, 0, none⟩ = some (.slice asv d.st.length csv) ∧ wx.cell? ⟨r, 1, none⟩ = some (.slice aw d.ws.length cw) ∧ wx.cell? ⟨r, 3, none⟩ = some (.bool d.off) ∧ wx.cell? ⟨r, 4, none⟩ = some (.int .i64 d.done)) := fun wx hx => ⟨(Blk.only h.blk hx (fun h => h)).cell 0, (Blk.only h.blk hx (fun h => h)).cell 1, (Blk.only h.blk hx (fun h => h)).cell 3, (Blk.only h.blk hx (fun h => h)).cell 4⟩
      have HW4 : Hid (Below w.heap.size w w4) := below_then HBw.out Hb4.out (Nat.le_refl _)
      clear h hO4 HDy HRy HO3 HS3 HBw HB4 Hb4 HS2 HK2 Hbb2 HB2 Hb1
      refine wp_region_only (fun _ => False) [isV (.pointer (some ⟨b, 0, none⟩)), isV (.bool (!d.off)), isV (.pointer (some ⟨r, 0, none⟩)), isV (.pointer (some ⟨r, 0, none⟩)), isV (.pointer (some ⟨r, 3, none⟩)), isV (.bool d.off), isV (.bool (!d.off)), isV (.bool true), isV (.bool true), isV (.pointer (some ⟨b, 0, none⟩)), isV (.int .i64 (d.ws.length : Int)), isV (.pointer (some ⟨r, 0, none⟩)), isV (.pointer (some ⟨r, 0, none⟩)), isV (.pointer (some ⟨r, 1, none⟩)), isV (.slice aw d.ws.length cw), isV (.int .i64 (d.ws.length : Int)), isV (.bool true), isV (.bool true), isV (.bool true), isV (.pointer (some ⟨b, 0, none⟩)), isV (.int .i64 (d.done : Int)), isV (.pointer (some ⟨r, 0, none⟩)), isV (.pointer (some ⟨r, 0, none⟩)), isV (.pointer (some ⟨r, 4, none⟩)), isV (.int .i64 (d.done : Int)), isV (.bool true), isV (.bool true), isV (.bool true), isV (.pointer (some ⟨b, 0, none⟩)), isV (.int .i64 (d.st.length : Int)), isV (.pointer (some ⟨r, 0, none⟩)), isV (.pointer (some ⟨r, 0, none⟩)), isV (.pointer (some ⟨r, 0, none⟩)), isV (.slice asv d.st.length csv), isV (.int .i64 (d.st.length : Int)), isV (.bool true), isV (.bool true), isV (.bool true), isV (.int .i64 0), isV (.int .i64 0), isV (.bool true), isV (.bool true), isV (.bool true), isV (.slice (some ⟨w.heap.size, 0, none⟩) 256 256), isV (.int .i64 (256 : Int)), isV (.slice ab 256 cb), isV (.int .i64 (256 : Int)), isV (.bool true), isV (.bool true), isV (.bool true), isV (.slice (some ⟨w3.heap.size, 0, none⟩) 256 256), isV (.slice ab 256 cb), isV (.bool true), isV (.bool true)] 99 98 54 (by kernel_rfl) (by kernel_rfl) (by kernel_rfl) (by kernel_rfl) rfl ?_ ?_ ?_
      · repeat (first | exact trivial | refine allStL_isV ?_)
      · refine ⟨?_, ?_, ?_, ?_, ?_, ?_, ?_, ?_, ?_, ?_, ?_, ?_, ?_, ?_, ?_, ?_, ?_, ?_, ?_, ?_, ?_, ?_, ?_, ?_, ?_, ?_, ?_, ?_, ?_, ?_, ?_, ?_, ?_, ?_, ?_, ?_, ?_, ?_, ?_, ?_, ?_, ?_, ?_, ?_, ?_, ?_, ?_, ?_, ?_, ?_, ?_, ?_, ?_, ?_, trivial⟩
        · intro a wx h
          have e0 : a.eval (.tmp 0) = .pointer (some ⟨b, 0, none⟩) := h.old 0 (by kernel_rfl)
          have hrel := h.rel
          clear h
          refine gives_by rfl a.eval rfl ?_
          generalize a.eval = ρ at *
          intro hf hc
          go_simp
          exact ⟨relM_quiet (by decide) (Only.refl _ _), rfl⟩
        · intro a wx h
          obtain ⟨v44, e44, f44⟩ := h.val 0 44 (by kernel_rfl)
          obtain rfl : v44 = .pointer (some ⟨b, 0, none⟩) := f44
          have hrel := h.rel
          clear h
          refine gives_by rfl a.eval rfl ?_
          generalize a.eval = ρ at *
          intro hf hc
          go_simp
          refine (on_any wx b _ d (HDx.out wx hrel)).mono ?_
          rintro e wy ⟨rfl, hww⟩
          subst hww
          exact ⟨_, rfl, relM_quiet (by decide) (Only.refl _ _), rfl⟩
        · intro a wx h
          have e1 : a.eval (.tmp 1) = .pointer (some ⟨r, 0, none⟩) := h.old 1 (by kernel_rfl)
          have hrel := h.rel
          clear h
          refine gives_by rfl a.eval rfl ?_
          generalize a.eval = ρ at *
          intro hf hc
          go_simp
          exact ⟨relM_quiet (by decide) (Only.refl _ _), rfl⟩
        · intro a wx h
          obtain ⟨v46, e46, f46⟩ := h.val 2 46 (by kernel_rfl)
          obtain rfl : v46 = .pointer (some ⟨r, 0, none⟩) := f46
          have hrel := h.rel
          clear h
          refine gives_by rfl a.eval rfl ?_
          generalize a.eval = ρ at *
          intro hf hc
          go_simp
          exact ⟨relM_quiet (by decide) (Only.refl _ _), rfl⟩
        · intro a wx h
          obtain ⟨v47, e47, f47⟩ := h.val 3 47 (by kernel_rfl)
          obtain rfl : v47 = .pointer (some ⟨r, 0, none⟩) := f47
          have hrel := h.rel
          clear h
          refine gives_by rfl a.eval rfl ?_
          generalize a.eval = ρ at *
          intro hf hc
          go_simp
          exact ⟨relM_quiet (by decide) (Only.refl _ _), rfl⟩
        · intro a wx h
          obtain ⟨v48, e48, f48⟩ := h.val 4 48 (by kernel_rfl)
          obtain rfl : v48 = .pointer (some ⟨r, 3, none⟩) := f48
          have hrel := h.rel
          clear h
          have cx := (HC.out wx hrel).2.2.1
          refine gives_by rfl a.eval rfl ?_
          generalize a.eval = ρ at *
          intro hf hc
          go_simp
          exact ⟨relM_quiet (by decide) (Only.refl _ _), rfl⟩
        · intro a wx h
          obtain ⟨v49, e49, f49⟩ := h.val 5 49 (by kernel_rfl)
          obtain rfl : v49 = .bool d.off := f49
          have hrel := h.rel
          clear h
          refine gives_by rfl a.eval rfl ?_
          generalize a.eval = ρ at *
          intro hf hc
          go_simp
          exact ⟨relM_quiet (by decide) (Only.refl _ _), rfl⟩
        · intro a wx h
          obtain ⟨v45, e45, f45⟩ := h.val 1 45 (by kernel_rfl)
          obtain rfl : v45 = .bool (!d.off) := f45
          obtain ⟨v50, e50, f50⟩ := h.val 6 50 (by kernel_rfl)
          obtain rfl : v50 = .bool (!d.off) := f50
          have hrel := h.rel
          clear h
          refine gives_by rfl a.eval rfl ?_
          generalize a.eval = ρ at *
          intro hf hc
          go_simp
          exact ⟨relM_quiet (by decide) (Only.refl _ _), rfl⟩
        · intro a wx h
          obtain ⟨v51, e51, f51⟩ := h.val 7 51 (by kernel_rfl)
          obtain rfl : v51 = .bool true := f51
          have hrel := h.rel
          clear h
          refine gives_by rfl a.eval rfl ?_
          generalize a.eval = ρ at *
          intro hf hc
          go_simp
          exact ⟨relM_quiet (by decide) (Only.refl _ _), rfl⟩
        · intro a wx h
          have e0 : a.eval (.tmp 0) = .pointer (some ⟨b, 0, none⟩) := h.old 0 (by kernel_rfl)
          have hg := h.guard 8 52 (by kernel_rfl) true (fun v hv => hv)
          have hrel := h.rel
          clear h
          refine gives_by (by simp only [Region.wanted, hg]; rfl) a.eval rfl ?_
          generalize a.eval = ρ at *
          intro hf hc
          go_simp
          exact ⟨relM_quiet (by decide) (Only.refl _ _), rfl⟩
        · intro a wx h
          obtain ⟨v53, e53, f53⟩ := h.val 9 53 (by kernel_rfl)
          obtain rfl : v53 = .pointer (some ⟨b, 0, none⟩) := f53
          have hg := h.guard 8 52 (by kernel_rfl) true (fun v hv => hv)
          have hrel := h.rel
          clear h
          refine gives_by (by simp only [Region.wanted, hg]; rfl) a.eval rfl ?_
          generalize a.eval = ρ at *
          intro hf hc
          go_simp
          refine (waits_any wx b _ d (HDx.out wx hrel)).mono ?_
          rintro e wy ⟨rfl, hww⟩
          subst hww
          exact ⟨_, rfl, relM_quiet (by decide) (Only.refl _ _), rfl⟩
        · intro a wx h
          have e1 : a.eval (.tmp 1) = .pointer (some ⟨r, 0, none⟩) := h.old 1 (by kernel_rfl)
          have hg := h.guard 8 52 (by kernel_rfl) true (fun v hv => hv)
          have hrel := h.rel
          clear h
          refine gives_by (by simp only [Region.wanted, hg]; rfl) a.eval rfl ?_
          generalize a.eval = ρ at *
          intro hf hc
          go_simp
          exact ⟨relM_quiet (by decide) (Only.refl _ _), rfl⟩
        · intro a wx h
          obtain ⟨v55, e55, f55⟩ := h.val 11 55 (by kernel_rfl)
          obtain rfl : v55 = .pointer (some ⟨r, 0, none⟩) := f55
          have hg := h.guard 8 52 (by kernel_rfl) true (fun v hv => hv)
          have hrel := h.rel
          clear h
          refine gives_by (by simp only [Region.wanted, hg]; rfl) a.eval rfl ?_
          generalize a.eval = ρ at *
          intro hf hc
          go_simp
          exact ⟨relM_quiet (by decide) (Only.refl _ _), rfl⟩
        · intro a wx h
          obtain ⟨v56, e56, f56⟩ := h.val 12 56 (by kernel_rfl)
          obtain rfl : v56 = .pointer (some ⟨r, 0, none⟩) := f56
          have hg := h.guard 8 52 (by kernel_rfl) true (fun v hv => hv)
          have hrel := h.rel
          clear h
          refine gives_by (by simp only [Region.wanted, hg]; rfl) a.eval rfl ?_
          generalize a.eval = ρ at *
          intro hf hc
          go_simp
          exact ⟨relM_quiet (by decide) (Only.refl _ _), rfl⟩
        · intro a wx h
          obtain ⟨v57, e57, f57⟩ := h.val 13 57 (by kernel_rfl)
          obtain rfl : v57 = .pointer (some ⟨r, 1, none⟩) := f57
          have hg := h.guard 8 52 (by kernel_rfl) true (fun v hv => hv)
          have hrel := h.rel
          clear h
          have cx := (HC.out wx hrel).2.1
          refine gives_by (by simp only [Region.wanted, hg]; rfl) a.eval rfl ?_
          generalize a.eval = ρ at *
          intro hf hc
          go_simp
          exact ⟨relM_quiet (by decide) (Only.refl _ _), rfl⟩
        · intro a wx h
          obtain ⟨v58, e58, f58⟩ := h.val 14 58 (by kernel_rfl)
          obtain rfl : v58 = .slice aw d.ws.length cw := f58
          have hg := h.guard 8 52 (by kernel_rfl) true (fun v hv => hv)
          have hrel := h.rel
          clear h
          refine gives_by (by simp only [Region.wanted, hg]; rfl) a.eval rfl ?_
          generalize a.eval = ρ at *
          intro hf hc
          go_simp
          exact ⟨relM_quiet (by decide) (Only.refl _ _), rfl⟩
        · intro a wx h
          obtain ⟨v54, e54, f54⟩ := h.val 10 54 (by kernel_rfl)
          obtain rfl : v54 = .int .i64 (d.ws.length : Int) := f54
          obtain ⟨v59, e59, f59⟩ := h.val 15 59 (by kernel_rfl)
          obtain rfl : v59 = .int .i64 (d.ws.length : Int) := f59
          have hg := h.guard 8 52 (by kernel_rfl) true (fun v hv => hv)
          have hrel := h.rel
          clear h
          refine gives_by (by simp only [Region.wanted, hg]; rfl) a.eval rfl ?_
          generalize a.eval = ρ at *
          intro hf hc
          go_simp
          exact ⟨relM_quiet (by decide) (Only.refl _ _), rfl⟩
        · intro a wx h
          obtain ⟨v52, e52, f52⟩ := h.val 8 52 (by kernel_rfl)
          obtain rfl : v52 = .bool true := f52
          obtain ⟨v60, e60, f60⟩ := h.val 16 60 (by kernel_rfl)
          obtain rfl : v60 = .bool true := f60
          have hrel := h.rel
          clear h
          refine gives_by rfl a.eval rfl ?_
          generalize a.eval = ρ at *
          intro hf hc
          go_simp
          exact ⟨relM_quiet (by decide) (Only.refl _ _), rfl⟩
        · intro a wx h
          obtain ⟨v61, e61, f61⟩ := h.val 17 61 (by kernel_rfl)
          obtain rfl : v61 = .bool true := f61
          have hrel := h.rel
          clear h
          refine gives_by rfl a.eval rfl ?_
          generalize a.eval = ρ at *
          intro hf hc
          go_simp
          exact ⟨relM_quiet (by decide) (Only.refl _ _), rfl⟩
        · intro a wx h
          have e0 : a.eval (.tmp 0) = .pointer (some ⟨b, 0, none⟩) := h.old 0 (by kernel_rfl)
          have hg := h.guard 18 62 (by kernel_rfl) true (fun v hv => hv)
          have hrel := h.rel
          clear h
          refine gives_by (by simp only [Region.wanted, hg]; rfl) a.eval rfl ?_
          generalize a.eval = ρ at *
          intro hf hc
          go_simp
          exact ⟨relM_quiet (by decide) (Only.refl _ _), rfl⟩
        · intro a wx h
          obtain ⟨v63, e63, f63⟩ := h.val 19 63 (by kernel_rfl)
          obtain rfl : v63 = .pointer (some ⟨b, 0, none⟩) := f63
          have hg := h.guard 18 62 (by kernel_rfl) true (fun v hv => hv)
          have hrel := h.rel
          clear h
          refine gives_by (by simp only [Region.wanted, hg]; rfl) a.eval rfl ?_
          generalize a.eval = ρ at *
          intro hf hc
          go_simp
          refine (ops_any wx b _ d (HDx.out wx hrel)).mono ?_
          rintro e wy ⟨rfl, hww⟩
          subst hww
          exact ⟨_, rfl, relM_quiet (by decide) (Only.refl _ _), rfl⟩
        · intro a wx h
          have e1 : a.eval (.tmp 1) = .pointer (some ⟨r, 0, none⟩) := h.old 1 (by kernel_rfl)
          have hg := h.guard 18 62 (by kernel_rfl) true (fun v hv => hv)
          have hrel := h.rel
          clear h
          refine gives_by (by simp only [Region.wanted, hg]; rfl) a.eval rfl ?_
          generalize a.eval = ρ at *
          intro hf hc
          go_simp
          exact ⟨relM_quiet (by decide) (Only.refl _ _), rfl⟩
        · intro a wx h
          obtain ⟨v65, e65, f65⟩ := h.val 21 65 (by kernel_rfl)
          obtain rfl : v65 = .pointer (some ⟨r, 0, none⟩) := f65
          have hg := h.guard 18 62 (by kernel_rfl) true (fun v hv => hv)
          have hrel := h.rel
          clear h
          refine gives_by (by simp only [Region.wanted, hg]; rfl) a.eval rfl ?_
          generalize a.eval = ρ at *
          intro hf hc
          go_simp
          exact ⟨relM_quiet (by decide) (Only.refl _ _), rfl⟩
        · intro a wx h
          obtain ⟨v66, e66, f66⟩ := h.val 22 66 (by kernel_rfl)
          obtain rfl : v66 = .pointer (some ⟨r, 0, none⟩) := f66
          have hg := h.guard 18 62 (by kernel_rfl) true (fun v hv => hv)
          have hrel := h.rel
          clear h
          refine gives_by (by simp only [Region.wanted, hg]; rfl) a.eval rfl ?_
          generalize a.eval = ρ at *
          intro hf hc
          go_simp
          exact ⟨relM_quiet (by decide) (Only.refl _ _), rfl⟩
        · intro a wx h
          obtain ⟨v67, e67, f67⟩ := h.val 23 67 (by kernel_rfl)
          obtain rfl : v67 = .pointer (some ⟨r, 4, none⟩) := f67
          have hg := h.guard 18 62 (by kernel_rfl) true (fun v hv => hv)
          have hrel := h.rel
          clear h
          have cx := (HC.out wx hrel).2.2.2
          refine gives_by (by simp only [Region.wanted, hg]; rfl) a.eval rfl ?_
          generalize a.eval = ρ at *
          intro hf hc
          go_simp
          exact ⟨relM_quiet (by decide) (Only.refl _ _), rfl⟩
        · intro a wx h
          obtain ⟨v64, e64, f64⟩ := h.val 20 64 (by kernel_rfl)
          obtain rfl : v64 = .int .i64 (d.done : Int) := f64
          obtain ⟨v68, e68, f68⟩ := h.val 24 68 (by kernel_rfl)
          obtain rfl : v68 = .int .i64 (d.done : Int) := f68
          have hg := h.guard 18 62 (by kernel_rfl) true (fun v hv => hv)
          have hrel := h.rel
          clear h
          refine gives_by (by simp only [Region.wanted, hg]; rfl) a.eval rfl ?_
          generalize a.eval = ρ at *
          intro hf hc
          go_simp
          exact ⟨relM_quiet (by decide) (Only.refl _ _), rfl⟩
        · intro a wx h
          obtain ⟨v62, e62, f62⟩ := h.val 18 62 (by kernel_rfl)
          obtain rfl : v62 = .bool true := f62
          obtain ⟨v69, e69, f69⟩ := h.val 25 69 (by kernel_rfl)
          obtain rfl : v69 = .bool true := f69
          have hrel := h.rel
          clear h
          refine gives_by rfl a.eval rfl ?_
          generalize a.eval = ρ at *
          intro hf hc
          go_simp
          exact ⟨relM_quiet (by decide) (Only.refl _ _), rfl⟩
        · intro a wx h
          obtain ⟨v70, e70, f70⟩ := h.val 26 70 (by kernel_rfl)
          obtain rfl : v70 = .bool true := f70
          have hrel := h.rel
          clear h
          refine gives_by rfl a.eval rfl ?_
          generalize a.eval = ρ at *
          intro hf hc
          go_simp
          exact ⟨relM_quiet (by decide) (Only.refl _ _), rfl⟩
        · intro a wx h
          have e0 : a.eval (.tmp 0) = .pointer (some ⟨b, 0, none⟩) := h.old 0 (by kernel_rfl)
          have hg := h.guard 27 71 (by kernel_rfl) true (fun v hv => hv)
          have hrel := h.rel
          clear h
          refine gives_by (by simp only [Region.wanted, hg]; rfl) a.eval rfl ?_
          generalize a.eval = ρ at *
          intro hf hc
          go_simp
          exact ⟨relM_quiet (by decide) (Only.refl _ _), rfl⟩
        · intro a wx h
          obtain ⟨v72, e72, f72⟩ := h.val 28 72 (by kernel_rfl)
          obtain rfl : v72 = .pointer (some ⟨b, 0, none⟩) := f72
          have hg := h.guard 27 71 (by kernel_rfl) true (fun v hv => hv)
          have hrel := h.rel
          clear h
          refine gives_by (by simp only [Region.wanted, hg]; rfl) a.eval rfl ?_
          generalize a.eval = ρ at *
          intro hf hc
          go_simp
          refine (pages_any wx b _ d (HDx.out wx hrel)).mono ?_
          rintro e wy ⟨rfl, hww⟩
          subst hww
          exact ⟨_, rfl, relM_quiet (by decide) (Only.refl _ _), rfl⟩
        · intro a wx h
          have e1 : a.eval (.tmp 1) = .pointer (some ⟨r, 0, none⟩) := h.old 1 (by kernel_rfl)
          have hg := h.guard 27 71 (by kernel_rfl) true (fun v hv => hv)
          have hrel := h.rel
          clear h
          refine gives_by (by simp only [Region.wanted, hg]; rfl) a.eval rfl ?_
          generalize a.eval = ρ at *
          intro hf hc
          go_simp
          exact ⟨relM_quiet (by decide) (Only.refl _ _), rfl⟩
        · intro a wx h
          obtain ⟨v74, e74, f74⟩ := h.val 30 74 (by kernel_rfl)
          obtain rfl : v74 = .pointer (some ⟨r, 0, none⟩) := f74
          have hg := h.guard 27 71 (by kernel_rfl) true (fun v hv => hv)
          have hrel := h.rel
          clear h
          refine gives_by (by simp only [Region.wanted, hg]; rfl) a.eval rfl ?_
          generalize a.eval = ρ at *
          intro hf hc
          go_simp
          exact ⟨relM_quiet (by decide) (Only.refl _ _), rfl⟩
        · intro a wx h
          obtain ⟨v75, e75, f75⟩ := h.val 31 75 (by kernel_rfl)
          obtain rfl : v75 = .pointer (some ⟨r, 0, none⟩) := f75
          have hg := h.guard 27 71 (by kernel_rfl) true (fun v hv => hv)
          have hrel := h.rel
          clear h
          refine gives_by (by simp only [Region.wanted, hg]; rfl) a.eval rfl ?_
          generalize a.eval = ρ at *
          intro hf hc
          go_simp
          exact ⟨relM_quiet (by decide) (Only.refl _ _), rfl⟩
        · intro a wx h
          obtain ⟨v76, e76, f76⟩ := h.val 32 76 (by kernel_rfl)
          obtain rfl : v76 = .pointer (some ⟨r, 0, none⟩) := f76
          have hg := h.guard 27 71 (by kernel_rfl) true (fun v hv => hv)
          have hrel := h.rel
          clear h
          have cx := (HC.out wx hrel).1
          refine gives_by (by simp only [Region.wanted, hg]; rfl) a.eval rfl ?_
          generalize a.eval = ρ at *
          intro hf hc
          go_simp
          exact ⟨relM_quiet (by decide) (Only.refl _ _), rfl⟩
        · intro a wx h
          obtain ⟨v77, e77, f77⟩ := h.val 33 77 (by kernel_rfl)
          obtain rfl : v77 = .slice asv d.st.length csv := f77
          have hg := h.guard 27 71 (by kernel_rfl) true (fun v hv => hv)
          have hrel := h.rel
          clear h
          refine gives_by (by simp only [Region.wanted, hg]; rfl) a.eval rfl ?_
          generalize a.eval = ρ at *
          intro hf hc
          go_simp
          exact ⟨relM_quiet (by decide) (Only.refl _ _), rfl⟩
        · intro a wx h
          obtain ⟨v73, e73, f73⟩ := h.val 29 73 (by kernel_rfl)
          obtain rfl : v73 = .int .i64 (d.st.length : Int) := f73
          obtain ⟨v78, e78, f78⟩ := h.val 34 78 (by kernel_rfl)
          obtain rfl : v78 = .int .i64 (d.st.length : Int) := f78
          have hg := h.guard 27 71 (by kernel_rfl) true (fun v hv => hv)
          have hrel := h.rel
          clear h
          refine gives_by (by simp only [Region.wanted, hg]; rfl) a.eval rfl ?_
          generalize a.eval = ρ at *
          intro hf hc
          go_simp
          exact ⟨relM_quiet (by decide) (Only.refl _ _), rfl⟩
        · intro a wx h
          obtain ⟨v71, e71, f71⟩ := h.val 27 71 (by kernel_rfl)
          obtain rfl : v71 = .bool true := f71
          obtain ⟨v79, e79, f79⟩ := h.val 35 79 (by kernel_rfl)
          obtain rfl : v79 = .bool true := f79
          have hrel := h.rel
          clear h
          refine gives_by rfl a.eval rfl ?_
          generalize a.eval = ρ at *
          intro hf hc
          go_simp
          exact ⟨relM_quiet (by decide) (Only.refl _ _), rfl⟩
        · intro a wx h
          obtain ⟨v80, e80, f80⟩ := h.val 36 80 (by kernel_rfl)
          obtain rfl : v80 = .bool true := f80
          have hrel := h.rel
          clear h
          refine gives_by rfl a.eval rfl ?_
          generalize a.eval = ρ at *
          intro hf hc
          go_simp
          exact ⟨relM_quiet (by decide) (Only.refl _ _), rfl⟩
        · intro a wx h
          have e8 : a.eval (.tmp 8) = .int .i64 0 := h.old 8 (by kernel_rfl)
          have hg := h.guard 37 81 (by kernel_rfl) true (fun v hv => hv)
          have hrel := h.rel
          clear h
          refine gives_by (by simp only [Region.wanted, hg]; rfl) a.eval rfl ?_
          generalize a.eval = ρ at *
          intro hf hc
          go_simp
          exact ⟨relM_quiet (by decide) (Only.refl _ _), rfl⟩
        · intro a wx h
          have e10 : a.eval (.tmp 10) = .int .i64 0 := h.old 10 (by kernel_rfl)
          have hg := h.guard 37 81 (by kernel_rfl) true (fun v hv => hv)
          have hrel := h.rel
          clear h
          refine gives_by (by simp only [Region.wanted, hg]; rfl) a.eval rfl ?_
          generalize a.eval = ρ at *
          intro hf hc
          go_simp
          exact ⟨relM_quiet (by decide) (Only.refl _ _), rfl⟩
        · intro a wx h
          obtain ⟨v82, e82, f82⟩ := h.val 38 82 (by kernel_rfl)
          obtain rfl : v82 = .int .i64 0 := f82
          obtain ⟨v83, e83, f83⟩ := h.val 39 83 (by kernel_rfl)
          obtain rfl : v83 = .int .i64 0 := f83
          have hg := h.guard 37 81 (by kernel_rfl) true (fun v hv => hv)
          have hrel := h.rel
          clear h
          refine gives_by (by simp only [Region.wanted, hg]; rfl) a.eval rfl ?_
          generalize a.eval = ρ at *
          intro hf hc
          go_simp
          exact ⟨relM_quiet (by decide) (Only.refl _ _), rfl⟩
        · intro a wx h
          obtain ⟨v81, e81, f81⟩ := h.val 37 81 (by kernel_rfl)
          obtain rfl : v81 = .bool true := f81
          obtain ⟨v84, e84, f84⟩ := h.val 40 84 (by kernel_rfl)
          obtain rfl : v84 = .bool true := f84
          have hrel := h.rel
          clear h
          refine gives_by rfl a.eval rfl ?_
          generalize a.eval = ρ at *
          intro hf hc
          go_simp
          exact ⟨relM_quiet (by decide) (Only.refl _ _), rfl⟩
        · intro a wx h
          obtain ⟨v85, e85, f85⟩ := h.val 41 85 (by kernel_rfl)
          obtain rfl : v85 = .bool true := f85
          have hrel := h.rel
          clear h
          refine gives_by rfl a.eval rfl ?_
          generalize a.eval = ρ at *
          intro hf hc
          go_simp
          exact ⟨relM_quiet (by decide) (Only.refl _ _), rfl⟩
        · intro a wx h
          have e7 : a.eval (.tmp 7) = .slice (some ⟨w.heap.size, 0, none⟩) 256 256 := h.old 7 (by kernel_rfl)
          have hg := h.guard 42 86 (by kernel_rfl) true (fun v hv => hv)
          have hrel := h.rel
          clear h
          refine gives_by (by simp only [Region.wanted, hg]; rfl) a.eval rfl ?_
          generalize a.eval = ρ at *
          intro hf hc
          go_simp
          exact ⟨relM_quiet (by decide) (Only.refl _ _), rfl⟩
        · intro a wx h
          obtain ⟨v87, e87, f87⟩ := h.val 43 87 (by kernel_rfl)
          obtain rfl : v87 = .slice (some ⟨w.heap.size, 0, none⟩) 256 256 := f87
          have hg := h.guard 42 86 (by kernel_rfl) true (fun v hv => hv)
          have hrel := h.rel
          clear h
          refine gives_by (by simp only [Region.wanted, hg]; rfl) a.eval rfl ?_
          generalize a.eval = ρ at *
          intro hf hc
          go_simp
          exact ⟨relM_quiet (by decide) (Only.refl _ _), rfl⟩
        · intro a wx h
          have e9 : a.eval (.tmp 9) = .slice ab 256 cb := h.old 9 (by kernel_rfl)
          have hg := h.guard 42 86 (by kernel_rfl) true (fun v hv => hv)
          have hrel := h.rel
          clear h
          refine gives_by (by simp only [Region.wanted, hg]; rfl) a.eval rfl ?_
          generalize a.eval = ρ at *
          intro hf hc
          go_simp
          exact ⟨relM_quiet (by decide) (Only.refl _ _), rfl⟩
        · intro a wx h
          obtain ⟨v89, e89, f89⟩ := h.val 45 89 (by kernel_rfl)
          obtain rfl : v89 = .slice ab 256 cb := f89
          have hg := h.guard 42 86 (by kernel_rfl) true (fun v hv => hv)
          have hrel := h.rel
          clear h
          refine gives_by (by simp only [Region.wanted, hg]; rfl) a.eval rfl ?_
          generalize a.eval = ρ at *
          intro hf hc
          go_simp
          exact ⟨relM_quiet (by decide) (Only.refl _ _), rfl⟩
        · intro a wx h
          obtain ⟨v88, e88, f88⟩ := h.val 44 88 (by kernel_rfl)
          obtain rfl : v88 = .int .i64 (256 : Int) := f88
          obtain ⟨v90, e90, f90⟩ := h.val 46 90 (by kernel_rfl)
          obtain rfl : v90 = .int .i64 (256 : Int) := f90
          have hg := h.guard 42 86 (by kernel_rfl) true (fun v hv => hv)
          have hrel := h.rel
          clear h
          refine gives_by (by simp only [Region.wanted, hg]; rfl) a.eval rfl ?_
          generalize a.eval = ρ at *
          intro hf hc
          go_simp
          exact ⟨relM_quiet (by decide) (Only.refl _ _), rfl⟩
        · intro a wx h
          obtain ⟨v86, e86, f86⟩ := h.val 42 86 (by kernel_rfl)
          obtain rfl : v86 = .bool true := f86
          obtain ⟨v91, e91, f91⟩ := h.val 47 91 (by kernel_rfl)
          obtain rfl : v91 = .bool true := f91
          have hrel := h.rel
          clear h
          refine gives_by rfl a.eval rfl ?_
          generalize a.eval = ρ at *
          intro hf hc
          go_simp
          exact ⟨relM_quiet (by decide) (Only.refl _ _), rfl⟩
        · intro a wx h
          obtain ⟨v92, e92, f92⟩ := h.val 48 92 (by kernel_rfl)
          obtain rfl : v92 = .bool true := f92
          have hrel := h.rel
          clear h
          refine gives_by rfl a.eval rfl ?_
          generalize a.eval = ρ at *
          intro hf hc
          go_simp
          exact ⟨relM_quiet (by decide) (Only.refl _ _), rfl⟩
        · intro a wx h
          have e12 : a.eval (.tmp 12) = .slice (some ⟨w3.heap.size, 0, none⟩) 256 256 := h.old 12 (by kernel_rfl)
          have hg := h.guard 49 93 (by kernel_rfl) true (fun v hv => hv)
          have hrel := h.rel
          clear h
          refine gives_by (by simp only [Region.wanted, hg]; rfl) a.eval rfl ?_
          generalize a.eval = ρ at *
          intro hf hc
          go_simp
          exact ⟨relM_quiet (by decide) (Only.refl _ _), rfl⟩
        · intro a wx h
          have e9 : a.eval (.tmp 9) = .slice ab 256 cb := h.old 9 (by kernel_rfl)
          have hg := h.guard 49 93 (by kernel_rfl) true (fun v hv => hv)
          have hrel := h.rel
          clear h
          refine gives_by (by simp only [Region.wanted, hg]; rfl) a.eval rfl ?_
          generalize a.eval = ρ at *
          intro hf hc
          go_simp
          exact ⟨relM_quiet (by decide) (Only.refl _ _), rfl⟩
        · intro a wx h
          obtain ⟨v94, e94, f94⟩ := h.val 50 94 (by kernel_rfl)
          obtain rfl : v94 = .slice (some ⟨w3.heap.size, 0, none⟩) 256 256 := f94
          obtain ⟨v95, e95, f95⟩ := h.val 51 95 (by kernel_rfl)
          obtain rfl : v95 = .slice ab 256 cb := f95
          have hg := h.guard 49 93 (by kernel_rfl) true (fun v hv => hv)
          have hrel := h.rel
          clear h
          refine gives_by (by simp only [Region.wanted, hg]; rfl) a.eval rfl ?_
          generalize a.eval = ρ at *
          intro hf hc
          go_simp
          refine (HSm.out wx hrel).mono ?_
          rintro e wy ⟨rfl, hb⟩
          exact ⟨_, rfl, relM_quiet (by decide) (Only.of_below _ hb), rfl⟩
        · intro a wx h
          obtain ⟨v93, e93, f93⟩ := h.val 49 93 (by kernel_rfl)
          obtain rfl : v93 = .bool true := f93
          obtain ⟨v96, e96, f96⟩ := h.val 52 96 (by kernel_rfl)
          obtain rfl : v96 = .bool true := f96
          have hrel := h.rel
          clear h
          refine gives_by rfl a.eval rfl ?_
          generalize a.eval = ρ at *
          intro hf hc
          go_simp
          exact ⟨relM_quiet (by decide) (Only.refl _ _), rfl⟩
      · intro oL hoL vals w5 ho5 hv
        simp only [List.getElem?_toArray, List.getElem?_cons_succ, List.getElem?_cons_zero, Option.some.injEq] at hoL
        subst hoL
        have hv53 : vals 53 = .bool true := hv 53 97 (by decide) (by kernel_rfl)
        clear hv
        generalize hact : putAll _ vals 0 _ = act
        have HO5 := hide (below_then HW4.out (ho5.below (Nat.le_refl _) (fun _ _ h => h)) (Nat.le_refl _))
        clear ho5
        subst hact
        simp only [List.dropLast, putAll, Act.put, List.setIfInBounds_toArray, List.set_cons_zero, List.set_cons_succ, hv53]
        refine gives_of_run rfl (exec_assign (.tmp 97) rfl (.bool true) rfl) ?_
        clear hv53
        go_wp2
        go_ret
        exact ⟨rfl, HO5.out⟩

theorem same_any (w : World) (b r : Nat) (F G : Nat → Prop) (d : Dv) (p : Int) (hD : Dev w b F d) (hR : Ref w r G d) :
    Calls Try.prog 13 #[dp b, dp r, .int .i64 p] w fun e w' => e = .returned (.bool true) ∧ Below w.heap.size w w' := by
  by_cases hp : 0 ≤ p ∧ p < d.st.length
  · cases ho : d.off with
    | false =>
      obtain ⟨P, rfl⟩ : ∃ P : Nat, p = (P : Int) := ⟨p.toNat, by omega⟩
      exact same_ok w b r F G d P hD hR (by omega) ho
    | true => exact same_no w b r F G d p 5 hD hR (.inr ⟨hp, ho, rfl⟩)
  · exact same_no w b r F G d p 1 hD hR (.inl ⟨hp, rfl⟩)

end Go.Proofs.Ytofpngmabjpfhaa
