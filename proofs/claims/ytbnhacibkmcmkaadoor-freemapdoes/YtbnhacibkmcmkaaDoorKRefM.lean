/- The document's own map (incipitref08.Map): what lies where; Has, Mine, Free, Commit, Abort, Of. -/
import Derived.Test.YtbnhacibkmcmkaaDoorKRefL
import Derived.Test.YtbnhacibkmcmkaaDoorKTell
namespace Go.Proofs.YtbnhacibkmcmkaaDoor
set_option maxRecDepth 20000
open Go.RowKit
set_option linter.unusedVariables false
set_option maxRecDepth 100000

def cl (c : Nat → Int) (n : Nat) : List Int := (List.range n).map c
theorem cl_len (c : Nat → Int) (n : Nat) : (cl c n).length = n := by simp [cl]
theorem cl_get (c : Nat → Int) (n p : Nat) (h : p < n) : (iv (cl c n))[p]? = some (.int .i64 (c p)) := by simp [cl, iv, h]
def upd (c : Nat → Int) (p : Nat) (x : Int) : Nat → Int := fun q => if q = p then x else c q
theorem cl_set (c : Nat → Int) (n p : Nat) (x : Int) : (iv (cl c n)).set p (.int .i64 x) = iv (cl (upd c p x) n) := by
  apply List.ext_getElem?
  intro j
  by_cases hj : j < n
  · rw [List.getElem?_set]
    by_cases hp : p = j
    · subst hp
      simp [cl, iv, hj, upd]
    · rw [if_neg hp]
      simp [cl, iv, hj, upd, show ¬ j = p from fun e => hp e.symm]
  · rw [List.getElem?_eq_none (by simp [cl]; omega), List.getElem?_eq_none (by simp [cl]; omega)]
theorem cl_congr {c c' : Nat → Int} {n : Nat} (h : ∀ p, p < n → c p = c' p) : cl c n = cl c' n := by
  unfold cl
  apply List.map_congr_left
  intro p hp
  exact h p (by simpa using hp)

structure RefM (w : World) (B r q n : Nat) (c : Nat → Int) : Prop where
  blk : Blk w r 74 [.slice (some ⟨q, 0, none⟩) n n]
  row : Blk w q 3 (iv (cl c n))
  lor : B ≤ r
  loq : B ≤ q
  hi : n ≤ 2048
section
variable {w w' : World} {B r q n : Nat} {c c' : Nat → Int}
theorem RefM.c0 (h : RefM w B r q n c) : w.cell? ⟨r, 0, none⟩ = some (.slice (some ⟨q, 0, none⟩) n n) := h.blk.cell 0
theorem RefM.cp (h : RefM w B r q n c) (p : Nat) (hp : p < n) : w.cell? ⟨q, p, none⟩ = some (.int .i64 (c p)) := by rw [h.row.cell]; exact cl_get c n p hp
theorem RefM.rq (h : RefM w B r q n c) : r ≠ q := Blk.ne h.blk h.row (by decide)
theorem RefM.only {S : Nat → Prop} (h : RefM w B r q n c) (ho : Only S w w') (h1 : ¬ S r) (h2 : ¬ S q) : RefM w' B r q n c := ⟨h.blk.only ho h1, h.row.only ho h2, h.lor, h.loq, h.hi⟩
theorem RefM.below (h : RefM w B r q n c) (hb : Below w.heap.size w w') : RefM w' B r q n c := h.only (Only.of_below (fun _ => False) hb) (fun h => h) (fun h => h)
theorem RefM.keepM {B' : Nat} (h : RefM w B r q n c) (ho : OnlyM B' w w') : RefM w' B r q n c := ⟨h.blk.keepM ho (by decide) (by decide), h.row.keepM ho (by decide) (by decide), h.lor, h.loq, h.hi⟩
theorem RefM.congr (h : RefM w B r q n c) (hc : ∀ p, p < n → c p = c' p) : RefM w B r q n c' := ⟨h.blk, by rw [← cl_congr hc]; exact h.row, h.lor, h.loq, h.hi⟩
theorem RefM.set (h : RefM w B r q n c) (p : Nat) (x : Int) : RefM (w.setCell ⟨q, p, none⟩ (.int .i64 x)) B r q n (upd c p x) :=
  ⟨h.blk.setOther _ _ h.rq, by rw [← cl_set]; exact h.row.set p _, h.lor, h.loq, h.hi⟩
theorem RefM.notMS (h : RefM w B r q n c) : ¬ isMS w q := fun ⟨cs, hh⟩ => by
  rcases hh with hh | hh
  · exact Blk.ne h.row hh (by decide) rfl
  · exact Blk.ne h.row hh (by decide) rfl
end
theorem only_set {w : World} (q p : Nat) (x : Value) : Only (· = q) w (w.setCell ⟨q, p, none⟩ x) := (Only.refl (· = q) w).setCell ⟨q, p, none⟩ _ (fun _ => rfl)
theorem only_trans {q : Nat} {a b c : World} (h : Only (· = q) a b) (k : Only (· = q) b c) : Only (· = q) a c := h.trans k (fun _ _ h => h)

def hasC (n : Nat) (c : Nat → Int) (p : Int) : Bool := decide (0 ≤ p ∧ p < n) && (decide (c p.toNat = 1) || decide (c p.toNat = 2))
def mineC (n : Nat) (c : Nat → Int) (p : Int) : Bool := decide (0 ≤ p ∧ p < n) && decide (c p.toNat = 2)
section
variable (w : World) (B r q n : Nat) (c : Nat → Int)
theorem refHasM_any (p : Int) (h : RefM w B r q n c) : Calls Tryd.prog 50 #[dp r, .int .i64 p] w fun e w' => e = .returned (.bool (hasC n c p)) ∧ w' = w := by
  have c0 := h.c0
  have hn := h.hi
  by_cases h0 : 0 ≤ p
  · by_cases h1 : p < n
    · obtain ⟨P, rfl⟩ : ∃ P : Nat, p = P := ⟨p.toNat, by omega⟩
      have cp := h.cp P (by omega)
      have hPn : P < n := by omega
      have HE : Hid (hasC n c (P : Int) = (decide (c P = 1) || decide (c P = 2))) := by show _ = _; rw [hasC, decide_eq_true ⟨h0, h1⟩]; rfl
      obtain ⟨x, hx⟩ : ∃ x, c P = x := ⟨_, rfl⟩
      rw [hx] at cp HE
      clear hx h
      by_cases hx1 : x = 1
      · subst hx1
        go_enter Tryd.func50, Tryd.ntmps50
        go_wp2
        go_ret
        exact ⟨by rw [HE.out]; rfl, rfl⟩
      · go_enter Tryd.func50, Tryd.ntmps50
        go_wp2
        go_ret
        refine ⟨ret_bool ?_, rfl⟩
        rw [HE.out]
        exact Bool.eq_iff_iff.2 (by simp [hx1])
    · rw [show hasC n c p = false by rw [hasC, decide_eq_false (fun hh => h1 hh.2)]; rfl]
      clear h
      go_enter Tryd.func50, Tryd.ntmps50
      go_wp2
      go_ret
      exact ⟨ret_bool (by simp; try omega), rfl⟩
  · rw [show hasC n c p = false by rw [hasC, decide_eq_false (fun hh => h0 hh.1)]; rfl]
    clear h
    go_enter Tryd.func50, Tryd.ntmps50
    go_wp2
    go_ret
    exact ⟨ret_bool (by simp; try omega), rfl⟩
theorem refMineM_any (p : Int) (h : RefM w B r q n c) : Calls Tryd.prog 51 #[dp r, .int .i64 p] w fun e w' => e = .returned (.bool (mineC n c p)) ∧ w' = w := by
  have c0 := h.c0
  have hn := h.hi
  by_cases h0 : 0 ≤ p
  · by_cases h1 : p < n
    · obtain ⟨P, rfl⟩ : ∃ P : Nat, p = P := ⟨p.toNat, by omega⟩
      have cp := h.cp P (by omega)
      have hPn : P < n := by omega
      have HE : Hid (mineC n c (P : Int) = decide (c P = 2)) := by show _ = _; rw [mineC, decide_eq_true ⟨h0, h1⟩]; rfl
      obtain ⟨x, hx⟩ : ∃ x, c P = x := ⟨_, rfl⟩
      rw [hx] at cp HE
      clear hx h
      go_enter Tryd.func51, Tryd.ntmps51
      go_wp2
      go_ret
      refine ⟨ret_bool ?_, rfl⟩
      rw [HE.out]
      exact Bool.eq_iff_iff.2 (by simp)
    · rw [show mineC n c p = false by rw [mineC, decide_eq_false (fun hh => h1 hh.2)]; rfl]
      clear h
      go_enter Tryd.func51, Tryd.ntmps51
      go_wp2
      go_ret
      exact ⟨ret_bool (by simp; try omega), rfl⟩
  · rw [show mineC n c p = false by rw [mineC, decide_eq_false (fun hh => h0 hh.1)]; rfl]
    clear h
    go_enter Tryd.func51, Tryd.ntmps51
    go_wp2
    go_ret
    exact ⟨ret_bool (by simp; try omega), rfl⟩
/-- what Free leaves -/
def freeC (n : Nat) (c : Nat → Int) (p : Int) : Nat → Int := if hasC n c p then upd c p.toNat (if c p.toNat = 2 then 0 else 3) else c
theorem refFreeM_any (p : Int) (h : RefM w B r q n c) : Calls Tryd.prog 46 #[dp r, .int .i64 p] w fun e w' => e = .returned (.int .i64 (if hasC n c p then 0 else 4)) ∧ RefM w' B r q n (freeC n c p) ∧ Only (· = q) w w' := by
  have HH := refHasM_any w B r q n c p h
  have HX := hide h
  have c0 := h.c0
  have hn := h.hi
  cases hh : hasC n c p with
  | false =>
    rw [hh] at HH
    have HH := hide HH
    have HE : Hid (freeC n c p = c) := by show _ = _; rw [freeC, hh]; rfl
    clear h hh
    go_enter Tryd.func46, Tryd.ntmps46
    go_wp2_with (first
      | (go_at_call 50; refine HH.out.mono ?_; rintro e w1 ⟨rfl, hw⟩; subst w1; clear HH))
    go_ret
    rw [HE.out]
    exact ⟨rfl, HX.out, Only.refl _ _⟩
  | true =>
    rw [hh] at HH
    have HH := hide HH
    have hp : 0 ≤ p ∧ p < n := by rw [hasC, Bool.and_eq_true, decide_eq_true_eq] at hh; exact hh.1
    obtain ⟨P, rfl⟩ : ∃ P : Nat, p = P := ⟨p.toNat, by omega⟩
    have hPn : P < n := by omega
    have cp := h.cp P hPn
    have fp : w.frozen? ⟨q, P, none⟩ = false := h.row.frozen _
    have HE0 : freeC n c (P : Int) = upd c P (if c P = 2 then 0 else 3) := by rw [freeC, hh]; rfl
    obtain ⟨x, hx⟩ : ∃ x, c P = x := ⟨_, rfl⟩
    rw [hx] at cp HE0
    clear h hh hx
    by_cases hx2 : x = 2
    · subst hx2
      have HE := hide HE0
      clear HE0
      rw [if_pos rfl] at HE
      go_enter Tryd.func46, Tryd.ntmps46
      go_wp2_with (first
        | (go_at_call 50; refine HH.out.mono ?_; rintro e w1 ⟨rfl, hw⟩; subst w1; clear HH))
      go_ret
      rw [HE.out]
      exact ⟨rfl, HX.out.set P 0, only_set q P _⟩
    · rw [if_neg hx2] at HE0
      have HE := hide HE0
      clear HE0
      go_enter Tryd.func46, Tryd.ntmps46
      go_wp2_with (first
        | (go_at_call 50; refine HH.out.mono ?_; rintro e w1 ⟨rfl, hw⟩; subst w1; clear HH))
      go_ret
      rw [HE.out]
      exact ⟨rfl, HX.out.set P 3, only_set q P _⟩
end

end Go.Proofs.YtbnhacibkmcmkaaDoor
