/- Contract: the statements' own beginning ('live') answers true, and writes nothing that was there. -/
import Derived.Test.YtbopcppagfhjnaaRdVar
import Derived.Test.YtbopcppagfhjnaaPutVar
namespace Go.Proofs.Ytbopcppagfhjnaa
open Go.RowKit

theorem sl_of_own_len {w : World} {base : Nat} {e : TypeId} {v : Value} {zs : List Int} (h : w.ownsRow base e 1 v zs.length (zs.map (Value.int .u8))) (hb : ByteOk zs) : Sl w v zs := sl_of_own h hb rfl

theorem var300 : varBytes 300 = [172, 2] := by rw [varBytes_ge (by omega), varBytes_lt (by omega)]; rfl
theorem short300 : short [172, 2] = (300, 2, 0) := by decide
theorem ok2 (a b : Int) (h : 0 ≤ a ∧ a ≤ 255 ∧ 0 ≤ b ∧ b ≤ 255) : ByteOk [a, b] := by intro z hz; simp at hz; omega

theorem lit2 (w : World) (a b : Int) (h : 0 ≤ a ∧ a ≤ 255 ∧ 0 ≤ b ∧ b ≤ 255) : Sl (w.alloc (.cells #[.int .u8 a, .int .u8 b] 5)) (.slice (some ⟨w.heap.size, 0, none⟩) 2 2) [a, b] :=
  sl_lit w 5 [a, b] (ok2 a b h) (by simp [maxLen])
theorem lit1 (w : World) (a : Int) (h : 0 ≤ a ∧ a ≤ 255) : Sl (w.alloc (.cells #[.int .u8 a] 5)) (.slice (some ⟨w.heap.size, 0, none⟩) 1 1) [a] :=
  sl_lit w 5 [a] (by intro z hz; simp at hz; omega) (by simp [maxLen])

theorem below_of_grown {w0 w w' : World} {b B : Nat} (h : Below B w0 w) (hg : w.grownBy w' (some b)) (hb : B ≤ b) (hB : B ≤ w.heap.size) : Below B w0 w' :=
  h.grown hg hB (by intro k hk; cases hk; exact hb)

theorem after_alloc {w w1 : World} {o : Obj} (h : Below (w.alloc o).heap.size (w.alloc o) w1) : Below w.heap.size w w1 :=
  ((Below.refl _ w).alloc (Nat.le_refl _) o).trans (h.mono (by simp))
theorem below_then {B : Nat} {w w1 w2 : World} (h : Below B w w1) (h2 : Below w1.heap.size w1 w2) (hB : B ≤ w.heap.size) : Below B w w2 := h.trans (h2.mono (Nat.le_trans hB h.size))
theorem alloc_le {w : World} {o : Obj} {n : Nat} (h : (w.alloc o).heap.size ≤ n) : w.heap.size ≤ n := by simp at h; omega
theorem own300 {w : World} {base : Nat} {e : TypeId} {v : Value} (h : w.ownsRow base e 1 v ([] ++ varBytes 300).length (([] ++ varBytes 300).map (Value.int .u8))) : Sl w v [172, 2] := by
  rw [List.nil_append] at h
  have := sl_of_own_len h (varBytes_ok 300)
  rwa [var300] at this

theorem lit12a (w : World) (o : Obj) : Sl ((w.alloc (.cells #[.int .u8 1] 5)).alloc o) (.slice (some ⟨w.heap.size, 0, none⟩) 1 1) [1] := (lit1 w 1 (by omega)).alloc _
theorem lit12b (w : World) (o : Obj) : Sl ((w.alloc o).alloc (.cells #[.int .u8 1, .int .u8 0] 5)) (.slice (some ⟨w.heap.size + 1, 0, none⟩) 2 2) [1, 0] := by
  have := lit2 (w.alloc o) 1 0 (by omega)
  rwa [show (w.alloc o).heap.size = w.heap.size + 1 by simp] at this

set_option maxHeartbeats 400000 in
theorem live_any (w : World) :
    Calls Try.prog 9 #[] w fun e w' => e = .returned (.bool true) ∧ Below w.heap.size w w' := by
  go_enter Try.func9, Try.ntmps9
  go_wp2_with (first
    | (go_at_call 21; refine (read_any _ _ _ (lit2 w 172 2 (by omega)) (by simp)).mono ?_; rintro e w1 ⟨rb, ru, rfl, hrb, hrd, hrf, hb1⟩; have hB1 := after_alloc hb1; have hrb' := alloc_le hrb; clear hrf hb1 hrb)
    | (go_at_call 16; refine (packVar_any _ _ [] 300 (Sl.nil _) (by simp) (by omega)).mono ?_; rintro e w2 ⟨uv, rfl, hov, hb2, hz2⟩; have hrd2 := hrd.keep hb2; have hB2 := below_then hB1 hb2 (Nat.le_refl _); have hsv := own300 hov; clear hov hrd hb2 hB1 hz2)
    | (go_at_call 17; refine (refSame_any _ _ _ [172, 2] [172, 2] (hsv.alloc _) (lit2 w2 172 2 (by omega))).mono ?_; rintro e w3 ⟨rfl, hb3⟩; have hrd3 := hrd2.keep (after_alloc hb3); have hB3 := below_then hB2 (after_alloc hb3) (Nat.le_refl _); clear hrd2 hb3 hB2 hsv)
    | (go_at_call 34; refine (readerVar_ok _ _ _ _ hrd3).mono ?_; rw [short300]; rintro e w4 ⟨rfl, hg4, u4, hrd4⟩; have hB4 := below_of_grown hB3 hg4 hrb' hB3.size; clear hg4 hrd3 hB3)
    | (go_at_call 26; refine (end_any _ _ _ _ _ hrd4).mono ?_; rintro e w5 ⟨rfl, hw⟩; subst w5)
    | (go_at_call 30; refine (packCompare_any _ _ _ [1] [1, 0] (lit12a w4 _) (lit12b w4 _)).mono ?_; rintro e w6 ⟨rfl, hw⟩; subst w6))
  go_ret
  exact ⟨rfl, (hB4.alloc hB4.size _).alloc (by have := hB4.size; simp; omega) _⟩

end Go.Proofs.Ytbopcppagfhjnaa
