/- Contract: how package pack puts a text, with its length ahead, behind bytes. -/
import Derived.Test.YtbopcppagfhjnaaPutVar
namespace Go.Proofs.Ytbopcppagfhjnaa
open Go.RowKit

def textBytes (ts : List Int) : List Int := (ts.length : Int) :: ts

theorem textBytes_ok (ts : List Int) (h : ByteOk ts) (hl : ts.length ≤ 255) : ByteOk (textBytes ts) := by
  intro z hz
  rcases List.mem_cons.1 hz with rfl | hz
  · omega
  · exact h z hz

theorem packText_long (w : World) (vb vt : Value) (zs ts : List Int) (hb : Sl w vb zs) (ht : Sl w vt ts) (hl : 255 < ts.length) :
    Calls Try.prog 11 #[vb, vt] w fun e w' => e = .returned (.tuple #[.slice none 0 0, .int .i64 3]) ∧ w' = w := by
  obtain ⟨_, ao, cap, rfl, _⟩ := hb
  obtain ⟨_, ao', cap', rfl, _⟩ := ht
  have i1 : (255 : Int) < (ts.length : Int) := by omega
  go_enter Try.func11, Try.ntmps11
  go_wp2
  go_ret2
  exact ⟨rfl, rfl⟩

theorem splice_tail (zs ts : List Int) (x : Int) :
    splice ((zs ++ [x] ++ List.replicate ts.length 0).map (Value.int .u8)) (zs.length + 1) (ts.map (Value.int .u8)) = (zs ++ (x :: ts)).map (Value.int .u8) := by
  have e : (zs ++ [x] ++ List.replicate ts.length (0 : Int)).map (Value.int .u8) = (zs ++ [x]).map (Value.int .u8) ++ (List.replicate ts.length (0 : Int)).map (Value.int .u8) := List.map_append
  have hl : ((zs ++ [x]).map (Value.int .u8)).length = zs.length + 1 := by simp
  unfold splice
  rw [e, List.take_append_of_le_length (by omega), List.take_of_length_le (by omega), List.drop_eq_nil_of_le (by simp; omega)]
  simp

theorem text_set {w : World} {base : Nat} {e : TypeId} {B n m : Nat} {zs : List Int} (h : w.ownsRow base e 1 (.slice (some ⟨B, 0, none⟩) n n) n ((zs ++ List.replicate (1 + m) 0).map (Value.int .u8))) :
    Hid ((w.setCell ⟨B, zs.length, none⟩ (.int .u8 (m : Int))).ownsRow base e 1 (.slice (some ⟨B, 0, none⟩) n n) n ((zs ++ [(m : Int)] ++ List.replicate m 0).map (Value.int .u8))) := by
  have := (h.stored zs.length (.int .u8 (m : Int))).1
  rw [set_next zs (1 + m) (m : Int) (by omega), Nat.add_sub_cancel_left] at this
  exact this

set_option maxHeartbeats 400000 in
theorem packText_ok (w : World) (vb vt : Value) (zs ts : List Int) (hb : Sl w vb zs) (ht : Sl w vt ts) (hz : zs.length ≤ 50000) (hl : ts.length ≤ 255) :
    Calls Try.prog 11 #[vb, vt] w fun e w' => ∃ u, e = .returned (.tuple #[u, .int .i64 0]) ∧
      w'.ownsRow w.heap.size 5 1 u (zs ++ textBytes ts).length ((zs ++ textBytes ts).map (Value.int .u8)) ∧ Below w.heap.size w w' ∧ w.heap.size < w'.heap.size := by
  have HT := hide ht
  have HC := copyWithRoom_any w vb zs (1 + ts.length) hb (by omega)
  obtain ⟨_, ao, cap, rfl, _⟩ := hb
  obtain ⟨_, ao', cap', rfl, _⟩ := ht
  rw [show (((1 + ts.length : Nat)) : Int) = 1 + (ts.length : Int) by omega] at HC
  obtain ⟨B, hB⟩ : ∃ B, B = w.heap.size := ⟨_, rfl⟩
  rw [← hB] at HC
  rw [← hB]
  have HB : Hid (B = w.heap.size) := hB
  have i1 : decide ((255 : Int) < (ts.length : Int)) = false := decide_eq_false (by omega)
  clear hB
  by_cases hts : ts = []
  · subst hts
    have HC0 : Calls Try.prog 40 #[.slice ao zs.length cap, .int .i64 1] w fun e w' =>
      e = .returned (.slice (some ⟨B, 0, none⟩) (zs.length + 1) (zs.length + 1)) ∧
      w'.ownsRow B 5 1 (.slice (some ⟨B, 0, none⟩) (zs.length + 1) (zs.length + 1)) (zs.length + 1) ((zs ++ List.replicate 1 0).map (Value.int .u8)) ∧ Below B w w' ∧ B < w'.heap.size := HC
    clear HC
    go_enter Try.func11, Try.ntmps11
    go_wp2_with (go_at_call 40; refine HC0.mono ?_; rintro e w1 ⟨rfl, ho1, hb1, hz1⟩; have f1 := ho1.frozenAt zs.length; obtain ⟨q, hq⟩ := own_some ho1 zs.length (by omega); have hst : Hid ((w1.setCell ⟨B, zs.length, none⟩ (.int .u8 0)).ownsRow B 5 1 (.slice (some ⟨B, 0, none⟩) (zs.length + 1) (zs.length + 1)) (zs.length + 1) ((zs ++ [0] ++ List.replicate 0 0).map (Value.int .u8))) := text_set (m := 0) ho1; clear ho1)
    have hB2 := hb1.setCell (p := ⟨B, zs.length, none⟩) (Nat.le_refl _) (.int .u8 0)
    have S2 : Sl (w1.setCell ⟨B, zs.length, none⟩ (.int .u8 0)) (.slice ao' 0 cap') [] := HT.out.below (HB.out ▸ hB2)
    obtain ⟨w2, hrun, G2, hg2⟩ := run_copy_sl (P := Try.prog) _ 22 22 3 5 Try.underlying22 sizeU8 (some ⟨B, 0, none⟩) 0 0 B (zs.length + 1) _ (own_heap hst.out) ao' 0 cap' [] S2 (fun h => by simp at h) (by simp) (by simp)
    have HG2 := hide G2
    have hB3 : Below B w w2 := hB2.grown hg2 (by simp; omega) (by intro k hk; cases hk; exact Nat.le_refl _)
    rw [hrun]
    clear G2 hrun hg2 S2
    simp only [Result.andThen]
    rw [Oper.upon_value]
    go_wp2
    go_ret2
    have hlt : B < w2.heap.size := (Array.getElem?_eq_some_iff.1 HG2.out).1
    refine ⟨_, rfl, ?_, hB3, hlt⟩
    have := HG2.out
    have es := splice_tail zs [] 0
    rw [List.length_nil] at es
    rw [es] at this
    have e : (zs ++ textBytes []).length = zs.length + 1 := by rw [List.length_append]; rfl
    rw [e]
    exact heap_own (n := zs.length + 1) this (Nat.le_refl _) (by rw [List.length_map, List.length_append]; rfl) (by unfold maxLen; omega)
  · have hpos : 0 < ts.length := List.length_pos_iff.2 hts
    go_enter Try.func11, Try.ntmps11
    go_wp2_with (go_at_call 40; refine HC.mono ?_; rintro e w1 ⟨rfl, ho1, hb1, hz1⟩; have f1 := ho1.frozenAt zs.length; obtain ⟨q, hq⟩ := own_some ho1 zs.length (by omega); have hst := text_set ho1; clear ho1)
    have hB2 := hb1.setCell (p := ⟨B, zs.length, none⟩) (Nat.le_refl _) (.int .u8 (ts.length : Int))
    have S2 : Sl (w1.setCell ⟨B, zs.length, none⟩ (.int .u8 (ts.length : Int))) (.slice ao' ts.length cap') ts := HT.out.below (HB.out ▸ hB2)
    obtain ⟨w2, hrun, G2, hg2⟩ := run_copy_sl (P := Try.prog) _ 22 22 3 5 Try.underlying22 sizeU8 (some ⟨B, zs.length + 1, none⟩) (zs.length + (1 + ts.length) - (zs.length + 1)) (zs.length + (1 + ts.length) - (zs.length + 1)) B (zs.length + 1) _ (own_heap hst.out) ao' ts.length cap' ts S2 (fun _ => rfl) (by omega) (by simp; omega)
    have HG2 := hide G2
    have hB3 : Below B w w2 := hB2.grown hg2 (by simp; omega) (by intro k hk; cases hk; exact Nat.le_refl _)
    rw [hrun]
    clear G2 hrun hg2 S2
    simp only [Result.andThen]
    rw [Oper.upon_value]
    go_wp2
    go_ret2
    have hlt : B < w2.heap.size := (Array.getElem?_eq_some_iff.1 HG2.out).1
    refine ⟨_, rfl, ?_, hB3, hlt⟩
    have := HG2.out
    rw [splice_tail] at this
    have e : (zs ++ textBytes ts).length = zs.length + (1 + ts.length) := by simp [textBytes]; omega
    rw [e]
    exact heap_own (n := zs.length + (1 + ts.length)) this (Nat.le_refl _) (by rw [List.length_map]; exact e) (by unfold maxLen; omega)

end Go.Proofs.Ytbopcppagfhjnaa
