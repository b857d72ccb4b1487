/- Contract: the beginning of layer 14's laws (incipitlaw14.live). -/
import Derived.Test.YtgeclnnhblffkaaDoorWdToks
import Derived.Lib.SlBytesConst
namespace Go.Proofs.YtgeclnnhblffkaaDoor
set_option maxRecDepth 20000
open Go.RowKit
set_option linter.unusedVariables false
set_option linter.unusedSimpArgs false
set_option maxRecDepth 100000

theorem sl_markK (w : World) (e : TypeId) (fr : Nat × Nat) (zs : List Int) (hb : ByteOk zs) (hm : zs.length ≤ maxLen) :
    Sl (w.alloc (.cells (zs.map (Value.int .u8)).toArray e fr)) (.slice (some ⟨w.heap.size, 0, none⟩) zs.length zs.length) zs := by
  refine ⟨hb, _, _, rfl, Nat.le_refl _, hm, (fun h => by cases h), fun _ => ⟨_, 0, rfl, fun i hi => ?_⟩⟩
  rw [World.cell?_alloc_mark, Nat.zero_add, getD_lt zs hi]
  simp [hi]
def exC : Cn := ⟨[(65, 97, 26)], [[116, 104, 101]], 4⟩
def exT : List Int := [84, 104, 101, 32, 67, 97, 116, 115, 44, 32, 116, 104, 101, 32, 67, 65, 84, 83, 39, 32, 49, 50]
def exK : List Tk := [([99, 97, 116, 115], 1), ([99, 97, 116, 115], 3), ([49, 50], 4)]
theorem ex_tok : tokC exC (rs exT) = exK := by decide +kernel
theorem exC_ok : CnOk exC := ⟨by decide, by decide, by decide, by decide, by decide⟩
theorem exT_ok : ByteOk exT := by
  intro z hz
  simp [exT] at hz
  omega

theorem some_any (w : World) : Calls Tryd.prog 35 #[] w fun e w' => ∃ fo so, e = .returned (.agg #[.slice fo 1 1, .slice so 1 1, .int .i64 4]) ∧ CnfV w' (.agg #[.slice fo 1 1, .slice so 1 1, .int .i64 4]) exC ∧ Below w.heap.size w w' := by
  go_enter Tryd.func35, Tryd.ntmps35
  go_wp2
  obtain ⟨w1, hw1⟩ : ∃ w1, w.alloc (.cells #[.slice (some ⟨w.heap.size + 1, 0, none⟩) 1 1, .slice (some ⟨w.heap.size + 1 + 1, 0, none⟩) 1 1, .int .i64 4] 25) = w1 := ⟨_, rfl⟩
  obtain ⟨w2, hw2⟩ : ∃ w2, w1.alloc (.cells #[.int .i32 65, .int .i32 97, .int .i64 26] 63) = w2 := ⟨_, rfl⟩
  obtain ⟨w3, hw3⟩ : ∃ w3, w2.alloc (.cells #[.string ⟨#[116, 104, 101]⟩] 9) = w3 := ⟨_, rfl⟩
  have s1 : w1.heap.size = w.heap.size + 1 := by rw [← hw1]; simp
  have s2 : w2.heap.size = w.heap.size + 1 + 1 := by rw [← hw2]; simp [s1]
  have b1 : Blk w3 w.heap.size 25 [.slice (some ⟨w.heap.size + 1, 0, none⟩) 1 1, .slice (some ⟨w.heap.size + 1 + 1, 0, none⟩) 1 1, .int .i64 4] := by
    rw [← hw3, ← hw2, ← hw1]; exact ((Blk.new w _ _).alloc _).alloc _
  have b2 : Blk w3 (w.heap.size + 1) 63 [.int .i32 65, .int .i32 97, .int .i64 26] := by
    rw [← hw3, ← hw2, ← s1]; exact (Blk.new w1 _ _).alloc _
  have b3 : Blk w3 (w.heap.size + 1 + 1) 9 [.string ⟨#[116, 104, 101]⟩] := by
    rw [← hw3, ← s2]; exact Blk.new w2 _ _
  have hb : Below w.heap.size w w3 := by rw [← hw3, ← hw2, ← hw1]; exact (((Below.refl _ w).alloc (Nat.le_refl _) _).alloc (by simp) _).alloc (by simp; omega) _
  rw [hw1, hw2, hw3]
  refine bodyPost_ret (results_cell_row rfl _ _ w.heap.size 25 #[.slice (some ⟨w.heap.size + 1, 0, none⟩) 1 1, .slice (some ⟨w.heap.size + 1 + 1, 0, none⟩) 1 1, .int .i64 4] (0, 0) _ rfl b1 Tryd.underlying25 rfl sizeConf) rfl ?_
  refine ⟨_, _, rfl, ⟨_, _, _, _, rfl, ⟨?_, _, _, rfl, by decide, by decide, fun _ => ⟨_, 0, rfl, fun i hi => ?_⟩⟩, ⟨?_, _, _, rfl, by decide, by decide, fun _ => ⟨_, 0, rfl, fun i hi => ?_⟩⟩⟩, hb⟩
  · intro x hx
    obtain rfl : x = (65, 97, 26) := by simpa [exC] using hx
    exact ⟨⟨by decide, by decide⟩, ⟨by decide, by decide⟩, by decide, by decide⟩
  · obtain rfl : i = 0 := by simp [exC] at hi; omega
    exact ⟨b2.cell 0, b2.cell 1, b2.cell 2⟩
  · intro z hz
    obtain rfl : z = [116, 104, 101] := by simpa [exC] using hz
    intro y hy
    simp at hy
    omega
  · obtain rfl : i = 0 := by simp [exC] at hi; omega
    exact b3.cell 0

theorem cvK (w : World) (C : Array Value) (n c b : Nat) (hb : w.heap.size = b) : (convert 26 26 (.slice (some ⟨b, 0, none⟩) n c)).run Tryd.prog (w.alloc (.cells C 5)) = .ok (.slice (some ⟨b, 0, none⟩) n c) (w.alloc (.cells C 5 (C.size, C.size + 1))) := by
  subst hb
  exact Lib.run_convert_bytes_const (P := Tryd.prog) w 26 5 C n c Tryd.underlying26 Tryd.underlying5
abbrev exA : Array Value := #[.int .u8 84, .int .u8 104, .int .u8 101, .int .u8 32, .int .u8 67, .int .u8 97, .int .u8 116, .int .u8 115, .int .u8 44, .int .u8 32, .int .u8 116, .int .u8 104, .int .u8 101, .int .u8 32, .int .u8 67, .int .u8 65, .int .u8 84, .int .u8 83, .int .u8 39, .int .u8 32, .int .u8 49, .int .u8 50]
theorem ex_tks (w : World) : Tks (w.alloc (.cells #[.string ⟨#[99, 97, 116, 115]⟩, .int .i64 1, .string ⟨#[99, 97, 116, 115]⟩, .int .i64 3, .string ⟨#[49, 50]⟩, .int .i64 4] 42)) (.slice (some ⟨w.heap.size, 0, none⟩) 3 3) exK := by
  have hB := Blk.new w 42 [.string ⟨#[99, 97, 116, 115]⟩, .int .i64 1, .string ⟨#[99, 97, 116, 115]⟩, .int .i64 3, .string ⟨#[49, 50]⟩, .int .i64 4]
  refine ⟨_, _, rfl, by decide, by decide, by decide, fun _ => ⟨_, 0, rfl, fun i hi => ?_⟩⟩
  obtain rfl | rfl | rfl : i = 0 ∨ i = 1 ∨ i = 2 := by simp [exK] at hi; omega
  · exact ⟨hB.cell 0, hB.cell 1⟩
  · exact ⟨hB.cell 2, hB.cell 3⟩
  · exact ⟨hB.cell 4, hB.cell 5⟩

set_option maxHeartbeats 1000000 in
theorem liveW_any (w : World) (hL : Let w) : Calls Tryd.prog 9 #[] w fun e w' => e = .returned (.bool true) ∧ Below w.heap.size w w' := by
  have HSM := hide (some_any w)
  have HCV : Hid (∀ W : World, (convert 26 26 (.slice (some ⟨W.heap.size, 0, none⟩) 22 22)).run Tryd.prog (W.alloc (.cells exA 5)) = .ok (.slice (some ⟨W.heap.size, 0, none⟩) 22 22) (W.alloc (.cells exA 5 (22, 23)))) := fun W => cvK W exA 22 22 W.heap.size rfl
  have HTK : Hid (∀ W v, Below w.heap.size w W → CnfV W v exC → Calls Tryd.prog 22 #[v, .slice (some ⟨W.heap.size, 0, none⟩) 22 22] (W.alloc (.cells exA 5 (22, 23))) fun e w' => ∃ u, e = .returned u ∧ Tks w' u exK ∧ Below w.heap.size w w') := fun W v hb hv => by
    have h1 : Below W.heap.size W (W.alloc (.cells exA 5 (22, 23))) := (Below.refl _ W).alloc (Nat.le_refl _) _
    have h2 : Sl (W.alloc (.cells exA 5 (22, 23))) (.slice (some ⟨W.heap.size, 0, none⟩) 22 22) exT := sl_markK W 5 (22, 23) exT exT_ok (by decide)
    have h3 := hb.trans (h1.mono hb.size)
    refine (tokens_any _ v exC (hv.below h1) exC_ok _ exT h2 (by decide) (hL.below h3)).mono ?_
    rintro e w' ⟨u, rfl, ht, hb'⟩
    rw [ex_tok] at ht
    exact ⟨u, rfl, ht.read (by decide), h3.trans (hb'.mono h3.size)⟩
  have HEQ : Hid (∀ W v u, Tks W v exK → Tks W u exK → Calls Tryd.prog 21 #[v, u] W fun e w' => e = .returned (.bool true) ∧ Below W.heap.size W w') := fun W v u h1 h2 => by
    have hk : ∀ x ∈ exK, ByteOk x.1 := by rw [← ex_tok]; exact tokC_ok _ _
    have := equalT_any W v u exK exK h1 h2 hk hk
    rwa [decide_eq_true rfl] at this
  clear hL
  go_enter Tryd.func9, Tryd.ntmps9
  go_wp2_with (first
    | (go_at_call 35; refine HSM.out.mono ?_; rintro e w1 ⟨fo, so, rfl, hv, hb⟩; have cv := HCV.out w1; have HT := hide (HTK.out w1 _ hb hv); clear HSM HTK HCV hv hb)
    | (go_at_call 22; refine HT.out.mono ?_; rintro e w2 ⟨u, rfl, ht, hb⟩; obtain ⟨ua, uc, rfl⟩ := ht.len; have HX := ex_tks w2; obtain ⟨w3, hw3⟩ : ∃ w3, w2.alloc (.cells #[.string ⟨#[99, 97, 116, 115]⟩, .int .i64 1, .string ⟨#[99, 97, 116, 115]⟩, .int .i64 3, .string ⟨#[49, 50]⟩, .int .i64 4] 42) = w3 := ⟨_, rfl⟩; rw [hw3] at HX; have hb23 : Below w2.heap.size w2 w3 := (by rw [← hw3]; exact (Below.refl _ w2).alloc (Nat.le_refl _) _); have HE := hide (HEQ.out w3 _ _ (ht.below hb23) HX); have HB3 := hide (hb.trans (hb23.mono hb.size)); clear HT HEQ ht hb hb23 HX)
    | (go_at_call 21; refine HE.out.mono ?_; rintro e w4 ⟨rfl, hb⟩; have HB4 := hide (HB3.out.trans (hb.mono HB3.out.size)); clear HE hb))
  go_ret
  exact ⟨rfl, HB4.out⟩

end Go.Proofs.YtgeclnnhblffkaaDoor
