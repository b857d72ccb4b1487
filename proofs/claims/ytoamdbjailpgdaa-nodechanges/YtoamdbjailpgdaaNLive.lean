/- Contract: the chapter's example (incipitlaw10.live). -/
import Derived.Test.YtoamdbjailpgdaaNPutP
import Derived.Test.YtoamdbjailpgdaaNKid
import Derived.Lib.SlBytesConst
namespace Go.Proofs.Ytoamdbjailpgdaa
set_option maxRecDepth 20000
open Go.RowKit
set_option linter.unusedVariables false
set_option linter.unusedSimpArgs false
set_option maxRecDepth 100000

theorem sl_mark (w : World) (e : TypeId) (fr : Nat × Nat) (zs : List Int) (hb : ByteOk zs) (hm : zs.length ≤ maxLen) :
    Sl (w.alloc (.cells (zs.map (Value.int .u8)).toArray e fr)) (.slice (some ⟨w.heap.size, 0, none⟩) zs.length zs.length) zs := by
  refine ⟨hb, _, _, rfl, Nat.le_refl _, hm, (fun h => by cases h), fun _ => ⟨_, 0, rfl, fun i hi => ?_⟩⟩
  rw [World.cell?_alloc_mark, Nat.zero_add, getD_lt zs hi]
  simp [hi]
theorem cv8 (w : World) (C : Array Value) (n c b : Nat) (hb : w.heap.size = b) : (convert 34 34 (.slice (some ⟨b, 0, none⟩) n c)).run Try.prog (w.alloc (.cells C 5)) = .ok (.slice (some ⟨b, 0, none⟩) n c) (w.alloc (.cells C 5 (C.size, C.size + 1))) := by
  subst hb
  exact Lib.run_convert_bytes_const (P := Try.prog) w 34 5 C n c Try.underlying34 Try.underlying5

def exL : Nd := ⟨true, [([97], [7]), ([98], [])], [], []⟩
def exI : Nd := ⟨false, [], [[98]], [5, 6]⟩
theorem exL_check : checkN exL = 0 := by decide
theorem exL_kind : putK exL = 3 := by decide
theorem exL_len : (putB exL).length = 240 := by decide
theorem exL_nine : (putB exL).take 9 = [2, 1, 97, 1, 7, 1, 98, 0, 0] := by decide
theorem exL_ok : ByteOk (putB exL) := by
  have : (putB exL).all (fun z => decide (0 ≤ z) && decide (z ≤ 255)) = true := by decide
  intro z hz
  have := List.all_eq_true.1 this z hz
  rw [Bool.and_eq_true, decide_eq_true_iff, decide_eq_true_iff] at this
  exact this
theorem exI_b : kidN exI [98] = 1 := by decide
theorem exI_azz : kidN exI [97, 122, 122] = 0 := by decide

abbrev sB (b : Nat) (n : Nat) : Value := .slice (some ⟨b, 0, none⟩) n n
abbrev wL (w : World) : World := (((w.alloc (.cells #[.int .u8 97] 5 (1, 2))).alloc (.cells #[.int .u8 7] 5)).alloc (.cells #[.int .u8 98] 5 (1, 2))).alloc (.cells #[.slice (some ⟨w.heap.size, 0, none⟩) 1 1, .slice (some ⟨w.heap.size + 1, 0, none⟩) 1 1, .slice (some ⟨w.heap.size + 1 + 1, 0, none⟩) 1 1, .slice none 0 0] 36)
theorem exL_val (w : World) : NdV (wL w) (.agg #[.bool true, .slice (some ⟨w.heap.size + 1 + 1 + 1, 0, none⟩) 2 2, .slice none 0 0, .slice none 0 0]) exL := by
  have s1 := sl_mark w 5 (1, 2) [97] (by intro z hz; simp at hz; omega) (by simp [maxLen])
  have s2 := sl_mark (w.alloc (.cells #[.int .u8 97] 5 (1, 2))) 5 (0, 0) [7] (by intro z hz; simp at hz; omega) (by simp [maxLen])
  have s3 := sl_mark ((w.alloc (.cells #[.int .u8 97] 5 (1, 2))).alloc (.cells #[.int .u8 7] 5)) 5 (1, 2) [98] (by intro z hz; simp at hz; omega) (by simp [maxLen])
  have s4 := Blk.new (((w.alloc (.cells #[.int .u8 97] 5 (1, 2))).alloc (.cells #[.int .u8 7] 5)).alloc (.cells #[.int .u8 98] 5 (1, 2))) 36 [.slice (some ⟨w.heap.size, 0, none⟩) 1 1, .slice (some ⟨w.heap.size + 1, 0, none⟩) 1 1, .slice (some ⟨w.heap.size + 1 + 1, 0, none⟩) 1 1, .slice none 0 0]
  rw [World.size_alloc] at s2
  rw [World.size_alloc, World.size_alloc] at s3
  rw [World.size_alloc, World.size_alloc, World.size_alloc] at s4
  refine ⟨_, _, _, [(sB w.heap.size 1, sB (w.heap.size + 1) 1), (sB (w.heap.size + 1 + 1) 1, nilS)], [], rfl, ⟨rfl, _, 2, rfl, Nat.le_refl _, by simp [maxLen], fun i hi => ?_, fun _ => ⟨w.heap.size + 1 + 1 + 1, 0, rfl, fun i hi => ?_⟩⟩, Bss.nil _, Is.nil' _⟩
  · have hi' : i < 2 := hi
    rcases (show i = 0 ∨ i = 1 by omega) with rfl | rfl
    · exact ⟨((s1.alloc _).alloc _).alloc _, (s2.alloc _).alloc _⟩
    · exact ⟨s3.alloc _, Sl.nil _⟩
  · have hi' : i < 2 := hi
    rcases (show i = 0 ∨ i = 1 by omega) with rfl | rfl
    · exact s4.range 0 _ (fun j hj => by rcases (show j = 0 ∨ j = 1 by simp at hj; omega) with rfl | rfl <;> rfl)
    · exact s4.range 2 _ (fun j hj => by rcases (show j = 0 ∨ j = 1 by simp at hj; omega) with rfl | rfl <;> rfl)
abbrev wI (w : World) : World := ((w.alloc (.cells #[.int .u8 98] 5 (1, 2))).alloc (.cells #[.slice (some ⟨w.heap.size, 0, none⟩) 1 1] 34)).alloc (.cells #[.int .i64 5, .int .i64 6] 3)
abbrev vI (w : World) : Value := .agg #[.bool false, .slice none 0 0, .slice (some ⟨w.heap.size + 1, 0, none⟩) 1 1, .slice (some ⟨w.heap.size + 1 + 1, 0, none⟩) 2 2]
theorem exI_val (w : World) : NdV (wI w) (vI w) exI := by
  have s1 := sl_mark w 5 (1, 2) [98] (by intro z hz; simp at hz; omega) (by simp [maxLen])
  have s2 := Blk.new (w.alloc (.cells #[.int .u8 98] 5 (1, 2))) 34 [.slice (some ⟨w.heap.size, 0, none⟩) 1 1]
  have s3 := Blk.new ((w.alloc (.cells #[.int .u8 98] 5 (1, 2))).alloc (.cells #[.slice (some ⟨w.heap.size, 0, none⟩) 1 1] 34)) 3 [.int .i64 5, .int .i64 6]
  rw [World.size_alloc] at s2
  rw [World.size_alloc, World.size_alloc] at s3
  have s2' := s2.alloc (.cells #[.int .i64 5, .int .i64 6] 3)
  refine ⟨_, _, _, [], [sB w.heap.size 1], rfl, Prs.nil _, ⟨rfl, _, 1, rfl, Nat.le_refl _, by simp [maxLen], fun i hi => ?_, fun _ => ⟨w.heap.size + 1, 0, rfl, fun i hi => ?_⟩⟩, ⟨_, 2, rfl, Nat.le_refl _, by simp [maxLen], fun _ => ⟨w.heap.size + 1 + 1, 0, rfl, fun i hi => ?_⟩⟩⟩
  · have hi' : i < 1 := hi
    obtain rfl : i = 0 := by omega
    exact (s1.alloc _).alloc _
  · have hi' : i < 1 := hi
    obtain rfl : i = 0 := by omega
    exact s2'.cell 0
  · have hi' : i < 2 := hi
    rcases (show i = 0 ∨ i = 1 by omega) with rfl | rfl
    · exact s3.cell 0
    · exact s3.cell 1

set_option maxHeartbeats 2000000 in
theorem live_any (w : World) : Calls Try.prog 8 #[] w fun e w' => e = .returned (.bool true) ∧ Below w.heap.size w w' := by
  have cv1 := cv8 w #[.int .u8 97] 1 1 w.heap.size rfl
  have cv2 := cv8 ((w.alloc (.cells #[.int .u8 97] 5 (1, 2))).alloc (.cells #[.int .u8 7] 5)) #[.int .u8 98] 1 1 (w.heap.size + 1 + 1) (by simp)
  have hPU := put_any _ _ _ (exL_val w)
  rw [exL_kind, exL_check] at hPU
  have HPU := hide hPU
  have hbL : Below w.heap.size w (wL w) := ((((Below.refl _ w).alloc (Nat.le_refl _) _).alloc (by simp) _).alloc (by simp; omega) _).alloc (by simp; omega) _
  have HBL := hide hbL
  have HBLs := hide hbL.size
  have H9 := hide exL_nine
  have HOK := hide exL_ok
  have hl := exL_len
  generalize putB exL = PB at *
  clear hPU hbL
  go_enter Try.func8, Try.ntmps8
  go_wp2_with (first
    | (go_at_call 18; refine HPU.out.mono ?_; rintro e w2 ⟨u, rfl, ho2, hb2⟩; have HB2 := hide (HBL.out.trans (hb2.mono HBLs.out)); obtain ⟨ua, uc, rfl⟩ := own_form' ho2; have hcap := own_len ho2; have HO2 := hide ho2; have cv3 := cv8 w2 #[.int .u8 98] 1 1 w2.heap.size rfl; clear HPU ho2 hb2 cv1 cv2))
  obtain ⟨W4, hW4⟩ : ∃ W4, ((wI w2).alloc (.cells #[.bool false, .slice none 0 0, .slice (some ⟨w2.heap.size + 1, 0, none⟩) 1 1, .slice (some ⟨w2.heap.size + 1 + 1, 0, none⟩) 2 2] 26)).alloc (.cells #[.int .u8 2, .int .u8 1, .int .u8 97, .int .u8 1, .int .u8 7, .int .u8 1, .int .u8 98, .int .u8 0, .int .u8 0] 5) = W4 := ⟨_, rfl⟩
  have hb4 : Below w2.heap.size w2 W4 := by rw [← hW4]; exact (((((Below.refl _ w2).alloc (Nat.le_refl _) _).alloc (by simp) _).alloc (by simp; omega) _).alloc (by simp; omega) _).alloc (by simp; omega) _
  have hsz4 : W4.heap.size = w2.heap.size + 5 := by rw [← hW4]; simp
  have hs9 : Sl W4 (.slice (some ⟨w2.heap.size + 1 + 1 + 1 + 1, 0, none⟩) 9 9) [2, 1, 97, 1, 7, 1, 98, 0, 0] := by
    have := sl_mark ((wI w2).alloc (.cells #[.bool false, .slice none 0 0, .slice (some ⟨w2.heap.size + 1, 0, none⟩) 1 1, .slice (some ⟨w2.heap.size + 1 + 1, 0, none⟩) 2 2] 26)) 5 (0, 0) [2, 1, 97, 1, 7, 1, 98, 0, 0] (by intro z hz; simp at hz; omega) (by simp [maxLen])
    rw [World.size_alloc, World.size_alloc, World.size_alloc, World.size_alloc] at this
    rw [← hW4]
    exact this
  have hsu : Sl W4 (.slice ua 9 uc) [2, 1, 97, 1, 7, 1, 98, 0, 0] := by
    have := (sl_of_own_len HO2.out HOK.out).below hb4
    have := sl_take 9 this (by omega)
    rwa [H9.out] at this
  have HEQ := hide (equal_any W4 _ _ _ _ hsu hs9)
  rw [decide_eq_true rfl] at HEQ
  have HVI : Hid (NdV W4 (vI w2) exI) := by show NdV W4 _ _; rw [← hW4]; exact ((exI_val w2).alloc _).alloc _
  have HBX : Hid (Blk W4 (w2.heap.size + 1 + 1 + 1) 26 (ndc false (.slice none 0 0) (.slice (some ⟨w2.heap.size + 1, 0, none⟩) 1 1) (.slice (some ⟨w2.heap.size + 1 + 1, 0, none⟩) 2 2))) := by
    have := Blk.new (wI w2) 26 (ndc false (.slice none 0 0) (.slice (some ⟨w2.heap.size + 1, 0, none⟩) 1 1) (.slice (some ⟨w2.heap.size + 1 + 1, 0, none⟩) 2 2))
    rw [World.size_alloc, World.size_alloc, World.size_alloc] at this
    show Blk W4 _ _ _
    rw [← hW4]
    exact Blk.alloc this _
  obtain ⟨z0, z1, z2, z3⟩ := box_ndc HBX.out
  have cv4 := cv8 W4 #[.int .u8 98] 1 1 W4.heap.size rfl
  have HK1 := hide (kid_any (W4.alloc (.cells #[.int .u8 98] 5 (1, 2))) _ _ (HVI.out.alloc _) (.slice (some ⟨W4.heap.size, 0, none⟩) 1 1) [98] (sl_mark W4 5 (1, 2) [98] (by intro z hz; simp at hz; omega) (by simp [maxLen])))
  rw [exI_b] at HK1
  have HB4 := hide (HB2.out.trans (hb4.mono HB2.out.size))
  have HB5 : Hid (Below w.heap.size w (W4.alloc (.cells #[.int .u8 98] 5 (1, 2)))) := HB4.out.alloc HB4.out.size _
  have HK2 : Hid (∀ W6, Below W4.heap.size W4 W6 → Calls Try.prog 26 #[vI w2, .slice (some ⟨W6.heap.size, 0, none⟩) 3 3] (W6.alloc (.cells #[.int .u8 97, .int .u8 122, .int .u8 122] 5 (3, 4))) fun e w' => e = .returned (.int .i64 0) ∧ Below (W6.alloc (.cells #[.int .u8 97, .int .u8 122, .int .u8 122] 5 (3, 4))).heap.size (W6.alloc (.cells #[.int .u8 97, .int .u8 122, .int .u8 122] 5 (3, 4))) w') := fun W6 hb => by
    have := kid_any (W6.alloc (.cells #[.int .u8 97, .int .u8 122, .int .u8 122] 5 (3, 4))) _ _ ((HVI.out.below hb).alloc _) (.slice (some ⟨W6.heap.size, 0, none⟩) 3 3) [97, 122, 122] (sl_mark W6 5 (3, 4) [97, 122, 122] (by intro z hz; simp at hz; omega) (by simp [maxLen]))
    rwa [exI_azz] at this
  rw [show ((wI w2).alloc (.cells #[.bool false, .slice none 0 0, .slice (some ⟨w2.heap.size + 1, 0, none⟩) 1 1, .slice (some ⟨w2.heap.size + 1 + 1, 0, none⟩) 2 2] 26)).alloc (.cells #[.int .u8 2, .int .u8 1, .int .u8 97, .int .u8 1, .int .u8 7, .int .u8 1, .int .u8 98, .int .u8 0, .int .u8 0] 5) = W4 from hW4]
  clear hW4 hs9 hsu hb4 cv3
  refine HEQ.out.mono ?_
  rintro e w4 ⟨rfl, hw⟩
  subst w4
  have HS4 := hide hsz4
  clear hsz4
  go_wp2_with (first
    | (go_at_call 26; refine HK1.out.mono ?_; rintro e w6 ⟨rfl, hb6⟩; clear HK1; have hb46 := after_alloc hb6; have HB6 := hide (HB5.out.trans (hb6.mono HB5.out.size)); have HB46 := hide hb46; obtain ⟨y0, y1, y2, y3⟩ := box_ndc (HBX.out.below hb46 HBX.out.lt); have cv5 := cv8 w6 #[.int .u8 97, .int .u8 122, .int .u8 122] 3 3 w6.heap.size rfl; clear hb46 hb6)
    | (go_at_call 26; refine (HK2.out w6 HB46.out).mono ?_; rintro e w7 ⟨rfl, hb7⟩; clear HK2; have HB7 := hide ((HB6.out.alloc HB6.out.size (.cells #[.int .u8 97, .int .u8 122, .int .u8 122] 5 (3, 4))).trans (hb7.mono (by have := HB6.out.size; simp; omega))); clear hb7))
  go_ret
  exact ⟨rfl, HB7.out⟩

end Go.Proofs.Ytoamdbjailpgdaa
