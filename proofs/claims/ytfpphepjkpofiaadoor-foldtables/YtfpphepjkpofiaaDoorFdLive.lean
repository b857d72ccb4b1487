/- Contract: the beginning of layer 13's laws (incipitlaw13.live). -/
import Derived.Test.YtfpphepjkpofiaaDoorFText
import Derived.Test.YtfpphepjkpofiaaDoorFPlain
import Derived.Lib.SlBytesConst
namespace Go.Proofs.YtfpphepjkpofiaaDoor
set_option maxRecDepth 20000
open Go.RowKit
set_option linter.unusedVariables false
set_option linter.unusedSimpArgs false
set_option maxRecDepth 100000

theorem sl_mark (w : World) (e : TypeId) (fr : Nat × Nat) (zs : List Int) (hb : ByteOk zs) (hm : zs.length ≤ maxLen) :
    Sl (w.alloc (.cells (zs.map (Value.int .u8)).toArray e fr)) (.slice (some ⟨w.heap.size, 0, none⟩) zs.length zs.length) zs := by
  refine ⟨hb, _, _, rfl, Nat.le_refl _, hm, (fun h => by cases h), fun _ => ⟨_, 0, rfl, fun i hi => ?_⟩⟩
  rw [World.cell?_alloc_mark, Nat.zero_add, getD_lt zs hi]
  simp [hi]
theorem cv8 (w : World) (C : Array Value) (n c b : Nat) (hb : w.heap.size = b) : (convert 22 22 (.slice (some ⟨b, 0, none⟩) n c)).run Tryd.prog (w.alloc (.cells C 5)) = .ok (.slice (some ⟨b, 0, none⟩) n c) (w.alloc (.cells C 5 (C.size, C.size + 1))) := by
  subst hb
  exact Lib.run_convert_bytes_const (P := Tryd.prog) w 22 5 C n c Tryd.underlying22 Tryd.underlying5

theorem ex_fold : strOfNums (foldZ plainL (runesN [65, 195, 137, 255])) = ⟨#[97, 195, 169, 239, 191, 189]⟩ := by decide +kernel
theorem ex_count : (runesN [195, 169, 97]).length = 2 := by decide +kernel
theorem ex_z : letB 122 = true := by decide
theorem ex_m : letB 45 = false := by decide

set_option maxHeartbeats 1000000 in
theorem live_any (w : World) (hL : Let w) : Calls Tryd.prog 8 #[] w fun e w' => e = .returned (.bool true) ∧ Below w.heap.size w w' := by
  have HPL := hide (plain_any w)
  have cv1 := cv8 (w.alloc (.cells plainC 40)) #[.int .u8 65, .int .u8 195, .int .u8 137, .int .u8 255] 4 4 (w.heap.size + 1) (by simp)
  obtain ⟨W1, hW1⟩ : ∃ W1, (w.alloc (.cells plainC 40)).alloc (.cells #[.int .u8 65, .int .u8 195, .int .u8 137, .int .u8 255] 5 (4, 5)) = W1 := ⟨_, rfl⟩
  have hb1 : Below w.heap.size w W1 := by rw [← hW1]; exact ((Below.refl _ w).alloc (Nat.le_refl _) _).alloc (by simp) _
  have hT1 : Tbl W1 (.slice (some ⟨w.heap.size, 0, none⟩) 6 6) plainL := by rw [← hW1]; exact (plain_tbl w).below ((Below.refl _ _).alloc (Nat.le_refl _) _)
  have hS1 : Sl W1 (.slice (some ⟨w.heap.size + 1, 0, none⟩) 4 4) [65, 195, 137, 255] := by
    have := sl_mark (w.alloc (.cells plainC 40)) 5 (4, 5) [65, 195, 137, 255] (by intro z hz; simp at hz; omega) (by simp [maxLen])
    rw [World.size_alloc] at this
    rw [← hW1]
    exact this
  have hX := text_any W1 _ plainL hT1 _ _ hS1 (by simp) (hL.below hb1)
  rw [plain_use, ex_fold] at hX
  have HX := hide hX
  have HB1 := hide hb1
  have HZ : Hid (∀ W, Below w.heap.size w W → Calls Tryd.prog 14 #[.int .i32 122] W fun e w' => e = .returned (.bool true) ∧ Below W.heap.size W w') := fun W hb => by
    have := letter_any W 122 ⟨by decide, by decide⟩ (hL.below hb)
    rwa [ex_z] at this
  have HM : Hid (∀ W, Below w.heap.size w W → Calls Tryd.prog 14 #[.int .i32 45] W fun e w' => e = .returned (.bool false) ∧ Below W.heap.size W w') := fun W hb => by
    have := letter_any W 45 ⟨by decide, by decide⟩ (hL.below hb)
    rwa [ex_m] at this
  have HC : Hid (∀ W, Below w.heap.size w W → Calls Tryd.prog 13 #[.slice (some ⟨W.heap.size, 0, none⟩) 3 3] (W.alloc (.cells #[.int .u8 195, .int .u8 169, .int .u8 97] 5 (3, 4))) fun e w' => e = .returned (.int .i64 2) ∧ Below w.heap.size w w') := fun W hb => by
    have := count_any (W.alloc (.cells #[.int .u8 195, .int .u8 169, .int .u8 97] 5 (3, 4))) _ _ (sl_mark W 5 (3, 4) [195, 169, 97] (by intro z hz; simp at hz; omega) (by simp [maxLen])) (by simp)
    rw [ex_count] at this
    exact this.mono fun e w' ⟨h1, h2⟩ => ⟨h1, (hb.alloc hb.size _).trans (h2.mono (by have := hb.size; simp; omega))⟩
  have HCV : Hid (∀ W : World, (convert 22 22 (.slice (some ⟨W.heap.size, 0, none⟩) 3 3)).run Tryd.prog (W.alloc (.cells #[.int .u8 195, .int .u8 169, .int .u8 97] 5)) = .ok (.slice (some ⟨W.heap.size, 0, none⟩) 3 3) (W.alloc (.cells #[.int .u8 195, .int .u8 169, .int .u8 97] 5 (3, 4)))) := fun W => cv8 W #[.int .u8 195, .int .u8 169, .int .u8 97] 3 3 W.heap.size rfl
  clear hL hb1 hT1 hS1 hX
  go_enter Tryd.func8, Tryd.ntmps8
  go_wp2_with (first
    | (go_at_call 26; refine HPL.out.mono ?_; rintro e wx ⟨rfl, hw⟩; subst wx; clear HPL)
    | (go_at_call 23; (try rw [hW1]); refine HX.out.mono ?_; rintro e w2 ⟨rfl, hb⟩; have HB2 := hide (HB1.out.trans (hb.mono HB1.out.size)); clear HX hb)
    | (go_at_call 14; refine (HZ.out w2 HB2.out).mono ?_; rintro e w3 ⟨rfl, hb⟩; have HB3 := hide (HB2.out.trans (hb.mono HB2.out.size)); clear HZ hb)
    | (go_at_call 14; refine (HM.out w3 HB3.out).mono ?_; rintro e w4 ⟨rfl, hb⟩; have HB4 := hide (HB3.out.trans (hb.mono HB3.out.size)); have cv2 := HCV.out w4; clear HM hb)
    | (go_at_call 13; refine (HC.out w4 HB4.out).mono ?_; rintro e w5 ⟨rfl, hb⟩; have HB5 := hide hb; clear HC hb))
  go_ret
  exact ⟨rfl, HB5.out⟩

end Go.Proofs.YtfpphepjkpofiaaDoor
