/- Contract: package fold's Plain; the document's Plain. -/
import Derived.Test.YtfpphepjkpofiaaDoorFCk
namespace Go.Proofs.YtfpphepjkpofiaaDoor
set_option maxRecDepth 20000
open Go.RowKit
set_option linter.unusedVariables false
set_option linter.unusedSimpArgs false
set_option maxRecDepth 100000

abbrev plainC : Array Value := #[.int .i32 65, .int .i32 97, .int .i64 26, .int .i32 192, .int .i32 224, .int .i64 23, .int .i32 216, .int .i32 248, .int .i64 7, .int .i32 913, .int .i32 945, .int .i64 17, .int .i32 931, .int .i32 963, .int .i64 7, .int .i32 1040, .int .i32 1072, .int .i64 32]
theorem build_plain (w : World) : (Instr.buildSlice 37 6 #[(0, .agg #[.int .i32 65, .int .i32 97, .int .i64 26]), (1, .agg #[.int .i32 192, .int .i32 224, .int .i64 23]), (2, .agg #[.int .i32 216, .int .i32 248, .int .i64 7]), (3, .agg #[.int .i32 913, .int .i32 945, .int .i64 17]), (4, .agg #[.int .i32 931, .int .i32 963, .int .i64 7]), (5, .agg #[.int .i32 1040, .int .i32 1072, .int .i64 32])]).run Tryd.prog w = .ok (.slice (some ⟨w.heap.size, 0, none⟩) 6 6) (w.alloc (.cells plainC 40)) := by kernel_rfl
theorem plain_tbl (w : World) : Tbl (w.alloc (.cells plainC 40)) (.slice (some ⟨w.heap.size, 0, none⟩) 6 6) plainL := by
  refine ⟨?_, some ⟨w.heap.size, 0, none⟩, 6, rfl, by decide, by decide, fun _ => ⟨w.heap.size, 0, rfl, fun i hi => ?_⟩⟩
  · intro x hx
    simp only [plainL, List.mem_cons, List.not_mem_nil, or_false] at hx
    rcases hx with rfl | rfl | rfl | rfl | rfl | rfl <;> exact ⟨⟨by decide, by decide⟩, ⟨by decide, by decide⟩, by decide, by decide⟩
  · have hi' : i < 6 := hi
    obtain rfl | rfl | rfl | rfl | rfl | rfl : i = 0 ∨ i = 1 ∨ i = 2 ∨ i = 3 ∨ i = 4 ∨ i = 5 := by omega
    all_goals refine ⟨?_, ?_, ?_⟩ <;> (rw [World.cell?_alloc_at _ _ _ _ rfl]; rfl)
theorem plain_any (w : World) : Calls Tryd.prog 26 #[] w fun e w' => e = .returned (.slice (some ⟨w.heap.size, 0, none⟩) 6 6) ∧ w' = w.alloc (.cells plainC 40) := by
  have hb := build_plain w
  go_enter Tryd.func26, Tryd.ntmps26
  go_wp2
  go_ret
  exact ⟨rfl, rfl⟩
theorem refPlain_any (w : World) : Calls Tryd.prog 27 #[] w fun e w' => e = .returned (.slice (some ⟨w.heap.size, 0, none⟩) 6 6) ∧ w' = w.alloc (.cells plainC 40) := by
  have hb := build_plain w
  go_enter Tryd.func27, Tryd.ntmps27
  go_wp2
  go_ret
  exact ⟨rfl, rfl⟩
theorem plain_may : tblB plainL = true := by decide +kernel
theorem plain_use : useL plainL = plainL := if_pos plain_may

end Go.Proofs.YtfpphepjkpofiaaDoor
