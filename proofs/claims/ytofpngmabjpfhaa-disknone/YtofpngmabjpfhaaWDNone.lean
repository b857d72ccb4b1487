/- The walk of the statement DiskNone. -/
import Derived.Test.YtofpngmabjpfhaaDLive
import Derived.Test.YtofpngmabjpfhaaDNot
import Derived.OpenShut
namespace Go.Proofs.Ytofpngmabjpfhaa
open Go.RowKit Go.ChangeShapes Go.WideShapes
set_option linter.unusedVariables false

set_option maxHeartbeats 1000000 in
set_option maxRecDepth 20000 in
theorem diskNone_walk (w : World) (p : Int) (v : Value) (zs : List Int) (hp : (Lit.int .i64 p).wf = true) (hS : Sl w v zs) :
    Calls Try.prog 7 #[.int .i64 p, v] w fun e w' => e = .returned (.bool true) ∧ Below w.heap.size w w' := by
  clear hp hS
  go_enter Try.func7, Try.ntmps7
  go_wp2
  go_loopg [13] 2 (fun g i wr => ∃ k : Nat, g + k = 2 ∧ i = .int .i64 k ∧ wr.cell? ⟨w.heap.size, 0, none⟩ = some (.slice none 0 0) ∧ wr.cell? ⟨w.heap.size + 1, 0, none⟩ = some (.pointer none) ∧ wr.cell? ⟨w.heap.size + 1, 1, none⟩ = some (dp w.heap.size) ∧ Below w.heap.size w wr)
  case atStart =>
    refine ⟨0, rfl, rfl, ?_, ?_, ?_, ((Below.refl _ w).alloc (Nat.le_refl _) _).alloc (by simp) _⟩
    · simp
    · have := Blk.cell (Blk.new (w.alloc (.cells #[.slice none 0 0, .slice none 0 0, .map none, .bool false, .bool false, .int .i64 0, .int .i64 0] 61)) 26 [.pointer none, dp w.heap.size]) 0
      rw [World.size_alloc] at this
      exact this
    · have := Blk.cell (Blk.new (w.alloc (.cells #[.slice none 0 0, .slice none 0 0, .map none, .bool false, .bool false, .int .i64 0, .int .i64 0] 61)) 26 [.pointer none, dp w.heap.size]) 1
      rw [World.size_alloc] at this
      exact this
  case round =>
    obtain ⟨k, hk, rfl, c0, c1, c2, hb⟩ := hrel
    cases gk with
    | zero =>
      obtain rfl : k = 2 := by omega
      have HL := hide (live_any wr)
      go_wp2_with (go_at_call 9; refine HL.out.mono ?_; rintro e w1 ⟨rfl, hb1⟩; clear HL)
      go_ret
      exact ⟨rfl, below_then hb hb1 (Nat.le_refl _)⟩
    | succ g =>
      have hki : (k : Int) < 2 := by omega
      obtain ⟨pv, hpv, cpv⟩ : ∃ pv, NotMade wr pv ∧ wr.cell? ⟨w.heap.size + 1, k, none⟩ = some pv := by
        have : k = 0 ∨ k = 1 := by omega
        rcases this with rfl | rfl
        · exact ⟨_, .inl rfl, c1⟩
        · exact ⟨_, .inr ⟨_, _, _, rfl, c0⟩, c2⟩
      have HR := hide (read_not wr pv p hpv)
      have HW := hide (write_not wr pv p v hpv)
      have HSy := hide (sync_not wr pv hpv)
      have HAr := hide (arm_not wr pv p hpv)
      have HCa := hide (calm_not wr pv hpv)
      have HCr := hide (crash_not wr pv (.slice none 0 0) hpv)
      have HLo := hide (load_not wr pv v hpv)
      have HOn := hide (on_not wr pv hpv)
      have HPa := hide (pages_not wr pv hpv)
      have HWa := hide (waits_not wr pv hpv)
      have HOp := hide (ops_not wr pv hpv)
      have HIm := hide (image_not wr pv hpv)
      have HCl := hide (clone_not wr pv hpv)
      have C0 := hide c0
      have C1 := hide c1
      have C2 := hide c2
      clear c0 c1 c2 hpv
      go_wp2_with (first
        | (go_at_call 23; refine HR.out.mono ?_; rintro e w1 ⟨rfl, hw⟩; subst w1; clear HR)
        | (go_at_call 15; refine HW.out.mono ?_; rintro e w1 ⟨rfl, hw⟩; subst w1; clear HW)
        | (go_at_call 22; refine HSy.out.mono ?_; rintro e w1 ⟨rfl, hw⟩; subst w1; clear HSy)
        | (go_at_call 25; refine HAr.out.mono ?_; rintro e w1 ⟨rfl, hw⟩; subst w1; clear HAr)
        | (go_at_call 26; refine HCa.out.mono ?_; rintro e w1 ⟨rfl, hw⟩; subst w1; clear HCa)
        | (go_at_call 17; refine HCr.out.mono ?_; rintro e w1 ⟨rfl, hw⟩; subst w1; clear HCr)
        | (go_at_call 27; refine HLo.out.mono ?_; rintro e w1 ⟨rfl, hw⟩; subst w1; clear HLo)
        | (go_at_call 28; refine HOn.out.mono ?_; rintro e w1 ⟨rfl, hw⟩; subst w1; clear HOn)
        | (go_at_call 29; refine HPa.out.mono ?_; rintro e w1 ⟨rfl, hw⟩; subst w1; clear HPa)
        | (go_at_call 24; refine HWa.out.mono ?_; rintro e w1 ⟨rfl, hw⟩; subst w1; clear HWa)
        | (go_at_call 30; refine HOp.out.mono ?_; rintro e w1 ⟨rfl, hw⟩; subst w1; clear HOp)
        | (go_at_call 19; refine HIm.out.mono ?_; rintro e w1 ⟨rfl, hw⟩; subst w1; clear HIm)
        | (go_at_call 14; refine HCl.out.mono ?_; rintro e w1 ⟨rfl, hw⟩; subst w1; clear HCl))
      go_roundg g
      case measure => omega
      case rel => exact ⟨k + 1, by omega, by go_num, C0.out, C1.out, C2.out, hb⟩

end Go.Proofs.Ytofpngmabjpfhaa
