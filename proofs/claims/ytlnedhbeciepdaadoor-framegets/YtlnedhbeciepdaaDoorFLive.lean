/- Contracts: the chapter's example (incipitlaw04.live), and when two frames are alike, byte by byte. -/
import Derived.Test.YtlnedhbeciepdaaDoorFGet2
namespace Go.Proofs.YtlnedhbeciepdaaDoor
open Go.RowKit
set_option linter.unusedVariables false

theorem own_n {w : World} {base : Nat} {e : TypeId} {a : Option Addr} {n c m : Nat} {xs : List Value} (h : w.ownsRow base e 1 (.slice a n c) m xs) : n = m := by
  rcases h.2 with ⟨h1, h2⟩ | ⟨g, cap, cur, h1, _⟩
  · simp at h1; omega
  · simp at h1; omega

theorem example_page : ((pageS 2 5 1 [7, 8]).take 18).drop 4 = [2, 0, 0, 5, 0, 0, 0, 0, 0, 0, 0, 1, 7, 8] := by
  have e : pageS 2 5 1 [7, 8] = be4 (ofS (bodyS 2 5 1 [7, 8])) ++ ([2, 0, 0, 5, 0, 0, 0, 0, 0, 0, 0, 1, 7, 8] ++ List.replicate 238 0) := by
    unfold pageS sealS
    congr 1
  rw [e]
  unfold be4
  rfl

/-- the example's page, and what is got of it -/
theorem example_facts : ∃ PG D : List Int, PG = pageS 2 5 1 [7, 8] ∧ PG.length = 256 ∧ ByteOk PG ∧ (PG.take 18).drop 4 = [2, 0, 0, 5, 0, 0, 0, 0, 0, 0, 0, 1, 7, 8] ∧ getS PG 5 = ⟨0, 2, 5, 1, D⟩ ∧ D.length = 240 := by
  have hg := getS_page 2 5 1 [7, 8] 5 (by omega) (by omega) (by omega)
  rw [if_pos (show ((5 : Nat) : Int) = 5 from rfl)] at hg
  exact ⟨_, loadS [7, 8] 0, rfl, pageS_len _ _ _ _, pageS_ok (by omega) (by intro z hz; simp at hz; omega), example_page, hg, loadS_len _ _⟩

set_option maxHeartbeats 1000000 in
theorem liveF_any (w : World) (hT : Tab w) :
    Calls Tryd.prog 8 #[] w fun e w' => e = .returned (.bool true) ∧ Below w.heap.size w w' := by
  obtain ⟨PG, D, hPG, hlen, hok, hex, hg, hD⟩ := example_facts
  have hS : Sl (w.alloc (.cells #[.int .u8 7, .int .u8 8] 5)) (.slice (some ⟨w.heap.size, 0, none⟩) 2 2) [7, 8] := by
    have := sl_lit w 5 [7, 8] (by intro z hz; simp at hz; omega) (by simp [maxLen])
    simpa using this
  have HP : Hid (Calls Tryd.prog 11 #[.agg #[.int .i64 2, .int .i64 5, .int .u64 1, .slice (some ⟨w.heap.size, 0, none⟩) 2 2]] (w.alloc (.cells #[.int .u8 7, .int .u8 8] 5)) fun r w' => ∃ a c, r = .returned (.tuple #[.slice a 256 c, .int .i64 0]) ∧ Sl w' (.slice a 256 c) PG ∧ Below w.heap.size w w') := by
    refine (put_ok (w.alloc (.cells #[.int .u8 7, .int .u8 8] 5)) 2 5 1 _ _ hS (hT.alloc _) (by omega) (by omega) (by omega) (by simp)).mono ?_
    rintro r w1 ⟨u, rfl, ho, hb⟩
    rw [← hPG] at ho
    have hS1 := sl_of_own ho hok rfl
    obtain ⟨a, n, c, rfl⟩ := sl_form hS1
    obtain rfl := own_n ho
    exact ⟨a, c, rfl, hS1, after_alloc hb⟩
  have HG : Hid (∀ w1 a c, Below w.heap.size w w1 → Sl w1 (.slice a 256 c) PG → Calls Tryd.prog 18 #[.slice a 256 c, .int .i64 5] w1 fun r w2 => ∃ a' c', r = .returned (.tuple #[.agg #[.int .i64 2, .int .i64 5, .int .u64 1, .slice a' 240 c'], .int .i64 0]) ∧ Below w.heap.size w w2 ∧ Sl w2 (.slice a 256 c) PG) := by
    intro w1 a c hb h1
    refine (get_any w1 _ _ 5 h1 (hT.below hb)).mono ?_
    rintro r w2 ⟨a', n', c', rfl, ho, hb2⟩
    rw [hg] at ho ⊢
    have hn := own_n ho
    rw [hD] at hn
    subst hn
    exact ⟨a', c', rfl, hb.trans (hb2.mono hb.size), h1.below hb2⟩
  have HE : Hid (∀ w1 a n c, Below w.heap.size w w1 → Sl w1 (.slice a n c) ((PG.take 18).drop 4) → Calls Tryd.prog 17 #[.slice a n c, .slice (some ⟨w1.heap.size, 0, none⟩) 14 14] (w1.alloc (.cells #[.int .u8 2, .int .u8 0, .int .u8 0, .int .u8 5, .int .u8 0, .int .u8 0, .int .u8 0, .int .u8 0, .int .u8 0, .int .u8 0, .int .u8 0, .int .u8 1, .int .u8 7, .int .u8 8] 5)) fun r w2 => r = .returned (.bool true) ∧ w2 = w1.alloc (.cells #[.int .u8 2, .int .u8 0, .int .u8 0, .int .u8 5, .int .u8 0, .int .u8 0, .int .u8 0, .int .u8 0, .int .u8 0, .int .u8 0, .int .u8 0, .int .u8 1, .int .u8 7, .int .u8 8] 5)) := by
    intro w1 a n c hb h1
    have h2 := sl_lit w1 5 [2, 0, 0, 5, 0, 0, 0, 0, 0, 0, 0, 1, 7, 8] (by intro z hz; simp at hz; omega) (by simp [maxLen])
    have := equal_any _ _ _ _ _ (h1.alloc _) h2
    rw [decide_eq_true hex] at this
    exact this
  have HX : Hid (∀ w1 a c, Sl w1 (.slice a 256 c) PG → ∃ a' c', (∀ wx, (Instr.slice 23 (.slice a 256 c) (some (.int .i64 4)) (some (.int .i64 18)) none).run Tryd.prog wx = .ok (.slice a' 14 c') wx) ∧ ∀ wx, Sl wx (.slice a 256 c) PG → Sl wx (.slice a' 14 c') ((PG.take 18).drop 4)) := by
    intro w1 a c h1
    have hl := hlen
    have hl2 : ((PG.take 18).drop 4).length = 14 := by rw [hex]; rfl
    rw [← hl] at h1
    obtain ⟨a', c', r, s⟩ := cut_lh w1 a _ c 4 18 h1 (by omega) (by omega)
    rw [hl2, hl] at r s
    exact ⟨a', c', r, s⟩
  clear hS hg hT hPG hD hex hok hlen
  go_enter Tryd.func8, Tryd.ntmps8
  go_wp2_with (first
    | (go_at_call 11; refine HP.out.mono ?_; rintro e1 w1 ⟨a1, l1, rfl, S1, b1⟩; have HG1 := hide (HG.out w1 a1 l1 b1 S1); clear HP HG b1 S1)
    | (go_at_call 18; refine HG1.out.mono ?_; rintro e1 w2 ⟨a2, l2, rfl, b2, S2⟩; obtain ⟨a3, l3, r3, s3⟩ := HX.out w2 a1 l1 S2; have b3 := b2.alloc b2.size (.cells #[.int .i64 2, .int .i64 5, .int .u64 1, .slice a2 240 l2] 25); have he1 := HE.out _ a3 14 l3 b3 (s3 _ (S2.alloc (.cells #[.int .i64 2, .int .i64 5, .int .u64 1, .slice a2 240 l2] 25))); rw [World.size_alloc] at he1; have HE1 := hide he1; clear he1; have HB3 := hide b3; have HB4 := hide (b3.alloc b3.size (.cells #[.int .u8 2, .int .u8 0, .int .u8 0, .int .u8 5, .int .u8 0, .int .u8 0, .int .u8 0, .int .u8 0, .int .u8 0, .int .u8 0, .int .u8 0, .int .u8 1, .int .u8 7, .int .u8 8] 5)); clear HG1 HE HX s3 b2 S2 b3)
    | (go_at_call 17; refine HE1.out.mono ?_; rintro e1 w4 ⟨rfl, hw⟩; subst w4; clear HE1))
  go_ret
  exact ⟨rfl, HB4.out⟩

end Go.Proofs.YtlnedhbeciepdaaDoor
