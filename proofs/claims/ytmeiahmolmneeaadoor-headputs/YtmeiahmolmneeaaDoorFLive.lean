/- Contracts: the chapter's example (incipitlaw04.live), and when two frames are alike, byte by byte. -/
import Derived.Test.YtmeiahmolmneeaaDoorFGet2
namespace Go.Proofs.YtmeiahmolmneeaaDoor
set_option maxRecDepth 20000
open Go.RowKit
set_option linter.unusedVariables false

theorem own_n {w : World} {base : Nat} {e : TypeId} {a : Option Addr} {n c m : Nat} {xs : List Value} (h : w.ownsRow base e 1 (.slice a n c) m xs) : n = m := by
  rcases h.2 with ⟨h1, h2⟩ | ⟨g, cap, cur, h1, _⟩
  · simp at h1; omega
  · simp at h1; omega

theorem example_page : ((pageS 2 5 1 [7, 8]).take 18).drop 4 = [2, 0, 0, 5, 0, 0, 0, 0, 0, 0, 0, 1, 7, 8] := by
  have e : pageS 2 5 1 [7, 8] = be4 (ofS (bodyS 2 5 1 [7, 8])) ++ ([2, 0, 0, 5, 0, 0, 0, 0, 0, 0, 0, 1, 7, 8] ++ List.replicate 238 0) := by
    unfold pageS sealS
    congr 1
  rw [e]
  unfold be4
  rfl

/-- the example's page, and what is got of it -/
theorem example_facts : ∃ PG D : List Int, PG = pageS 2 5 1 [7, 8] ∧ PG.length = 256 ∧ ByteOk PG ∧ (PG.take 18).drop 4 = [2, 0, 0, 5, 0, 0, 0, 0, 0, 0, 0, 1, 7, 8] ∧ getS PG 5 = ⟨0, 2, 5, 1, D⟩ ∧ D.length = 240 := by
  have hg := getS_page 2 5 1 [7, 8] 5 (by omega) (by omega) (by omega)
  rw [if_pos (show ((5 : Nat) : Int) = 5 from rfl)] at hg
  exact ⟨_, loadS [7, 8] 0, rfl, pageS_len _ _ _ _, pageS_ok (by omega) (by intro z hz; simp at hz; omega), example_page, hg, loadS_len _ _⟩

end Go.Proofs.YtmeiahmolmneeaaDoor
