/- A Put of a page that was made just now, in a region that draws its order. -/
import Derived.Test.YtoplhehcjgldeaaCSv
namespace Go.Proofs.Ytoplhehcjgldeaa
open Go.ChangeShapes Go.WideShapes Go.ChangeAt Go.RowKit
set_option linter.unusedVariables false
set_option maxRecDepth 100000

def isPg5 (base : Nat) (z : Int) : Value → World → Prop := fun v w => ∃ g, v = .slice (some ⟨g, 0, none⟩) 256 256 ∧ Blk w g 5 (pc (pg z)) ∧ base ≤ g
theorem stS_isPg5 (S : Nat → Prop) (base : Nat) (z : Int) (hS : ∀ k, S k → k < base) : StS S (isPg5 base z) := by
  rintro v w w' ho ⟨g, e, hB, hg⟩
  exact ⟨g, e, hB.only ho (fun h => by have := hS g h; omega), hg⟩
def isSv (N k : Nat) (f : Nat → List Int) (W : World) (X : Nat → Prop) (c b : Nat) : Value → World → Prop := fun v w => v = .int .i64 0 ∧ Sv N k f W X w c b
theorem stS_isSv (N k : Nat) (f : Nat → List Int) (W : World) (X : Nat → Prop) (c b : Nat) : StS (fun _ => False) (isSv N k f W X c b) := by
  rintro v w w' ho ⟨e, h⟩
  exact ⟨e, h.keep ho (fun _ h => h.elim) (fun _ _ h => h)⟩

/-- w0: where the region began; wx: where Put is called -/
theorem sv_putR (N k : Nat) (f : Nat → List Int) (W : World) (X : Nat → Prop) (w0 wx : World) (c b : Nat) (hk : k < 700000) (hN : 2 ≤ N) (h : Sv N k f W X w0 c b) (hq : Only (fun _ => False) w0 wx) (g : Nat) (z : Int) (h0 : 0 ≤ z) (h1 : z ≤ 255) (hg : w0.heap.size ≤ g) (hB : Blk wx g 5 (pc (pg z))) (q : Nat) (hq8 : q < 8) :
    Calls Try.prog 10 #[dp c, .int .i64 q, .slice (some ⟨g, 0, none⟩) 256 256] wx fun e w' => e = .returned (.int .i64 0) ∧ Sv N (k + 2) (fun r => if r = q then pg z else f r) W X w' c b ∧ Only (fun j => (W.heap.size ≤ j ∧ ¬ X j) ∧ j < w0.heap.size) wx w' := by
  obtain ⟨ch, d, k1, k2, k3⟩ := h
  obtain ⟨e1, e2, _, e4⟩ := kv_put k2 (ok8 k1 k2) (by omega) q hq8 (Nat.zero_le _) (pg z) (pg_len z) (fun r => if r = q then pg z else f r) (fun r _ => rfl)
  have hb : Below w0.heap.size w0 wx := hq.below (Nat.le_refl _) (fun _ _ h => h)
  have key := put_any W wx Non _ c b ch d k (by omega) (k1.grow hb) k2.few q _ (pg z) (blk_sl hB (pg_ok h0 h1)) (fun j hj => by
    simp [Value.ownBlock] at hj
    subst hj
    exact .inr ⟨hg, hB.lt⟩)
  rw [e1] at key
  refine key.mono ?_
  rintro e w' ⟨rfl, h2, ht⟩
  refine ⟨rfl, ⟨_, _, h2.less (fun _ h => .inl h), e2, e4.trans k3⟩, Only.mono ht (fun j hj h => ?_)⟩
  refine ⟨⟨h.1.elim (fun h => h.elim) id, fun hx => h.2 (.inl hx)⟩, Nat.lt_of_not_le (fun hle => h.2 (.inr ⟨hle, hj⟩))⟩

end Go.Proofs.Ytoplhehcjgldeaa
