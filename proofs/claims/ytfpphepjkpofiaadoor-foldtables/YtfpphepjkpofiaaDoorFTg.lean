/- A []rune that is owned; two runes put behind; what the runes of a table are. -/
import Derived.Test.YtfpphepjkpofiaaDoorFLit
import Derived.Test.YtfpphepjkpofiaaDoorFMarks
import Derived.Test.YtfpphepjkpofiaaDoorRegionL
namespace Go.Proofs.YtfpphepjkpofiaaDoor
set_option maxRecDepth 20000
open Go.RowKit Go.Shelf
set_option linter.unusedVariables false
set_option maxRecDepth 100000
attribute [local go_sem] Oper.semAt_some

def rnRow (xs : List Int) : List Value := xs.map (.int .i32 ·)
theorem infoRn : (Tryd.prog.info? 21).map (fun i => (i.zero, i.size, i.bytes)) = some (some (.int .i32 0), 1, 4) := by kernel_rfl
def RnO (w : World) (base : Nat) (v : Value) (xs : List Int) : Prop := w.ownsRow base 21 1 v xs.length (rnRow xs)
theorem RnO.only {S : Nat → Prop} {w w' : World} {base : Nat} {v : Value} {xs : List Int} (h : RnO w base v xs) (ho : Only S w w') (hn : ∀ k, v.ownBlock = some k → ¬ S k) : RnO w' base v xs := ownsRow_only h ho hn
theorem RnO.shape {w : World} {base : Nat} {v : Value} {xs : List Int} (h : RnO w base v xs) : ∃ ao cap, v = .slice ao xs.length cap := own_form' h
theorem RnO.lt {w : World} {base : Nat} {v : Value} {xs : List Int} (h : RnO w base v xs) (k : Nat) (hk : v.ownBlock = some k) : base ≤ k ∧ k < w.heap.size := World.ownsRow.lt h k hk
theorem rnRow_at (xs : List Int) (i : Nat) (hi : i < xs.length) : (rnRow xs)[i]? = some (.int .i32 (xs.getD i 0)) := by
  simp [rnRow, List.getD, hi]
theorem RnO.read {w : World} {base : Nat} {v : Value} {xs : List Int} (h : RnO w base v xs) (hl : xs.length ≤ 1000000) : RnR w v xs := by
  obtain ⟨ao, cap, rfl⟩ := h.shape
  refine ⟨ao, cap, rfl, by omega, fun hx => ?_⟩
  have hx0 : 0 < xs.length := List.length_pos_iff.2 hx
  cases ao with
  | none =>
    rcases h.2 with ⟨e, _⟩ | ⟨g, cap', sp, e, _⟩
    · simp at e
      omega
    · simp at e
  | some a =>
    rcases h.2 with ⟨e, _⟩ | ⟨g, cap', sp, e, _⟩
    · simp at e
    · simp only [Value.slice.injEq, Option.some.injEq] at e
      obtain ⟨rfl, _⟩ := e
      refine ⟨g, 0, rfl, fun i hi => ?_⟩
      rw [Nat.zero_add]
      have hlen : (rnRow xs).length = xs.length := by simp [rnRow]
      exact (World.ownsRow.cellAt h i (by omega)).trans (rnRow_at xs i hi)

theorem run_append_rn (W : World) (base : Nat) (v : Value) (xs : List Int) (h : RnO W base v xs) (a b : Int) (q : Nat) (hq : Blk W q 21 [.int .i32 a, .int .i32 b]) (hl : xs.length + 2 ≤ 1000000) (hb : base ≤ W.heap.size) :
    ∃ v' w', (Builtin.append_ #[47, 47] 47 #[v, .slice (some ⟨q, 0, none⟩) 2 2]).run Tryd.prog W = .ok v' w' ∧ RnO w' base v' (xs ++ [a, b]) ∧ W.grownBy w' v.ownBlock ∧ (v'.ownBlock = v.ownBlock ∨ v'.ownBlock = some W.heap.size) ∧ ∃ ao cap, v' = .slice ao (xs.length + 2) cap := by
  obtain ⟨i0, hi, hz, hs, hby⟩ := info_parts infoRn
  obtain ⟨v', w', hr, h1, h2, _, h4⟩ := run_append_own_at (P := Tryd.prog) W base 47 47 21 i0 _ 1 4 Tryd.underlying47 hi hz hs hby rfl (by decide) v xs.length (rnRow xs) h ⟨q, 0, none⟩ 2 2 [.int .i32 a, .int .i32 b] rfl
    (fun j u hj => by
      rw [Addr.add_mid, Nat.zero_add]
      exact (hq.cell j).trans hj) (by intro u hu; simp at hu; rcases hu with rfl | rfl <;> rfl) (by unfold maxLen; omega) (by omega) hb
  have e : rnRow xs ++ [.int .i32 a, .int .i32 b] = rnRow (xs ++ [a, b]) := by simp [rnRow]
  rw [e] at h1
  refine ⟨v', w', hr, ?_, h2, h4, own_form' h1⟩
  unfold RnO
  simpa using h1

def flatL (l : List (Int × Int)) : List Int := l.flatMap fun x => [x.1, x.2]
theorem flatL_snoc (l : List (Int × Int)) (x : Int × Int) : flatL (l ++ [x]) = flatL l ++ [x.1, x.2] := by simp [flatL]
theorem flatL_len (l : List (Int × Int)) : (flatL l).length = 2 * l.length := by
  induction l with
  | nil => rfl
  | cons x t ih => simp only [flatL, List.flatMap_cons, List.length_append, List.length_cons, List.length_nil] at ih ⊢; omega
theorem lettersL_len (us : List Fd) (h : AllN us) : (lettersL us).length ≤ 256 * us.length := by
  induction us with
  | nil => simp [lettersL]
  | cons x t ih =>
    have h1 := ih (fun y hy => h y (List.mem_cons_of_mem _ hy))
    obtain ⟨⟨_, h2⟩, _⟩ := h x (List.mem_cons_self ..)
    have e : lettersL (x :: t) = foldsL x.1 x.2.1 x.2.2.toNat ++ lettersL t := by simp [lettersL]
    rw [e, List.length_append, foldsL_len, List.length_cons]
    omega
theorem useL_len (xs : List Fd) : (useL xs).length ≤ 8 := by
  unfold useL
  split
  · rename_i h
    unfold tblB at h
    simp only [Bool.and_eq_true, decide_eq_true_eq] at h
    exact h.1.1.1
  · simp

end Go.Proofs.YtfpphepjkpofiaaDoor
