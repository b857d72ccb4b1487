/- A script of acts that is read (incipitlaw05.Op). -/
import Derived.Test.YtoplhehcjgldeaaCLive
namespace Go.Proofs.Ytoplhehcjgldeaa
open Go.RowKit
set_option linter.unusedVariables false

structure Oc where
  dO : Int
  p : Int
  c : Int
  n : Int
def ocNil : Oc := ⟨0, 0, 0, 0⟩
def ocAt (os : List Oc) (i : Nat) : Oc := os.getD i ocNil
theorem ocAt_lt {os : List Oc} {i : Nat} (h : i < os.length) : ocAt os i = os[i] := by simp [ocAt, List.getD, h]
def occ (o : Oc) : List Value := [.int .i64 o.dO, .int .i64 o.p, .int .u8 o.c, .int .i64 o.n]
structure OcOk (o : Oc) : Prop where
  hd : Wf o.dO
  hp : Wf o.p
  c0 : 0 ≤ o.c
  c1 : o.c ≤ 255
  hn : Wf o.n
def Scr (w : World) (v : Value) (os : List Oc) : Prop :=
  (∀ o ∈ os, OcOk o) ∧ ∃ ao cap, v = .slice ao os.length cap ∧ os.length ≤ cap ∧ cap ≤ maxLen ∧ (os ≠ [] → ∃ g off, ao = some ⟨g, off, none⟩ ∧ g < w.heap.size ∧ ∀ i, i < os.length → w.rangeAt g (off + i * 4) (occ (ocAt os i)))

theorem rg_below {w w' : World} {B g o : Nat} {cs : List Value} (h : w.rangeAt g o cs) (hb : Below B w w') (hg : g < B) : w'.rangeAt g o cs := fun j v hj => (hb.cell (p := ⟨g, o + j, none⟩) hg).trans (h j v hj)
theorem Scr.below {w w' : World} {v : Value} {os : List Oc} (h : Scr w v os) (hb : Below w.heap.size w w') : Scr w' v os := by
  obtain ⟨h1, ao, cap, hv, h2, h3, h4⟩ := h
  refine ⟨h1, ao, cap, hv, h2, h3, fun hne => ?_⟩
  obtain ⟨g, off, ha, hg, hr⟩ := h4 hne
  exact ⟨g, off, ha, Nat.lt_of_lt_of_le hg hb.size, fun i hi => rg_below (hr i hi) hb hg⟩
theorem Scr.form {w : World} {v : Value} {os : List Oc} (h : Scr w v os) : ∃ ao cap, v = .slice ao os.length cap ∧ os.length ≤ cap ∧ cap ≤ 9223372036854775807 := by
  obtain ⟨_, ao, cap, hv, h2, h3, _⟩ := h
  exact ⟨ao, cap, hv, h2, h3⟩
theorem Scr.op {w : World} {v : Value} {os : List Oc} (h : Scr w v os) {i : Nat} (hi : i < os.length) : OcOk (ocAt os i) := by rw [ocAt_lt hi]; exact h.1 _ (List.getElem_mem hi)
theorem Scr.at {w : World} {ao : Option Addr} {n cap : Nat} {os : List Oc} (h : Scr w (.slice ao n cap) os) {i : Nat} (hi : i < os.length) : ∃ g off, ao = some ⟨g, off, none⟩ ∧ g < w.heap.size ∧ w.rangeAt g (off + i * 4) (occ (ocAt os i)) := by
  obtain ⟨_, ao', cap', he, _, _, h4⟩ := h
  simp only [Value.slice.injEq] at he
  obtain ⟨rfl, _, _⟩ := he
  obtain ⟨g, off, ha, hg, hr⟩ := h4 (by intro e; simp [e] at hi)
  exact ⟨g, off, ha, hg, hr i hi⟩

theorem occ_len (o : Oc) : (occ o).length = 4 := rfl
theorem sizeOc : (Try.prog.info? 33).map (·.size) = some 4 := by kernel_rfl
def ocZero : Array Value := #[.int .i64 0, .int .i64 0, .int .u8 0, .int .i64 0]
theorem ocZero_size : ocZero.size = 4 := rfl
theorem zeroOcRun (w : World) : (zeroValue 33).run Try.prog w = .ok (.agg ocZero) w := by kernel_rfl
theorem oc_facts (o : Oc) : ((Try.prog.info? 33).map (·.size) = some (occ o).length) ∧ ((Try.prog.info? 33).map (·.size) = some (occ o).toArray.size) ∧ ocZero.size = (occ o).toArray.size ∧ (occ o).toArray.all (·.oneCell') = true := by
  refine ⟨sizeOc, sizeOc, rfl, all_oneCell_toArray (fun v hv => ?_)⟩
  simp only [occ, List.mem_cons, List.mem_nil_iff, or_false] at hv
  rcases hv with rfl | rfl | rfl | rfl <;> rfl

end Go.Proofs.Ytoplhehcjgldeaa
