/- How what comes in is opened: a way, a text, texts. -/
import Derived.Test.YtgeclnnhblffkaaDoorFdOpen
import Derived.Test.YtgeclnnhblffkaaDoorWdFew
import Derived.SliceStrings
namespace Go.Proofs.YtgeclnnhblffkaaDoor
set_option maxRecDepth 20000
open Go.ChangeShapes Go.WideShapes Go.ChangeAt Go.RowKit
set_option linter.unusedVariables false

theorem cellsStr : Tryd.prog.cellsOf 9 = 1 := by kernel_rfl
theorem cellsStrs : Tryd.prog.cellsOf 23 = 1 := by kernel_rfl
theorem cellsFolds : Tryd.prog.cellsOf 22 = 1 := by kernel_rfl
theorem cellsConf : Tryd.prog.cellsOf 25 = 3 := by kernel_rfl

/-- a text's bytes as numbers -/
def numsOf (s : ByteArray) : List Int := s.data.toList.map fun b => (b.toNat : Int)
theorem numsOf_str (s : ByteArray) : strOfNums (numsOf s) = s := by
  apply str_ext
  rw [strOfNums_data]
  unfold numsOf
  rw [List.map_map]
  conv => rhs; rw [← List.map_id s.data.toList]
  apply List.map_congr_left
  intro b _
  simp
theorem numsOf_ok (s : ByteArray) : ByteOk (numsOf s) := by
  intro z hz
  obtain ⟨b, _, rfl⟩ := List.mem_map.1 hz
  have := b.toNat_lt
  omega
theorem trod_strs {H : Type} {enc : TypeId × Value → H} {W : World} {fuel : Nat} {cs : List Value} {x : DataW H × List MemPlace}
    (h : DataW.trod enc Tryd.prog W 0 (fun _ => true) true fuel 23 cs = some x) : ∃ v ss, cs = [v] ∧ Strs W v ss := by
  rcases open_strings Tryd.underlying23 Tryd.underlying9 cellsStr h with ⟨hcs, _⟩ | ⟨a, len, cap, ss, hcs, _, hl, hm, hz, _, hc, _⟩
  · exact ⟨_, [], hcs, Strs.nil W⟩
  · rw [if_pos rfl] at hz
    have hlen : ((ss.take len).map numsOf).length = len := by simp; omega
    refine ⟨_, (ss.take len).map numsOf, hcs, fun z hz => ?_, some a, cap, by rw [hlen], by omega, hm, fun hne => ?_⟩
    · obtain ⟨s, _, rfl⟩ := List.mem_map.1 hz
      exact numsOf_ok s
    have h0 : 0 < len := by
      have := List.length_pos_iff.2 hne
      omega
    obtain ⟨b, off, spot⟩ := a
    have hc0 := hc 0 (by omega)
    have hspot : spot = none := by simpa [Addr.add] using World.cell?_spot hc0
    subst hspot
    refine ⟨b, off, rfl, fun i hi => ?_⟩
    rw [hlen] at hi
    have e : (⟨b, off, none⟩ : Addr).add i = ⟨b, off + i, none⟩ := by unfold Addr.add; split <;> simp_all
    rw [← e, hc i (by omega)]
    have g1 : ((ss.take len).map numsOf).getD i [] = numsOf (ss[i]'(by omega)) := by simp [List.getD, hi, show i < ss.length by omega]
    have g2 : ss.getD i ByteArray.empty = ss[i]'(by omega) := by simp [List.getD, show i < ss.length by omega]
    rw [g1, g2, numsOf_str]

/-- a way, and what its number is -/
def CnfI (W : World) (v : Value) (C : Cn) : Prop := CnfV W v C ∧ -9223372036854775808 ≤ C.cap ∧ C.cap ≤ 9223372036854775807
set_option maxRecDepth 100000 in
theorem open_conf {H : Type} {enc : TypeId × Value → H} {W : World} {v : Value} {d : DataW H} {p : List MemPlace} {base : Nat} (hv : Value.okWide Tryd.prog W .any base 25 v)
    (h : DataW.Trod enc Tryd.prog W 0 (fun _ => true) true 25 v d p) : ∃ C, CnfI W v C := by
  obtain ⟨cs, rfl, hcs⟩ := okWide_struct Tryd.underlying25 hv
  rw [cellsConf] at hcs
  obtain ⟨fuel, hf⟩ := h
  obtain ⟨y0, y1, y2, n', _, t0, t1, t2⟩ := trod_struct3 Tryd.underlying25 hf
  obtain ⟨l, rfl⟩ : ∃ l : List Value, cs = l.toArray := ⟨cs.toList, by simp⟩
  match l, (by simpa using hcs : l.length = 3) with
  | [p0, p1, p2], _ =>
    rw [cellsFolds] at t0
    rw [cellsStrs] at t1
    rw [cellsInt] at t2
    obtain ⟨v0, z0, h0, s0⟩ := trod_tbl t0
    obtain ⟨v1, z1, h1, s1⟩ := trod_strs t1
    obtain ⟨z2, h2, _, b2⟩ := DataW.trod_int Tryd.underlying3 t2
    simp [Value.cells] at h0 h1 h2
    subst h0 h1 h2
    have q2 := (Lit.wf_int_iff _ _).1 b2
    rw [show IntKind.i64.min = -9223372036854775808 by decide, show IntKind.i64.max = 9223372036854775807 by decide] at q2
    obtain ⟨a0, c0, rfl⟩ := s0.len
    obtain ⟨a1, c1, rfl⟩ := s1.len
    exact ⟨⟨z0, z1, z2⟩, ⟨a0, c0, a1, c1, rfl, s0, s1⟩, q2.1, q2.2⟩
set_option maxRecDepth 100000 in
theorem open_str {H : Type} {enc : TypeId × Value → H} {W : World} {v : Value} {d : DataW H} {p : List MemPlace} {base : Nat} (hv : Value.okWide Tryd.prog W .any base 9 v)
    (h : DataW.Trod enc Tryd.prog W 0 (fun _ => true) true 9 v d p) : ∃ zs, v = .string (strOfNums zs) ∧ ByteOk zs := by
  obtain ⟨s, rfl⟩ := okWide_string Tryd.underlying9 hv
  exact ⟨numsOf s, by rw [numsOf_str], numsOf_ok s⟩

end Go.Proofs.YtgeclnnhblffkaaDoor
