/- A way to take texts apart that is read ('CnfV'), a []string that is read ('Strs'); two texts compared. -/
import Derived.Test.YtimmfnjkknbofaaDoorWdLed
namespace Go.Proofs.YtimmfnjkknbofaaDoor
set_option maxRecDepth 20000
open Go.RowKit
set_option linter.unusedVariables false
set_option linter.unusedSimpArgs false
set_option maxRecDepth 100000

def Strs (w : World) (v : Value) (ss : List (List Int)) : Prop :=
  (∀ z ∈ ss, ByteOk z) ∧ ∃ ao cap, v = .slice ao ss.length cap ∧ ss.length ≤ cap ∧ cap ≤ maxLen ∧
    (ss ≠ [] → ∃ b off, ao = some ⟨b, off, none⟩ ∧ ∀ i, i < ss.length → w.cell? ⟨b, off + i, none⟩ = some (.string (strOfNums (ss.getD i []))))
theorem Strs.nil (w : World) : Strs w (.slice none 0 0) [] := ⟨(fun x hx => by cases hx), none, 0, rfl, Nat.le_refl _, by simp [maxLen], fun h => absurd rfl h⟩
theorem Strs.keep {w w' : World} {v : Value} {ss : List (List Int)} (h : Strs w v ss) (hk : ∀ k, v.ownBlock = some k → k < w.heap.size → w'.heap[k]? = w.heap[k]?) : Strs w' v ss := by
  obtain ⟨h0, ao, cap, rfl, h1, h2, h3⟩ := h
  refine ⟨h0, ao, cap, rfl, h1, h2, fun hx => ?_⟩
  obtain ⟨b, off, rfl, hc⟩ := h3 hx
  refine ⟨b, off, rfl, fun i hi => ?_⟩
  have hbb := hk b rfl (World.block_lt_of_cell? w _ (hc i hi))
  exact (World.cell?_of_block (w := w) (a := ⟨b, _, none⟩) hbb).trans (hc i hi)
theorem Strs.below {w w' : World} {v : Value} {ss : List (List Int)} (h : Strs w v ss) (hb : Below w.heap.size w w') : Strs w' v ss := h.keep fun k _ hk => hb.block k hk
theorem Strs.len {w : World} {v : Value} {ss : List (List Int)} (h : Strs w v ss) : ∃ ao cap, v = .slice ao ss.length cap := by
  obtain ⟨_, ao, cap, rfl, _⟩ := h; exact ⟨ao, cap, rfl⟩
theorem Strs.max {w : World} {ao : Option Addr} {n cap : Nat} {ss : List (List Int)} (h : Strs w (.slice ao n cap) ss) : n ≤ maxLen := by
  obtain ⟨_, ao', cap', he, h1, h2, _⟩ := h
  simp at he
  omega
theorem Strs.at {w : World} {ao : Option Addr} {n cap : Nat} {ss : List (List Int)} (h : Strs w (.slice ao n cap) ss) (i : Nat) (hi : i < ss.length) : ∃ b off, ao = some ⟨b, off, none⟩ ∧ w.cell? ⟨b, off + i, none⟩ = some (.string (strOfNums ss[i])) ∧ ByteOk ss[i] := by
  obtain ⟨h0, ao', cap', he, h1, h2, h3⟩ := h
  obtain ⟨rfl, _, _⟩ : ao = ao' ∧ n = ss.length ∧ cap = cap' := by simpa using he
  obtain ⟨b, off, rfl, hc⟩ := h3 (by intro e; rw [e] at hi; simp at hi)
  refine ⟨b, off, rfl, ?_, h0 _ (List.getElem_mem hi)⟩
  have := hc i hi
  simpa [List.getD, hi] using this

/-- a way: its ranges, its stop words, how many runes a term has at most -/
structure Cn where
  fs : List Fd
  ss : List (List Int)
  cap : Int
/-- no more than may be gone through -/
structure CnOk (C : Cn) : Prop where
  lo : -9223372036854775808 ≤ C.cap
  hi : C.cap ≤ 9223372036854775807
  fs : C.fs.length ≤ 1000
  ss : C.ss.length ≤ 1000
  each : ∀ z ∈ C.ss, z.length ≤ 1000
def CnfV (w : World) (v : Value) (C : Cn) : Prop := ∃ fo fc so sc, v = .agg #[.slice fo C.fs.length fc, .slice so C.ss.length sc, .int .i64 C.cap] ∧ Tbl w (.slice fo C.fs.length fc) C.fs ∧ Strs w (.slice so C.ss.length sc) C.ss
theorem CnfV.below {w w' : World} {v : Value} {C : Cn} (h : CnfV w v C) (hb : Below w.heap.size w w') : CnfV w' v C := by
  obtain ⟨fo, fc, so, sc, h1, h2, h3⟩ := h
  exact ⟨fo, fc, so, sc, h1, h2.below hb, h3.below hb⟩

theorem less_cmpL : ∀ (xs ys : List Int), ByteOk xs → ByteOk ys → Op.bytesLess (xs.map fun z => UInt8.ofNat z.toNat) (ys.map fun z => UInt8.ofNat z.toNat) = decide (cmp xs ys < 0)
  | [], [], _, _ => rfl
  | [], _ :: _, _, _ => rfl
  | _ :: _, [], _, _ => rfl
  | x :: xs, y :: ys, hx, hy => by
    have h1 := hx x (List.mem_cons_self ..)
    have h2 := hy y (List.mem_cons_self ..)
    have ih := less_cmpL xs ys (fun z hz => hx z (List.mem_cons_of_mem _ hz)) (fun z hz => hy z (List.mem_cons_of_mem _ hz))
    have e1 : (UInt8.ofNat x.toNat < UInt8.ofNat y.toNat) ↔ x < y := by
      rw [UInt8.lt_iff_toNat_lt]; simp; omega
    have e2 : (UInt8.ofNat x.toNat = UInt8.ofNat y.toNat) ↔ x = y := by
      rw [← UInt8.toNat_inj]; simp; omega
    rw [List.map_cons, List.map_cons, Op.bytesLess, ih, Bool.eq_iff_iff, decide_eq_true_iff, Bool.or_eq_true, Bool.and_eq_true, decide_eq_true_iff, decide_eq_true_iff, beq_iff_eq, e1, e2, cmp]
    by_cases h : x < y
    · rw [if_pos h]
      exact ⟨fun _ => by decide, fun _ => .inl h⟩
    · rw [if_neg h]
      by_cases h' : y < x
      · rw [if_pos h']
        exact ⟨fun hh => by omega, fun hh => by omega⟩
      · rw [if_neg h']
        have he : x = y := by omega
        exact ⟨fun hh => hh.elim (fun a => absurd a h) (fun a => a.2), fun hh => .inr ⟨he, hh⟩⟩
theorem str_same {xs ys : List Int} (hx : ByteOk xs) (hy : ByteOk ys) : ((strOfNums xs).toList == (strOfNums ys).toList) = decide (xs = ys) := by
  rw [Bool.eq_iff_iff, decide_eq_true_iff, beq_iff_eq, ← strOfNums_inj hx hy]
  constructor
  · intro h
    rw [ByteArray.toList_eq, ByteArray.toList_eq] at h
    exact str_ext h
  · intro h; rw [h]
theorem str_less {xs ys : List Int} (hx : ByteOk xs) (hy : ByteOk ys) : Op.bytesLess (strOfNums xs).toList (strOfNums ys).toList = decide (cmp xs ys < 0) := by
  rw [ByteArray.toList_eq, ByteArray.toList_eq, strOfNums_data, strOfNums_data]
  exact less_cmpL xs ys hx hy
theorem bin_eql {xs ys : List Int} (hx : ByteOk xs) (hy : ByteOk ys) (t : TypeId) (W : World) : (binOp .eql t (.string (strOfNums xs)) (.string (strOfNums ys))).run Tryd.prog W = .ok (.bool (decide (xs = ys))) W := by
  show Result.ok (Value.bool ((strOfNums xs).toList == (strOfNums ys).toList)) W = _
  rw [str_same hx hy]
theorem bin_neq {xs ys : List Int} (hx : ByteOk xs) (hy : ByteOk ys) (t : TypeId) (W : World) : (binOp .neq t (.string (strOfNums xs)) (.string (strOfNums ys))).run Tryd.prog W = .ok (.bool (!decide (xs = ys))) W := by
  show Result.ok (Value.bool (!((strOfNums xs).toList == (strOfNums ys).toList))) W = _
  rw [str_same hx hy]
theorem bin_leq {xs ys : List Int} (hx : ByteOk xs) (hy : ByteOk ys) (t : TypeId) (W : World) : (binOp .leq t (.string (strOfNums xs)) (.string (strOfNums ys))).run Tryd.prog W = .ok (.bool (decide (cmp xs ys < 0) || decide (xs = ys))) W := by
  show Result.ok (Value.bool (Op.bytesLess (strOfNums xs).toList (strOfNums ys).toList || ((strOfNums xs).toList == (strOfNums ys).toList))) W = _
  rw [str_same hx hy, str_less hx hy]
theorem bin_geq {xs ys : List Int} (hx : ByteOk xs) (hy : ByteOk ys) (t : TypeId) (W : World) : (binOp .geq t (.string (strOfNums xs)) (.string (strOfNums ys))).run Tryd.prog W = .ok (.bool (!decide (cmp xs ys < 0))) W := by
  show Result.ok (Value.bool (!Op.bytesLess (strOfNums xs).toList (strOfNums ys).toList)) W = _
  rw [str_less hx hy]
theorem bin_lss {xs ys : List Int} (hx : ByteOk xs) (hy : ByteOk ys) (t : TypeId) (W : World) : (binOp .lss t (.string (strOfNums xs)) (.string (strOfNums ys))).run Tryd.prog W = .ok (.bool (decide (cmp xs ys < 0))) W := by
  show Result.ok (Value.bool (Op.bytesLess (strOfNums xs).toList (strOfNums ys).toList)) W = _
  rw [str_less hx hy]

end Go.Proofs.YtimmfnjkknbofaaDoor
