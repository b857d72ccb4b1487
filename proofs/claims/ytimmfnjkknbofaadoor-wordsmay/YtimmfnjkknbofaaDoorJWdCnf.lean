/- A way to take texts apart that is read ('CnfV'), a []string that is read ('Strs'); two texts compared. -/
import Derived.Test.YtimmfnjkknbofaaDoorJWdLed
import Derived.Test.YtimmfnjkknbofaaDoorDBase
import Derived.Maps.AppendAt
namespace Go.Proofs.YtimmfnjkknbofaaDoor
set_option maxRecDepth 20000
open Go.RowKit
set_option linter.unusedVariables false
set_option linter.unusedSimpArgs false
set_option maxRecDepth 100000

def Strs (w : World) (v : Value) (ss : List (List Int)) : Prop :=
  (∀ z ∈ ss, ByteOk z) ∧ ∃ ao cap, v = .slice ao ss.length cap ∧ ss.length ≤ cap ∧ cap ≤ maxLen ∧
    (ss ≠ [] → ∃ b off, ao = some ⟨b, off, none⟩ ∧ ∀ i, i < ss.length → w.cell? ⟨b, off + i, none⟩ = some (.string (strOfNums (ss.getD i []))))
theorem Strs.nil (w : World) : Strs w (.slice none 0 0) [] := ⟨(fun x hx => by cases hx), none, 0, rfl, Nat.le_refl _, by simp [maxLen], fun h => absurd rfl h⟩
theorem Strs.keep {w w' : World} {v : Value} {ss : List (List Int)} (h : Strs w v ss) (hk : ∀ k, v.ownBlock = some k → k < w.heap.size → w'.heap[k]? = w.heap[k]?) : Strs w' v ss := by
  obtain ⟨h0, ao, cap, rfl, h1, h2, h3⟩ := h
  refine ⟨h0, ao, cap, rfl, h1, h2, fun hx => ?_⟩
  obtain ⟨b, off, rfl, hc⟩ := h3 hx
  refine ⟨b, off, rfl, fun i hi => ?_⟩
  have hbb := hk b rfl (World.block_lt_of_cell? w _ (hc i hi))
  exact (World.cell?_of_block (w := w) (a := ⟨b, _, none⟩) hbb).trans (hc i hi)
theorem Strs.below {w w' : World} {v : Value} {ss : List (List Int)} (h : Strs w v ss) (hb : Below w.heap.size w w') : Strs w' v ss := h.keep fun k _ hk => hb.block k hk
theorem Strs.len {w : World} {v : Value} {ss : List (List Int)} (h : Strs w v ss) : ∃ ao cap, v = .slice ao ss.length cap := by
  obtain ⟨_, ao, cap, rfl, _⟩ := h; exact ⟨ao, cap, rfl⟩
theorem Strs.max {w : World} {ao : Option Addr} {n cap : Nat} {ss : List (List Int)} (h : Strs w (.slice ao n cap) ss) : n ≤ maxLen := by
  obtain ⟨_, ao', cap', he, h1, h2, _⟩ := h
  simp at he
  omega
theorem Strs.at {w : World} {ao : Option Addr} {n cap : Nat} {ss : List (List Int)} (h : Strs w (.slice ao n cap) ss) (i : Nat) (hi : i < ss.length) : ∃ b off, ao = some ⟨b, off, none⟩ ∧ w.cell? ⟨b, off + i, none⟩ = some (.string (strOfNums ss[i])) ∧ ByteOk ss[i] := by
  obtain ⟨h0, ao', cap', he, h1, h2, h3⟩ := h
  obtain ⟨rfl, _, _⟩ : ao = ao' ∧ n = ss.length ∧ cap = cap' := by simpa using he
  obtain ⟨b, off, rfl, hc⟩ := h3 (by intro e; rw [e] at hi; simp at hi)
  refine ⟨b, off, rfl, ?_, h0 _ (List.getElem_mem hi)⟩
  have := hc i hi
  simpa [List.getD, hi] using this

/-- a way: its ranges, its stop words, how many runes a term has at most -/
structure Cn where
  fs : List Fd
  ss : List (List Int)
  cap : Int
/-- no more than may be gone through -/
structure CnOk (C : Cn) : Prop where
  lo : -9223372036854775808 ≤ C.cap
  hi : C.cap ≤ 9223372036854775807
  fs : C.fs.length ≤ 1000
  ss : C.ss.length ≤ 1000
  each : ∀ z ∈ C.ss, z.length ≤ 1000
def CnfV (w : World) (v : Value) (C : Cn) : Prop := ∃ fo fc so sc, v = .agg #[.slice fo C.fs.length fc, .slice so C.ss.length sc, .int .i64 C.cap] ∧ Tbl w (.slice fo C.fs.length fc) C.fs ∧ Strs w (.slice so C.ss.length sc) C.ss
theorem CnfV.below {w w' : World} {v : Value} {C : Cn} (h : CnfV w v C) (hb : Below w.heap.size w w') : CnfV w' v C := by
  obtain ⟨fo, fc, so, sc, h1, h2, h3⟩ := h
  exact ⟨fo, fc, so, sc, h1, h2.below hb, h3.below hb⟩

theorem less_cmpL : ∀ (xs ys : List Int), ByteOk xs → ByteOk ys → Op.bytesLess (xs.map fun z => UInt8.ofNat z.toNat) (ys.map fun z => UInt8.ofNat z.toNat) = decide (cmp xs ys < 0)
  | [], [], _, _ => rfl
  | [], _ :: _, _, _ => rfl
  | _ :: _, [], _, _ => rfl
  | x :: xs, y :: ys, hx, hy => by
    have h1 := hx x (List.mem_cons_self ..)
    have h2 := hy y (List.mem_cons_self ..)
    have ih := less_cmpL xs ys (fun z hz => hx z (List.mem_cons_of_mem _ hz)) (fun z hz => hy z (List.mem_cons_of_mem _ hz))
    have e1 : (UInt8.ofNat x.toNat < UInt8.ofNat y.toNat) ↔ x < y := by
      rw [UInt8.lt_iff_toNat_lt]; simp; omega
    have e2 : (UInt8.ofNat x.toNat = UInt8.ofNat y.toNat) ↔ x = y := by
      rw [← UInt8.toNat_inj]; simp; omega
    rw [List.map_cons, List.map_cons, Op.bytesLess, ih, Bool.eq_iff_iff, decide_eq_true_iff, Bool.or_eq_true, Bool.and_eq_true, decide_eq_true_iff, decide_eq_true_iff, beq_iff_eq, e1, e2, cmp]
    by_cases h : x < y
    · rw [if_pos h]
      exact ⟨fun _ => by decide, fun _ => .inl h⟩
    · rw [if_neg h]
      by_cases h' : y < x
      · rw [if_pos h']
        exact ⟨fun hh => by omega, fun hh => by omega⟩
      · rw [if_neg h']
        have he : x = y := by omega
        exact ⟨fun hh => hh.elim (fun a => absurd a h) (fun a => a.2), fun hh => .inr ⟨he, hh⟩⟩
theorem str_same {xs ys : List Int} (hx : ByteOk xs) (hy : ByteOk ys) : ((strOfNums xs).toList == (strOfNums ys).toList) = decide (xs = ys) := by
  rw [Bool.eq_iff_iff, decide_eq_true_iff, beq_iff_eq, ← strOfNums_inj hx hy]
  constructor
  · intro h
    rw [ByteArray.toList_eq, ByteArray.toList_eq] at h
    exact str_ext h
  · intro h; rw [h]
theorem str_less {xs ys : List Int} (hx : ByteOk xs) (hy : ByteOk ys) : Op.bytesLess (strOfNums xs).toList (strOfNums ys).toList = decide (cmp xs ys < 0) := by
  rw [ByteArray.toList_eq, ByteArray.toList_eq, strOfNums_data, strOfNums_data]
  exact less_cmpL xs ys hx hy
theorem bin_eql {xs ys : List Int} (hx : ByteOk xs) (hy : ByteOk ys) (t : TypeId) (W : World) : (binOp .eql t (.string (strOfNums xs)) (.string (strOfNums ys))).run Tryd.prog W = .ok (.bool (decide (xs = ys))) W := by
  show Result.ok (Value.bool ((strOfNums xs).toList == (strOfNums ys).toList)) W = _
  rw [str_same hx hy]
theorem bin_neq {xs ys : List Int} (hx : ByteOk xs) (hy : ByteOk ys) (t : TypeId) (W : World) : (binOp .neq t (.string (strOfNums xs)) (.string (strOfNums ys))).run Tryd.prog W = .ok (.bool (!decide (xs = ys))) W := by
  show Result.ok (Value.bool (!((strOfNums xs).toList == (strOfNums ys).toList))) W = _
  rw [str_same hx hy]
theorem bin_leq {xs ys : List Int} (hx : ByteOk xs) (hy : ByteOk ys) (t : TypeId) (W : World) : (binOp .leq t (.string (strOfNums xs)) (.string (strOfNums ys))).run Tryd.prog W = .ok (.bool (decide (cmp xs ys < 0) || decide (xs = ys))) W := by
  show Result.ok (Value.bool (Op.bytesLess (strOfNums xs).toList (strOfNums ys).toList || ((strOfNums xs).toList == (strOfNums ys).toList))) W = _
  rw [str_same hx hy, str_less hx hy]
theorem bin_geq {xs ys : List Int} (hx : ByteOk xs) (hy : ByteOk ys) (t : TypeId) (W : World) : (binOp .geq t (.string (strOfNums xs)) (.string (strOfNums ys))).run Tryd.prog W = .ok (.bool (!decide (cmp xs ys < 0))) W := by
  show Result.ok (Value.bool (!Op.bytesLess (strOfNums xs).toList (strOfNums ys).toList)) W = _
  rw [str_less hx hy]
theorem bin_lss {xs ys : List Int} (hx : ByteOk xs) (hy : ByteOk ys) (t : TypeId) (W : World) : (binOp .lss t (.string (strOfNums xs)) (.string (strOfNums ys))).run Tryd.prog W = .ok (.bool (decide (cmp xs ys < 0))) W := by
  show Result.ok (Value.bool (Op.bytesLess (strOfNums xs).toList (strOfNums ys).toList)) W = _
  rw [str_less hx hy]

end Go.Proofs.YtimmfnjkknbofaaDoor
/- Tokens: a []Token that is owned, or read; one more put behind; contract: slices.Equal at tokens. -/
namespace Go.Proofs.YtimmfnjkknbofaaDoor
set_option maxRecDepth 20000
open Go.RowKit
set_option linter.unusedVariables false
set_option linter.unusedSimpArgs false
set_option maxRecDepth 100000

abbrev Tk := List Int × Nat
def tk2 (x : Tk) : List Value := [.string (strOfNums x.1), .int .i64 (x.2 : Int)]
def tkRow (xs : List Tk) : List Value := (xs.map tk2).flatten
theorem tkRow_len (xs : List Tk) : (tkRow xs).length = xs.length * 2 := by
  induction xs with
  | nil => rfl
  | cons x xs ih =>
    have e : tkRow (x :: xs) = tk2 x ++ tkRow xs := by simp [tkRow]
    rw [e, List.length_append, ih]
    simp [tk2]
    omega
theorem tkRow_snoc (xs : List Tk) (x : Tk) : tkRow (xs ++ [x]) = tkRow xs ++ tk2 x := by simp [tkRow]
theorem tkRow_at : ∀ (xs : List Tk) (i : Nat), i < xs.length → (tkRow xs)[i * 2]? = some (.string (strOfNums (xs.getD i ([], 0)).1)) ∧ (tkRow xs)[i * 2 + 1]? = some (.int .i64 ((xs.getD i ([], 0)).2 : Int))
  | x :: xs, 0, _ => ⟨rfl, rfl⟩
  | x :: xs, i + 1, h => by
    have := tkRow_at xs i (by simpa using h)
    have e : tkRow (x :: xs) = tk2 x ++ tkRow xs := by simp [tkRow]
    rw [e]
    have l2 : (tk2 x).length = 2 := rfl
    rw [List.getElem?_append_right (by rw [l2]; omega), List.getElem?_append_right (by rw [l2]; omega), l2, show (i + 1) * 2 - 2 = i * 2 by omega, show (i + 1) * 2 + 1 - 2 = i * 2 + 1 by omega]
    simpa using this
theorem infoTok : (Tryd.prog.info? 48).map (fun i => (i.zero, i.size, i.bytes)) = some (some (.agg #[.string ⟨#[]⟩, .int .i64 0]), 2, 24) := by kernel_rfl

/-- tokens that are owned -/
def TkO (w : World) (base : Nat) (v : Value) (xs : List Tk) : Prop := w.ownsRow base 48 2 v xs.length (tkRow xs)
theorem TkO.only {S : Nat → Prop} {w w' : World} {base : Nat} {v : Value} {xs : List Tk} (h : TkO w base v xs) (ho : Only S w w') (hn : ∀ k, v.ownBlock = some k → ¬ S k) : TkO w' base v xs := ownsRow_only h ho hn
theorem TkO.shape {w : World} {base : Nat} {v : Value} {xs : List Tk} (h : TkO w base v xs) : ∃ ao cap, v = .slice ao xs.length cap := own_form' h
theorem TkO.lt {w : World} {base : Nat} {v : Value} {xs : List Tk} (h : TkO w base v xs) (k : Nat) (hk : v.ownBlock = some k) : base ≤ k ∧ k < w.heap.size := World.ownsRow.lt h k hk
theorem TkO.nil (w : World) (base : Nat) : TkO w base (.slice none 0 0) [] := World.ownsRow_nil _ _ _ _
/-- tokens that are read -/
def Tks (w : World) (v : Value) (xs : List Tk) : Prop :=
  ∃ ao cap, v = .slice ao xs.length cap ∧ xs.length ≤ 9223372036854775807 ∧ xs.length ≤ cap ∧ cap ≤ maxLen ∧
    (xs ≠ [] → ∃ b off, ao = some ⟨b, off, none⟩ ∧ ∀ i, i < xs.length → w.cell? ⟨b, off + i * 2, none⟩ = some (.string (strOfNums (xs.getD i ([], 0)).1)) ∧ w.cell? ⟨b, off + i * 2 + 1, none⟩ = some (.int .i64 ((xs.getD i ([], 0)).2 : Int)))
theorem Tks.below {w w' : World} {v : Value} {xs : List Tk} (h : Tks w v xs) (hb : Below w.heap.size w w') : Tks w' v xs := by
  obtain ⟨ao, cap, rfl, h1, h2, h4, h3⟩ := h
  refine ⟨ao, cap, rfl, h1, h2, h4, fun hx => ?_⟩
  obtain ⟨b, off, rfl, hc⟩ := h3 hx
  refine ⟨b, off, rfl, fun i hi => ?_⟩
  obtain ⟨q0, q1⟩ := hc i hi
  have hbb := hb.block b (World.block_lt_of_cell? w _ q0)
  exact ⟨(World.cell?_of_block (w := w) (a := ⟨b, _, none⟩) hbb).trans q0, (World.cell?_of_block (w := w) (a := ⟨b, _, none⟩) hbb).trans q1⟩
theorem Tks.len {w : World} {v : Value} {xs : List Tk} (h : Tks w v xs) : ∃ ao cap, v = .slice ao xs.length cap := by
  obtain ⟨ao, cap, rfl, _⟩ := h
  exact ⟨ao, cap, rfl⟩
theorem Tks.max {w : World} {v : Value} {xs : List Tk} (h : Tks w v xs) : xs.length ≤ 9223372036854775807 := by
  obtain ⟨ao, cap, rfl, h1, _⟩ := h
  exact h1
theorem Tks.at {w : World} {ao : Option Addr} {n cap : Nat} {xs : List Tk} (h : Tks w (.slice ao n cap) xs) (i : Nat) (hi : i < xs.length) : ∃ b off x, ao = some ⟨b, off, none⟩ ∧ xs[i]? = some x ∧ w.cell? ⟨b, off + i * 2, none⟩ = some (.string (strOfNums x.1)) ∧ w.cell? ⟨b, off + i * 2 + 1, none⟩ = some (.int .i64 (x.2 : Int)) := by
  obtain ⟨ao', cap', he, _, _, _, h3⟩ := h
  obtain ⟨rfl, _, _⟩ : ao = ao' ∧ n = xs.length ∧ cap = cap' := by simpa using he
  obtain ⟨b, off, rfl, hc⟩ := h3 (by intro h; simp [h] at hi)
  have hg : xs.getD i ([], 0) = xs[i] := by simp [List.getD, hi]
  have := hc i hi
  rw [hg] at this
  exact ⟨b, off, xs[i], rfl, by simp [hi], this⟩
theorem TkO.read {w : World} {base : Nat} {v : Value} {xs : List Tk} (h : TkO w base v xs) (hl : xs.length ≤ 1000000) : Tks w v xs := by
  obtain ⟨ao, cap, rfl⟩ := h.shape
  have hh := own_len h
  refine ⟨ao, cap, rfl, by omega, hh.1, hh.2, fun hx => ?_⟩
  have hpos := List.length_pos_iff.2 hx
  unfold TkO at h
  cases ao with
  | none =>
    rcases h.2 with ⟨_, e⟩ | ⟨g, cap', sp, e, _⟩
    · omega
    · simp at e
  | some a =>
    rcases h.2 with ⟨e, _⟩ | ⟨g, cap', sp, e, _⟩
    · simp at e
    · simp only [Value.slice.injEq, Option.some.injEq] at e
      obtain ⟨rfl, _⟩ := e
      refine ⟨g, 0, rfl, fun i hi => ?_⟩
      obtain ⟨m0, m1⟩ := tkRow_at xs i hi
      rw [Nat.zero_add]
      exact ⟨(World.ownsRow.cellAt h (i * 2) (by omega)).trans m0, (World.ownsRow.cellAt h (i * 2 + 1) (by omega)).trans m1⟩

theorem build_tok (w : World) (s : ByteArray) (p : Int) : (Instr.buildSlice 46 1 #[(0, .agg #[.string s, .int .i64 p])]).run Tryd.prog w = .ok (.slice (some ⟨w.heap.size, 0, none⟩) 1 1) (w.alloc (.cells #[.string s, .int .i64 p] 48)) := by kernel_rfl
/-- a token more, behind tokens that are owned -/
theorem push_tok (W : World) (base : Nat) (v : Value) (xs : List Tk) (h : TkO W base v xs) (x : Tk) (hl : xs.length ≤ 1000000) (hbase : base ≤ W.heap.size) :
    ∃ v2 w3, (Builtin.append_ #[46, 46] 46 #[v, .slice (some ⟨W.heap.size, 0, none⟩) 1 1]).run Tryd.prog (W.alloc (.cells #[.string (strOfNums x.1), .int .i64 (x.2 : Int)] 48)) = .ok v2 w3 ∧ TkO w3 base v2 (xs ++ [x]) ∧ (W.alloc (.cells #[.string (strOfNums x.1), .int .i64 (x.2 : Int)] 48)).grownBy w3 v.ownBlock ∧ (v2.ownBlock = v.ownBlock ∨ v2.ownBlock = some (W.heap.size + 1)) ∧ ∃ a c, v2 = .slice a (xs.length + 1) c := by
  obtain ⟨i0, hi, hz0, hz1, hz2⟩ := info_parts infoTok
  obtain ⟨W1, hW1⟩ : ∃ W1, W.alloc (.cells #[.string (strOfNums x.1), .int .i64 (x.2 : Int)] 48) = W1 := ⟨_, rfl⟩
  have hs1 : W1.heap.size = W.heap.size + 1 := by rw [← hW1]; simp
  have hg : Blk W1 W.heap.size 48 [.string (strOfNums x.1), .int .i64 (x.2 : Int)] := by rw [← hW1]; exact Blk.new W _ _
  have h' : TkO W1 base v xs := h.only (by rw [← hW1]; exact (Only.refl (fun _ => False) W).alloc _) (fun _ _ h => h)
  obtain ⟨p', w', hr, h1, h2, _, h4⟩ := run_append_own_at (P := Tryd.prog) W1 base 46 46 48 i0 _ 2 24 Tryd.underlying46 hi hz0 hz1 hz2 rfl (by decide) v xs.length (tkRow xs) h' ⟨W.heap.size, 0, none⟩ 1 1 (tk2 x) rfl
    (fun j u hj => by
      have hj2 : j < 2 := (List.getElem?_eq_some_iff.1 hj).1
      rw [Addr.add_mid, Nat.zero_add, hg.cell]
      exact hj) (by intro u hu; simp [tk2] at hu; rcases hu with rfl | rfl <;> rfl) (by unfold maxLen; omega) (by omega) (by omega)
  rw [hW1]
  have h1' : TkO w' base p' (xs ++ [x]) := by
    unfold TkO
    rw [tkRow_snoc, List.length_append]
    exact h1
  exact ⟨p', w', hr, h1', h2, by rw [← hs1]; exact h4, own_form' h1⟩

theorem below_drewK {B : Nat} {a w : World} (h : Below B a w) (n : Nat) : Below B a (w.drewN n) := ⟨h.os, h.tape, h.output, h.size, h.block⟩

set_option maxHeartbeats 2000000 in
theorem equalT_any (w : World) (va vb : Value) (xs ys : List Tk) (ha : Tks w va xs) (hb : Tks w vb ys) (hx : ∀ x ∈ xs, ByteOk x.1) (hy : ∀ x ∈ ys, ByteOk x.1) : Calls Tryd.prog 24 #[va, vb] w fun e w' => e = .returned (.bool (decide (xs = ys))) ∧ Below w.heap.size w w' := by
  obtain ⟨ao, ac, rfl⟩ := ha.len
  obtain ⟨bo, bc, rfl⟩ := hb.len
  have hma := ha.max
  have hmb := hb.max
  have HXB := hide hx
  have HYB := hide hy
  clear hx hy
  by_cases hl : xs.length = ys.length
  · have HA := hide ha
    have HB := hide hb
    obtain ⟨n, hn⟩ : ∃ n, xs.length = n := ⟨_, rfl⟩
    have HN := hide hn
    have hm : ys.length = n := by rw [← hl]; exact hn
    have HM := hide hm
    rw [hn] at HA hma ⊢
    rw [hm] at HB ⊢
    clear ha hb hl hn hmb hm
    go_enter Tryd.func24, Tryd.ntmps24
    go_wp2
    go_loopg [13] n (fun k i wr => ∃ j : Nat, k + j = n ∧ i = .int .i64 (j : Int) ∧ xs.take j = ys.take j ∧ Below w.heap.size w wr)
    case atStart => exact ⟨0, rfl, rfl, rfl, Below.refl _ w⟩
    case round =>
      obtain ⟨j, hk, rfl, hs, hbw⟩ := hrel
      have HS := hide hs
      have HBW := hide hbw
      clear hs hbw
      cases gk with
      | zero =>
        obtain rfl : j = n := by omega
        have hlt : ¬ (j : Int) < (j : Int) := by omega
        go_wp2
        go_ret
        refine ⟨ret_bool (Eq.symm (decide_eq_true ?_)), HBW.out⟩
        have := HS.out
        rwa [List.take_of_length_le (by rw [HN.out]; exact Nat.le_refl _), List.take_of_length_le (by rw [HM.out]; exact Nat.le_refl _)] at this
      | succ k =>
        have hj : (j : Int) < (n : Int) := by omega
        obtain ⟨b1, o1, ⟨p1, r1⟩, rfl, hx, q0, q1⟩ := (HA.out.below HBW.out).at j (by rw [HN.out]; omega)
        obtain ⟨b2, o2, ⟨p2, r2⟩, rfl, hy, u0, u1⟩ := (HB.out.below HBW.out).at j (by rw [HM.out]; omega)
        simp only at q0 q1 u0 u1
        have hss := str_same (HXB.out _ (List.mem_of_getElem? hx)) (HYB.out _ (List.mem_of_getElem? hy))
        simp only at hss
        have HX := hide hx
        have HY := hide hy
        clear hx hy
        by_cases he : p1 = p2 ∧ r1 = r2
        · obtain ⟨rfl, rfl⟩ := he
          have HR : Hid (xs.take (j + 1) = ys.take (j + 1)) := by
            have h1 : xs.take (j + 1) = xs.take j ++ [(p1, r1)] := by
              obtain ⟨hi, e⟩ := List.getElem?_eq_some_iff.1 HX.out
              rw [List.take_succ_eq_append_getElem hi, e]
            have h2 : ys.take (j + 1) = ys.take j ++ [(p1, r1)] := by
              obtain ⟨hi, e⟩ := List.getElem?_eq_some_iff.1 HY.out
              rw [List.take_succ_eq_append_getElem hi, e]
            show _ = _
            rw [h1, h2, HS.out]
          clear hss
          generalize strOfNums p1 = s1 at *
          go_wp2
          go_quiet (fail)
          go_wp2
          go_roundg k
          case measure => omega
          case rel => exact ⟨j + 1, by omega, by go_num, HR.out, below_drewK HBW.out _⟩
        · have HR : Hid (decide (xs = ys) = false) := by
            apply decide_eq_false
            intro e
            have h1 := HX.out
            rw [e, HY.out] at h1
            simp only [Option.some.injEq, Prod.mk.injEq] at h1
            exact he ⟨h1.1.symm, h1.2.symm⟩
          by_cases hp : p1 = p2
          · subst hp
            have hr : ¬ r1 = r2 := fun e => he ⟨rfl, e⟩
            clear he hss
            generalize strOfNums p1 = s1 at *
            go_wp2
            go_quiet (fail)
            go_wp2
            go_ret
            exact ⟨ret_bool HR.out.symm, below_drewK HBW.out _⟩
          · rw [decide_eq_false hp] at hss
            clear he hp
            generalize strOfNums p1 = s1 at *
            generalize strOfNums p2 = s2 at *
            go_wp2
            go_quiet (fail)
            go_wp2
            go_ret
            exact ⟨ret_bool HR.out.symm, below_drewK HBW.out _⟩
  · have hli : ¬ (xs.length : Int) = (ys.length : Int) := by omega
    have HR : Hid (decide (xs = ys) = false) := decide_eq_false (fun e => hl (by rw [e]))
    generalize xs.length = n at *
    generalize ys.length = m at *
    clear ha hb hl
    go_enter Tryd.func24, Tryd.ntmps24
    go_wp2
    go_ret
    exact ⟨ret_bool HR.out.symm, Below.refl _ w⟩

end Go.Proofs.YtimmfnjkknbofaaDoor
