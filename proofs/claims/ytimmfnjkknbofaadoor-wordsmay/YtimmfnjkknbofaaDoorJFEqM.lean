/- Marks that are read; contract: slices.Equal at marks. -/
import Derived.Test.YtimmfnjkknbofaaDoorJFCount
import Derived.Test.YtimmfnjkknbofaaDoorJWdP
import Derived.Test.YtimmfnjkknbofaaDoorDBase
import Derived.Test.YtimmfnjkknbofaaDoorJFRck
import Derived.Laws.Cover4
namespace Go.Proofs.YtimmfnjkknbofaaDoor
set_option maxRecDepth 20000
open Go.RowKit
set_option linter.unusedVariables false
set_option linter.unusedSimpArgs false
set_option maxRecDepth 100000

theorem below_drewN {B : Nat} {a w : World} (h : Below B a w) (n : Nat) : Below B a (w.drewN n) := ⟨h.os, h.tape, h.output, h.size, h.block⟩
/-- a []Mark that is read -/
def MkR (w : World) (v : Value) (xs : List (Nat × Nat)) : Prop :=
  ∃ ao cap, v = .slice ao xs.length cap ∧ xs.length ≤ 9223372036854775807 ∧ xs.length ≤ cap ∧ cap ≤ maxLen ∧
    (xs ≠ [] → ∃ b off, ao = some ⟨b, off, none⟩ ∧ ∀ i, i < xs.length → w.cell? ⟨b, off + i * 2, none⟩ = some (.int .i64 ((xs.getD i (0, 0)).1 : Int)) ∧ w.cell? ⟨b, off + i * 2 + 1, none⟩ = some (.int .i32 ((xs.getD i (0, 0)).2 : Int)))
theorem MkR.below {w w' : World} {v : Value} {xs : List (Nat × Nat)} (h : MkR w v xs) (hb : Below w.heap.size w w') : MkR w' v xs := by
  obtain ⟨ao, cap, rfl, h1, h2, h4, h3⟩ := h
  refine ⟨ao, cap, rfl, h1, h2, h4, fun hx => ?_⟩
  obtain ⟨b, off, rfl, hc⟩ := h3 hx
  refine ⟨b, off, rfl, fun i hi => ?_⟩
  obtain ⟨q0, q1⟩ := hc i hi
  have hbb := hb.block b (World.block_lt_of_cell? w _ q0)
  exact ⟨(World.cell?_of_block (w := w) (a := ⟨b, _, none⟩) hbb).trans q0, (World.cell?_of_block (w := w) (a := ⟨b, _, none⟩) hbb).trans q1⟩
theorem MkR.len {w : World} {v : Value} {xs : List (Nat × Nat)} (h : MkR w v xs) : ∃ ao cap, v = .slice ao xs.length cap := by
  obtain ⟨ao, cap, rfl, _⟩ := h
  exact ⟨ao, cap, rfl⟩
theorem MkR.max {w : World} {v : Value} {xs : List (Nat × Nat)} (h : MkR w v xs) : xs.length ≤ 9223372036854775807 := by
  obtain ⟨ao, cap, rfl, h1, _⟩ := h
  exact h1
theorem MkR.at {w : World} {ao : Option Addr} {n cap : Nat} {xs : List (Nat × Nat)} (h : MkR w (.slice ao n cap) xs) (i : Nat) (hi : i < xs.length) : ∃ b off x, ao = some ⟨b, off, none⟩ ∧ xs[i]? = some x ∧ w.cell? ⟨b, off + i * 2, none⟩ = some (.int .i64 (x.1 : Int)) ∧ w.cell? ⟨b, off + i * 2 + 1, none⟩ = some (.int .i32 (x.2 : Int)) := by
  obtain ⟨ao', cap', he, _, _, _, h3⟩ := h
  obtain ⟨rfl, _, _⟩ : ao = ao' ∧ n = xs.length ∧ cap = cap' := by simpa using he
  obtain ⟨b, off, rfl, hc⟩ := h3 (by intro h; simp [h] at hi)
  have hg : xs.getD i (0, 0) = xs[i] := by simp [List.getD, hi]
  have := hc i hi
  rw [hg] at this
  exact ⟨b, off, xs[i], rfl, by simp [hi], this⟩
theorem markRow_at : ∀ (xs : List (Nat × Nat)) (i : Nat), i < xs.length → (markRow xs)[i * 2]? = some (.int .i64 ((xs.getD i (0, 0)).1 : Int)) ∧ (markRow xs)[i * 2 + 1]? = some (.int .i32 ((xs.getD i (0, 0)).2 : Int))
  | x :: xs, 0, _ => ⟨rfl, rfl⟩
  | x :: xs, i + 1, h => by
    have := markRow_at xs i (by simpa using h)
    have e : markRow (x :: xs) = mark2 x ++ markRow xs := by simp [markRow]
    rw [e]
    have l2 : (mark2 x).length = 2 := rfl
    rw [List.getElem?_append_right (by rw [l2]; omega), List.getElem?_append_right (by rw [l2]; omega), l2, show (i + 1) * 2 - 2 = i * 2 by omega, show (i + 1) * 2 + 1 - 2 = i * 2 + 1 by omega]
    simpa using this
theorem markRow_len (xs : List (Nat × Nat)) : (markRow xs).length = xs.length * 2 := by
  induction xs with
  | nil => rfl
  | cons x xs ih =>
    have e : markRow (x :: xs) = mark2 x ++ markRow xs := by simp [markRow]
    rw [e, List.length_append, ih]
    simp [mark2]
    omega
theorem Marks.read {w : World} {base : Nat} {v : Value} {xs : List (Nat × Nat)} (h : Marks w base v xs) (hl : xs.length ≤ 1000000) : MkR w v xs := by
  obtain ⟨ao, cap, rfl⟩ := h.shape
  have hh := own_len h
  refine ⟨ao, cap, rfl, by omega, hh.1, hh.2, fun hx => ?_⟩
  have hpos := List.length_pos_iff.2 hx
  unfold Marks at h
  cases ao with
  | none =>
    rcases h.2 with ⟨_, e⟩ | ⟨g, cap', sp, e, _⟩
    · omega
    · simp at e
  | some a =>
    rcases h.2 with ⟨e, _⟩ | ⟨g, cap', sp, e, _⟩
    · simp at e
    · simp only [Value.slice.injEq, Option.some.injEq] at e
      obtain ⟨rfl, _⟩ := e
      refine ⟨g, 0, rfl, fun i hi => ?_⟩
      obtain ⟨m0, m1⟩ := markRow_at xs i hi
      rw [Nat.zero_add]
      exact ⟨(World.ownsRow.cellAt h (i * 2) (by omega)).trans m0, (World.ownsRow.cellAt h (i * 2 + 1) (by omega)).trans m1⟩


end Go.Proofs.YtimmfnjkknbofaaDoor
/- Runes in memory ([]rune), owned: read, one more put behind, as a text; contract: the document's runes (incipitref14.runes). -/
namespace Go.Proofs.YtimmfnjkknbofaaDoor
set_option maxRecDepth 20000
open Go.RowKit
set_option linter.unusedVariables false
set_option linter.unusedSimpArgs false
set_option maxRecDepth 100000

def rv (l : List Nat) : List Value := l.map fun r : Nat => Value.int .i32 (r : Int)
theorem rv_len (l : List Nat) : (rv l).length = l.length := by simp [rv]
theorem rv_snoc (l : List Nat) (r : Nat) : rv (l ++ [r]) = rv l ++ [.int .i32 (r : Int)] := by simp [rv]
theorem infoI32 : (Tryd.prog.info? 21).map (fun i => (i.zero, i.size, i.bytes)) = some (some (.int .i32 0), 1, 4) := by kernel_rfl
/-- a []rune that is owned -/
def RnO (w : World) (base : Nat) (v : Value) (l : List Nat) : Prop := w.ownsRow base 21 1 v l.length (rv l)
theorem RnO.only {S : Nat → Prop} {w w' : World} {base : Nat} {v : Value} {l : List Nat} (h : RnO w base v l) (ho : Only S w w') (hn : ∀ k, v.ownBlock = some k → ¬ S k) : RnO w' base v l := ownsRow_only h ho hn
theorem RnO.below {w w' : World} {base : Nat} {v : Value} {l : List Nat} (h : RnO w base v l) (hb : Below w.heap.size w w') : RnO w' base v l := ownsRow_only h (Only.of_below (fun _ => False) hb) (fun _ _ h => h)
theorem RnO.shape {w : World} {base : Nat} {v : Value} {l : List Nat} (h : RnO w base v l) : ∃ ao cap, v = .slice ao l.length cap := own_form' h
theorem RnO.lt {w : World} {base : Nat} {v : Value} {l : List Nat} (h : RnO w base v l) (k : Nat) (hk : v.ownBlock = some k) : base ≤ k ∧ k < w.heap.size := World.ownsRow.lt h k hk
theorem RnO.nil (w : World) (base : Nat) : RnO w base (.slice none 0 0) [] := World.ownsRow_nil _ _ _ _
theorem RnO.base {w : World} {base base' : Nat} {v : Value} {l : List Nat} (h : RnO w base v l) (hb : base' ≤ base) : RnO w base' v l := by
  refine ⟨h.1, ?_⟩
  rcases h.2 with h' | ⟨g, cap, cur, e, h1, r⟩
  · exact .inl h'
  · exact .inr ⟨g, cap, cur, e, Nat.le_trans hb h1, r⟩
theorem RnO.at {w : World} {base : Nat} {ao : Option Addr} {n cap : Nat} {l : List Nat} (h : RnO w base (.slice ao n cap) l) (i : Nat) (hi : i < l.length) : ∃ g, ao = some ⟨g, 0, none⟩ ∧ base ≤ g ∧ g < w.heap.size ∧ w.cell? ⟨g, i, none⟩ = some (.int .i32 (l[i] : Int)) := by
  unfold RnO at h
  cases ao with
  | none =>
    rcases h.2 with ⟨_, e⟩ | ⟨g, cap', sp, e, _⟩
    · omega
    · simp at e
  | some a =>
    rcases h.2 with ⟨e, _⟩ | ⟨g, cap', sp, e, _⟩
    · simp at e
    · simp only [Value.slice.injEq, Option.some.injEq] at e
      obtain ⟨rfl, rfl, rfl⟩ := e
      have hlt := World.ownsRow.lt h g rfl
      refine ⟨g, rfl, hlt.1, hlt.2, ?_⟩
      exact (World.ownsRow.cellAt h i (by omega)).trans (by simp [rv, hi])
/-- one more, out of a row of one that lies there -/
theorem push_rnB (w : World) (base : Nat) (v : Value) (l : List Nat) (h : RnO w base v l) (r : Nat) (q : Nat) (hB : Blk w q 21 [.int .i32 (r : Int)]) (hl : l.length + 1 ≤ 1000000) (hb : base ≤ w.heap.size) :
    ∃ v' w', (Builtin.append_ #[69, 69] 69 #[v, .slice (some ⟨q, 0, none⟩) 1 1]).run Tryd.prog w = .ok v' w' ∧ RnO w' base v' (l ++ [r]) ∧ w.grownBy w' v.ownBlock ∧ (v'.ownBlock = v.ownBlock ∨ v'.ownBlock = some w.heap.size) ∧ ∃ ao cap, v' = .slice ao (l.length + 1) cap := by
  obtain ⟨i0, hi, hz, hs, hby⟩ := info_parts infoI32
  obtain ⟨v', w', hr, h1, h2, _, h4⟩ := run_append_own_at (P := Tryd.prog) w base 69 69 21 i0 (.int .i32 0) 1 4 Tryd.underlying69 hi hz hs hby rfl (by decide) v l.length (rv l) h ⟨q, 0, none⟩ 1 1 [.int .i32 (r : Int)] rfl
    (fun j u hj => by
      have hj0 : j < 1 := by have := (List.getElem?_eq_some_iff.1 hj).1; simpa using this
      obtain rfl : j = 0 := by omega
      have := hB.cell 0
      simp only [List.getElem?_cons_zero, Option.some.injEq] at hj
      subst hj
      exact this) (by intro u hu; simp at hu; subst hu; rfl) (by unfold maxLen; omega) (by omega) hb
  refine ⟨v', w', hr, ?_, h2, ?_, ?_⟩
  · unfold RnO
    rw [rv_snoc]
    simpa using h1
  · simpa using h4
  · exact own_form' h1
theorem push_rn (w : World) (base : Nat) (v : Value) (l : List Nat) (h : RnO w base v l) (r : Nat) (hl : l.length + 1 ≤ 1000000) (hb : base ≤ w.heap.size) :
    ∃ v' w', (Builtin.append_ #[69, 69] 69 #[v, .slice (some ⟨w.heap.size, 0, none⟩) 1 1]).run Tryd.prog (w.alloc (.cells #[.int .i32 (r : Int)] 21)) = .ok v' w' ∧ RnO w' base v' (l ++ [r]) ∧ (w.alloc (.cells #[.int .i32 (r : Int)] 21)).grownBy w' v.ownBlock ∧ (v'.ownBlock = v.ownBlock ∨ v'.ownBlock = some (w.heap.size + 1)) ∧ ∃ ao cap, v' = .slice ao (l.length + 1) cap := by
  have := push_rnB (w.alloc (.cells #[.int .i32 (r : Int)] 21)) base v l (World.ownsRow.alloc h _) r w.heap.size (Blk.new w _ _) hl (by simp; omega)
  rwa [World.size_alloc] at this

/-- runes as a text -/
theorem enc_let (r : Nat) (h : letN r = true) : (Utf8.encode (r : Int)).data.toList = (formL (r : Int)).map fun z => UInt8.ofNat z.toNat := by
  have hl := letN_lt h
  have hr := letN_rune h
  have v : Utf8.valid (r : Int) = true := by simp [Utf8.valid]; omega
  by_cases c : r < 128
  · rw [formL_1 hr (by omega)]
    simp [Utf8.encode, v, c]
  · have c2 : r < 2048 := by omega
    have e1 : (192 + (r : Int) / 64).toNat = 192 + r / 64 := by omega
    have e2 : (128 + (r : Int) % 64).toNat = 128 + r % 64 := by omega
    rw [formL_2 hr (by omega) (by omega)]
    simp [Utf8.encode, v, c, c2, e1, e2]
theorem foldl_enc : ∀ (l : List Nat) (s : ByteArray), (∀ r ∈ l, letN r = true) → ((l.map fun r : Nat => (r : Int)).foldl (fun b n => b ++ Utf8.encode n) s).data.toList = s.data.toList ++ (fmL l).map fun z => UInt8.ofNat z.toNat
  | [], s, _ => by simp [fmL]
  | r :: l, s, h => by
    rw [List.map_cons, List.foldl_cons, foldl_enc l _ (fun x hx => h x (List.mem_cons_of_mem _ hx)), fmL_cons, List.map_append, ← enc_let r (h r (List.mem_cons_self ..))]
    simp [ByteArray.data_append]
theorem runesBytes_fm (l : List Nat) (h : ∀ r ∈ l, letN r = true) : runesBytes (l.map fun r : Nat => (r : Int)) = strOfNums (fmL l) := by
  have := foldl_enc l ByteArray.empty h
  have e : (runesBytes (l.map fun r : Nat => (r : Int))).data.toList = (strOfNums (fmL l)).data.toList := by
    rw [strOfNums_data]
    unfold runesBytes
    rw [this]
    rfl
  cases h1 : runesBytes (l.map fun r : Nat => (r : Int)) with
  | mk d1 =>
    cases h2 : strOfNums (fmL l) with
    | mk d2 =>
      rw [h1, h2] at e
      congr 1
      exact Array.toList_inj.1 e
theorem conv_fm (W : World) (base : Nat) (v : Value) (l : List Nat) (h : RnO W base v l) (hr : ∀ r ∈ l, letN r = true) : (convert 69 9 v).run Tryd.prog W = .ok (.string (strOfNums (fmL l))) W := by
  obtain ⟨ao, cap, rfl⟩ := h.shape
  cases ao with
  | none =>
    rw [run_convert_runes_nil (P := Tryd.prog) W 69 9 21 _ _ Tryd.underlying69 Tryd.underlying21 Tryd.underlying9]
    have : l = [] := by
      rcases h.2 with ⟨_, e⟩ | ⟨g, cap', sp, e, _⟩
      · exact List.eq_nil_of_length_eq_zero e
      · simp at e
    subst this
    rfl
  | some a =>
    rw [run_convert_runes (P := Tryd.prog) W 69 9 21 a l.length cap (l.map fun r : Nat => (r : Int)) (by simp) Tryd.underlying69 Tryd.underlying21 Tryd.underlying9 (fun j hj => by
      have hjl : j < l.length := by simpa using hj
      obtain ⟨g, e, _, _, hc⟩ := h.at j hjl
      obtain rfl : a = ⟨g, 0, none⟩ := by simpa using e
      rw [Addr.add_mid, Nat.zero_add, hc]
      simp [List.getD, hjl])]
    rw [List.take_of_length_le (by simp), runesBytes_fm l hr]

set_option maxHeartbeats 1000000 in
theorem runesD_any (w : World) (v : Value) (zs : List Int) (h : Sl w v zs) (hl : zs.length ≤ 100000) : Calls Tryd.prog 39 #[v] w fun e w' => ∃ u, e = .returned u ∧ RnO w' w.heap.size u (rs zs) ∧ Below w.heap.size w w' := by
  have HRR := hide (refRunes_any w v zs h hl)
  have hrl := runesN_len zs
  unfold rs
  generalize runesN zs = R at *
  obtain ⟨ao, L, cap, rfl⟩ := sl_form h
  clear h
  go_enter Tryd.func39, Tryd.ntmps39
  go_wp2_with (go_at_call 65; refine HRR.out.mono ?_; rintro e w2 ⟨u, rfl, hu, hb⟩; obtain ⟨al, cl, rfl⟩ := hu.shape; have HU := hide hu; have HB2 := hide hb; clear HRR hu hb)
  obtain ⟨n, hn⟩ : ∃ n, R.length = n := ⟨_, rfl⟩
  rw [hn] at HU ⊢
  have HN := hide hn
  have hnl : n ≤ 100000 := by omega
  clear hn hrl
  go_loopg [3, 5] n (fun k o i wr => ∃ (j : Nat) (oa : Option Addr) (oc : Nat), k + j = n ∧ i = .int .i64 (j : Int) ∧ o = .slice oa j oc ∧ RnO wr w.heap.size (.slice oa j oc) ((R.take j).map (·.2)) ∧ Marks wr w.heap.size (.slice al n cl) R ∧ (∀ q, (Value.slice oa j oc).ownBlock = some q → (Value.slice al n cl).ownBlock ≠ some q) ∧ Below w.heap.size w wr)
  case atStart => exact ⟨0, none, 0, by omega, rfl, rfl, RnO.nil _ _, HU.out, (fun q hq => by cases hq), HB2.out⟩
  case round =>
    clear HU HB2
    obtain ⟨j, oa, oc, hk, rfl, rfl, ho, hm, hap, hb⟩ := hrel
    have HO := hide ho
    have HM := hide hm
    have HAP := hide hap
    have HB := hide hb
    clear ho hm hap hb
    cases gk with
    | zero =>
      obtain rfl : j = n := by omega
      have hlt : ¬ (j : Int) < (j : Int) := by omega
      go_wp2
      go_ret
      refine ⟨_, rfl, ?_, HB.out⟩
      have h1 := HO.out
      rwa [List.take_of_length_le (by rw [HN.out]; exact Nat.le_refl _)] at h1
    | succ k =>
      have hj : (j : Int) < (n : Int) := by omega
      have hjR : j < R.length := by rw [HN.out]; omega
      obtain ⟨b, off, ⟨p, r⟩, rfl, hx, q0, q1⟩ := (HM.out.read (by have := HN.out; omega)).at j (by rw [HN.out]; omega)
      simp only at q0 q1
      have HLE : Hid (((R.take j).map (·.2)).length = j) := by show _ = _; simp; omega
      have HTK : Hid ((R.take (j + 1)).map (·.2) = (R.take j).map (·.2) ++ [r]) := by
        show _ = _
        rw [List.take_succ_eq_append_getElem hjR, List.map_append]
        congr 1
        have := (List.getElem?_eq_some_iff.1 hx).2
        simp [this]
      obtain ⟨v2, w3, hr, hi2, hg2, hv2, oa2, oc2, rfl⟩ := push_rn wr w.heap.size _ _ HO.out r (by rw [HLE.out]; omega) HB.out.size
      have hoA : Only (fun q => (Value.slice oa j oc).ownBlock = some q) wr w3 := ((Only.refl _ wr).alloc _).grown hg2 (fun q e _ => e)
      have HM3 : Hid (Marks w3 w.heap.size (.slice (some ⟨b, off, none⟩) n cl) R) := HM.out.only hoA (fun q hq hq2 => HAP.out q hq2 hq)
      have HB3 : Hid (Below w.heap.size w w3) := HB.out.trans (hoA.below HB.out.size (fun q hq e => by have := (HO.out.lt q e).1; omega))
      have HAP3 : Hid (∀ q, (Value.slice oa2 (((R.take j).map (·.2)).length + 1) oc2).ownBlock = some q → (Value.slice (some ⟨b, off, none⟩) n cl).ownBlock ≠ some q) := fun q hq => by
        rcases hv2 with e | e
        · exact HAP.out q (e ▸ hq)
        · rw [e] at hq
          intro hq2
          have h1 := (HM.out.lt q hq2).2
          have h2 := Option.some.inj hq
          omega
      rw [← HTK.out] at hi2
      rw [HLE.out] at hr hi2 HAP3
      have HR := hide hr
      have HI2 := hide hi2
      clear hr hi2 hg2 hv2 hoA hx hjR
      go_wp2_with (at_builtin; (with_reducible refine wpList_append_run _ rfl (.tmp 14) (.tmp 20) 69 rfl _ _ ?_ ?_ _ _ HR.out ?_); exact rfl; exact rfl; clear HR)
      go_roundg k
      case measure => omega
      case rel => exact ⟨j + 1, oa2, oc2, by omega, by go_num, rfl, HI2.out, HM3.out, HAP3.out, HB3.out⟩

end Go.Proofs.YtimmfnjkknbofaaDoor
/- Contracts: the document's Rune and Text (incipitref13). -/
namespace Go.Proofs.YtimmfnjkknbofaaDoor
set_option maxRecDepth 20000
open Go.RowKit
set_option linter.unusedVariables false
set_option linter.unusedSimpArgs false
set_option maxRecDepth 100000

theorem atL_fold : ∀ (xs : List Fd) (r : Int) (j : Nat), (atL xs r j < 0 ∧ foldL xs r = r) ∨ ∃ (i : Nat) (x : Fd), atL xs r j = ((j + i : Nat) : Int) ∧ xs[i]? = some x ∧ foldL xs r = x.2.1 + (r - x.1) ∧ x.1 ≤ r ∧ r - x.1 < x.2.2
  | [], r, j => .inl ⟨by unfold atL; omega, rfl⟩
  | x :: xs, r, j => by
    unfold atL foldL
    by_cases h : x.1 ≤ r ∧ r - x.1 < x.2.2
    · rw [if_pos h, if_pos ⟨h.1, by omega⟩]
      exact .inr ⟨0, x, rfl, rfl, rfl, h⟩
    · rw [if_neg h, if_neg (by omega)]
      rcases atL_fold xs r (j + 1) with h1 | ⟨i, y, h1, h2, h3⟩
      · exact .inl h1
      · exact .inr ⟨i + 1, y, by rw [h1]; congr 1; omega, by simpa using h2, h3⟩

set_option maxHeartbeats 1000000 in
theorem refRune_any (w : World) (v : Value) (xs : List Fd) (r : Int) (hT : Tbl w v xs) (hr : I32 r) :
    Calls Tryd.prog 41 #[v, .int .i32 r] w fun e w' => e = .returned (.int .i32 (foldL (useL xs) r)) ∧ Below w.heap.size w w' := by
  have HC := hide (refCheck_any w v xs hT)
  have HF : Hid (∀ W, Below w.heap.size w W → Calls Tryd.prog 64 #[v, .int .i32 r] W fun e w' => e = .returned (.int .i64 (atL xs r 0)) ∧ Below W.heap.size W w') := fun W h => refFolds_any W v xs r (hT.below h) hr
  have hus := useL_ok xs
  obtain ⟨ao, cap, rfl⟩ := hT.len
  have HT := hide hT
  have hmx := hT.max
  obtain ⟨n, hn⟩ : ∃ n, xs.length = n := ⟨_, rfl⟩
  have HN := hide hn
  rw [hn] at HC HF HT hmx ⊢
  obtain ⟨hr1, hr2⟩ := hr
  clear hT hn
  cases hB : tblB xs with
  | false =>
    have HU : Hid (foldL (useL xs) r = r) := by show _ = _; rw [show useL xs = [] from if_neg (by rw [hB]; simp)]; rfl
    rw [show tblE xs = 130 from if_neg (by rw [hB]; simp)] at HC
    clear hB hus
    go_enter Tryd.func41, Tryd.ntmps41
    go_wp2_with (go_at_call 38; refine HC.out.mono ?_; rintro e w1 ⟨rfl, hb⟩; have HB := hide hb; clear HC hb)
    go_ret
    exact ⟨ret_int HU.out.symm, HB.out⟩
  | true =>
    have huse : useL xs = xs := if_pos hB
    rw [show tblE xs = 0 from if_pos hB] at HC
    rw [huse] at hus ⊢
    rcases atL_fold xs r 0 with ⟨h1, h2⟩ | ⟨i, ⟨f, t, m⟩, h1, h2, h3, h4, h5⟩
    · have HU := hide h2
      generalize atL xs r 0 = A at *
      clear hB hus h2 huse
      go_enter Tryd.func41, Tryd.ntmps41
      go_wp2_with (first
        | (go_at_call 38; refine HC.out.mono ?_; rintro e w1 ⟨rfl, hb⟩; have HB := hide hb; clear HC hb)
        | (go_at_call 64; refine (HF.out w1 HB.out).mono ?_; rintro e w2 ⟨rfl, hb⟩; have HB2 := hide (HB.out.trans (hb.mono HB.out.size)); clear HF hb))
      go_ret
      exact ⟨ret_int HU.out.symm, HB2.out⟩
    · rw [Nat.zero_add] at h1
      obtain ⟨⟨n1, n2⟩, f1, f2, t1, t2⟩ := hus _ (List.mem_of_getElem? h2)
      simp only at n1 n2 f1 f2 t1 t2 h3 h4 h5
      have hil : i < xs.length := (List.getElem?_eq_some_iff.1 h2).1
      have hii : (i : Int) < (n : Int) := by have := HN.out; omega
      have HCL : Hid (∀ W, Below w.heap.size w W → ∃ b off, ao = some ⟨b, off, none⟩ ∧ W.cell? ⟨b, off + i * 3, none⟩ = some (.int .i32 f) ∧ W.cell? ⟨b, off + i * 3 + 1, none⟩ = some (.int .i32 t)) := fun W h => by
        obtain ⟨b, off, x, e, hx, _, q0, q1, _⟩ := (HT.out.below h).at i hil
        obtain rfl : x = (f, t, m) := Option.some.inj (hx.symm.trans h2)
        exact ⟨b, off, e, q0, q1⟩
      have HU := hide h3
      rw [h1] at HF
      obtain ⟨S1, hS1⟩ : ∃ S, t + r = S := ⟨_, rfl⟩
      have hS1w : IntKind.i32.wrap S1 = S1 := IntWalk.i32_in _ ⟨by omega, by omega⟩
      obtain ⟨S2, hS2⟩ : ∃ S, S1 - f = S := ⟨_, rfl⟩
      have hS2w : IntKind.i32.wrap S2 = S2 := IntWalk.i32_in _ ⟨by omega, by omega⟩
      have HR : Hid (foldL xs r = S2) := by show _ = _; rw [h3]; omega
      clear hB hus h1 h2 h3 huse hil
      go_enter Tryd.func41, Tryd.ntmps41
      go_wp2_with (first
        | (go_at_call 38; refine HC.out.mono ?_; rintro e w1 ⟨rfl, hb⟩; have HB := hide hb; clear HC hb)
        | (go_at_call 64; refine (HF.out w1 HB.out).mono ?_; rintro e w2 ⟨rfl, hb⟩; have HB2 := hide (HB.out.trans (hb.mono HB.out.size)); obtain ⟨b, off, hao, q0, q1⟩ := HCL.out w2 HB2.out; subst hao; clear HF hb))
      go_quiet (fail)
      go_wp2
      go_ret
      exact ⟨ret_int HR.out.symm, below_drewG HB2.out _⟩

theorem bytes_none (w : World) (base : Nat) (hb : base ≤ w.heap.size) : (w.alloc (.cells #[] 5)).ownsRow base 5 1 (.slice (some ⟨w.heap.size, 0, none⟩) 0 0) 0 [] :=
  ⟨rfl, .inr ⟨w.heap.size, 0, #[], rfl, hb, heap_alloc_new w _, Nat.le_refl _, by simp [maxLen], by simp, rfl⟩⟩
theorem foldZ_snoc (xs : List Fd) (l : List (Nat × Nat)) (k : Nat) (x : Nat × Nat) (hx : l[k]? = some x) : foldZ xs (l.take (k + 1)) = foldZ xs (l.take k) ++ Lib.encodeRuneZ (foldL xs (x.2 : Int)) := by
  obtain ⟨hk, e⟩ := List.getElem?_eq_some_iff.1 hx
  rw [List.take_succ_eq_append_getElem hk, e]
  unfold foldZ
  rw [List.flatMap_append, List.flatMap_cons, List.flatMap_nil, List.append_nil]


end Go.Proofs.YtimmfnjkknbofaaDoor
