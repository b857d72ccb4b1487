/- Contracts: slices.Clone at texts; package words' clone. -/
import Derived.Test.YtimmfnjkknbofaaDoorJWdStop
import Derived.Test.YtimmfnjkknbofaaDoorJFCk
import Derived.Test.YtimmfnjkknbofaaDoorRegionE
import Derived.Test.YtimmfnjkknbofaaDoorRegionL
namespace Go.Proofs.YtimmfnjkknbofaaDoor
set_option maxRecDepth 20000
open Go.RowKit
set_option linter.unusedVariables false
set_option linter.unusedSimpArgs false
set_option maxRecDepth 100000

def strRow (ss : List (List Int)) : List Value := ss.map fun z => .string (strOfNums z)
theorem strRow_len (ss : List (List Int)) : (strRow ss).length = ss.length := by simp [strRow]
theorem strRow_at (ss : List (List Int)) (i : Nat) (hi : i < ss.length) : (strRow ss)[i]? = some (.string (strOfNums (ss.getD i []))) := by simp [strRow, List.getD, hi]
theorem infoStr : (Tryd.prog.info? 9).map (fun i => (i.zero, i.size, i.bytes)) = some (some (.string ⟨#[]⟩), 1, 16) := by kernel_rfl
theorem strs_of_own {w : World} {base : Nat} {v : Value} {ss : List (List Int)} (h : w.ownsRow base 9 1 v ss.length (strRow ss)) (hok : ∀ z ∈ ss, ByteOk z) : Strs w v ss := by
  obtain ⟨ao, cap, rfl⟩ := own_form' h
  have hh := own_len h
  refine ⟨hok, ao, cap, rfl, hh.1, hh.2, fun hx => ?_⟩
  have hpos := List.length_pos_iff.2 hx
  cases ao with
  | none =>
    rcases h.2 with ⟨_, e⟩ | ⟨g, cap', sp, e, _⟩
    · omega
    · simp at e
  | some a =>
    rcases h.2 with ⟨e, _⟩ | ⟨g, cap', sp, e, _⟩
    · simp at e
    · simp only [Value.slice.injEq, Option.some.injEq] at e
      obtain ⟨rfl, _⟩ := e
      refine ⟨g, 0, rfl, fun i hi => ?_⟩
      rw [Nat.zero_add]
      exact (World.ownsRow.cellAt h i (by omega)).trans (strRow_at ss i hi)
theorem run_eq_nilS (a : Option Addr) (n c : Nat) (w : World) : (binOp .eql 23 (.slice a n c) (.slice none 0 0)).run Tryd.prog w = .ok (.bool a.isNone) w := by
  cases a <;> kernel_rfl

set_option maxHeartbeats 1000000 in
theorem cloneS_any (w : World) (v : Value) (ss : List (List Int)) (hS : Strs w v ss) (hl : ss.length ≤ 1000) :
    Calls Tryd.prog 92 #[v] w fun e w' => ∃ u, e = .returned u ∧ Strs w' u ss ∧ (∀ k, u.ownBlock = some k → w.heap.size ≤ k ∧ k < w'.heap.size) ∧ Below w.heap.size w w' := by
  obtain ⟨ao, cap, rfl⟩ := hS.len
  have HS := hide hS
  cases ao with
  | none =>
    have hx : ss = [] := by
      cases ss with
      | nil => rfl
      | cons x t =>
        obtain ⟨b, off, he, _⟩ := hS.at 0 (by simp)
        cases he
    subst hx
    have hq := run_eq_nilS none 0 cap w
    clear hS
    simp only [List.length_nil]
    go_enter Tryd.func92, Tryd.ntmps92
    go_wp2
    go_ret
    exact ⟨_, rfl, Strs.nil w, (fun _ h => (by cases h)), Below.refl _ w⟩
  | some a =>
    obtain ⟨i0, hi, hz, hs, hby⟩ := info_parts infoStr
    obtain ⟨W1, hW1⟩ : ∃ W1, w.alloc (.cells #[] 9) = W1 := ⟨_, rfl⟩
    have hb1 : Below w.heap.size w W1 := by rw [← hW1]; exact (Below.refl _ w).alloc (Nat.le_refl _) _
    have ho1 : W1.ownsRow w.heap.size 9 1 (.slice (some ⟨w.heap.size, 0, none⟩) 0 0) 0 [] := by
      rw [← hW1]
      exact ⟨rfl, .inr ⟨w.heap.size, 0, #[], rfl, Nat.le_refl _, heap_alloc_new w _, Nat.le_refl _, by simp [maxLen], by simp, rfl⟩⟩
    have hS1 := hS.below hb1
    have hsrc : ∀ j u, (strRow ss)[j]? = some u → W1.cell? (a.add j) = some u := fun j u hj => by
      have hjl : j < ss.length := by have := (List.getElem?_eq_some_iff.1 hj).1; rwa [strRow_len] at this
      obtain ⟨b, off, he, hx, _⟩ := hS1.at j hjl
      obtain rfl : a = ⟨b, off, none⟩ := by simpa using he
      have hg : ss.getD j [] = ss[j] := by simp [List.getD, hjl]
      rw [strRow_at ss j hjl, hg] at hj
      rw [Addr.add_mid]
      exact hx.trans hj
    obtain ⟨v', w2, hr, h1, h2, _, _⟩ := run_append_own_at (P := Tryd.prog) W1 w.heap.size 23 23 9 i0 _ 1 16 Tryd.underlying23 hi hz hs hby rfl (by decide) _ 0 [] ho1 a ss.length cap (strRow ss) (by rw [strRow_len]; omega) hsrc (by
        intro u hu
        obtain ⟨x, _, rfl⟩ := List.mem_map.1 hu
        rfl) (by unfold maxLen; omega) (by omega) hb1.size
    have hq := run_eq_nilS (some a) ss.length cap w
    have HR := hide hr
    have ho2 : w2.ownsRow w.heap.size 9 1 v' ss.length (strRow ss) := by simpa using h1
    have HO := hide ho2
    have HB : Hid (Below w.heap.size w w2) := hb1.trans (((Only.refl _ W1).grown (S := fun q => q = w.heap.size) h2 (fun q e _ => by have := Option.some.inj e; simp only at this; exact this.symm)).below hb1.size (fun j hj e => by omega))
    clear hr h1 h2 ho1 ho2 hS hS1 hsrc hb1 hi hz hs hby
    go_enter Tryd.func92, Tryd.ntmps92
    go_wp2_with (at_builtin; (with_reducible refine wpList_append_run _ rfl (.tmp 5) (.tmp 6) 23 rfl _ _ ?_ ?_ _ _ HR.out ?_); exact rfl; exact rfl; clear HR)
    go_ret
    exact ⟨_, rfl, strs_of_own HO.out HS.out.1, (fun k hk => World.ownsRow.lt HO.out k hk), HB.out⟩

theorem Tbl.keepO {w w' : World} {v : Value} {xs : List Fd} (h : Tbl w v xs) (hk : ∀ k, v.ownBlock = some k → k < w.heap.size → w'.heap[k]? = w.heap[k]?) : Tbl w' v xs := by
  obtain ⟨h0, ao, cap, rfl, h1, h2, h3⟩ := h
  refine ⟨h0, ao, cap, rfl, h1, h2, fun hx => ?_⟩
  obtain ⟨b, off, rfl, hc⟩ := h3 hx
  refine ⟨b, off, rfl, fun i hi => ?_⟩
  obtain ⟨q0, q1, q2⟩ := hc i hi
  have hbb := hk b rfl (World.block_lt_of_cell? w _ q0)
  exact ⟨(World.cell?_of_block (w := w) (a := ⟨b, _, none⟩) hbb).trans q0, (World.cell?_of_block (w := w) (a := ⟨b, _, none⟩) hbb).trans q1, (World.cell?_of_block (w := w) (a := ⟨b, _, none⟩) hbb).trans q2⟩

/-- how far a way is copied: the box's lists, when what is done -/
def clS (w2 : World) (B : Nat) (fs : List Fd) (ss : List (List Int)) (vf vs K : Value) (D : Nat → Bool) (vals : Nat → Value) (W : World) : Prop :=
  Only (· = B) w2 W ∧ Blk W B 25 [if D 7 = true then vals 2 else vf, if D 9 = true then vals 5 else vs, K] ∧ (D 2 = true → Tbl W (vals 2) fs ∧ ∀ j, (vals 2).ownBlock = some j → B + 1 < j ∧ j < W.heap.size) ∧ (D 5 = true → Strs W (vals 5) ss ∧ ∀ j, (vals 5).ownBlock = some j → B + 1 < j ∧ j < W.heap.size)
section
variable {w2 W : World} {B : Nat} {fs : List Fd} {ss : List (List Int)} {vf vs K : Value} {D : Nat → Bool} {vals : Nat → Value}
theorem clS.ind {D' : Nat → Bool} {vals' : Nat → Value} (h : clS w2 B fs ss vf vs K D vals W) (hv : ∀ j, j ∈ [2, 5, 7, 9] → D j = D' j ∧ vals j = vals' j) : clS w2 B fs ss vf vs K D' vals' W := by
  obtain ⟨e1, e2⟩ := hv 2 (by decide)
  obtain ⟨e3, e4⟩ := hv 5 (by decide)
  obtain ⟨e5, _⟩ := hv 7 (by decide)
  obtain ⟨e6, _⟩ := hv 9 (by decide)
  unfold clS at h ⊢
  rw [e1, e2, e3, e4, e5, e6] at h
  exact h
theorem clS.call2 {W' : World} {u : Value} (h : clS w2 B fs ss vf vs K D vals W) (h2 : D 2 = false) (h7 : D 7 = false) (hu : Tbl W' u fs) (hf : ∀ j, u.ownBlock = some j → W.heap.size ≤ j ∧ j < W'.heap.size) (hb : Below W.heap.size W W') (hz : B + 1 < w2.heap.size) : clS w2 B fs ss vf vs K (fun j => if j = 2 then true else D j) (updV vals 2 u) W' := by
  obtain ⟨q1, q2, q3, q4⟩ := h
  have hlt := q1.size
  rw [h7] at q2
  have ho : Only (fun _ => False) W W' := Only.of_below _ hb
  have e5 : updV vals 2 u 5 = vals 5 := rfl
  have e2 : updV vals 2 u 2 = u := rfl
  refine ⟨q1.trans (ho.mono (fun _ _ h => h.elim)) (fun _ _ h => h), ?_, fun _ => by rw [e2]; exact ⟨hu, fun j hj => by have := hf j hj; omega⟩, fun h5 => by rw [e5]; have := q4 (by simpa using h5); exact ⟨this.1.below hb, fun j hj => ⟨(this.2 j hj).1, Nat.lt_of_lt_of_le (this.2 j hj).2 hb.size⟩⟩⟩
  simp only [show (7 : Nat) ≠ 2 by decide, show (9 : Nat) ≠ 2 by decide, if_false, h7, e5, Bool.false_eq_true]
  exact q2.only ho (fun h => h)
theorem clS.call5 {W' : World} {u : Value} (h : clS w2 B fs ss vf vs K D vals W) (h2 : D 5 = false) (h9 : D 9 = false) (hu : Strs W' u ss) (hf : ∀ j, u.ownBlock = some j → W.heap.size ≤ j ∧ j < W'.heap.size) (hb : Below W.heap.size W W') (hz : B + 1 < w2.heap.size) : clS w2 B fs ss vf vs K (fun j => if j = 5 then true else D j) (updV vals 5 u) W' := by
  obtain ⟨q1, q2, q3, q4⟩ := h
  have hlt := q1.size
  rw [h9] at q2
  have ho : Only (fun _ => False) W W' := Only.of_below _ hb
  have e2 : updV vals 5 u 2 = vals 2 := rfl
  have e5 : updV vals 5 u 5 = u := rfl
  refine ⟨q1.trans (ho.mono (fun _ _ h => h.elim)) (fun _ _ h => h), ?_, fun h5 => by rw [e2]; have := q3 (by simpa using h5); exact ⟨this.1.below hb, fun j hj => ⟨(this.2 j hj).1, Nat.lt_of_lt_of_le (this.2 j hj).2 hb.size⟩⟩, fun _ => by rw [e5]; exact ⟨hu, fun j hj => by have := hf j hj; omega⟩⟩
  simp only [show (7 : Nat) ≠ 5 by decide, show (9 : Nat) ≠ 5 by decide, if_false, h9, e2, Bool.false_eq_true]
  exact q2.only ho (fun h => h)
theorem only_set1 (W : World) (b i : Nat) (u : Value) : Only (· = b) W (W.setCell ⟨b, i, none⟩ u) := (Only.refl (· = b) W).setCell ⟨b, i, none⟩ u (fun _ => rfl)
theorem clS.put7 (h : clS w2 B fs ss vf vs K D vals W) (h2 : D 2 = true) (h7 : D 7 = false) : clS w2 B fs ss vf vs K (fun j => if j = 7 then true else D j) (updV vals 7 undef) (W.setCell ⟨B, 0, none⟩ (vals 2)) := by
  obtain ⟨q1, q2, q3, q4⟩ := h
  have e2 : updV vals 7 undef 2 = vals 2 := rfl
  have e5 : updV vals 7 undef 5 = vals 5 := rfl
  have ho := only_set1 W B 0 (vals 2)
  refine ⟨q1.trans ho (fun _ _ h => h), ?_, fun h => ?_, fun h => ?_⟩
  · have := q2.set 0 (vals 2)
    simp only [if_true, show (9 : Nat) ≠ 7 by decide, if_false, e2, e5]
    simpa using this
  · rw [e2]
    obtain ⟨a, b⟩ := q3 h2
    exact ⟨a.keepO (fun k hk hl => ho.block k hl (by have := b k hk; omega)), fun j hj => ⟨(b j hj).1, Nat.lt_of_lt_of_le (b j hj).2 ho.size⟩⟩
  · rw [e5]
    obtain ⟨a, b⟩ := q4 (by simpa using h)
    exact ⟨a.keep (fun k hk hl => ho.block k hl (by have := b k hk; omega)), fun j hj => ⟨(b j hj).1, Nat.lt_of_lt_of_le (b j hj).2 ho.size⟩⟩
theorem clS.put9 (h : clS w2 B fs ss vf vs K D vals W) (h5 : D 5 = true) (h9 : D 9 = false) : clS w2 B fs ss vf vs K (fun j => if j = 9 then true else D j) (updV vals 9 undef) (W.setCell ⟨B, 1, none⟩ (vals 5)) := by
  obtain ⟨q1, q2, q3, q4⟩ := h
  have e2 : updV vals 9 undef 2 = vals 2 := rfl
  have e5 : updV vals 9 undef 5 = vals 5 := rfl
  have ho := only_set1 W B 1 (vals 5)
  refine ⟨q1.trans ho (fun _ _ h => h), ?_, fun h => ?_, fun h => ?_⟩
  · have := q2.set 1 (vals 5)
    simp only [if_true, show (7 : Nat) ≠ 9 by decide, if_false, e2, e5]
    simpa using this
  · rw [e2]
    obtain ⟨a, b⟩ := q3 (by simpa using h)
    exact ⟨a.keepO (fun k hk hl => ho.block k hl (by have := b k hk; omega)), fun j hj => ⟨(b j hj).1, Nat.lt_of_lt_of_le (b j hj).2 ho.size⟩⟩
  · rw [e5]
    obtain ⟨a, b⟩ := q4 h5
    exact ⟨a.keep (fun k hk hl => ho.block k hl (by have := b k hk; omega)), fun j hj => ⟨(b j hj).1, Nat.lt_of_lt_of_le (b j hj).2 ho.size⟩⟩
end

theorem sizeConf : (Tryd.prog.info? 25).map (·.size) = some 3 := by kernel_rfl

set_option maxHeartbeats 2000000 in
theorem cloneC_any (w : World) (v : Value) (C : Cn) (h : CnfV w v C) (hok : CnOk C) :
    Calls Tryd.prog 72 #[v] w fun e w' => ∃ u, e = .returned u ∧ (∃ x y, u = .agg #[x, y, .int .i64 C.cap] ∧ Tbl w' x C.fs ∧ Strs w' y C.ss ∧ (∀ j, x.ownBlock = some j → w.heap.size ≤ j ∧ j < w'.heap.size) ∧ (∀ j, y.ownBlock = some j → w.heap.size ≤ j ∧ j < w'.heap.size)) ∧ Below w.heap.size w w' := by
  obtain ⟨fo, fc, so, sc, w1, rfl, hw1, hb1, hB, hT, hS⟩ := box_cnf w v C h
  obtain ⟨w2, hw2⟩ : ∃ w2, w1.alloc (.cells #[.slice none 0 0, .slice none 0 0, .int .i64 0] 25) = w2 := ⟨_, rfl⟩
  have hs1 : w1.heap.size = w.heap.size + 1 := by rw [← hw1]; simp
  have hb2 : Below w.heap.size w w2 := by rw [← hw2]; exact hb1.alloc (by omega) _
  have hB2 : Blk w2 w.heap.size 25 [.slice fo C.fs.length fc, .slice so C.ss.length sc, .int .i64 C.cap] := by rw [← hw2]; exact hB.alloc _
  have hR2 : Blk w2 (w.heap.size + 1) 25 [.slice none 0 0, .slice none 0 0, .int .i64 0] := by rw [← hw2, ← hs1]; exact Blk.new w1 _ _
  have HCF : Hid (∀ wx, Only (· = w.heap.size) w2 wx → Calls Tryd.prog 91 #[.slice fo C.fs.length fc] wx fun e w' => ∃ u, e = .returned u ∧ Tbl w' u C.fs ∧ (∀ k, u.ownBlock = some k → wx.heap.size ≤ k ∧ k < w'.heap.size) ∧ Below wx.heap.size wx w') := fun wx ho => cloneF_own wx _ C.fs (hT.below (hb2.trans (ho.below hb2.size (fun j hj e => by omega)))) hok.fs
  have HCS : Hid (∀ wx, Only (· = w.heap.size) w2 wx → Calls Tryd.prog 92 #[.slice so C.ss.length sc] wx fun e w' => ∃ u, e = .returned u ∧ Strs w' u C.ss ∧ (∀ k, u.ownBlock = some k → wx.heap.size ≤ k ∧ k < w'.heap.size) ∧ Below wx.heap.size wx w') := fun wx ho => cloneS_any wx _ C.ss (hS.below (hb2.trans (ho.below hb2.size (fun j hj e => by omega)))) hok.ss
  have HB2 := hide hb2
  have HBX := hide hB2
  have HRX := hide hR2
  obtain ⟨fn, hfn⟩ : ∃ n, C.fs.length = n := ⟨_, rfl⟩
  obtain ⟨sn, hsn⟩ : ∃ n, C.ss.length = n := ⟨_, rfl⟩
  obtain ⟨K, hK⟩ : ∃ n, C.cap = n := ⟨_, rfl⟩
  rw [hfn] at hw1 HCF HBX ⊢
  rw [hsn] at hw1 HCS HBX ⊢
  rw [hK] at hw1 HBX ⊢
  have HKC := hide hK
  clear h hT hS hB hb1 hok hb2 hB2 hR2 hfn hsn hK
  go_enter Tryd.func72, Tryd.ntmps72
  go_wp2

  clear hw1 hw2
  refine wp_region_set [some (.pointer (some ⟨w.heap.size, 0, none⟩)), some (.slice fo fn fc), none, some (.pointer (some ⟨w.heap.size, 1, none⟩)), some (.slice so sn sc), none, some (.pointer (some ⟨w.heap.size, 0, none⟩)), none, some (.pointer (some ⟨w.heap.size, 1, none⟩)), none] [2, 5, 7, 9] (clS w2 w.heap.size C.fs C.ss (.slice fo fn fc) (.slice so sn sc) (.int .i64 K)) 12 (by kernel_rfl) (by kernel_rfl) (by kernel_rfl) (by kernel_rfl) rfl ?_ ?_ ?_ ?_
  · exact fun vals0 => ⟨(Only.refl _ w2).drew, HBX.out.drew, (fun h => by cases h), (fun h => by cases h)⟩
  · exact fun D D' vals vals' W hv hs => clS.ind hs hv
  · refine ⟨?_, ?_, ?_, ?_, ?_, ?_, ?_, ?_, ?_, ?_, trivial⟩
    · intro D vals act wx hu h hs
      have e1 : act.eval (.tmp 1) = .pointer (some ⟨w.heap.size, 0, none⟩) := h.old 1 (by kernel_rfl)
      clear h
      refine gives_by rfl act.eval rfl ?_
      generalize act.eval = ρ at *
      intro hf hc
      go_simp
      exact ⟨rfl, hs⟩
    · intro D vals act wx hu h hs
      have e3 : act.eval (.tmp 3) = .pointer (some ⟨w.heap.size, 0, none⟩) := h.q 0 3 (by kernel_rfl) rfl
      clear h
      have hbx := hs.2.1
      rw [show D 7 = false from (hu.not 7 (by decide) (by kernel_rfl))] at hbx
      have cx : wx.cell? ⟨w.heap.size, 0, none⟩ = some _ := hbx.cell 0
      simp only [Bool.false_eq_true, if_false, List.getElem?_cons_zero, List.getElem?_cons_succ] at cx
      clear hbx
      refine gives_by rfl act.eval rfl ?_
      generalize act.eval = ρ at *
      intro hf hc
      go_simp
      exact ⟨rfl, hs⟩
    · intro D vals act wx hu h hs
      have e4 : act.eval (.tmp 4) = .slice fo fn fc := h.q 1 4 (by kernel_rfl) rfl
      clear h
      refine gives_by rfl act.eval rfl ?_
      generalize act.eval = ρ at *
      intro hf hc
      go_simp
      refine (HCF.out wx hs.1).mono ?_
      rintro e wy ⟨u, rfl, hu1, huf, hb⟩
      exact ⟨u, rfl, clS.call2 hs hu.self (hu.not 7 (by decide) (by kernel_rfl)) hu1 huf hb HRX.out.lt⟩
    · intro D vals act wx hu h hs
      have e1 : act.eval (.tmp 1) = .pointer (some ⟨w.heap.size, 0, none⟩) := h.old 1 (by kernel_rfl)
      clear h
      refine gives_by rfl act.eval rfl ?_
      generalize act.eval = ρ at *
      intro hf hc
      go_simp
      exact ⟨rfl, hs⟩
    · intro D vals act wx hu h hs
      have e6 : act.eval (.tmp 6) = .pointer (some ⟨w.heap.size, 1, none⟩) := h.q 3 6 (by kernel_rfl) rfl
      clear h
      have hbx := hs.2.1
      rw [show D 9 = false from (hu.not 9 (by decide) (by kernel_rfl))] at hbx
      have cx : wx.cell? ⟨w.heap.size, 1, none⟩ = some _ := hbx.cell 1
      simp only [Bool.false_eq_true, if_false, List.getElem?_cons_zero, List.getElem?_cons_succ] at cx
      clear hbx
      refine gives_by rfl act.eval rfl ?_
      generalize act.eval = ρ at *
      intro hf hc
      go_simp
      exact ⟨rfl, hs⟩
    · intro D vals act wx hu h hs
      have e7 : act.eval (.tmp 7) = .slice so sn sc := h.q 4 7 (by kernel_rfl) rfl
      clear h
      refine gives_by rfl act.eval rfl ?_
      generalize act.eval = ρ at *
      intro hf hc
      go_simp
      refine (HCS.out wx hs.1).mono ?_
      rintro e wy ⟨u, rfl, hu1, huf, hb⟩
      exact ⟨u, rfl, clS.call5 hs hu.self (hu.not 9 (by decide) (by kernel_rfl)) hu1 huf hb HRX.out.lt⟩
    · intro D vals act wx hu h hs
      have e1 : act.eval (.tmp 1) = .pointer (some ⟨w.heap.size, 0, none⟩) := h.old 1 (by kernel_rfl)
      clear h
      refine gives_by rfl act.eval rfl ?_
      generalize act.eval = ρ at *
      intro hf hc
      go_simp
      exact ⟨rfl, hs⟩
    · intro D vals act wx hu h hs
      have e9 : act.eval (.tmp 9) = .pointer (some ⟨w.heap.size, 0, none⟩) := h.q 6 9 (by kernel_rfl) rfl
      have e5 : act.eval (.tmp 5) = vals 2 := h.val 2 5 (by kernel_rfl)
      clear h
      have hbx := hs.2.1
      have c0 : ∃ x, wx.cell? ⟨w.heap.size, 0, none⟩ = some x := ⟨_, hbx.cell 0⟩
      obtain ⟨x0, c0⟩ := c0
      have f0 := hbx.frozen 0
      have hres := clS.put7 hs (hu.done 2 (by kernel_rfl)) hu.self
      obtain ⟨a9, c9, h9⟩ := (hs.2.2.1 (hu.done 2 (by kernel_rfl))).1.len
      rw [show wx.setCell ⟨w.heap.size, 0, none⟩ (vals 2) = wx.setCell ⟨w.heap.size, 0, none⟩ (.slice a9 C.fs.length c9) by rw [h9]] at hres
      rw [h9] at e5
      refine gives_of_skip rfl (w' := wx.setCell ⟨w.heap.size, 0, none⟩ (.slice a9 C.fs.length c9)) ?_ hres
      clear hres hbx h9 hs
      generalize act.eval = ρ at *
      go_simp
    · intro D vals act wx hu h hs
      have e1 : act.eval (.tmp 1) = .pointer (some ⟨w.heap.size, 0, none⟩) := h.old 1 (by kernel_rfl)
      clear h
      refine gives_by rfl act.eval rfl ?_
      generalize act.eval = ρ at *
      intro hf hc
      go_simp
      exact ⟨rfl, hs⟩
    · intro D vals act wx hu h hs
      have e10 : act.eval (.tmp 10) = .pointer (some ⟨w.heap.size, 1, none⟩) := h.q 8 10 (by kernel_rfl) rfl
      have e8 : act.eval (.tmp 8) = vals 5 := h.val 5 8 (by kernel_rfl)
      clear h
      have hbx := hs.2.1
      have c0 : ∃ x, wx.cell? ⟨w.heap.size, 1, none⟩ = some x := ⟨_, hbx.cell 1⟩
      obtain ⟨x0, c0⟩ := c0
      have f0 := hbx.frozen 1
      have hres := clS.put9 hs (hu.done 5 (by kernel_rfl)) hu.self
      obtain ⟨a9, c9, h9⟩ := (hs.2.2.2 (hu.done 5 (by kernel_rfl))).1.len
      rw [show wx.setCell ⟨w.heap.size, 1, none⟩ (vals 5) = wx.setCell ⟨w.heap.size, 1, none⟩ (.slice a9 C.ss.length c9) by rw [h9]] at hres
      rw [h9] at e8
      refine gives_of_skip rfl (w' := wx.setCell ⟨w.heap.size, 1, none⟩ (.slice a9 C.ss.length c9)) ?_ hres
      clear hres hbx h9 hs
      generalize act.eval = ρ at *
      go_simp
  · intro D vals w3 hq hD hs
    obtain ⟨q1, q2, q3, q4⟩ := hs
    rw [if_pos (hD 7 (by decide)), if_pos (hD 9 (by decide))] at q2
    obtain ⟨t1, u1⟩ := q3 (hD 2 (by decide))
    obtain ⟨t2, u2⟩ := q4 (hD 5 (by decide))
    have hq4 : vals 1 = _ := hq 1 _ rfl
    have HRX3 := hide (HRX.out.only q1 (by omega))
    have HCV : Hid (∀ w4, Only (· = w.heap.size + 1) w3 w4 → (Tbl w4 (vals 2) C.fs ∧ Strs w4 (vals 5) C.ss ∧ (∀ j, (vals 2).ownBlock = some j → w.heap.size ≤ j ∧ j < w4.heap.size) ∧ (∀ j, (vals 5).ownBlock = some j → w.heap.size ≤ j ∧ j < w4.heap.size))) := fun w4 ho => by
      refine ⟨t1.keepO (fun k hk hl => ho.block k hl ?_), t2.keep (fun k hk hl => ho.block k hl ?_), fun j hj => ?_, fun j hj => ?_⟩
      · have := u1 k hk; omega
      · have := u2 k hk; omega
      · have := u1 j hj; have := ho.size; omega
      · have := u2 j hj; have := ho.size; omega
    have HB3 : Hid (Below w.heap.size w w3) := HB2.out.trans (q1.below HB2.out.size (fun j hj e => by omega))
    have hRX3 := HRX.out.only q1 (by omega)
    have k0 : w3.cell? ⟨w.heap.size, 0, none⟩ = some (vals 2) := q2.cell 0
    have k1 : w3.cell? ⟨w.heap.size, 1, none⟩ = some (vals 5) := q2.cell 1
    have k2 : w3.cell? ⟨w.heap.size, 2, none⟩ = some (.int .i64 K) := q2.cell 2
    have m0 : w3.cell? ⟨w.heap.size + 1, 0, none⟩ = some (.slice none 0 0) := hRX3.cell 0
    have m1 : w3.cell? ⟨w.heap.size + 1, 1, none⟩ = some (.slice none 0 0) := hRX3.cell 1
    have m2 : w3.cell? ⟨w.heap.size + 1, 2, none⟩ = some (.int .i64 0) := hRX3.cell 2
    have f0 := hRX3.frozen 0
    have f1 := hRX3.frozen 1
    have f2 := hRX3.frozen 2
    obtain ⟨a8, c8, h8⟩ := t1.len
    obtain ⟨a9, c9, h9⟩ := t2.len
    rw [h8] at k0 HCV
    rw [h9] at k1 HCV
    clear t1 t2 u1 u2 q1 q2 q3 q4 hq hq4 hD hRX3
    generalize C.fs.length = n8 at *
    generalize C.ss.length = n9 at *
    simp only [putAll, Act.put, List.setIfInBounds_toArray, List.set_cons_zero, List.set_cons_succ, Nat.zero_add, Nat.reduceAdd]
    go_wp2
    have hr1 := ((HRX3.out.set 0 (.slice a8 n8 c8)).set 1 (.slice a9 n9 c9)).set 2 (.int .i64 K)
    have hoR : Only (· = w.heap.size + 1) w3 (((w3.setCell ⟨w.heap.size + 1, 0, none⟩ (.slice a8 n8 c8)).setCell ⟨w.heap.size + 1, 1, none⟩ (.slice a9 n9 c9)).setCell ⟨w.heap.size + 1, 2, none⟩ (.int .i64 K)) := (((Only.refl (· = w.heap.size + 1) w3).setCell _ _ (fun _ => rfl)).setCell _ _ (fun _ => rfl)).setCell _ _ (fun _ => rfl)
    refine bodyPost_ret (results_cell_row rfl _ _ (w.heap.size + 1) 25 #[.slice a8 n8 c8, .slice a9 n9 c9, .int .i64 K] (0, 0) _ rfl hr1 Tryd.underlying25 rfl sizeConf) rfl ?_
    obtain ⟨z1, z2, z3, z4⟩ := HCV.out _ hoR
    exact ⟨_, rfl, ⟨_, _, rfl, z1, z2, z3, z4⟩, HB3.out.trans (hoR.below HB3.out.size (fun j hj e => by omega))⟩

end Go.Proofs.YtimmfnjkknbofaaDoor
