/- Contract: runes that are told, at most so many (incipitlaw13.marks), over whatever iterator. -/
import Derived.Test.YtgeclnnhblffkaaDoorFCount
import Derived.Maps.AppendAt
import Derived.Lib.AppendZeros
namespace Go.Proofs.YtgeclnnhblffkaaDoor
set_option maxRecDepth 20000
open Go.RowKit Go.Shelf
set_option linter.unusedVariables false
set_option maxRecDepth 100000
attribute [local go_sem] Oper.semAt_some

theorem wpListIn_append_run {F : Fence} {n : Nat} {P : Program} (w : World) {ops : Array Oper} {rest : List Oper} {o : Oper} {a : Act} {Q : Exit → Act → World → Prop} (hg : o.guard = none) (s x : Operand) (t : TypeId)
    (hop : o.op = .call { callee := .builtin .append, args := #[s, x], argTypes := #[t, t] }) (v y : Value) (hs : a.eval s = v) (hx : a.eval x = y) (v' : Value) (w' : World)
    (hr : (Builtin.append_ #[t, t] o.type #[v, y]).run P w = .ok v' w') (h : wpListIn F n P ops Q rest (a.put o.dst v') w') : wpListIn F n P ops Q (o :: rest) a w := by
  refine wpListIn_plain hg fun K hK' => ?_
  unfold Oper.wpIn
  refine ⟨?_, ?_⟩
  · simp [Oper.about, hop, resolve, Target.leads, Sem.run_pure]
  · rw [Oper.semAt_plain F _ _ (by rw [hop]; intro c hc'; cases hc')]
    simp [execOp, hop, resolve, invoke, builtin, hs, hx, hr, Result.andThen]
    exact hK' _ _ h
def mark2 (x : Nat × Nat) : List Value := [.int .i64 (x.1 : Int), .int .i32 (x.2 : Int)]
def markRow (xs : List (Nat × Nat)) : List Value := (xs.map mark2).flatten
theorem markRow_snoc (xs : List (Nat × Nat)) (x : Nat × Nat) : markRow (xs ++ [x]) = markRow xs ++ mark2 x := by simp [markRow]
theorem infoMark : (Tryd.prog.info? 110).map (fun i => (i.zero, i.size, i.bytes)) = some (some (.agg #[.int .i64 0, .int .i32 0]), 2, 16) := by kernel_rfl
/-- a []one that is owned -/
def Marks (w : World) (base : Nat) (v : Value) (xs : List (Nat × Nat)) : Prop := w.ownsRow base 110 2 v xs.length (markRow xs)
theorem Marks.only {S : Nat → Prop} {w w' : World} {base : Nat} {v : Value} {xs : List (Nat × Nat)} (h : Marks w base v xs) (ho : Only S w w') (hn : ∀ k, v.ownBlock = some k → ¬ S k) : Marks w' base v xs := ownsRow_only h ho hn
theorem Marks.shape {w : World} {base : Nat} {v : Value} {xs : List (Nat × Nat)} (h : Marks w base v xs) : ∃ ao cap, v = .slice ao xs.length cap := own_form' h
theorem Marks.lt {w : World} {base : Nat} {v : Value} {xs : List (Nat × Nat)} (h : Marks w base v xs) (k : Nat) (hk : v.ownBlock = some k) : base ≤ k ∧ k < w.heap.size := World.ownsRow.lt h k hk

theorem run_append_mark (w : World) (base : Nat) (v : Value) (xs : List (Nat × Nat)) (h : Marks w base v xs) (x : Nat × Nat) (hl : xs.length + 1 ≤ 1000000) (hb : base ≤ w.heap.size) :
    ∃ v' w', (Builtin.append_ #[107, 107] 107 #[v, .slice (some ⟨w.heap.size, 0, none⟩) 1 1]).run Tryd.prog (w.alloc (.cells #[.int .i64 (x.1 : Int), .int .i32 (x.2 : Int)] 110)) = .ok v' w' ∧ Marks w' base v' (xs ++ [x]) ∧ (w.alloc (.cells #[.int .i64 (x.1 : Int), .int .i32 (x.2 : Int)] 110)).grownBy w' v.ownBlock ∧ (v'.ownBlock = v.ownBlock ∨ v'.ownBlock = some (w.heap.size + 1)) ∧ ∃ ao cap, v' = .slice ao (xs.length + 1) cap := by
  obtain ⟨i0, hi, hz, hs, hby⟩ := info_parts infoMark
  obtain ⟨v', w', hr, h1, h2, _, h4⟩ := run_append_own_at (P := Tryd.prog) (w.alloc (.cells #[.int .i64 (x.1 : Int), .int .i32 (x.2 : Int)] 110)) base 107 107 110 i0 _ 2 16 Tryd.underlying107 hi hz hs hby rfl (by decide) v xs.length (markRow xs) (World.ownsRow.alloc h _) ⟨w.heap.size, 0, none⟩ 1 1 (mark2 x) rfl
    (fun j u hj => by
      have hB := Blk.new w 110 (mark2 x)
      rw [Addr.add_mid, Nat.zero_add]
      exact (hB.cell j).trans hj) (by intro u hu; simp [mark2] at hu; rcases hu with rfl | rfl <;> rfl) (by unfold maxLen; omega) (by omega) (by simp; omega)
  refine ⟨v', w', hr, ?_, h2, ?_, ?_⟩
  · unfold Marks
    rw [markRow_snoc]
    simpa using h1
  · simpa using h4
  · exact own_form' h1

theorem eqlF (gf : Nat) (lb : Array Value) (w : World) : (binOp .eql 134 (.func (.func gf) #[] lb) .nilFunc).run Tryd.prog w = .ok (.bool false) w := by kernel_rfl

structure MkI (w : World) (most : Int) (xs : List (Nat × Nat)) (Y : Nat → Prop) (k : Nat) (W : World) : Prop where
  b1 : Blk W w.heap.size 3 [.int .i64 most]
  box : ∃ v, Blk W (w.heap.size + 1) 107 [v] ∧ Marks W w.heap.size v (xs.take k) ∧ ∀ j, v.ownBlock = some j → w.heap.size + 4 ≤ j ∧ ¬ Y j
  below : Below w.heap.size w W
  size : w.heap.size + 4 ≤ W.heap.size
  ys : ∀ j, Y j → w.heap.size + 4 ≤ j ∧ j < W.heap.size

theorem MkI.keep {w : World} {most : Int} {xs : List (Nat × Nat)} {Y : Nat → Prop} {k : Nat} {W W' : World} (h : MkI w most xs Y k W) (ho : Only (fun j => j = w.heap.size + 2 ∨ j = w.heap.size + 2 + 1) W W') : MkI w most xs Y k W' := by
  obtain ⟨v, h1, h2, h3⟩ := h.box
  exact ⟨h.b1.only ho (by omega), ⟨v, h1.only ho (by omega), h2.only ho (fun j hj e => by have := (h3 j hj).1; omega), h3⟩, h.below.trans (ho.below h.below.size (fun j hj e => by omega)), Nat.le_trans h.size ho.size, fun j hj => ⟨(h.ys j hj).1, Nat.lt_of_lt_of_le (h.ys j hj).2 ho.size⟩⟩
theorem MkI.grow {w : World} {most : Int} {xs : List (Nat × Nat)} {Y : Nat → Prop} {k : Nat} {W W' : World} (h : MkI w most xs Y k W) (ho : Only Y W W') : MkI w most xs (more Y W W') k W' := by
  obtain ⟨v, h1, h2, h3⟩ := h.box
  have hs := h.size
  have hy := h.ys
  refine ⟨h.b1.only ho (fun e => by have := (hy _ e).1; omega), ⟨v, h1.only ho (fun e => by have := (hy _ e).1; omega), h2.only ho (fun j hj e => (h3 j hj).2 e), fun j hj => ⟨(h3 j hj).1, fun hy => hy.elim (h3 j hj).2 (fun hy => by have := (h2.lt j hj).2; omega)⟩⟩, h.below.trans (ho.below h.below.size (fun j hj e => by have := (hy _ e).1; omega)), Nat.le_trans h.size ho.size, fun j hj => ?_⟩
  rcases hj with hj | hj
  · exact ⟨(h.ys j hj).1, Nat.lt_of_lt_of_le (h.ys j hj).2 ho.size⟩
  · exact ⟨by omega, hj.2⟩
theorem take_snoc {α : Type} (xs : List α) (k : Nat) (hk : k < xs.length) : xs.take (k + 1) = xs.take k ++ [xs[k]] := by rw [List.take_succ_eq_append_getElem hk]


end Go.Proofs.YtgeclnnhblffkaaDoor
/- Contracts: slices.Grow of nothing, slices.Concat, at bytes. -/
namespace Go.Proofs.YtgeclnnhblffkaaDoor
set_option maxRecDepth 20000
open Go.RowKit
set_option linter.unusedVariables false
set_option linter.unusedSimpArgs false
set_option maxRecDepth 100000

abbrev nilS : Value := .slice none 0 0
def lenV : Value → Nat | .slice _ n _ => n | _ => 0
/-- a slice that is read, cell by cell (m cells an element) -/
def RowR (w : World) (m : Nat) (v : Value) (cs : List Value) : Prop := ∃ a n c, v = .slice a n c ∧ cs.length = n * m ∧ n ≤ 2000 ∧ (a = none → n = 0) ∧ (∀ b, a = some b → ∀ j u, cs[j]? = some u → w.cell? (b.add j) = some u) ∧ ∀ u ∈ cs, u.oneCell' = true
theorem RowR.below {w w' : World} {m : Nat} {v : Value} {cs : List Value} (h : RowR w m v cs) (hb : Below w.heap.size w w') : RowR w' m v cs := by
  obtain ⟨a, n, c, rfl, h1, h2, h3, h4, h5⟩ := h
  refine ⟨a, n, c, rfl, h1, h2, h3, fun b hb' j u hj => ?_, h5⟩
  have := h4 b hb' j u hj
  rw [World.cell?_of_block (w := w) (hb.block _ (World.block_lt_of_cell? w _ this))]
  exact this
theorem RowR.of_nil (w : World) (m : Nat) : RowR w m nilS [] := ⟨none, 0, 0, rfl, by simp, by omega, fun _ => rfl, fun _ h => (by cases h), fun _ h => (by cases h)⟩
theorem RowR.of_sl {w : World} {v : Value} {zs : List Int} (h : Sl w v zs) (hl : zs.length ≤ 2000) : RowR w 1 v (zs.map (Value.int .u8)) := by
  obtain ⟨hb, a, c, rfl, h1, h2, h3, h4⟩ := h
  refine ⟨a, zs.length, c, rfl, by simp, hl, fun ha => ?_, fun b hb j u hj => ?_, fun u hu => ?_⟩
  · by_cases h0 : zs = []
    · simp [h0]
    · obtain ⟨_, _, he, _⟩ := h4 h0; rw [ha] at he; cases he
  · have hj2 : j < zs.length := by have := (List.getElem?_eq_some_iff.1 hj).1; simpa using this
    obtain ⟨b', off, he, hx⟩ := h4 (by intro e; rw [e] at hj2; simp at hj2)
    rw [hb] at he
    obtain rfl : b = ⟨b', off, none⟩ := by simpa using he
    rw [Addr.add_mid, hx j hj2, ← hj]
    simp [List.getD, hj2]
  · simp at hu; obtain ⟨z, _, rfl⟩ := hu; rfl

theorem append_row {t e : TypeId} {i0 : TypeInfo} {z : Value} {size bytes : Nat} (ht : Tryd.prog.underlying t = some (.slice e)) (hi : Tryd.prog.info? e = some i0) (hz : i0.zero = some z) (hs : i0.size = size) (hby : i0.bytes = bytes) (hzs : z.cells.size = size) (hpos : 0 < size) (hb64 : bytes ≤ 64)
    (w : World) (base : Nat) (v : Value) (n : Nat) (xs : List Value) (hown : w.ownsRow base e size v n xs) (x : Value) (cs : List Value) (hr : RowR w size x cs) (hn : n ≤ 10000) (hbase : base ≤ w.heap.size) :
    ∃ v' w' k, (Builtin.append_ #[t, t] t #[v, x]).run Tryd.prog w = .ok v' w' ∧ cs.length = k * size ∧ k ≤ 2000 ∧ lenV x = k ∧ w'.ownsRow base e size v' (n + k) (xs ++ cs) ∧ w.grownBy w' v.ownBlock := by
  obtain ⟨a, k, c, rfl, h1, h2, h3, h4, h5⟩ := hr
  cases a with
  | none =>
    obtain rfl : k = 0 := h3 rfl
    obtain rfl : cs = [] := List.eq_nil_of_length_eq_zero (by rw [h1]; simp)
    obtain ⟨a0, c0, rfl⟩ := own_form' hown
    have hle := (own_len hown).1
    refine ⟨.slice a0 n c0, w, 0, ?_, by simp, by omega, rfl, by simpa using hown, grownBy_refl _ _⟩
    cases a0 <;> simp [Builtin.append_, run_underlying ht, sizeOf, typeInfo, hi, Builtin.lenOf, Builtin.firstCells, hle, storeCells]
  | some ad =>
    have hm : (n + k) * bytes ≤ 140737488355328 := by
      have : (n + k) * bytes ≤ 12000 * 64 := Nat.mul_le_mul (by omega) hb64
      omega
    obtain ⟨v', w', hr, q1, q2, _, _⟩ := run_append_own_at (P := Tryd.prog) w base t t e i0 z size bytes ht hi hz hs hby hzs hpos v n xs hown ad k c cs h1 (fun j u hj => h4 ad rfl j u hj) h5 (by unfold maxLen; omega) hm hbase
    exact ⟨v', w', k, hr, h1, h2, rfl, q1, q2⟩
def lensV (vs : List Value) : Nat := (vs.map lenV).sum
theorem lensV_succ (vs : List Value) (i : Nat) (h : i < vs.length) : lensV (vs.take (i + 1)) = lensV (vs.take i) + lenV (vs.getD i nilS) := by
  unfold lensV
  rw [List.take_succ_eq_append_getElem h, List.map_append, List.sum_append]
  simp [List.getD, h]
theorem flat_succ (rows : List (List Value)) (i : Nat) (h : i < rows.length) : (rows.take (i + 1)).flatten = (rows.take i).flatten ++ rows.getD i [] := by
  rw [List.take_succ_eq_append_getElem h, List.flatten_append]
  simp [List.getD, h]

theorem sizeU8E : (Tryd.prog.info? 5).map (·.size) = some 1 := by kernel_rfl
/-! ### at bytes -/
theorem growB_any (w : World) (n : Nat) (hn : n ≤ 10000) :
    Calls Tryd.prog 63 #[.slice none 0 0, .int .i64 n] w fun e w' => ∃ a c, e = .returned (.slice a 0 c) ∧ w'.ownsRow w.heap.size 5 1 (.slice a 0 c) 0 [] ∧ Below w.heap.size w w' := by
  by_cases h0 : n = 0
  · subst h0
    go_enter Tryd.func63, Tryd.ntmps63
    go_wp2
    go_ret
    exact ⟨none, 0, rfl, World.ownsRow_nil _ _ _ _, Below.refl _ _⟩
  · obtain ⟨i0, hi, hz0, hz1, hz2⟩ := info_parts infoU8
    have hr := Lib.run_append_nil_zeros (P := Tryd.prog) w 26 3 26 5 i0 _ .i64 .i64 Tryd.underlying26 Tryd.underlying3 hi hz0 n (by omega) (by rw [hz1]; omega) (by omega) (by rw [hz2]; omega)
    obtain ⟨C, hC⟩ : ∃ C, C = grownCap w n 0 5 := ⟨_, rfl⟩
    have hge := grownCap_ge w n 0 5
    have hcm := grownCap_le_maxLen w n 0 5 (by unfold maxLen; omega)
    rw [← hC] at hr hge hcm
    obtain ⟨W, hW⟩ : ∃ W, W = w.drew.alloc (.cells (Builtin.zeroCells (Value.int .u8 0).cells n ++ Builtin.zeroCells (Value.int .u8 0).cells (C - n)) 5) := ⟨_, rfl⟩
    have hr' : (Builtin.append_ #[26, 3] 26 #[.slice none 0 0, .int .i64 n]).run Tryd.prog w = .ok (.slice (some ⟨w.heap.size, 0, none⟩) n C) W := by rw [hW]; exact hr
    have HR := hide hr'
    have HO : Hid (W.ownsRow w.heap.size 5 1 (.slice (some ⟨w.heap.size, 0, none⟩) 0 C) 0 []) := by
      rw [hW]
      refine ⟨rfl, .inr ⟨w.heap.size, C, _, rfl, Nat.le_refl _, heap_alloc_new w.drew _, Nat.zero_le _, hcm, ?_, by simp⟩⟩
      simp only [Array.size_append, size_zeroCells, show ((Value.int .u8 0).cells).size = 1 from rfl]
      omega
    have HB : Hid (Below w.heap.size w W) := by rw [hW]; exact ((Below.refl _ w).drew).alloc (Nat.le_refl _) _
    have hc0 := fun wx => cut_head (P := Tryd.prog) 26 5 1 Tryd.underlying26 sizeU8E (some ⟨w.heap.size, 0, none⟩) n C 0 (Nat.zero_le _) wx
    have hpos : (0 : Int) < (n : Int) := by omega
    have hC0 : C ≠ 0 := by omega
    clear hr hr' hC hW h0 hi hz0 hz1 hz2
    go_enter Tryd.func63, Tryd.ntmps63
    go_wp2_with (at_builtin; (with_reducible refine Lib.wpList_append_run _ rfl (.tmp 20) (.tmp 21) 26 3 rfl _ _ ?_ ?_ _ _ HR.out ?_); exact rfl; exact rfl; clear HR)
    go_ret
    exact ⟨_, _, rfl, HO.out, HB.out⟩

set_option maxHeartbeats 1000000 in
theorem concatB_any (w : World) (g : Nat) (vs : List Value) (rows : List (List Value)) (hl : vs.length = rows.length) (hk : vs.length ≤ 5) (hB : Blk w g 26 vs) (hr : ∀ i, i < vs.length → RowR w 1 (vs.getD i nilS) (rows.getD i [])) :
    Calls Tryd.prog 34 #[.slice (some ⟨g, 0, none⟩) vs.length vs.length] w fun e w' => ∃ a N c, e = .returned (.slice a N c) ∧ w'.ownsRow w.heap.size 5 1 (.slice a N c) N rows.flatten ∧ Below w.heap.size w w' := by
  obtain ⟨i0, hi, hz0, hz1, hz2⟩ := info_parts infoU8
  have HLE : Hid (∀ i, i ≤ vs.length → lensV (vs.take i) ≤ 2000 * i) := by
    intro i
    induction i with
    | zero => intro _; simp [lensV]
    | succ i ih =>
      intro h
      obtain ⟨a, n, c, e, _, h2, _⟩ := hr i (by omega)
      rw [lensV_succ vs i (by omega), e]
      have := ih (by omega)
      simp only [lenV]
      omega
  have HGR : Hid (∀ wx n, n ≤ 10000 → Calls Tryd.prog 63 #[.slice none 0 0, .int .i64 (n : Nat)] wx fun e w' => ∃ a c, e = .returned (.slice a 0 c) ∧ w'.ownsRow wx.heap.size 5 1 (.slice a 0 c) 0 [] ∧ Below wx.heap.size wx w') := fun wx n h => growB_any wx n h
  have HBK := hide hB
  have HRW := hide hr
  have HLL := hide hl
  obtain ⟨K, hK⟩ : ∃ K, K = vs.length := ⟨_, rfl⟩
  rw [← hK] at hk HLE HRW HLL ⊢
  have HK := hide hK
  have hgl := hB.lt
  clear hB hr hl hK
  go_enter Tryd.func34, Tryd.ntmps34
  go_wp2
  go_loopg [3, 11] K (fun gg s i wr => ∃ j : Nat, gg + j = K ∧ s = .int .i64 (lensV (vs.take j) : Nat) ∧ i = .int .i64 (j : Int) ∧ w = wr)
  case atStart => exact ⟨0, by omega, rfl, rfl, rfl⟩
  case round =>
    obtain ⟨j, hj, rfl, rfl, rfl⟩ := hrel
    cases gk with
    | zero =>
      obtain rfl : j = K := by omega
      have hle := HLE.out j (by omega)
      generalize lensV (vs.take j) = S at *
      go_wp2_with (go_at_call 63; refine (HGR.out w S (by omega)).mono ?_; rintro e w2 ⟨a2, c2, rfl, ho2, hb2⟩; have HO2 := hide ho2; have HB2 := hide hb2; clear HGR ho2 hb2)
      go_loopg [6, 27] j (fun gg v i wr => ∃ (q N : Nat) (a : Option Addr) (c : Nat), gg + q = j ∧ v = .slice a N c ∧ i = .int .i64 (q : Int) ∧ wr.ownsRow w.heap.size 5 1 (.slice a N c) N (rows.take q).flatten ∧ N ≤ 2000 * q ∧ Below w.heap.size w wr)
      case atStart => exact ⟨0, 0, a2, c2, by omega, rfl, rfl, by simpa using HO2.out, by omega, HB2.out⟩
      case round =>
        obtain ⟨q, N, a, c, hq, rfl, rfl, hown, hN, hbw⟩ := hrel
        obtain ⟨W, rfl⟩ : ∃ x, x = wr := ⟨_, rfl⟩
        have HOW := hide hown
        have HBW := hide hbw
        clear HO2 HB2
        cases gk with
        | zero =>
          obtain rfl : q = j := by omega
          clear hown hbw
          go_wp2
          go_ret
          have := HOW.out
          rw [List.take_of_length_le (by have := HLL.out; omega)] at this
          exact ⟨a, N, c, rfl, this, HBW.out⟩
        | succ gg =>
          have hqk : q < j := by omega
          have hqi : (q : Int) < (j : Int) := by omega
          have c1 : W.cell? ⟨g, q, none⟩ = some (vs.getD q nilS) := by
            rw [(HBK.out.below hbw hgl).cell q]
            simp [List.getD, show q < vs.length by have := HK.out; omega]
          obtain ⟨v', w', k, hrun, h1, h2, h3, h4, h5⟩ := append_row Tryd.underlying26 hi hz0 hz1 hz2 rfl (by decide) (by decide) W w.heap.size _ _ _ hown _ _ ((HRW.out q hqk).below hbw) (by omega) hbw.size
          have hbe : Below w.heap.size w w' := hbw.grown h5 hbw.size (fun kk hkk => by
            rcases hown.2 with ⟨hh, _⟩ | ⟨g', cap', cur, hh, hb', _⟩
            · rw [hh] at hkk; cases hkk
            · rw [hh] at hkk; cases hkk; exact hb')
          obtain ⟨a', c', hv'⟩ := own_form' h4
          have hfs : (rows.take (q + 1)).flatten = (rows.take q).flatten ++ rows.getD q [] := flat_succ rows q (by have := HLL.out; omega)
          obtain ⟨xa, xn, xc, hx, _⟩ := HRW.out q hqk
          rw [hx] at c1 hrun
          have HR := hide hrun
          have HO3 := hide h4
          have HB3 := hide hbe
          have HFS := hide hfs
          subst hv'
          clear hrun h1 h3 h4 h5 hbe hfs hown hbw
          go_wp2_with (at_builtin; (with_reducible refine wpList_append_run _ rfl (.tmp 31) (.tmp 32) 26 rfl _ _ ?_ ?_ _ _ HR.out ?_); exact rfl; exact rfl; clear HR)
          go_roundg gg
          case measure => omega
          case rel => exact ⟨q + 1, N + k, a', c', by omega, rfl, by go_num, by rw [HFS.out]; exact HO3.out, by omega, HB3.out⟩
    | succ gg =>
      have hjk : j < K := by omega
      have hji : (j : Int) < (K : Int) := by omega
      have c1 : w.cell? ⟨g, j, none⟩ = some (vs.getD j nilS) := by
        rw [HBK.out.cell j]
        simp [List.getD, show j < vs.length by have := HK.out; omega]
      obtain ⟨xa, xn, xc, hx, _, hx2, _⟩ := HRW.out j hjk
      have hs := lensV_succ vs j (by have := HK.out; omega)
      rw [hx] at c1 hs
      have hle := HLE.out j (by omega)
      have HS2 : Hid (lensV (vs.take (j + 1)) = lensV (vs.take j) + xn) := hs
      generalize lensV (vs.take j) = S at *
      have hnn : ¬ ((S : Int) + (xn : Int) < 0) := by omega
      clear hs hx
      go_wp2
      go_roundg gg
      case measure => omega
      case rel => exact ⟨j + 1, by omega, by rw [HS2.out]; go_num, by go_num, rfl⟩

end Go.Proofs.YtgeclnnhblffkaaDoor
