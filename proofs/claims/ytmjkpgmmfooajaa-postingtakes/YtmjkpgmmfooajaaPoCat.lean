/- Contracts: slices.Grow of nothing, slices.Concat, at bytes (of up to 700000 each). -/
import Derived.Test.YtmjkpgmmfooajaaPoMem
import Derived.Maps.AppendAt
import Derived.Lib.AppendZeros
namespace Go.Proofs.Ytmjkpgmmfooajaa
set_option maxRecDepth 20000
open Go.RowKit
set_option linter.unusedVariables false
set_option linter.unusedSimpArgs false
set_option maxRecDepth 100000

def lenV : Value → Nat | .slice _ n _ => n | _ => 0
/-- a slice that is read, cell by cell (m cells an element) -/
def RowR (w : World) (m : Nat) (v : Value) (cs : List Value) : Prop := ∃ a n c, v = .slice a n c ∧ cs.length = n * m ∧ n ≤ 700000 ∧ (a = none → n = 0) ∧ (∀ b, a = some b → ∀ j u, cs[j]? = some u → w.cell? (b.add j) = some u) ∧ ∀ u ∈ cs, u.oneCell' = true
theorem RowR.below {w w' : World} {m : Nat} {v : Value} {cs : List Value} (h : RowR w m v cs) (hb : Below w.heap.size w w') : RowR w' m v cs := by
  obtain ⟨a, n, c, rfl, h1, h2, h3, h4, h5⟩ := h
  refine ⟨a, n, c, rfl, h1, h2, h3, fun b hb' j u hj => ?_, h5⟩
  have := h4 b hb' j u hj
  rw [World.cell?_of_block (w := w) (hb.block _ (World.block_lt_of_cell? w _ this))]
  exact this
theorem RowR.of_nil (w : World) (m : Nat) : RowR w m nilS [] := ⟨none, 0, 0, rfl, by simp, by omega, fun _ => rfl, fun _ h => (by cases h), fun _ h => (by cases h)⟩
theorem RowR.of_sl {w : World} {v : Value} {zs : List Int} (h : Sl w v zs) (hl : zs.length ≤ 700000) : RowR w 1 v (zs.map (Value.int .u8)) := by
  obtain ⟨hb, a, c, rfl, h1, h2, h3, h4⟩ := h
  refine ⟨a, zs.length, c, rfl, by simp, hl, fun ha => ?_, fun b hb j u hj => ?_, fun u hu => ?_⟩
  · by_cases h0 : zs = []
    · simp [h0]
    · obtain ⟨_, _, he, _⟩ := h4 h0; rw [ha] at he; cases he
  · have hj2 : j < zs.length := by have := (List.getElem?_eq_some_iff.1 hj).1; simpa using this
    obtain ⟨b', off, he, hx⟩ := h4 (by intro e; rw [e] at hj2; simp at hj2)
    rw [hb] at he
    obtain rfl : b = ⟨b', off, none⟩ := by simpa using he
    rw [Addr.add_mid, hx j hj2, ← hj]
    simp [List.getD, hj2]
  · simp at hu; obtain ⟨z, _, rfl⟩ := hu; rfl

theorem append_row {t e : TypeId} {i0 : TypeInfo} {z : Value} {size bytes : Nat} (ht : Try.prog.underlying t = some (.slice e)) (hi : Try.prog.info? e = some i0) (hz : i0.zero = some z) (hs : i0.size = size) (hby : i0.bytes = bytes) (hzs : z.cells.size = size) (hpos : 0 < size) (hb64 : bytes ≤ 64)
    (w : World) (base : Nat) (v : Value) (n : Nat) (xs : List Value) (hown : w.ownsRow base e size v n xs) (x : Value) (cs : List Value) (hr : RowR w size x cs) (hn : n ≤ 4000000) (hbase : base ≤ w.heap.size) :
    ∃ v' w' k, (Builtin.append_ #[t, t] t #[v, x]).run Try.prog w = .ok v' w' ∧ cs.length = k * size ∧ k ≤ 700000 ∧ lenV x = k ∧ w'.ownsRow base e size v' (n + k) (xs ++ cs) ∧ w.grownBy w' v.ownBlock := by
  obtain ⟨a, k, c, rfl, h1, h2, h3, h4, h5⟩ := hr
  cases a with
  | none =>
    obtain rfl : k = 0 := h3 rfl
    obtain rfl : cs = [] := List.eq_nil_of_length_eq_zero (by rw [h1]; simp)
    obtain ⟨a0, c0, rfl⟩ := own_form' hown
    have hle := (own_len hown).1
    refine ⟨.slice a0 n c0, w, 0, ?_, by simp, by omega, rfl, by simpa using hown, grownBy_refl _ _⟩
    cases a0 <;> simp [Builtin.append_, run_underlying ht, sizeOf, typeInfo, hi, Builtin.lenOf, Builtin.firstCells, hle, storeCells]
  | some ad =>
    have hm : (n + k) * bytes ≤ 140737488355328 := by
      have : (n + k) * bytes ≤ 4700000 * 64 := Nat.mul_le_mul (by omega) hb64
      omega
    obtain ⟨v', w', hr, q1, q2, _, _⟩ := run_append_own_at (P := Try.prog) w base t t e i0 z size bytes ht hi hz hs hby hzs hpos v n xs hown ad k c cs h1 (fun j u hj => h4 ad rfl j u hj) h5 (by unfold maxLen; omega) hm hbase
    exact ⟨v', w', k, hr, h1, h2, rfl, q1, q2⟩
def lensV (vs : List Value) : Nat := (vs.map lenV).sum
theorem lensV_succ (vs : List Value) (i : Nat) (h : i < vs.length) : lensV (vs.take (i + 1)) = lensV (vs.take i) + lenV (vs.getD i nilS) := by
  unfold lensV
  rw [List.take_succ_eq_append_getElem h, List.map_append, List.sum_append]
  simp [List.getD, h]
theorem flat_succ (rows : List (List Value)) (i : Nat) (h : i < rows.length) : (rows.take (i + 1)).flatten = (rows.take i).flatten ++ rows.getD i [] := by
  rw [List.take_succ_eq_append_getElem h, List.flatten_append]
  simp [List.getD, h]

theorem sizeU8E : (Try.prog.info? 5).map (·.size) = some 1 := by kernel_rfl
/-! ### at bytes -/
theorem growB_any (w : World) (n : Nat) (hn : n ≤ 4000000) :
    Calls Try.prog 48 #[.slice none 0 0, .int .i64 n] w fun e w' => ∃ a c, e = .returned (.slice a 0 c) ∧ w'.ownsRow w.heap.size 5 1 (.slice a 0 c) 0 [] ∧ Below w.heap.size w w' := by
  by_cases h0 : n = 0
  · subst h0
    go_enter Try.func48, Try.ntmps48
    go_wp2
    go_ret
    exact ⟨none, 0, rfl, World.ownsRow_nil _ _ _ _, Below.refl _ _⟩
  · obtain ⟨i0, hi, hz0, hz1, hz2⟩ := info_parts infoU8
    have hr := Lib.run_append_nil_zeros (P := Try.prog) w 23 3 23 5 i0 _ .i64 .i64 Try.underlying23 Try.underlying3 hi hz0 n (by omega) (by rw [hz1]; omega) (by omega) (by rw [hz2]; omega)
    obtain ⟨C, hC⟩ : ∃ C, C = grownCap w n 0 5 := ⟨_, rfl⟩
    have hge := grownCap_ge w n 0 5
    have hcm := grownCap_le_maxLen w n 0 5 (by unfold maxLen; omega)
    rw [← hC] at hr hge hcm
    obtain ⟨W, hW⟩ : ∃ W, W = w.drew.alloc (.cells (Builtin.zeroCells (Value.int .u8 0).cells n ++ Builtin.zeroCells (Value.int .u8 0).cells (C - n)) 5) := ⟨_, rfl⟩
    have hr' : (Builtin.append_ #[23, 3] 23 #[.slice none 0 0, .int .i64 n]).run Try.prog w = .ok (.slice (some ⟨w.heap.size, 0, none⟩) n C) W := by rw [hW]; exact hr
    have HR := hide hr'
    have HO : Hid (W.ownsRow w.heap.size 5 1 (.slice (some ⟨w.heap.size, 0, none⟩) 0 C) 0 []) := by
      rw [hW]
      refine ⟨rfl, .inr ⟨w.heap.size, C, _, rfl, Nat.le_refl _, heap_alloc_new w.drew _, Nat.zero_le _, hcm, ?_, by simp⟩⟩
      simp only [Array.size_append, size_zeroCells, show ((Value.int .u8 0).cells).size = 1 from rfl]
      omega
    have HB : Hid (Below w.heap.size w W) := by rw [hW]; exact ((Below.refl _ w).drew).alloc (Nat.le_refl _) _
    have hc0 := fun wx => cut_head (P := Try.prog) 23 5 1 Try.underlying23 sizeU8E (some ⟨w.heap.size, 0, none⟩) n C 0 (Nat.zero_le _) wx
    have hpos : (0 : Int) < (n : Int) := by omega
    have hC0 : C ≠ 0 := by omega
    clear hr hr' hC hW h0 hi hz0 hz1 hz2
    go_enter Try.func48, Try.ntmps48
    go_wp2_with (at_builtin; (with_reducible refine Lib.wpList_append_run _ rfl (.tmp 20) (.tmp 21) 23 3 rfl _ _ ?_ ?_ _ _ HR.out ?_); exact rfl; exact rfl; clear HR)
    go_ret
    exact ⟨_, _, rfl, HO.out, HB.out⟩

set_option maxHeartbeats 1000000 in
theorem concatB_any (w : World) (g : Nat) (vs : List Value) (rows : List (List Value)) (hl : vs.length = rows.length) (hk : vs.length ≤ 5) (hB : Blk w g 23 vs) (hr : ∀ i, i < vs.length → RowR w 1 (vs.getD i nilS) (rows.getD i [])) :
    Calls Try.prog 35 #[.slice (some ⟨g, 0, none⟩) vs.length vs.length] w fun e w' => ∃ a N c, e = .returned (.slice a N c) ∧ w'.ownsRow w.heap.size 5 1 (.slice a N c) N rows.flatten ∧ Below w.heap.size w w' := by
  obtain ⟨i0, hi, hz0, hz1, hz2⟩ := info_parts infoU8
  have HLE : Hid (∀ i, i ≤ vs.length → lensV (vs.take i) ≤ 700000 * i) := by
    intro i
    induction i with
    | zero => intro _; simp [lensV]
    | succ i ih =>
      intro h
      obtain ⟨a, n, c, e, _, h2, _⟩ := hr i (by omega)
      rw [lensV_succ vs i (by omega), e]
      have := ih (by omega)
      simp only [lenV]
      omega
  have HGR : Hid (∀ wx n, n ≤ 4000000 → Calls Try.prog 48 #[.slice none 0 0, .int .i64 (n : Nat)] wx fun e w' => ∃ a c, e = .returned (.slice a 0 c) ∧ w'.ownsRow wx.heap.size 5 1 (.slice a 0 c) 0 [] ∧ Below wx.heap.size wx w') := fun wx n h => growB_any wx n h
  have HBK := hide hB
  have HRW := hide hr
  have HLL := hide hl
  obtain ⟨K, hK⟩ : ∃ K, K = vs.length := ⟨_, rfl⟩
  rw [← hK] at hk HLE HRW HLL ⊢
  have HK := hide hK
  have hgl := hB.lt
  clear hB hr hl hK
  go_enter Try.func35, Try.ntmps35
  go_wp2
  go_loopg [3, 11] K (fun gg s i wr => ∃ j : Nat, gg + j = K ∧ s = .int .i64 (lensV (vs.take j) : Nat) ∧ i = .int .i64 (j : Int) ∧ w = wr)
  case atStart => exact ⟨0, by omega, rfl, rfl, rfl⟩
  case round =>
    obtain ⟨j, hj, rfl, rfl, rfl⟩ := hrel
    cases gk with
    | zero =>
      obtain rfl : j = K := by omega
      have hle := HLE.out j (by omega)
      generalize lensV (vs.take j) = S at *
      go_wp2_with (go_at_call 48; refine (HGR.out w S (by omega)).mono ?_; rintro e w2 ⟨a2, c2, rfl, ho2, hb2⟩; have HO2 := hide ho2; have HB2 := hide hb2; clear HGR ho2 hb2)
      go_loopg [6, 27] j (fun gg v i wr => ∃ (q N : Nat) (a : Option Addr) (c : Nat), gg + q = j ∧ v = .slice a N c ∧ i = .int .i64 (q : Int) ∧ wr.ownsRow w.heap.size 5 1 (.slice a N c) N (rows.take q).flatten ∧ N ≤ 700000 * q ∧ Below w.heap.size w wr)
      case atStart => exact ⟨0, 0, a2, c2, by omega, rfl, rfl, by simpa using HO2.out, by omega, HB2.out⟩
      case round =>
        obtain ⟨q, N, a, c, hq, rfl, rfl, hown, hN, hbw⟩ := hrel
        obtain ⟨W, rfl⟩ : ∃ x, x = wr := ⟨_, rfl⟩
        have HOW := hide hown
        have HBW := hide hbw
        clear HO2 HB2
        cases gk with
        | zero =>
          obtain rfl : q = j := by omega
          clear hown hbw
          go_wp2
          go_ret
          have := HOW.out
          rw [List.take_of_length_le (by have := HLL.out; omega)] at this
          exact ⟨a, N, c, rfl, this, HBW.out⟩
        | succ gg =>
          have hqk : q < j := by omega
          have hqi : (q : Int) < (j : Int) := by omega
          have c1 : W.cell? ⟨g, q, none⟩ = some (vs.getD q nilS) := by
            rw [(HBK.out.below hbw hgl).cell q]
            simp [List.getD, show q < vs.length by have := HK.out; omega]
          obtain ⟨v', w', k, hrun, h1, h2, h3, h4, h5⟩ := append_row Try.underlying23 hi hz0 hz1 hz2 rfl (by decide) (by decide) W w.heap.size _ _ _ hown _ _ ((HRW.out q hqk).below hbw) (by omega) hbw.size
          have hbe : Below w.heap.size w w' := hbw.grown h5 hbw.size (fun kk hkk => by
            rcases hown.2 with ⟨hh, _⟩ | ⟨g', cap', cur, hh, hb', _⟩
            · rw [hh] at hkk; cases hkk
            · rw [hh] at hkk; cases hkk; exact hb')
          obtain ⟨a', c', hv'⟩ := own_form' h4
          have hfs : (rows.take (q + 1)).flatten = (rows.take q).flatten ++ rows.getD q [] := flat_succ rows q (by have := HLL.out; omega)
          obtain ⟨xa, xn, xc, hx, _⟩ := HRW.out q hqk
          rw [hx] at c1 hrun
          have HR := hide hrun
          have HO3 := hide h4
          have HB3 := hide hbe
          have HFS := hide hfs
          subst hv'
          clear hrun h1 h3 h4 h5 hbe hfs hown hbw
          go_wp2_with (at_builtin; (with_reducible refine wpList_append_run _ rfl (.tmp 31) (.tmp 32) 23 rfl _ _ ?_ ?_ _ _ HR.out ?_); exact rfl; exact rfl; clear HR)
          go_roundg gg
          case measure => omega
          case rel => exact ⟨q + 1, N + k, a', c', by omega, rfl, by go_num, by rw [HFS.out]; exact HO3.out, by omega, HB3.out⟩
    | succ gg =>
      have hjk : j < K := by omega
      have hji : (j : Int) < (K : Int) := by omega
      have c1 : w.cell? ⟨g, j, none⟩ = some (vs.getD j nilS) := by
        rw [HBK.out.cell j]
        simp [List.getD, show j < vs.length by have := HK.out; omega]
      obtain ⟨xa, xn, xc, hx, _, hx2, _⟩ := HRW.out j hjk
      have hs := lensV_succ vs j (by have := HK.out; omega)
      rw [hx] at c1 hs
      have hle := HLE.out j (by omega)
      have HS2 : Hid (lensV (vs.take (j + 1)) = lensV (vs.take j) + xn) := hs
      generalize lensV (vs.take j) = S at *
      have hnn : ¬ ((S : Int) + (xn : Int) < 0) := by omega
      clear hs hx
      go_wp2
      go_roundg gg
      case measure => omega
      case rel => exact ⟨j + 1, by omega, by rw [HS2.out]; go_num, by go_num, rfl⟩

end Go.Proofs.Ytmjkpgmmfooajaa
