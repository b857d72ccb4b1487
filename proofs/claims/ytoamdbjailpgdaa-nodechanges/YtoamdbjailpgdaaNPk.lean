/- Contracts: how package pack puts numbers and texts behind bytes. -/
import Derived.Test.YtoamdbjailpgdaaNByt
namespace Go.Proofs.Ytoamdbjailpgdaa
set_option maxRecDepth 20000
open Go.RowKit
set_option linter.unusedVariables false

/-- 'copy' of a whole slice into a row of the call's own -/
theorem run_copy_sl {P : Program} (w : World) (dT sT ty e : TypeId) (hu : P.underlying dT = some (.slice e)) (hsz : (P.info? e).map (·.size) = some 1)
    (dp : Option Addr) (dLen dCap g off : Nat) (cur : List Value) (hg : w.heap[g]? = some (.cells cur.toArray e (0, 0))) (ao : Option Addr) (n cap : Nat) (zs : List Int) (S : Sl w (.slice ao n cap) zs)
    (hd : 0 < zs.length → dp = some ⟨g, off, none⟩) (hl : zs.length ≤ dLen) (hfit : off + zs.length ≤ cur.length) :
    ∃ w', (Builtin.copy_ #[dT, sT] ty #[.slice dp dLen dCap, .slice ao n cap]).run P w = .ok (goInt zs.length) w' ∧
      w'.heap[g]? = some (.cells (splice cur off (zs.map (Value.int .u8))).toArray e (0, 0)) ∧ w.grownBy w' (some g) := by
  have hn : n = zs.length := by obtain ⟨_, ao', cap', he, _⟩ := S; simp at he; exact he.2.1
  subst hn
  by_cases h0 : zs.length = 0
  · have hrun := run_copy_none (P := P) w dT sT ty e dp ao dLen dCap zs.length cap hu hsz (by rw [h0]; exact Nat.zero_min _)
    obtain rfl : zs = [] := List.eq_nil_of_length_eq_zero h0
    exact ⟨w, hrun, by simpa [splice] using hg, ⟨rfl, rfl, rfl, Nat.le_refl _, fun _ _ _ => rfl⟩⟩
  · obtain rfl := hd (by omega)
    obtain ⟨ad, rfl, hsrc⟩ := S.src (by omega)
    have hrun := run_copy_row (P := P) w dT sT ty e g off dLen dCap ad zs.length cap cur.toArray e (zs.map (Value.int .u8)) hu hsz hg (by simp; exact (Nat.min_eq_left hl).symm) hsrc (by simpa using hfit) (oneCell_bytes zs)
    rw [List.length_map] at hrun
    refine ⟨_, hrun, ?_, ⟨rfl, rfl, rfl, by simp, fun k _ hk => setRow_other w g k _ (fun e => hk (by rw [e]))⟩⟩
    rw [setRow_heap w g _ _ e _ hg]
    simp [splice]

set_option maxRecDepth 20000 in
set_option maxHeartbeats 400000 in
/-- new memory: the bytes, and so many noughts behind them -/
theorem copyWithRoom_any (w : World) (v : Value) (zs : List Int) (r : Nat) (h : Sl w v zs) (hr : zs.length + r ≤ 100000) :
    Calls Try.prog 107 #[v, .int .i64 r] w fun e w' =>
      e = .returned (.slice (some ⟨w.heap.size, 0, none⟩) (zs.length + r) (zs.length + r)) ∧
      w'.ownsRow w.heap.size 5 1 (.slice (some ⟨w.heap.size, 0, none⟩) (zs.length + r) (zs.length + r)) (zs.length + r) ((zs ++ List.replicate r 0).map (Value.int .u8)) ∧ Below w.heap.size w w' ∧ w.heap.size < w'.heap.size := by
  have H := h
  obtain ⟨hb, ao, cap, rfl, h1, h2, h3, h4⟩ := h
  unfold maxLen at h2
  obtain ⟨i0, hi, hz0, hz1, hz2⟩ := info_parts infoU8
  obtain ⟨X, hX⟩ : ∃ X, X = zs.map (Value.int .u8) := ⟨_, rfl⟩
  have hXl : X.length = zs.length := by simp [hX]
  have HX : Hid (X = zs.map (Value.int .u8)) := hX
  obtain ⟨Z, hZ⟩ : ∃ Z, Z = List.replicate (zs.length + r) (Value.int .u8 0) := ⟨_, rfl⟩
  have hZl : Z.length = zs.length + r := by simp [hZ]
  have HZ : Hid (Z = List.replicate (zs.length + r) (Value.int .u8 0)) := hZ
  obtain ⟨B, hB⟩ : ∃ B, B = w.heap.size := ⟨_, rfl⟩
  have hBB : w.heap.size = B := hB.symm
  clear hX hZ h4 hB
  go_enter Try.func107, Try.ntmps107
  go_wp2_with (at_make; refine wpList_make_full _ rfl _ _ 34 rfl w.heap.size 5 i0 (.int .u8 0) 1 Try.underlying34 hi hz0 hz1 .i64 .i64 _ _ (zs.length + r) rfl rfl (by omega) (by omega) (by rw [hz2]; omega) (by unfold maxLen; omega) (Nat.le_refl _) ?_; intro w1 ho1 hg1; rw [madeBytes, ← HZ.out] at ho1; have G1 : Hid (w1.heap[B]? = some (.cells Z.toArray 5 (0, 0))) := hBB ▸ own_heap ho1; have hb1 : Below B w w1 := hBB ▸ (Below.refl w.heap.size w).grown hg1 (Nat.le_refl _) (by intro k hk; cases hk); have S1 := H.grown0 hg1; clear ho1 hg1)
  obtain ⟨w2, hrun, G2, hg2⟩ := run_copy_sl (P := Try.prog) w1 34 34 3 5 Try.underlying34 sizeU8 (some ⟨B, 0, none⟩) (zs.length + r) (zs.length + r) B 0 Z G1.out ao zs.length cap zs S1 (fun _ => rfl) (by omega) (by omega)
  rw [hrun]
  have HG2 : Hid _ := G2
  have hb2 : Below B w w2 := hb1.grown hg2 (by have := hb1.size; omega) (by intro k hk; cases hk; exact Nat.le_refl _)
  clear G2 hrun hg2
  simp only [Result.andThen]
  rw [Oper.upon_value]
  go_wp2
  go_ret
  have hlt : B < w2.heap.size := (Array.getElem?_eq_some_iff.1 HG2.out).1
  rw [hBB]
  refine ⟨rfl, heap_own (n := zs.length + r) ?_ (Nat.le_refl _) (by simp) (by unfold maxLen; omega), hb2, hlt⟩
  rw [HG2.out]
  congr 2
  rw [HZ.out]
  simp [splice]

/-- a number in n bytes, the highest first -/
def numBytes (v : Nat) : Nat → List Int
  | 0 => []
  | n + 1 => numBytes (v / 256) n ++ [((v % 256 : Nat) : Int)]

theorem numBytes_len : ∀ (n v : Nat), (numBytes v n).length = n
  | 0, _ => rfl
  | n + 1, v => by simp [numBytes, numBytes_len n (v / 256)]

theorem numBytes_ok : ∀ (n v : Nat), ByteOk (numBytes v n)
  | 0, _ => by intro z hz; cases hz
  | n + 1, v => by
    intro z hz
    rcases List.mem_append.1 hz with hz | hz
    · exact numBytes_ok n _ z hz
    · simp at hz; omega

theorem set_back (zs tail : List Int) (r : Nat) (x : Int) :
    ((zs ++ List.replicate (r + 1) 0 ++ tail).map (Value.int .u8)).set (zs.length + r) (.int .u8 x) = (zs ++ List.replicate r 0 ++ (x :: tail)).map (Value.int .u8) := by
  have e : List.replicate (r + 1) (0 : Int) = List.replicate r 0 ++ [0] := by rw [List.replicate_succ']
  have hl : ((zs ++ List.replicate r (0 : Int)).map (Value.int .u8)).length = zs.length + r := by simp
  rw [e, ← List.append_assoc, List.append_assoc _ [0] tail, List.map_append, List.set_append_right _ _ (by omega), hl, Nat.sub_self]
  simp

set_option maxHeartbeats 400000 in
theorem putNumber_any (w : World) (vb : Value) (zs : List Int) (v n : Nat) (h : Sl w vb zs) (hl : zs.length ≤ 50000) (hv : v < 18446744073709551616) (hn : n ≤ 8) :
    Calls Try.prog 108 #[vb, .int .u64 v, .int .i64 n] w fun e w' => ∃ u, e = .returned u ∧
      w'.ownsRow w.heap.size 5 1 u (zs ++ numBytes v n).length ((zs ++ numBytes v n).map (Value.int .u8)) ∧ Below w.heap.size w w' ∧ w.heap.size < w'.heap.size := by
  have H := h
  obtain ⟨hb, ao, cap, rfl, h1, h2, h3, h4⟩ := h
  obtain ⟨B, hB⟩ : ∃ B, B = w.heap.size := ⟨_, rfl⟩
  have HC := copyWithRoom_any w (.slice ao zs.length cap) zs n H (by omega)
  rw [← hB] at HC
  rw [← hB]
  have HB : Hid (B = w.heap.size) := hB
  have HL := hide (numBytes_len n v)
  clear hB h3 h4 h2
  go_enter Try.func108, Try.ntmps108
  go_wp2_with (go_at_call 107; refine HC.mono ?_; rintro e w1 ⟨rfl, ho1, hb1, hz1⟩)
  go_loopw [1, 8] (fun vv i wr => ∃ (cur r : Nat) (tail : List Int), cur < 18446744073709551616 ∧ numBytes v n = numBytes cur r ++ tail ∧ vv = .int .u64 cur ∧ i = .int .i64 (((zs.length + r : Nat) : Int) - 1) ∧
      r + tail.length = n ∧ wr.ownsRow B 5 1 (.slice (some ⟨B, 0, none⟩) (zs.length + n) (zs.length + n)) (zs.length + n) ((zs ++ List.replicate r 0 ++ tail).map (Value.int .u8)) ∧ Below B w wr ∧ B < wr.heap.size)
    (fun _ i _ => (intOf i + 1 - zs.length).toNat)
  case atStart => exact ⟨v, n, [], hv, by simp, rfl, by go_num, by simp, by simpa using ho1, hb1, hz1⟩
  case round =>
    obtain ⟨cur, r, tail, hc1, hc2, rfl, rfl, hc3, hown, hbr, hzr⟩ := hrel
    have HC2 := hide hc2
    clear hc2
    by_cases hr : r = 0
    · subst hr
      have HO := hide hown
      clear hown
      go_wp2
      go_ret
      have e1 : zs ++ numBytes v n = zs ++ tail := by rw [HC2.out]; rfl
      have e2 : (zs ++ numBytes v n).length = zs.length + n := by rw [List.length_append, HL.out]
      refine ⟨_, rfl, ?_, hbr, hzr⟩
      rw [e2, e1]
      have := HO.out
      rwa [List.replicate_zero, List.append_nil] at this
    · obtain ⟨m, rfl⟩ : ∃ m, r = m + 1 := ⟨r - 1, by omega⟩
      obtain ⟨K, hK⟩ : ∃ K, K = zs.length + m := ⟨_, rfl⟩
      have hKi : (((zs.length + (m + 1) : Nat) : Int) - 1) = (K : Int) := by omega
      have hcell := hown.cellAt K (by omega)
      have hfr := hown.frozenAt K
      have hsome : ∃ q, wr.cell? ⟨B, K, none⟩ = some q := by
        rw [hcell]
        exact ⟨_, List.getElem?_eq_getElem (by simp; omega)⟩
      obtain ⟨q, hq⟩ := hsome
      have hst := hown.stored K (.int .u8 ((cur % 256 : Nat) : Int))
      have HO := hst.1
      rw [hK, set_back, ← hK] at HO
      have HOO := hide HO
      rw [hKi]
      have HK := hide hK
      have hKn : K < zs.length + n := by omega
      have hKz : zs.length ≤ K := by omega
      clear hcell hK hst HO hown hKi
      go_wp2
      go_roundw
      case rel =>
        refine ⟨cur / 256, m, ((cur % 256 : Nat) : Int) :: tail, by omega, ?_, by go_num, by have := HK.out; go_num, by simp; omega, ?_, hbr.setCell (Nat.le_refl _) _, by simpa using hzr⟩
        · rw [HC2.out, numBytes, List.append_assoc]; rfl
        · exact HOO.out
      case measure => simp [intOf]; omega
theorem packU16_any (w : World) (vb : Value) (zs : List Int) (v : Nat) (h : Sl w vb zs) (hl : zs.length ≤ 50000) (hv : v < 65536) :
    Calls Try.prog 99 #[vb, .int .u16 v] w fun e w' => ∃ u, e = .returned u ∧ w'.ownsRow w.heap.size 5 1 u (zs ++ numBytes v 2).length ((zs ++ numBytes v 2).map (Value.int .u8)) ∧ Below w.heap.size w w' ∧ w.heap.size < w'.heap.size := by
  have HC := putNumber_any w vb zs v 2 h hl (by omega) (by omega)
  obtain ⟨_, ao, cap, rfl, _⟩ := h
  go_enter Try.func99, Try.ntmps99
  go_wp2_with (go_at_call 108; refine HC.mono ?_; rintro e w1 ⟨u, rfl, ho1, hb1, hz1⟩)
  go_ret
  exact ⟨u, rfl, ho1, hb1, hz1⟩
def txt (ts : List Int) : List Int := (ts.length : Int) :: ts
theorem txt_ok {ts : List Int} (h : ByteOk ts) (hl : ts.length ≤ 255) : ByteOk (txt ts) := by
  intro z hz
  rcases List.mem_cons.1 hz with rfl | hz
  · omega
  · exact h z hz
theorem set_next (xs : List Int) (n : Nat) (x : Int) (hn : 0 < n) :
    ((xs ++ List.replicate n 0).map (Value.int .u8)).set xs.length (.int .u8 x) = (xs ++ [x] ++ List.replicate (n - 1) 0).map (Value.int .u8) := by
  obtain ⟨m, rfl⟩ : ∃ m, n = m + 1 := ⟨n - 1, by omega⟩
  rw [List.replicate_succ, List.map_append, List.set_append_right _ _ (by simp), List.length_map, Nat.sub_self]
  simp

theorem splice_tail (zs ts : List Int) (x : Int) :
    splice ((zs ++ [x] ++ List.replicate ts.length 0).map (Value.int .u8)) (zs.length + 1) (ts.map (Value.int .u8)) = (zs ++ (x :: ts)).map (Value.int .u8) := by
  have e : (zs ++ [x] ++ List.replicate ts.length (0 : Int)).map (Value.int .u8) = (zs ++ [x]).map (Value.int .u8) ++ (List.replicate ts.length (0 : Int)).map (Value.int .u8) := List.map_append
  have hl : ((zs ++ [x]).map (Value.int .u8)).length = zs.length + 1 := by simp
  unfold splice
  rw [e, List.take_append_of_le_length (by omega), List.take_of_length_le (by omega), List.drop_eq_nil_of_le (by simp; omega)]
  simp

theorem text_set {w : World} {base : Nat} {e : TypeId} {B n m : Nat} {zs : List Int} (h : w.ownsRow base e 1 (.slice (some ⟨B, 0, none⟩) n n) n ((zs ++ List.replicate (1 + m) 0).map (Value.int .u8))) :
    Hid ((w.setCell ⟨B, zs.length, none⟩ (.int .u8 (m : Int))).ownsRow base e 1 (.slice (some ⟨B, 0, none⟩) n n) n ((zs ++ [(m : Int)] ++ List.replicate m 0).map (Value.int .u8))) := by
  have := (h.stored zs.length (.int .u8 (m : Int))).1
  rw [set_next zs (1 + m) (m : Int) (by omega), Nat.add_sub_cancel_left] at this
  exact this

set_option maxHeartbeats 400000 in
theorem packText_ok (w : World) (vb vt : Value) (zs ts : List Int) (hb : Sl w vb zs) (ht : Sl w vt ts) (hz : zs.length ≤ 50000) (hl : ts.length ≤ 255) :
    Calls Try.prog 98 #[vb, vt] w fun e w' => ∃ u, e = .returned (.tuple #[u, .int .i64 0]) ∧
      w'.ownsRow w.heap.size 5 1 u (zs ++ txt ts).length ((zs ++ txt ts).map (Value.int .u8)) ∧ Below w.heap.size w w' ∧ w.heap.size < w'.heap.size := by
  have HT := hide ht
  have HC := copyWithRoom_any w vb zs (1 + ts.length) hb (by omega)
  obtain ⟨_, ao, cap, rfl, _⟩ := hb
  obtain ⟨_, ao', cap', rfl, _⟩ := ht
  rw [show (((1 + ts.length : Nat)) : Int) = 1 + (ts.length : Int) by omega] at HC
  obtain ⟨B, hB⟩ : ∃ B, B = w.heap.size := ⟨_, rfl⟩
  rw [← hB] at HC
  rw [← hB]
  have HB : Hid (B = w.heap.size) := hB
  have i1 : decide ((255 : Int) < (ts.length : Int)) = false := decide_eq_false (by omega)
  clear hB
  by_cases hts : ts = []
  · subst hts
    have HC0 : Calls Try.prog 107 #[.slice ao zs.length cap, .int .i64 1] w fun e w' =>
      e = .returned (.slice (some ⟨B, 0, none⟩) (zs.length + 1) (zs.length + 1)) ∧
      w'.ownsRow B 5 1 (.slice (some ⟨B, 0, none⟩) (zs.length + 1) (zs.length + 1)) (zs.length + 1) ((zs ++ List.replicate 1 0).map (Value.int .u8)) ∧ Below B w w' ∧ B < w'.heap.size := HC
    clear HC
    go_enter Try.func98, Try.ntmps98
    go_wp2_with (go_at_call 107; refine HC0.mono ?_; rintro e w1 ⟨rfl, ho1, hb1, hz1⟩; have f1 := ho1.frozenAt zs.length; obtain ⟨q, hq⟩ := own_some ho1 zs.length (by omega); have hst : Hid ((w1.setCell ⟨B, zs.length, none⟩ (.int .u8 0)).ownsRow B 5 1 (.slice (some ⟨B, 0, none⟩) (zs.length + 1) (zs.length + 1)) (zs.length + 1) ((zs ++ [0] ++ List.replicate 0 0).map (Value.int .u8))) := text_set (m := 0) ho1; clear ho1)
    have hB2 := hb1.setCell (p := ⟨B, zs.length, none⟩) (Nat.le_refl _) (.int .u8 0)
    have S2 : Sl (w1.setCell ⟨B, zs.length, none⟩ (.int .u8 0)) (.slice ao' 0 cap') [] := HT.out.below (HB.out ▸ hB2)
    obtain ⟨w2, hrun, G2, hg2⟩ := run_copy_sl (P := Try.prog) _ 34 34 3 5 Try.underlying34 sizeU8 (some ⟨B, 0, none⟩) 0 0 B (zs.length + 1) _ (own_heap hst.out) ao' 0 cap' [] S2 (fun h => by simp at h) (by simp) (by simp)
    have HG2 := hide G2
    have hB3 : Below B w w2 := hB2.grown hg2 (by simp; omega) (by intro k hk; cases hk; exact Nat.le_refl _)
    rw [hrun]
    clear G2 hrun hg2 S2
    simp only [Result.andThen]
    rw [Oper.upon_value]
    go_wp2
    go_ret2
    have hlt : B < w2.heap.size := (Array.getElem?_eq_some_iff.1 HG2.out).1
    refine ⟨_, rfl, ?_, hB3, hlt⟩
    have := HG2.out
    have es := splice_tail zs [] 0
    rw [List.length_nil] at es
    rw [es] at this
    have e : (zs ++ txt []).length = zs.length + 1 := by rw [List.length_append]; rfl
    rw [e]
    exact heap_own (n := zs.length + 1) this (Nat.le_refl _) (by rw [List.length_map, List.length_append]; rfl) (by unfold maxLen; omega)
  · have hpos : 0 < ts.length := List.length_pos_iff.2 hts
    go_enter Try.func98, Try.ntmps98
    go_wp2_with (go_at_call 107; refine HC.mono ?_; rintro e w1 ⟨rfl, ho1, hb1, hz1⟩; have f1 := ho1.frozenAt zs.length; obtain ⟨q, hq⟩ := own_some ho1 zs.length (by omega); have hst := text_set ho1; clear ho1)
    have hB2 := hb1.setCell (p := ⟨B, zs.length, none⟩) (Nat.le_refl _) (.int .u8 (ts.length : Int))
    have S2 : Sl (w1.setCell ⟨B, zs.length, none⟩ (.int .u8 (ts.length : Int))) (.slice ao' ts.length cap') ts := HT.out.below (HB.out ▸ hB2)
    obtain ⟨w2, hrun, G2, hg2⟩ := run_copy_sl (P := Try.prog) _ 34 34 3 5 Try.underlying34 sizeU8 (some ⟨B, zs.length + 1, none⟩) (zs.length + (1 + ts.length) - (zs.length + 1)) (zs.length + (1 + ts.length) - (zs.length + 1)) B (zs.length + 1) _ (own_heap hst.out) ao' ts.length cap' ts S2 (fun _ => rfl) (by omega) (by simp; omega)
    have HG2 := hide G2
    have hB3 : Below B w w2 := hB2.grown hg2 (by simp; omega) (by intro k hk; cases hk; exact Nat.le_refl _)
    rw [hrun]
    clear G2 hrun hg2 S2
    simp only [Result.andThen]
    rw [Oper.upon_value]
    go_wp2
    go_ret2
    have hlt : B < w2.heap.size := (Array.getElem?_eq_some_iff.1 HG2.out).1
    refine ⟨_, rfl, ?_, hB3, hlt⟩
    have := HG2.out
    rw [splice_tail] at this
    have e : (zs ++ txt ts).length = zs.length + (1 + ts.length) := by simp [txt]; omega
    rw [e]
    exact heap_own (n := zs.length + (1 + ts.length)) this (Nat.le_refl _) (by rw [List.length_map]; exact e) (by unfold maxLen; omega)

end Go.Proofs.Ytoamdbjailpgdaa
