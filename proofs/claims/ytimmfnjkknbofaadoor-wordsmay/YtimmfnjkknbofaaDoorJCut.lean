/- Cuts of a slice of bytes that is read: b[l:h], b[:h], b[l:], as run equations whose values show their form. -/
import Derived.Test.YtimmfnjkknbofaaDoorOwn
import Derived.Test.YtimmfnjkknbofaaDoorDBase
import Derived.WalkSpells
import Derived.Lib.BytesEntry
import Derived.Lib.SliceRun
namespace Go.Proofs.YtimmfnjkknbofaaDoor
set_option maxRecDepth 20000
open Go.RowKit

theorem sl_take' {w : World} {ao : Option Addr} {zs : List Int} {cap : Nat} (n : Nat) (h : Sl w (.slice ao zs.length cap) zs) (hn : n ≤ zs.length) : Sl w (.slice ao (zs.take n).length cap) (zs.take n) := by
  have := sl_take n h hn
  rwa [show (zs.take n).length = n by simp; omega]
theorem sl_drop0' {w : World} {ao : Option Addr} {zs : List Int} {cap : Nat} (n : Nat) (h : Sl w (.slice ao zs.length cap) zs) (hn : n ≤ zs.length) (hc : cap = n) : Sl w (.slice ao (zs.drop n).length 0) (zs.drop n) := by
  have := sl_cut0 n h hn hc
  rwa [show (zs.drop n).length = zs.length - n by simp]
theorem sl_drop' {w : World} {ao : Option Addr} {zs : List Int} {cap : Nat} (n : Nat) (h : Sl w (.slice ao zs.length cap) zs) (hn : n ≤ zs.length) : Sl w (.slice (Option.map (fun x => x.add n) ao) (zs.drop n).length (cap - n)) (zs.drop n) := by
  have := sl_cut n h hn
  rwa [show (zs.drop n).length = zs.length - n by simp]
theorem sl_cap {w : World} {ao : Option Addr} {n cap : Nat} {zs : List Int} (S : Sl w (.slice ao n cap) zs) : n = zs.length ∧ zs.length ≤ cap ∧ cap ≤ maxLen := by
  obtain ⟨_, ao', cap', he, h', h2, _⟩ := S
  simp at he
  exact ⟨he.2.1, by omega, by omega⟩

theorem tySl : Tryd.prog.underlying 26 = some (.slice (Tryd.prog.elem 26)) := by kernel_rfl
theorem szSl (wx : World) : (Go.sizeOf (Tryd.prog.elem 26)).run Tryd.prog wx = .ok 1 wx := by kernel_rfl

/-- b[l:h] -/
theorem cut_lh (w : World) (ao : Option Addr) (zs : List Int) (cap l h : Nat) (S : Sl w (.slice ao zs.length cap) zs) (h1 : l ≤ h) (h2 : h ≤ zs.length) :
    ∃ a' c', (∀ wx, (Instr.slice 26 (.slice ao zs.length cap) (some (.int .i64 l)) (some (.int .i64 h)) none).run Tryd.prog wx = .ok (.slice a' ((zs.take h).drop l).length c') wx) ∧
      ∀ wx, Sl wx (.slice ao zs.length cap) zs → Sl wx (.slice a' ((zs.take h).drop l).length c') ((zs.take h).drop l) := by
  have hle := (sl_cap S).2.1
  have hlen : ((zs.take h).drop l).length = h - l := by simp; omega
  have hlt : l ≤ (zs.take h).length := by simp; omega
  by_cases hc : cap = l
  · refine ⟨ao, 0, fun wx => ?_, fun wx hS => sl_drop0' l (sl_take' h hS h2) hlt hc⟩
    rw [run_slice_lh wx 26 ao zs.length cap tySl .i64 .i64 l h (by omega) (by omega) (by omega), szSl]
    simp only [Result.andThen, sliced, Int.toNat_natCast]
    rw [if_pos hc, hlen, show cap - l = 0 by omega]
  · refine ⟨Option.map (fun x => x.add l) ao, cap - l, fun wx => ?_, fun wx hS => sl_drop' l (sl_take' h hS h2) hlt⟩
    rw [run_slice_lh wx 26 ao zs.length cap tySl .i64 .i64 l h (by omega) (by omega) (by omega), szSl]
    simp only [Result.andThen, sliced, Int.toNat_natCast]
    rw [if_neg hc, hlen, Nat.mul_one]

/-- b[l:] -/
theorem cut_l (w : World) (ao : Option Addr) (zs : List Int) (cap l : Nat) (S : Sl w (.slice ao zs.length cap) zs) (h1 : l ≤ zs.length) :
    ∃ a' c', (∀ wx, (Instr.slice 26 (.slice ao zs.length cap) (some (.int .i64 l)) none none).run Tryd.prog wx = .ok (.slice a' (zs.drop l).length c') wx) ∧
      ∀ wx, Sl wx (.slice ao zs.length cap) zs → Sl wx (.slice a' (zs.drop l).length c') (zs.drop l) := by
  have hle := (sl_cap S).2.1
  have hlen : (zs.drop l).length = zs.length - l := by simp
  by_cases hc : cap = l
  · refine ⟨ao, 0, fun wx => ?_, fun wx hS => sl_drop0' l hS h1 hc⟩
    rw [run_slice_l wx 26 ao zs.length cap tySl .i64 l (by omega) (by omega), szSl]
    simp only [Result.andThen, sliced, Int.toNat_natCast]
    rw [if_pos hc, hlen, show cap - l = 0 by omega]
  · refine ⟨Option.map (fun x => x.add l) ao, cap - l, fun wx => ?_, fun wx hS => sl_drop' l hS h1⟩
    rw [run_slice_l wx 26 ao zs.length cap tySl .i64 l (by omega) (by omega), szSl]
    simp only [Result.andThen, sliced, Int.toNat_natCast]
    rw [if_neg hc, hlen, Nat.mul_one]

/-- b[:h] -/
theorem cut_h (w : World) (ao : Option Addr) (zs : List Int) (cap h : Nat) (S : Sl w (.slice ao zs.length cap) zs) (h2 : h ≤ zs.length) :
    ∃ a' c', (∀ wx, (Instr.slice 26 (.slice ao zs.length cap) none (some (.int .i64 h)) none).run Tryd.prog wx = .ok (.slice a' (zs.take h).length c') wx) ∧
      ∀ wx, Sl wx (.slice ao zs.length cap) zs → Sl wx (.slice a' (zs.take h).length c') (zs.take h) := by
  have hle := (sl_cap S).2.1
  have hlen : (zs.take h).length = h := by simp; omega
  refine ⟨ao, cap, fun wx => ?_, fun wx hS => sl_take' h hS h2⟩
  rw [run_slice_h wx 26 ao zs.length cap tySl .i64 h (by omega) (by omega), szSl]
  simp only [Result.andThen, sliced, Int.toNat_natCast]
  rw [hlen]
  by_cases hc : cap = 0
  · rw [if_pos hc]; rfl
  · rw [if_neg hc]
    cases ao with
    | none => rfl
    | some x => simp [Addr.add]

end Go.Proofs.YtimmfnjkknbofaaDoor
/- Contracts: bytes.Equal, bytes.Clone, bytes.Compare, pack.Compare. -/
namespace Go.Proofs.YtimmfnjkknbofaaDoor
set_option maxRecDepth 20000
open Go.RowKit
set_option linter.unusedVariables false

theorem toList_same (a b : ByteArray) : a.toList = b.toList ↔ a = b := by
  rw [ByteArray.toList_eq, ByteArray.toList_eq]
  constructor
  · intro h; exact ByteArray.ext (Array.toList_inj.1 h)
  · rintro rfl; rfl

theorem equal_any (w : World) (va vb : Value) (xs ys : List Int) (ha : Sl w va xs) (hb : Sl w vb ys) :
    Calls Tryd.prog 16 #[va, vb] w fun e w' => e = .returned (.bool (decide (xs = ys))) ∧ w' = w := by
  have r1 := run_convert_sl (P := Tryd.prog) w 26 5 9 Tryd.underlying26 Tryd.underlying5 Tryd.underlying9 va xs ha
  have r2 := run_convert_sl (P := Tryd.prog) w 26 5 9 Tryd.underlying26 Tryd.underlying5 Tryd.underlying9 vb ys hb
  have HE := hide (strOfNums_inj ha.bytes hb.bytes)
  obtain ⟨sx, hsx⟩ : ∃ s, s = strOfNums xs := ⟨_, rfl⟩
  obtain ⟨sy, hsy⟩ : ∃ s, s = strOfNums ys := ⟨_, rfl⟩
  rw [← hsx] at r1 HE
  rw [← hsy] at r2 HE
  clear hsx hsy ha hb
  go_enter Tryd.func16, Tryd.ntmps16
  go_wp2
  go_ret
  refine ⟨ret_bool ?_, rfl⟩
  rw [Bool.eq_iff_iff]
  simp [← HE.out, toList_same]
theorem clone_any (w : World) (v : Value) (zs : List Int) (h : Sl w v zs) (hl : zs.length ≤ 100000) :
    Calls Tryd.prog 54 #[v] w fun e w' => ∃ u, e = .returned u ∧ w'.ownsRow w.heap.size 5 1 u zs.length (zs.map (Value.int .u8)) ∧ Below w.heap.size w w' := by
  obtain ⟨i0, hi, hz0, hz1, hz2⟩ := info_parts infoU8
  have HA := h.alloc (.cells #[] 5)
  obtain ⟨_, ao, cap, rfl, hcap, _, hnil, _⟩ := h
  cases ao with
  | none =>
    obtain rfl := hnil rfl
    obtain rfl : zs = [] := List.eq_nil_of_length_eq_zero (by omega)
    have heq := fun wx => Lib.run_eql_slice_nil (P := Tryd.prog) wx 26 5 none 0 0 0 0 Tryd.underlying26
    go_enter Tryd.func54, Tryd.ntmps54
    go_wp2
    go_ret
    exact ⟨_, rfl, ⟨rfl, .inl ⟨rfl, rfl⟩⟩, Below.refl _ _⟩
  | some x =>
    have heq := fun wx => Lib.run_eql_slice_nil (P := Tryd.prog) wx 26 5 (some x) zs.length cap 0 0 Tryd.underlying26
    obtain ⟨v1, w1, hr1, ho1, hg1, hn1⟩ := run_append_sl (P := Tryd.prog) _ w.heap.size 26 26 5 i0 Tryd.underlying26 hi hz0 hz1 hz2 _ 0 [] (World.ownsRow_made w #[] 0 (Nat.le_refl _) (Nat.zero_le _) rfl) (some x) zs.length cap zs HA (by omega) (by simp)
    rw [Nat.zero_add, List.nil_append] at ho1
    have hb0 : Below w.heap.size w (w.alloc (.cells #[] 5)) := (Below.refl _ w).alloc (Nat.le_refl _) _
    have hb1 : Below w.heap.size w w1 := hb0.grown hg1 (by simp) (by intro k hk; cases hk; exact Nat.le_refl _)
    have HR1 := hide hr1
    clear hr1 HA
    go_enter Tryd.func54, Tryd.ntmps54
    go_wp2_with (at_builtin; refine wpList_append_run _ rfl (.tmp 5) (.tmp 6) 26 rfl _ _ rfl rfl _ _ HR1.out ?_)
    go_ret
    exact ⟨_, rfl, ho1, hb1⟩
theorem cmp_bytes : ∀ (xs ys : List Int), ByteOk xs → ByteOk ys → Lib.compareBytes (Lib.bytesOf xs) (Lib.bytesOf ys) = cmp xs ys
  | [], [], _, _ => rfl
  | [], _ :: _, _, _ => rfl
  | _ :: _, [], _, _ => rfl
  | x :: xs, y :: ys, hx, hy => by
    have h1 := hx x (List.mem_cons_self ..)
    have h2 := hy y (List.mem_cons_self ..)
    have ih := cmp_bytes xs ys (fun z hz => hx z (List.mem_cons_of_mem _ hz)) (fun z hz => hy z (List.mem_cons_of_mem _ hz))
    have e1 : (UInt8.ofNat x.toNat < UInt8.ofNat y.toNat) ↔ x < y := by
      rw [UInt8.lt_iff_toNat_lt]; simp; omega
    have e2 : (UInt8.ofNat y.toNat < UInt8.ofNat x.toNat) ↔ y < x := by
      rw [UInt8.lt_iff_toNat_lt]; simp; omega
    simp only [Lib.bytesOf, List.map_cons, Lib.compareBytes, cmp, e1, e2]
    rw [← ih]; rfl

theorem run_bytesOf {P : Program} (w : World) (v : Value) (xs : List Int) (h : Sl w v xs) : (Extern.Bytes.bytesOf v).run P w = .ok ⟨(Lib.bytesOf xs).toArray⟩ w := by
  obtain ⟨_, ao, cap, rfl, _, _, _, hc⟩ := h
  cases ao with
  | none =>
    by_cases hz : xs = []
    · subst hz; rfl
    · obtain ⟨b, off, h, _⟩ := hc hz; cases h
  | some a =>
    have hl := Lib.run_loadBytesX (P := P) w xs a .empty (fun j x hj => by
      have hjl : j < xs.length := (List.getElem?_eq_some_iff.1 hj).1
      obtain ⟨b, off, h, hcc⟩ := hc (by intro h; simp [h] at hjl)
      obtain rfl := Option.some.inj h
      have e : (⟨b, off, none⟩ : Addr).add j = ⟨b, off + j, none⟩ := by unfold Addr.add; split <;> simp_all
      rw [e, hcc j hjl, List.getD_eq_getElem?_getD, hj]
      rfl)
    have he : (⟨ByteArray.empty.data ++ (Lib.bytesOf xs).toArray⟩ : ByteArray) = ⟨(Lib.bytesOf xs).toArray⟩ := by
      apply ByteArray.ext
      show (#[] : Array UInt8) ++ (Lib.bytesOf xs).toArray = (Lib.bytesOf xs).toArray
      simp
    rw [he] at hl
    exact hl

theorem run_compareSl {P : Program} (w : World) (va vb : Value) (xs ys : List Int) (ha : Sl w va xs) (hb : Sl w vb ys) :
    (Extern.BytealgCompare.compare #[va, vb]).run P w = .ok (.int .i64 (cmp xs ys)) w := by
  change Sem.run P (do pure (goInt (Extern.BytealgCompare.cmp (← Extern.Bytes.bytesOf va) (← Extern.Bytes.bytesOf vb)))) w = _
  simp only [Sem.run_bind, Sem.run_pure, run_bytesOf w va xs ha, run_bytesOf w vb ys hb, Result.andThen]
  rw [Lib.cmp_eq, ← cmp_bytes xs ys ha.bytes hb.bytes]
  rfl



end Go.Proofs.YtimmfnjkknbofaaDoor
/- Contracts: how package pack puts numbers and texts behind bytes. -/
namespace Go.Proofs.YtimmfnjkknbofaaDoor
set_option maxRecDepth 20000
open Go.RowKit
set_option linter.unusedVariables false

/-- 'copy' of a whole slice into a row of the call's own -/
theorem run_copy_sl {P : Program} (w : World) (dT sT ty e : TypeId) (hu : P.underlying dT = some (.slice e)) (hsz : (P.info? e).map (·.size) = some 1)
    (dp : Option Addr) (dLen dCap g off : Nat) (cur : List Value) (hg : w.heap[g]? = some (.cells cur.toArray e (0, 0))) (ao : Option Addr) (n cap : Nat) (zs : List Int) (S : Sl w (.slice ao n cap) zs)
    (hd : 0 < zs.length → dp = some ⟨g, off, none⟩) (hl : zs.length ≤ dLen) (hfit : off + zs.length ≤ cur.length) :
    ∃ w', (Builtin.copy_ #[dT, sT] ty #[.slice dp dLen dCap, .slice ao n cap]).run P w = .ok (goInt zs.length) w' ∧
      w'.heap[g]? = some (.cells (splice cur off (zs.map (Value.int .u8))).toArray e (0, 0)) ∧ w.grownBy w' (some g) := by
  have hn : n = zs.length := by obtain ⟨_, ao', cap', he, _⟩ := S; simp at he; exact he.2.1
  subst hn
  by_cases h0 : zs.length = 0
  · have hrun := run_copy_none (P := P) w dT sT ty e dp ao dLen dCap zs.length cap hu hsz (by rw [h0]; exact Nat.zero_min _)
    obtain rfl : zs = [] := List.eq_nil_of_length_eq_zero h0
    exact ⟨w, hrun, by simpa [splice] using hg, ⟨rfl, rfl, rfl, Nat.le_refl _, fun _ _ _ => rfl⟩⟩
  · obtain rfl := hd (by omega)
    obtain ⟨ad, rfl, hsrc⟩ := S.src (by omega)
    have hrun := run_copy_row (P := P) w dT sT ty e g off dLen dCap ad zs.length cap cur.toArray e (zs.map (Value.int .u8)) hu hsz hg (by simp; exact (Nat.min_eq_left hl).symm) hsrc (by simpa using hfit) (oneCell_bytes zs)
    rw [List.length_map] at hrun
    refine ⟨_, hrun, ?_, ⟨rfl, rfl, rfl, by simp, fun k _ hk => setRow_other w g k _ (fun e => hk (by rw [e]))⟩⟩
    rw [setRow_heap w g _ _ e _ hg]
    simp [splice]

set_option maxRecDepth 20000 in
set_option maxHeartbeats 400000 in
/-- new memory: the bytes, and so many noughts behind them -/
theorem copyWithRoom_any (w : World) (v : Value) (zs : List Int) (r : Nat) (h : Sl w v zs) (hr : zs.length + r ≤ 100000) :
    Calls Tryd.prog 105 #[v, .int .i64 r] w fun e w' =>
      e = .returned (.slice (some ⟨w.heap.size, 0, none⟩) (zs.length + r) (zs.length + r)) ∧
      w'.ownsRow w.heap.size 5 1 (.slice (some ⟨w.heap.size, 0, none⟩) (zs.length + r) (zs.length + r)) (zs.length + r) ((zs ++ List.replicate r 0).map (Value.int .u8)) ∧ Below w.heap.size w w' ∧ w.heap.size < w'.heap.size := by
  have H := h
  obtain ⟨hb, ao, cap, rfl, h1, h2, h3, h4⟩ := h
  unfold maxLen at h2
  obtain ⟨i0, hi, hz0, hz1, hz2⟩ := info_parts infoU8
  obtain ⟨X, hX⟩ : ∃ X, X = zs.map (Value.int .u8) := ⟨_, rfl⟩
  have hXl : X.length = zs.length := by simp [hX]
  have HX : Hid (X = zs.map (Value.int .u8)) := hX
  obtain ⟨Z, hZ⟩ : ∃ Z, Z = List.replicate (zs.length + r) (Value.int .u8 0) := ⟨_, rfl⟩
  have hZl : Z.length = zs.length + r := by simp [hZ]
  have HZ : Hid (Z = List.replicate (zs.length + r) (Value.int .u8 0)) := hZ
  obtain ⟨B, hB⟩ : ∃ B, B = w.heap.size := ⟨_, rfl⟩
  have hBB : w.heap.size = B := hB.symm
  clear hX hZ h4 hB
  go_enter Tryd.func105, Tryd.ntmps105
  go_wp2_with (at_make; refine wpList_make_full _ rfl _ _ 26 rfl w.heap.size 5 i0 (.int .u8 0) 1 Tryd.underlying26 hi hz0 hz1 .i64 .i64 _ _ (zs.length + r) rfl rfl (by omega) (by omega) (by rw [hz2]; omega) (by unfold maxLen; omega) (Nat.le_refl _) ?_; intro w1 ho1 hg1; rw [madeBytes, ← HZ.out] at ho1; have G1 : Hid (w1.heap[B]? = some (.cells Z.toArray 5 (0, 0))) := hBB ▸ own_heap ho1; have hb1 : Below B w w1 := hBB ▸ (Below.refl w.heap.size w).grown hg1 (Nat.le_refl _) (by intro k hk; cases hk); have S1 := H.grown0 hg1; clear ho1 hg1)
  obtain ⟨w2, hrun, G2, hg2⟩ := run_copy_sl (P := Tryd.prog) w1 26 26 3 5 Tryd.underlying26 sizeU8 (some ⟨B, 0, none⟩) (zs.length + r) (zs.length + r) B 0 Z G1.out ao zs.length cap zs S1 (fun _ => rfl) (by omega) (by omega)
  rw [hrun]
  have HG2 : Hid _ := G2
  have hb2 : Below B w w2 := hb1.grown hg2 (by have := hb1.size; omega) (by intro k hk; cases hk; exact Nat.le_refl _)
  clear G2 hrun hg2
  simp only [Result.andThen]
  rw [Oper.upon_value]
  go_wp2
  go_ret
  have hlt : B < w2.heap.size := (Array.getElem?_eq_some_iff.1 HG2.out).1
  rw [hBB]
  refine ⟨rfl, heap_own (n := zs.length + r) ?_ (Nat.le_refl _) (by simp) (by unfold maxLen; omega), hb2, hlt⟩
  rw [HG2.out]
  congr 2
  rw [HZ.out]
  simp [splice]

/-- a number in n bytes, the highest first -/
def numBytes (v : Nat) : Nat → List Int
  | 0 => []
  | n + 1 => numBytes (v / 256) n ++ [((v % 256 : Nat) : Int)]

theorem numBytes_len : ∀ (n v : Nat), (numBytes v n).length = n
  | 0, _ => rfl
  | n + 1, v => by simp [numBytes, numBytes_len n (v / 256)]

theorem numBytes_ok : ∀ (n v : Nat), ByteOk (numBytes v n)
  | 0, _ => by intro z hz; cases hz
  | n + 1, v => by
    intro z hz
    rcases List.mem_append.1 hz with hz | hz
    · exact numBytes_ok n _ z hz
    · simp at hz; omega

theorem set_back (zs tail : List Int) (r : Nat) (x : Int) :
    ((zs ++ List.replicate (r + 1) 0 ++ tail).map (Value.int .u8)).set (zs.length + r) (.int .u8 x) = (zs ++ List.replicate r 0 ++ (x :: tail)).map (Value.int .u8) := by
  have e : List.replicate (r + 1) (0 : Int) = List.replicate r 0 ++ [0] := by rw [List.replicate_succ']
  have hl : ((zs ++ List.replicate r (0 : Int)).map (Value.int .u8)).length = zs.length + r := by simp
  rw [e, ← List.append_assoc, List.append_assoc _ [0] tail, List.map_append, List.set_append_right _ _ (by omega), hl, Nat.sub_self]
  simp

set_option maxHeartbeats 400000 in
theorem putNumber_any (w : World) (vb : Value) (zs : List Int) (v n : Nat) (h : Sl w vb zs) (hl : zs.length ≤ 50000) (hv : v < 18446744073709551616) (hn : n ≤ 8) :
    Calls Tryd.prog 78 #[vb, .int .u64 v, .int .i64 n] w fun e w' => ∃ u, e = .returned u ∧
      w'.ownsRow w.heap.size 5 1 u (zs ++ numBytes v n).length ((zs ++ numBytes v n).map (Value.int .u8)) ∧ Below w.heap.size w w' ∧ w.heap.size < w'.heap.size := by
  have H := h
  obtain ⟨hb, ao, cap, rfl, h1, h2, h3, h4⟩ := h
  obtain ⟨B, hB⟩ : ∃ B, B = w.heap.size := ⟨_, rfl⟩
  have HC := copyWithRoom_any w (.slice ao zs.length cap) zs n H (by omega)
  rw [← hB] at HC
  rw [← hB]
  have HB : Hid (B = w.heap.size) := hB
  have HL := hide (numBytes_len n v)
  clear hB h3 h4 h2
  go_enter Tryd.func78, Tryd.ntmps78
  go_wp2_with (go_at_call 105; refine HC.mono ?_; rintro e w1 ⟨rfl, ho1, hb1, hz1⟩)
  go_loopw [1, 8] (fun vv i wr => ∃ (cur r : Nat) (tail : List Int), cur < 18446744073709551616 ∧ numBytes v n = numBytes cur r ++ tail ∧ vv = .int .u64 cur ∧ i = .int .i64 (((zs.length + r : Nat) : Int) - 1) ∧
      r + tail.length = n ∧ wr.ownsRow B 5 1 (.slice (some ⟨B, 0, none⟩) (zs.length + n) (zs.length + n)) (zs.length + n) ((zs ++ List.replicate r 0 ++ tail).map (Value.int .u8)) ∧ Below B w wr ∧ B < wr.heap.size)
    (fun _ i _ => (intOf i + 1 - zs.length).toNat)
  case atStart => exact ⟨v, n, [], hv, by simp, rfl, by go_num, by simp, by simpa using ho1, hb1, hz1⟩
  case round =>
    obtain ⟨cur, r, tail, hc1, hc2, rfl, rfl, hc3, hown, hbr, hzr⟩ := hrel
    have HC2 := hide hc2
    clear hc2
    by_cases hr : r = 0
    · subst hr
      have HO := hide hown
      clear hown
      go_wp2
      go_ret
      have e1 : zs ++ numBytes v n = zs ++ tail := by rw [HC2.out]; rfl
      have e2 : (zs ++ numBytes v n).length = zs.length + n := by rw [List.length_append, HL.out]
      refine ⟨_, rfl, ?_, hbr, hzr⟩
      rw [e2, e1]
      have := HO.out
      rwa [List.replicate_zero, List.append_nil] at this
    · obtain ⟨m, rfl⟩ : ∃ m, r = m + 1 := ⟨r - 1, by omega⟩
      obtain ⟨K, hK⟩ : ∃ K, K = zs.length + m := ⟨_, rfl⟩
      have hKi : (((zs.length + (m + 1) : Nat) : Int) - 1) = (K : Int) := by omega
      have hcell := hown.cellAt K (by omega)
      have hfr := hown.frozenAt K
      have hsome : ∃ q, wr.cell? ⟨B, K, none⟩ = some q := by
        rw [hcell]
        exact ⟨_, List.getElem?_eq_getElem (by simp; omega)⟩
      obtain ⟨q, hq⟩ := hsome
      have hst := hown.stored K (.int .u8 ((cur % 256 : Nat) : Int))
      have HO := hst.1
      rw [hK, set_back, ← hK] at HO
      have HOO := hide HO
      rw [hKi]
      have HK := hide hK
      have hKn : K < zs.length + n := by omega
      have hKz : zs.length ≤ K := by omega
      clear hcell hK hst HO hown hKi
      go_wp2
      go_roundw
      case rel =>
        refine ⟨cur / 256, m, ((cur % 256 : Nat) : Int) :: tail, by omega, ?_, by go_num, by have := HK.out; go_num, by simp; omega, ?_, hbr.setCell (Nat.le_refl _) _, by simpa using hzr⟩
        · rw [HC2.out, numBytes, List.append_assoc]; rfl
        · exact HOO.out
      case measure => simp [intOf]; omega
theorem packU16_any (w : World) (vb : Value) (zs : List Int) (v : Nat) (h : Sl w vb zs) (hl : zs.length ≤ 50000) (hv : v < 65536) :
    Calls Tryd.prog 53 #[vb, .int .u16 v] w fun e w' => ∃ u, e = .returned u ∧ w'.ownsRow w.heap.size 5 1 u (zs ++ numBytes v 2).length ((zs ++ numBytes v 2).map (Value.int .u8)) ∧ Below w.heap.size w w' ∧ w.heap.size < w'.heap.size := by
  have HC := putNumber_any w vb zs v 2 h hl (by omega) (by omega)
  obtain ⟨_, ao, cap, rfl, _⟩ := h
  go_enter Tryd.func53, Tryd.ntmps53
  go_wp2_with (go_at_call 78; refine HC.mono ?_; rintro e w1 ⟨u, rfl, ho1, hb1, hz1⟩)
  go_ret
  exact ⟨u, rfl, ho1, hb1, hz1⟩
def txt (ts : List Int) : List Int := (ts.length : Int) :: ts
theorem txt_ok {ts : List Int} (h : ByteOk ts) (hl : ts.length ≤ 255) : ByteOk (txt ts) := by
  intro z hz
  rcases List.mem_cons.1 hz with rfl | hz
  · omega
  · exact h z hz
theorem set_next (xs : List Int) (n : Nat) (x : Int) (hn : 0 < n) :
    ((xs ++ List.replicate n 0).map (Value.int .u8)).set xs.length (.int .u8 x) = (xs ++ [x] ++ List.replicate (n - 1) 0).map (Value.int .u8) := by
  obtain ⟨m, rfl⟩ : ∃ m, n = m + 1 := ⟨n - 1, by omega⟩
  rw [List.replicate_succ, List.map_append, List.set_append_right _ _ (by simp), List.length_map, Nat.sub_self]
  simp

theorem splice_tail (zs ts : List Int) (x : Int) :
    splice ((zs ++ [x] ++ List.replicate ts.length 0).map (Value.int .u8)) (zs.length + 1) (ts.map (Value.int .u8)) = (zs ++ (x :: ts)).map (Value.int .u8) := by
  have e : (zs ++ [x] ++ List.replicate ts.length (0 : Int)).map (Value.int .u8) = (zs ++ [x]).map (Value.int .u8) ++ (List.replicate ts.length (0 : Int)).map (Value.int .u8) := List.map_append
  have hl : ((zs ++ [x]).map (Value.int .u8)).length = zs.length + 1 := by simp
  unfold splice
  rw [e, List.take_append_of_le_length (by omega), List.take_of_length_le (by omega), List.drop_eq_nil_of_le (by simp; omega)]
  simp

theorem text_set {w : World} {base : Nat} {e : TypeId} {B n m : Nat} {zs : List Int} (h : w.ownsRow base e 1 (.slice (some ⟨B, 0, none⟩) n n) n ((zs ++ List.replicate (1 + m) 0).map (Value.int .u8))) :
    Hid ((w.setCell ⟨B, zs.length, none⟩ (.int .u8 (m : Int))).ownsRow base e 1 (.slice (some ⟨B, 0, none⟩) n n) n ((zs ++ [(m : Int)] ++ List.replicate m 0).map (Value.int .u8))) := by
  have := (h.stored zs.length (.int .u8 (m : Int))).1
  rw [set_next zs (1 + m) (m : Int) (by omega), Nat.add_sub_cancel_left] at this
  exact this


end Go.Proofs.YtimmfnjkknbofaaDoor
