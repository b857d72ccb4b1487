/- Contracts: how package pack puts numbers and texts behind bytes. -/
import Derived.Test.YtmjkpgmmfooajaaNByt
namespace Go.Proofs.Ytmjkpgmmfooajaa
set_option maxRecDepth 20000
open Go.RowKit
set_option linter.unusedVariables false

/-- 'copy' of a whole slice into a row of the call's own -/
theorem run_copy_sl {P : Program} (w : World) (dT sT ty e : TypeId) (hu : P.underlying dT = some (.slice e)) (hsz : (P.info? e).map (·.size) = some 1)
    (dp : Option Addr) (dLen dCap g off : Nat) (cur : List Value) (hg : w.heap[g]? = some (.cells cur.toArray e (0, 0))) (ao : Option Addr) (n cap : Nat) (zs : List Int) (S : Sl w (.slice ao n cap) zs)
    (hd : 0 < zs.length → dp = some ⟨g, off, none⟩) (hl : zs.length ≤ dLen) (hfit : off + zs.length ≤ cur.length) :
    ∃ w', (Builtin.copy_ #[dT, sT] ty #[.slice dp dLen dCap, .slice ao n cap]).run P w = .ok (goInt zs.length) w' ∧
      w'.heap[g]? = some (.cells (splice cur off (zs.map (Value.int .u8))).toArray e (0, 0)) ∧ w.grownBy w' (some g) := by
  have hn : n = zs.length := by obtain ⟨_, ao', cap', he, _⟩ := S; simp at he; exact he.2.1
  subst hn
  by_cases h0 : zs.length = 0
  · have hrun := run_copy_none (P := P) w dT sT ty e dp ao dLen dCap zs.length cap hu hsz (by rw [h0]; exact Nat.zero_min _)
    obtain rfl : zs = [] := List.eq_nil_of_length_eq_zero h0
    exact ⟨w, hrun, by simpa [splice] using hg, ⟨rfl, rfl, rfl, Nat.le_refl _, fun _ _ _ => rfl⟩⟩
  · obtain rfl := hd (by omega)
    obtain ⟨ad, rfl, hsrc⟩ := S.src (by omega)
    have hrun := run_copy_row (P := P) w dT sT ty e g off dLen dCap ad zs.length cap cur.toArray e (zs.map (Value.int .u8)) hu hsz hg (by simp; exact (Nat.min_eq_left hl).symm) hsrc (by simpa using hfit) (oneCell_bytes zs)
    rw [List.length_map] at hrun
    refine ⟨_, hrun, ?_, ⟨rfl, rfl, rfl, by simp, fun k _ hk => setRow_other w g k _ (fun e => hk (by rw [e]))⟩⟩
    rw [setRow_heap w g _ _ e _ hg]
    simp [splice]

set_option maxRecDepth 20000 in
set_option maxHeartbeats 400000 in
/-- new memory: the bytes, and so many noughts behind them -/
theorem copyWithRoom_any (w : World) (v : Value) (zs : List Int) (r : Nat) (h : Sl w v zs) (hr : zs.length + r ≤ 100000) :
    Calls Try.prog 53 #[v, .int .i64 r] w fun e w' =>
      e = .returned (.slice (some ⟨w.heap.size, 0, none⟩) (zs.length + r) (zs.length + r)) ∧
      w'.ownsRow w.heap.size 5 1 (.slice (some ⟨w.heap.size, 0, none⟩) (zs.length + r) (zs.length + r)) (zs.length + r) ((zs ++ List.replicate r 0).map (Value.int .u8)) ∧ Below w.heap.size w w' ∧ w.heap.size < w'.heap.size := by
  have H := h
  obtain ⟨hb, ao, cap, rfl, h1, h2, h3, h4⟩ := h
  unfold maxLen at h2
  obtain ⟨i0, hi, hz0, hz1, hz2⟩ := info_parts infoU8
  obtain ⟨X, hX⟩ : ∃ X, X = zs.map (Value.int .u8) := ⟨_, rfl⟩
  have hXl : X.length = zs.length := by simp [hX]
  have HX : Hid (X = zs.map (Value.int .u8)) := hX
  obtain ⟨Z, hZ⟩ : ∃ Z, Z = List.replicate (zs.length + r) (Value.int .u8 0) := ⟨_, rfl⟩
  have hZl : Z.length = zs.length + r := by simp [hZ]
  have HZ : Hid (Z = List.replicate (zs.length + r) (Value.int .u8 0)) := hZ
  obtain ⟨B, hB⟩ : ∃ B, B = w.heap.size := ⟨_, rfl⟩
  have hBB : w.heap.size = B := hB.symm
  clear hX hZ h4 hB
  go_enter Try.func53, Try.ntmps53
  go_wp2_with (at_make; refine wpList_make_full _ rfl _ _ 23 rfl w.heap.size 5 i0 (.int .u8 0) 1 Try.underlying23 hi hz0 hz1 .i64 .i64 _ _ (zs.length + r) rfl rfl (by omega) (by omega) (by rw [hz2]; omega) (by unfold maxLen; omega) (Nat.le_refl _) ?_; intro w1 ho1 hg1; rw [madeBytes, ← HZ.out] at ho1; have G1 : Hid (w1.heap[B]? = some (.cells Z.toArray 5 (0, 0))) := hBB ▸ own_heap ho1; have hb1 : Below B w w1 := hBB ▸ (Below.refl w.heap.size w).grown hg1 (Nat.le_refl _) (by intro k hk; cases hk); have S1 := H.grown0 hg1; clear ho1 hg1)
  obtain ⟨w2, hrun, G2, hg2⟩ := run_copy_sl (P := Try.prog) w1 23 23 3 5 Try.underlying23 sizeU8 (some ⟨B, 0, none⟩) (zs.length + r) (zs.length + r) B 0 Z G1.out ao zs.length cap zs S1 (fun _ => rfl) (by omega) (by omega)
  rw [hrun]
  have HG2 : Hid _ := G2
  have hb2 : Below B w w2 := hb1.grown hg2 (by have := hb1.size; omega) (by intro k hk; cases hk; exact Nat.le_refl _)
  clear G2 hrun hg2
  simp only [Result.andThen]
  rw [Oper.upon_value]
  go_wp2
  go_ret
  have hlt : B < w2.heap.size := (Array.getElem?_eq_some_iff.1 HG2.out).1
  rw [hBB]
  refine ⟨rfl, heap_own (n := zs.length + r) ?_ (Nat.le_refl _) (by simp) (by unfold maxLen; omega), hb2, hlt⟩
  rw [HG2.out]
  congr 2
  rw [HZ.out]
  simp [splice]

/-- a number in n bytes, the highest first -/
def numBytes (v : Nat) : Nat → List Int
  | 0 => []
  | n + 1 => numBytes (v / 256) n ++ [((v % 256 : Nat) : Int)]

theorem numBytes_len : ∀ (n v : Nat), (numBytes v n).length = n
  | 0, _ => rfl
  | n + 1, v => by simp [numBytes, numBytes_len n (v / 256)]

theorem numBytes_ok : ∀ (n v : Nat), ByteOk (numBytes v n)
  | 0, _ => by intro z hz; cases hz
  | n + 1, v => by
    intro z hz
    rcases List.mem_append.1 hz with hz | hz
    · exact numBytes_ok n _ z hz
    · simp at hz; omega

theorem set_back (zs tail : List Int) (r : Nat) (x : Int) :
    ((zs ++ List.replicate (r + 1) 0 ++ tail).map (Value.int .u8)).set (zs.length + r) (.int .u8 x) = (zs ++ List.replicate r 0 ++ (x :: tail)).map (Value.int .u8) := by
  have e : List.replicate (r + 1) (0 : Int) = List.replicate r 0 ++ [0] := by rw [List.replicate_succ']
  have hl : ((zs ++ List.replicate r (0 : Int)).map (Value.int .u8)).length = zs.length + r := by simp
  rw [e, ← List.append_assoc, List.append_assoc _ [0] tail, List.map_append, List.set_append_right _ _ (by omega), hl, Nat.sub_self]
  simp

def txt (ts : List Int) : List Int := (ts.length : Int) :: ts
theorem txt_ok {ts : List Int} (h : ByteOk ts) (hl : ts.length ≤ 255) : ByteOk (txt ts) := by
  intro z hz
  rcases List.mem_cons.1 hz with rfl | hz
  · omega
  · exact h z hz
theorem set_next (xs : List Int) (n : Nat) (x : Int) (hn : 0 < n) :
    ((xs ++ List.replicate n 0).map (Value.int .u8)).set xs.length (.int .u8 x) = (xs ++ [x] ++ List.replicate (n - 1) 0).map (Value.int .u8) := by
  obtain ⟨m, rfl⟩ : ∃ m, n = m + 1 := ⟨n - 1, by omega⟩
  rw [List.replicate_succ, List.map_append, List.set_append_right _ _ (by simp), List.length_map, Nat.sub_self]
  simp

theorem splice_tail (zs ts : List Int) (x : Int) :
    splice ((zs ++ [x] ++ List.replicate ts.length 0).map (Value.int .u8)) (zs.length + 1) (ts.map (Value.int .u8)) = (zs ++ (x :: ts)).map (Value.int .u8) := by
  have e : (zs ++ [x] ++ List.replicate ts.length (0 : Int)).map (Value.int .u8) = (zs ++ [x]).map (Value.int .u8) ++ (List.replicate ts.length (0 : Int)).map (Value.int .u8) := List.map_append
  have hl : ((zs ++ [x]).map (Value.int .u8)).length = zs.length + 1 := by simp
  unfold splice
  rw [e, List.take_append_of_le_length (by omega), List.take_of_length_le (by omega), List.drop_eq_nil_of_le (by simp; omega)]
  simp

theorem text_set {w : World} {base : Nat} {e : TypeId} {B n m : Nat} {zs : List Int} (h : w.ownsRow base e 1 (.slice (some ⟨B, 0, none⟩) n n) n ((zs ++ List.replicate (1 + m) 0).map (Value.int .u8))) :
    Hid ((w.setCell ⟨B, zs.length, none⟩ (.int .u8 (m : Int))).ownsRow base e 1 (.slice (some ⟨B, 0, none⟩) n n) n ((zs ++ [(m : Int)] ++ List.replicate m 0).map (Value.int .u8))) := by
  have := (h.stored zs.length (.int .u8 (m : Int))).1
  rw [set_next zs (1 + m) (m : Int) (by omega), Nat.add_sub_cancel_left] at this
  exact this


end Go.Proofs.Ytmjkpgmmfooajaa
