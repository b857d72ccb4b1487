/- Contracts: how package pack puts numbers and texts behind bytes. -/
import Derived.Test.YtbopcppagfhjnaaCmp
import Derived.Laws.CopyOwn
namespace Go.Proofs.Ytbopcppagfhjnaa
open Go.RowKit

theorem infoU8 : (Try.prog.info? 5).map (fun i => (i.zero, i.size, i.bytes)) = some (some (.int .u8 0), 1, 1) := by kernel_rfl
theorem sizeU8 : (Try.prog.info? 5).map (·.size) = some 1 := by kernel_rfl

theorem oneCell_bytes (zs : List Int) : ∀ v ∈ zs.map (Value.int .u8), v.oneCell' = true := by
  intro v hv
  obtain ⟨z, _, rfl⟩ := List.mem_map.1 hv
  rfl

/-- the cells that a slice leads to, in 'Addr.add' -/
theorem Sl.src {w : World} {ao : Option Addr} {n cap : Nat} {zs : List Int} (h : Sl w (.slice ao n cap) zs) (hz : 0 < zs.length) :
    ∃ ad, ao = some ad ∧ ∀ j v, (zs.map (Value.int .u8))[j]? = some v → w.cell? (ad.add j) = some v := by
  obtain ⟨_, ao', cap', he, _, _, _, hc⟩ := h
  obtain ⟨rfl, _, _⟩ : ao = ao' ∧ n = zs.length ∧ cap = cap' := by simpa using he
  obtain ⟨b, off, rfl, hcc⟩ := hc (by intro h; simp [h] at hz)
  refine ⟨_, rfl, fun j v hj => ?_⟩
  have hjl : j < zs.length := by have := (List.getElem?_eq_some_iff.1 hj).1; simpa using this
  have e : (⟨b, off, none⟩ : Addr).add j = ⟨b, off + j, none⟩ := by unfold Addr.add; split <;> simp_all
  rw [e, hcc j hjl, getD_lt zs hjl]
  simpa [hjl] using hj

/-- a row that is owned whole: its block -/
theorem own_heap {w : World} {base : Nat} {e : TypeId} {g n : Nat} {xs : List Value} (h : w.ownsRow base e 1 (.slice (some ⟨g, 0, none⟩) n n) n xs) : w.heap[g]? = some (.cells xs.toArray e (0, 0)) := by
  obtain ⟨h1, h2⟩ := h
  rcases h2 with ⟨h, _⟩ | ⟨g', cap, cur, h, _, hg, _, _, hcs, ht⟩
  · simp at h
  · simp only [Value.slice.injEq, Option.some.injEq, Addr.mk.injEq, and_true, true_and] at h
    obtain ⟨rfl, rfl⟩ := h
    rw [hg]
    have : cur = xs.toArray := by
      apply Array.toList_inj.1
      rw [← ht, List.take_of_length_le (by simp [hcs])]
    rw [this]

theorem own_some {w : World} {base : Nat} {e : TypeId} {g n cap : Nat} {xs : List Value} (h : w.ownsRow base e 1 (.slice (some ⟨g, 0, none⟩) n cap) n xs) (j : Nat) (hj : j < n) : ∃ q, w.cell? ⟨g, j, none⟩ = some q := by
  rw [h.cellAt j (by omega)]
  have := h.1
  exact ⟨_, List.getElem?_eq_getElem (by omega)⟩

theorem heap_own {w : World} {base : Nat} {e : TypeId} {g n : Nat} {xs : List Value} (h : w.heap[g]? = some (.cells xs.toArray e (0, 0))) (hb : base ≤ g) (hn : xs.length = n) (hm : n ≤ maxLen) : w.ownsRow base e 1 (.slice (some ⟨g, 0, none⟩) n n) n xs :=
  ⟨by omega, .inr ⟨g, n, xs.toArray, rfl, hb, h, Nat.le_refl _, hm, by simp [hn], by simp [← hn]⟩⟩

theorem madeBytes (n : Nat) : (madeCells (Value.int .u8 0).cells (n * 1)).toList = List.replicate n (Value.int .u8 0) := by
  show (madeCells #[Value.int .u8 0] (n * 1)).toList = _
  rw [toList_madeCells_one, Nat.mul_one]

/-- 'copy' of a whole slice into a row of the call's own -/
theorem run_copy_sl {P : Program} (w : World) (dT sT ty e : TypeId) (hu : P.underlying dT = some (.slice e)) (hsz : (P.info? e).map (·.size) = some 1)
    (dp : Option Addr) (dLen dCap g off : Nat) (cur : List Value) (hg : w.heap[g]? = some (.cells cur.toArray e (0, 0))) (ao : Option Addr) (n cap : Nat) (zs : List Int) (S : Sl w (.slice ao n cap) zs)
    (hd : 0 < zs.length → dp = some ⟨g, off, none⟩) (hl : zs.length ≤ dLen) (hfit : off + zs.length ≤ cur.length) :
    ∃ w', (Builtin.copy_ #[dT, sT] ty #[.slice dp dLen dCap, .slice ao n cap]).run P w = .ok (goInt zs.length) w' ∧
      w'.heap[g]? = some (.cells (splice cur off (zs.map (Value.int .u8))).toArray e (0, 0)) ∧ w.grownBy w' (some g) := by
  have hn : n = zs.length := by obtain ⟨_, ao', cap', he, _⟩ := S; simp at he; exact he.2.1
  subst hn
  by_cases h0 : zs.length = 0
  · have hrun := run_copy_none (P := P) w dT sT ty e dp ao dLen dCap zs.length cap hu hsz (by rw [h0]; exact Nat.zero_min _)
    obtain rfl : zs = [] := List.eq_nil_of_length_eq_zero h0
    exact ⟨w, hrun, by simpa [splice] using hg, ⟨rfl, rfl, rfl, Nat.le_refl _, fun _ _ _ => rfl⟩⟩
  · obtain rfl := hd (by omega)
    obtain ⟨ad, rfl, hsrc⟩ := S.src (by omega)
    have hrun := run_copy_row (P := P) w dT sT ty e g off dLen dCap ad zs.length cap cur.toArray e (zs.map (Value.int .u8)) hu hsz hg (by simp; exact (Nat.min_eq_left hl).symm) hsrc (by simpa using hfit) (oneCell_bytes zs)
    rw [List.length_map] at hrun
    refine ⟨_, hrun, ?_, ⟨rfl, rfl, rfl, by simp, fun k _ hk => setRow_other w g k _ (fun e => hk (by rw [e]))⟩⟩
    rw [setRow_heap w g _ _ e _ hg]
    simp [splice]

set_option maxHeartbeats 400000 in
/-- new memory: the bytes, and so many noughts behind them -/
theorem copyWithRoom_any (w : World) (v : Value) (zs : List Int) (r : Nat) (h : Sl w v zs) (hr : zs.length + r ≤ 100000) :
    Calls Try.prog 40 #[v, .int .i64 r] w fun e w' =>
      e = .returned (.slice (some ⟨w.heap.size, 0, none⟩) (zs.length + r) (zs.length + r)) ∧
      w'.ownsRow w.heap.size 5 1 (.slice (some ⟨w.heap.size, 0, none⟩) (zs.length + r) (zs.length + r)) (zs.length + r) ((zs ++ List.replicate r 0).map (Value.int .u8)) ∧ Below w.heap.size w w' ∧ w.heap.size < w'.heap.size := by
  have H := h
  obtain ⟨hb, ao, cap, rfl, h1, h2, h3, h4⟩ := h
  unfold maxLen at h2
  obtain ⟨i0, hi, hz0, hz1, hz2⟩ := info_parts infoU8
  obtain ⟨X, hX⟩ : ∃ X, X = zs.map (Value.int .u8) := ⟨_, rfl⟩
  have hXl : X.length = zs.length := by simp [hX]
  have HX : Hid (X = zs.map (Value.int .u8)) := hX
  obtain ⟨Z, hZ⟩ : ∃ Z, Z = List.replicate (zs.length + r) (Value.int .u8 0) := ⟨_, rfl⟩
  have hZl : Z.length = zs.length + r := by simp [hZ]
  have HZ : Hid (Z = List.replicate (zs.length + r) (Value.int .u8 0)) := hZ
  obtain ⟨B, hB⟩ : ∃ B, B = w.heap.size := ⟨_, rfl⟩
  have hBB : w.heap.size = B := hB.symm
  clear hX hZ h4 hB
  go_enter Try.func40, Try.ntmps40
  go_wp2_with (at_make; refine wpList_make_full _ rfl _ _ 22 rfl w.heap.size 5 i0 (.int .u8 0) 1 Try.underlying22 hi hz0 hz1 .i64 .i64 _ _ (zs.length + r) rfl rfl (by omega) (by omega) (by rw [hz2]; omega) (by unfold maxLen; omega) (Nat.le_refl _) ?_; intro w1 ho1 hg1; rw [madeBytes, ← HZ.out] at ho1; have G1 : Hid (w1.heap[B]? = some (.cells Z.toArray 5 (0, 0))) := hBB ▸ own_heap ho1; have hb1 : Below B w w1 := hBB ▸ (Below.refl w.heap.size w).grown hg1 (Nat.le_refl _) (by intro k hk; cases hk); have S1 := H.grown0 hg1; clear ho1 hg1)
  obtain ⟨w2, hrun, G2, hg2⟩ := run_copy_sl (P := Try.prog) w1 22 22 3 5 Try.underlying22 sizeU8 (some ⟨B, 0, none⟩) (zs.length + r) (zs.length + r) B 0 Z G1.out ao zs.length cap zs S1 (fun _ => rfl) (by omega) (by omega)
  rw [hrun]
  have HG2 : Hid _ := G2
  have hb2 : Below B w w2 := hb1.grown hg2 (by have := hb1.size; omega) (by intro k hk; cases hk; exact Nat.le_refl _)
  clear G2 hrun hg2
  simp only [Result.andThen]
  rw [Oper.upon_value]
  go_wp2
  go_ret
  have hlt : B < w2.heap.size := (Array.getElem?_eq_some_iff.1 HG2.out).1
  rw [hBB]
  refine ⟨rfl, heap_own (n := zs.length + r) ?_ (Nat.le_refl _) (by simp) (by unfold maxLen; omega), hb2, hlt⟩
  rw [HG2.out]
  congr 2
  rw [HZ.out]
  simp [splice]

end Go.Proofs.Ytbopcppagfhjnaa
