/- Contracts: what stands behind all that begin with a text, by package pack and by the document's answer. -/
import Derived.Test.YtbopcppagfhjnaaJoin
import Derived.Test.YtbopcppagfhjnaaRdVar
namespace Go.Proofs.Ytbopcppagfhjnaa
open Go.RowKit

/-- how many of the first n bytes are left, once bytes 255 at their end are struck -/
def strip (zs : List Int) : Nat → Nat
  | 0 => 0
  | n + 1 => if zs.getD n 0 = 255 then strip zs n else n + 1

theorem strip_le (zs : List Int) : ∀ n, strip zs n ≤ n
  | 0 => Nat.le_refl _
  | n + 1 => by have := strip_le zs n; simp only [strip]; split <;> omega

theorem strip_last (zs : List Int) : ∀ n, strip zs n = 0 ∨ zs.getD (strip zs n - 1) 0 ≠ 255
  | 0 => .inl rfl
  | n + 1 => by
    have := strip_last zs n
    simp only [strip]
    split
    · exact this
    · rename_i h; exact .inr (by simpa using h)

def stripped (zs : List Int) : Nat := strip zs zs.length
/-- what stands behind, where there is any -/
def afterB (zs : List Int) : List Int := zs.take (stripped zs - 1) ++ [zs.getD (stripped zs - 1) 0 + 1]

theorem sl_take {w : World} {ao : Option Addr} {zs : List Int} {cap : Nat} (n : Nat) (h : Sl w (.slice ao zs.length cap) zs) (hn : n ≤ zs.length) : Sl w (.slice ao n cap) (zs.take n) := by
  obtain ⟨hb, ao', cap', he, h1, h2, h3, h4⟩ := h
  simp only [Value.slice.injEq, true_and] at he
  obtain ⟨rfl, rfl⟩ := he
  have hl : (zs.take n).length = n := by simp; omega
  refine ⟨hb.take n, ao, cap, by rw [hl], by omega, h2, h3, fun hz => ?_⟩
  obtain ⟨b, off, rfl, hc⟩ := h4 (by intro h; simp [h] at hz)
  refine ⟨b, off, rfl, fun i hi => ?_⟩
  rw [getD_take zs n i (by omega)]
  exact hc i (by omega)

theorem take_set_last (zs : List Int) (n : Nat) (x : Int) (h0 : 0 < n) (hn : n ≤ zs.length) : ((zs.take n).map (Value.int .u8)).set (n - 1) (.int .u8 x) = (zs.take (n - 1) ++ [x]).map (Value.int .u8) := by
  obtain ⟨m, rfl⟩ : ∃ m, n = m + 1 := ⟨n - 1, by omega⟩
  rw [List.take_succ_eq_append_getElem (by omega)]
  have hl : (zs.take m).length = m := by simp; omega
  rw [Nat.add_sub_cancel, List.map_append, List.set_append_right _ _ (by simp; omega), List.length_map, hl, Nat.sub_self, List.map_append]
  rfl

theorem afterB_len (zs : List Int) (h : 0 < stripped zs) : (afterB zs).length = stripped zs := by
  have := strip_le zs zs.length
  unfold afterB stripped at *
  simp; omega

theorem afterB_ok (zs : List Int) (hb : ByteOk zs) (h : 0 < stripped zs) : ByteOk (afterB zs) := by
  intro z hz
  unfold afterB at hz
  rcases List.mem_append.1 hz with hz | hz
  · exact hb z (List.mem_of_mem_take hz)
  · simp only [List.mem_singleton] at hz
    have h1 := hb.get (stripped zs - 1)
    have h2 := strip_last zs zs.length
    unfold stripped at *
    omega

set_option maxHeartbeats 400000 in
theorem packAfter_no (w : World) (v : Value) (zs : List Int) (h : Sl w v zs) (h0 : stripped zs = 0) :
    Calls Try.prog 28 #[v] w fun e w' => e = .returned (.tuple #[.slice none 0 0, .bool false]) ∧ w' = w := by
  obtain ⟨hb, ao, cap, rfl, h1, h2, h3, h4⟩ := h
  unfold maxLen at h2
  go_enter Try.func28, Try.ntmps28
  go_wp2
  go_loop [4] (fun n => ∃ k : Nat, k ≤ zs.length ∧ n = .int .i64 k ∧ strip zs k = 0) (fun n => (intOf n).toNat)
  case atStart => exact ⟨zs.length, Nat.le_refl _, rfl, h0⟩
  case round =>
    obtain ⟨k, hk, rfl, hs⟩ := hrel
    by_cases hk0 : k = 0
    · subst hk0
      go_wp2
      go_ret2
      exact ⟨rfl, rfl⟩
    · obtain ⟨m, rfl⟩ : ∃ m, k = m + 1 := ⟨k - 1, by omega⟩
      obtain ⟨b, o, rfl, hc⟩ := h4 (by intro h; simp [h] at hk)
      have c1 := hc m (by omega)
      have hx : zs.getD m 0 = 255 := by
        apply Classical.byContradiction
        intro hne
        simp only [strip, if_neg hne] at hs
        cases hs
      have hs' : strip zs m = 0 := by simpa only [strip, if_pos hx] using hs
      rw [hx] at c1
      have HS := hide hs'
      clear hc h4 hs hx hs'
      go_wp2
      go_round
      case rel => exact ⟨m, by omega, by go_num, HS.out⟩
      case measure => simp [intOf]

theorem strip_round (zs : List Int) (m n : Nat) (h : strip zs (m + 1) = n) (hne : n ≠ m + 1) : zs.getD m 0 = 255 ∧ strip zs m = n := by
  simp only [strip] at h
  split at h
  · exact ⟨‹_›, h⟩
  · omega

theorem own_last {w : World} {base : Nat} {e : TypeId} {B m cap : Nat} {zs : List Int} (ho : w.ownsRow base e 1 (.slice (some ⟨B, 0, none⟩) (m + 1) cap) (m + 1) ((zs.take (m + 1)).map (Value.int .u8))) (hm : m + 1 ≤ zs.length) : w.cell? ⟨B, m, none⟩ = some (.int .u8 (zs.getD m 0)) := by
  rw [ho.cellAt m (by omega), getD_lt zs (by omega)]
  simp

set_option maxHeartbeats 400000 in
theorem packAfter_yes (w : World) (v : Value) (zs : List Int) (h : Sl w v zs) (hl : zs.length ≤ 50000) (h0 : 0 < stripped zs) :
    Calls Try.prog 28 #[v] w fun e w' => ∃ u, e = .returned (.tuple #[u, .bool true]) ∧ w'.ownsRow w.heap.size 5 1 u (afterB zs).length ((afterB zs).map (Value.int .u8)) ∧ Below w.heap.size w w' := by
  have H := h
  have hsl := strip_le zs zs.length
  have hlast := strip_last zs zs.length
  obtain ⟨N, hN⟩ : ∃ N, N = stripped zs := ⟨_, rfl⟩
  have HAL := hide (afterB_len zs h0)
  have HAB : Hid (afterB zs = zs.take (N - 1) ++ [zs.getD (N - 1) 0 + 1]) := by rw [hN]; rfl
  change stripped zs ≤ zs.length at hsl
  change stripped zs = 0 ∨ zs.getD (stripped zs - 1) 0 ≠ 255 at hlast
  rw [← hN] at h0 hsl hlast HAL
  have HN : Hid (strip zs zs.length = N) := hN.symm
  obtain ⟨hb, ao, cap, rfl, h1, h2, h3, h4⟩ := h
  unfold maxLen at h2
  have hx := hb.get (N - 1)
  obtain ⟨x, hxx⟩ : ∃ x, x = zs.getD (N - 1) 0 := ⟨_, rfl⟩
  rw [← hxx] at hx hlast HAB
  have hx254 : x ≤ 254 := by omega
  have HX := hide hxx
  have HT : Hid (Sl w (.slice ao N cap) (zs.take N)) := sl_take N H hsl
  have HTL : Hid ((zs.take N).length = N) := by show _ = _; simp; omega
  clear hN hxx hlast
  go_enter Try.func28, Try.ntmps28
  go_wp2
  go_loop [4] (fun n => ∃ k : Nat, k ≤ zs.length ∧ N ≤ k ∧ n = .int .i64 k ∧ strip zs k = N) (fun n => (intOf n).toNat)
  case atStart => exact ⟨zs.length, Nat.le_refl _, hsl, rfl, HN.out⟩
  case round =>
    obtain ⟨k, hk, hNk, rfl, hs⟩ := hrel
    obtain ⟨m, rfl⟩ : ∃ m, k = m + 1 := ⟨k - 1, by omega⟩
    obtain ⟨b, o, rfl, hc⟩ := h4 (by intro h; simp [h] at hk)
    have c1 := hc m (by omega)
    by_cases hkN : N = m + 1
    · rw [hkN, Nat.add_sub_cancel] at HX
      rw [← HX.out] at c1
      have hne : (x == 255) = false := by simp; omega
      have HC := copyWithRoom_any w (.slice (some ⟨b, o, none⟩) (m + 1) cap) (zs.take (m + 1)) 0 (hkN ▸ HT.out) (by have := HTL.out; rw [hkN] at this; omega)
      rw [show (zs.take (m + 1)).length = m + 1 by have := HTL.out; rwa [hkN] at this, List.replicate_zero, List.append_nil, Nat.add_zero, Int.natCast_zero] at HC
      clear hc h4 hs HT
      go_wp2_with (go_at_call 40; refine HC.mono ?_; rintro e w1 ⟨rfl, ho1, hb1, hz1⟩; have hst := ho1.stored m (.int .u8 (x + 1)); have c2 := own_last ho1 hk; rw [← HX.out] at c2; have f2 := ho1.frozenAt m; have HST := hide hst; clear hst)
      go_ret2
      refine ⟨_, rfl, ?_, hb1.setCell (Nat.le_refl _) _⟩
      have ho := HST.out.1
      have e := take_set_last zs (m + 1) (x + 1) (by omega) hk
      rw [Nat.add_sub_cancel] at e
      rw [e] at ho
      rw [HAL.out, HAB.out, hkN, Nat.add_sub_cancel]
      exact ho
    · obtain ⟨hx255, hs'⟩ := strip_round zs m N hs hkN
      rw [hx255] at c1
      have HS := hide hs'
      clear hc h4 hs hs' hx255
      go_wp2
      go_round
      case rel => exact ⟨m, by omega, by omega, by go_num, HS.out⟩
      case measure => simp [intOf]

end Go.Proofs.Ytbopcppagfhjnaa
