/- Contract: what stands behind all that begin with a text, by the document's answer. -/
import Derived.Test.YtbopcppagfhjnaaAfter
namespace Go.Proofs.Ytbopcppagfhjnaa
open Go.RowKit

theorem own_form {w : World} {base : Nat} {e : TypeId} {u : Value} {n : Nat} {xs : List Value} (h : w.ownsRow base e 1 u n xs) (hn : u ≠ .slice none 0 0) : ∃ g cap, u = .slice (some ⟨g, 0, none⟩) n cap ∧ base ≤ g := by
  rcases h.2 with ⟨h, _⟩ | ⟨g, cap, _, h, hb, _⟩
  · exact absurd h hn
  · exact ⟨g, cap, h, hb⟩

theorem own_cap {w : World} {base : Nat} {e : TypeId} {g n cap : Nat} {xs : List Value} (h : w.ownsRow base e 1 (.slice (some ⟨g, 0, none⟩) n cap) n xs) : n ≤ cap ∧ cap ≤ maxLen := by
  rcases h.2 with ⟨h, _⟩ | ⟨g', cap', _, h, _, _, h1, h2, _⟩
  · simp at h
  · simp only [Value.slice.injEq, true_and] at h
    obtain ⟨_, rfl⟩ := h
    exact ⟨h1, h2⟩

set_option maxHeartbeats 400000 in
theorem refAfter_no (w : World) (v : Value) (zs : List Int) (h : Sl w v zs) (h0 : stripped zs = 0) :
    Calls Try.prog 29 #[v] w fun e w' => e = .returned (.tuple #[.slice none 0 0, .bool false]) ∧ w' = w := by
  obtain ⟨hb, ao, cap, rfl, h1, h2, h3, h4⟩ := h
  unfold maxLen at h2
  go_enter Try.func29, Try.ntmps29
  go_wp2
  go_loop [4] (fun n => ∃ k : Nat, k ≤ zs.length ∧ n = .int .i64 k ∧ strip zs k = 0) (fun n => (intOf n).toNat)
  case atStart => exact ⟨zs.length, Nat.le_refl _, rfl, h0⟩
  case round =>
    obtain ⟨k, hk, rfl, hs⟩ := hrel
    by_cases hk0 : k = 0
    · subst hk0
      go_wp2
      go_ret2
      exact ⟨rfl, rfl⟩
    · obtain ⟨m, rfl⟩ : ∃ m, k = m + 1 := ⟨k - 1, by omega⟩
      obtain ⟨b, o, rfl, hc⟩ := h4 (by intro h; simp [h] at hk)
      have c1 := hc m (by omega)
      have hx : zs.getD m 0 = 255 := by
        apply Classical.byContradiction
        intro hne
        simp only [strip, if_neg hne] at hs
        cases hs
      have hs' : strip zs m = 0 := by simpa only [strip, if_pos hx] using hs
      rw [hx] at c1
      have HS := hide hs'
      clear hc h4 hs hx hs'
      go_wp2
      go_round
      case rel => exact ⟨m, by omega, by go_num, HS.out⟩
      case measure => simp [intOf]

set_option maxHeartbeats 400000 in
theorem refAfter_yes (w : World) (v : Value) (zs : List Int) (h : Sl w v zs) (hl : zs.length ≤ 50000) (h0 : 0 < stripped zs) :
    Calls Try.prog 29 #[v] w fun e w' => ∃ u, e = .returned (.tuple #[u, .bool true]) ∧ w'.ownsRow w.heap.size 5 1 u (afterB zs).length ((afterB zs).map (Value.int .u8)) ∧ Below w.heap.size w w' := by
  have H := h
  have hsl := strip_le zs zs.length
  have hlast := strip_last zs zs.length
  obtain ⟨N, hN⟩ : ∃ N, N = stripped zs := ⟨_, rfl⟩
  have HAL := hide (afterB_len zs h0)
  have HAB : Hid (afterB zs = zs.take (N - 1) ++ [zs.getD (N - 1) 0 + 1]) := by rw [hN]; rfl
  change stripped zs ≤ zs.length at hsl
  change stripped zs = 0 ∨ zs.getD (stripped zs - 1) 0 ≠ 255 at hlast
  rw [← hN] at h0 hsl hlast HAL
  have HN : Hid (strip zs zs.length = N) := hN.symm
  obtain ⟨hb, ao, cap, rfl, h1, h2, h3, h4⟩ := h
  unfold maxLen at h2
  have hx := hb.get (N - 1)
  obtain ⟨x, hxx⟩ : ∃ x, x = zs.getD (N - 1) 0 := ⟨_, rfl⟩
  rw [← hxx] at hx hlast HAB
  have hx254 : x ≤ 254 := by omega
  have HX := hide hxx
  have HT : Hid (Sl w (.slice ao N cap) (zs.take N)) := sl_take N H hsl
  have HTL : Hid ((zs.take N).length = N) := by show _ = _; simp; omega
  clear hN hxx hlast
  go_enter Try.func29, Try.ntmps29
  go_wp2
  go_loop [4] (fun n => ∃ k : Nat, k ≤ zs.length ∧ N ≤ k ∧ n = .int .i64 k ∧ strip zs k = N) (fun n => (intOf n).toNat)
  case atStart => exact ⟨zs.length, Nat.le_refl _, hsl, rfl, HN.out⟩
  case round =>
    obtain ⟨k, hk, hNk, rfl, hs⟩ := hrel
    obtain ⟨m, rfl⟩ : ∃ m, k = m + 1 := ⟨k - 1, by omega⟩
    obtain ⟨b, o, rfl, hc⟩ := h4 (by intro h; simp [h] at hk)
    have c1 := hc m (by omega)
    by_cases hkN : N = m + 1
    · rw [hkN, Nat.add_sub_cancel] at HX
      rw [← HX.out] at c1
      have hne : (x == 255) = false := by simp; omega
      have HTm : Sl w (.slice (some ⟨b, o, none⟩) (m + 1) cap) (zs.take (m + 1)) := hkN ▸ HT.out
      have hlm : (zs.take (m + 1)).length = m + 1 := by have := HTL.out; rwa [hkN] at this
      have HC := refJoin_any w (.slice none 0 0) (.slice (some ⟨b, o, none⟩) (m + 1) cap) [] (zs.take (m + 1)) (Sl.nil w) HTm (by rw [hlm]; simp; omega)
      rw [List.nil_append, hlm] at HC
      clear hc h4 hs HT HTm hlm
      go_wp2_with (go_at_call 10; refine HC.mono ?_; rintro e w1 ⟨u, rfl, ho1, hnn, hb1, hz1⟩; obtain ⟨g, cg, rfl, hgB⟩ := own_form ho1 hnn; have hst := ho1.stored m (.int .u8 (x + 1)); have c2 := own_last ho1 hk; rw [← HX.out] at c2; have f2 := ho1.frozenAt m; have HST := hide hst; have hmc := own_cap ho1; clear hst)
      go_ret2
      refine ⟨_, rfl, ?_, hb1.setCell hgB _⟩
      have ho := HST.out.1
      have e := take_set_last zs (m + 1) (x + 1) (by omega) hk
      rw [Nat.add_sub_cancel] at e
      rw [e] at ho
      rw [HAL.out, HAB.out, hkN, Nat.add_sub_cancel]
      exact ho
    · obtain ⟨hx255, hs'⟩ := strip_round zs m N hs hkN
      rw [hx255] at c1
      have HS := hide hs'
      clear hc h4 hs hs' hx255
      go_wp2
      go_round
      case rel => exact ⟨m, by omega, by omega, by go_num, HS.out⟩
      case measure => simp [intOf]

end Go.Proofs.Ytbopcppagfhjnaa
