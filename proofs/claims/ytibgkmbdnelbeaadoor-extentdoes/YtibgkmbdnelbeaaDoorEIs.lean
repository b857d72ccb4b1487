/- A []int that is read; whether two rows of numbers are the same (incipitref05.Ints). -/
import Derived.Test.YtibgkmbdnelbeaaDoorEInts
namespace Go.Proofs.YtibgkmbdnelbeaaDoor
set_option maxRecDepth 20000
open Go.RowKit
set_option linter.unusedVariables false
set_option maxRecDepth 100000

/-- a slice of numbers that is read -/
def Is (w : World) (v : Value) (ks : List Int) : Prop :=
  ∃ ao cap, v = .slice ao ks.length cap ∧ ks.length ≤ cap ∧ cap ≤ maxLen ∧ (ks ≠ [] → ∃ b off, ao = some ⟨b, off, none⟩ ∧ ∀ i, i < ks.length → w.cell? ⟨b, off + i, none⟩ = some (.int .i64 (ks.getD i 0)))
theorem Is.below {w w' : World} {v : Value} {ks : List Int} (h : Is w v ks) (hb : Below w.heap.size w w') : Is w' v ks := by
  obtain ⟨ao, cap, rfl, h1, h2, h3⟩ := h
  refine ⟨ao, cap, rfl, h1, h2, fun hne => ?_⟩
  obtain ⟨b, off, rfl, hc⟩ := h3 hne
  refine ⟨b, off, rfl, fun i hi => ?_⟩
  rw [World.cell?_of_block (w := w) (hb.block b (World.block_lt_of_cell? w _ (hc i hi)))]
  exact hc i hi
theorem Is.take {w : World} {ao : Option Addr} {cap : Nat} {ks : List Int} (h : Is w (.slice ao ks.length cap) ks) (n : Nat) (hn : n ≤ ks.length) : Is w (.slice ao n cap) (ks.take n) := by
  obtain ⟨ao', cap', he, h1, h2, h3⟩ := h
  simp only [Value.slice.injEq, true_and] at he
  obtain ⟨rfl, rfl⟩ := he
  have hl : (ks.take n).length = n := by simp; omega
  refine ⟨ao, cap, by rw [hl], by omega, h2, fun hne => ?_⟩
  obtain ⟨b, off, rfl, hc⟩ := h3 (by intro e; simp [e] at hne)
  refine ⟨b, off, rfl, fun i hi => ?_⟩
  rw [getD_take ks n i (by omega)]
  exact hc i (by omega)
theorem Is.cap {w : World} {ao : Option Addr} {n cap : Nat} {ks : List Int} (h : Is w (.slice ao n cap) ks) : n = ks.length ∧ ks.length ≤ cap ∧ cap ≤ maxLen := by
  obtain ⟨ao', cap', he, h1, h2, h3⟩ := h
  simp only [Value.slice.injEq] at he
  obtain ⟨rfl, rfl, rfl⟩ := he
  exact ⟨rfl, h1, h2⟩
theorem Is.at {w : World} {ao : Option Addr} {n cap : Nat} {ks : List Int} (h : Is w (.slice ao n cap) ks) (i : Nat) (hi : i < ks.length) : ∃ b off, ao = some ⟨b, off, none⟩ ∧ w.cell? ⟨b, off + i, none⟩ = some (.int .i64 (ks.getD i 0)) := by
  obtain ⟨ao', cap', he, h1, h2, h3⟩ := h
  simp only [Value.slice.injEq] at he
  obtain ⟨rfl, rfl, rfl⟩ := he
  obtain ⟨b, off, rfl, hc⟩ := h3 (by intro e; simp [e] at hi)
  exact ⟨b, off, rfl, hc i hi⟩
theorem Is.alloc {w : World} {v : Value} {ks : List Int} (h : Is w v ks) (o : Obj) : Is (w.alloc o) v ks := h.below ((Below.refl _ w).alloc (Nat.le_refl _) o)
theorem is_of_own {w : World} {base : Nat} {v : Value} {n : Nat} {zs : List Int} (h : w.ownsRow base 3 1 v n (zs.map (Value.int .i64))) : Is w v zs := by
  obtain ⟨h1, h2⟩ := h
  have hn : zs.length = n := by simpa using h1
  subst hn
  rcases h2 with ⟨rfl, h0⟩ | ⟨g, cap, cur, rfl, _, hg, hnc, hcm, hcs, ht⟩
  · exact ⟨none, 0, by rw [h0], by omega, by simp [maxLen], fun hz => absurd (List.eq_nil_of_length_eq_zero h0) hz⟩
  · refine ⟨_, cap, rfl, hnc, hcm, fun _ => ⟨g, 0, rfl, fun i hi => ?_⟩⟩
    rw [cell_of_row w g (0 + i) cur 3 (0, 0) hg]
    have : (cur.toList.take (zs.length * 1))[i]? = (zs.map (Value.int .i64))[i]? := by rw [ht]
    rw [List.getElem?_take, if_pos (by omega)] at this
    simp at this
    rw [Nat.zero_add, this]
    rw [getD_lt zs hi]
    simp [hi]
theorem Is.nil (w : World) : Is w (.slice none 0 0) [] := ⟨none, 0, rfl, Nat.le_refl _, by simp [maxLen], fun h => absurd rfl h⟩
theorem Is.only {S : Nat → Prop} {w w' : World} {v : Value} {ks : List Int} (h : Is w v ks) (ho : Only S w w') (hn : ∀ k, v.ownBlock = some k → ¬ S k) : Is w' v ks := by
  obtain ⟨ao, cap, rfl, h1, h2, h3⟩ := h
  refine ⟨ao, cap, rfl, h1, h2, fun hne => ?_⟩
  obtain ⟨b, off, rfl, hc⟩ := h3 hne
  refine ⟨b, off, rfl, fun i hi => ?_⟩
  rw [World.cell?_of_block (w := w) (ho.block b (World.block_lt_of_cell? w _ (hc i hi)) (hn b rfl))]
  exact hc i hi
theorem eq_of_getD {xs ys : List Int} (hl : xs.length = ys.length) (h : ∀ j, j < xs.length → xs.getD j 0 = ys.getD j 0) : xs = ys := by
  apply List.ext_getElem hl
  intro i h1 h2
  have := h i h1
  rwa [getD_lt xs h1, getD_lt ys h2] at this

theorem refInts_any (w : World) (ba bb : Nat) (va vb : Value) (xs ys : List Int) (ha : Ints w ba va xs) (hb : Ints w bb vb ys) :
    Calls Tryd.prog 30 #[va, vb] w fun e w' => e = .returned (.bool (decide (xs = ys))) ∧ Below w.heap.size w w' := by
  by_cases hl : xs.length = ys.length
  · rcases ha.form with ⟨rfl, rfl⟩ | ⟨ga, ca, sa, rfl, _, hc1, hm1, hB1, _⟩
    · have : ys = [] := List.eq_nil_of_length_eq_zero (by simpa using hl.symm)
      subst this
      obtain ⟨aob, cb, rfl⟩ := hb.shape
      clear ha hb hl
      go_enter Tryd.func30, Tryd.ntmps30
      go_wp2
      go_loopg [5] 0 (fun g i wr => i = .int .i64 0 ∧ wr = w)
      case atStart => exact ⟨rfl, rfl⟩
      case round =>
        obtain ⟨rfl, rfl⟩ := hrel
        go_wp2
        go_ret
        exact ⟨rfl, Below.refl _ _⟩
    · rcases hb.form with ⟨rfl, rfl⟩ | ⟨gb, cb, sb, rfl, _, hc2, hm2, hB2, _⟩
      · have : xs = [] := List.eq_nil_of_length_eq_zero (by simpa using hl)
        subst this
        clear ha hb hl
        go_enter Tryd.func30, Tryd.ntmps30
        go_wp2
        go_loopg [5] 0 (fun g i wr => i = .int .i64 0 ∧ wr = w)
        case atStart => exact ⟨rfl, rfl⟩
        case round =>
          obtain ⟨rfl, rfl⟩ := hrel
          go_wp2
          go_ret
          exact ⟨rfl, Below.refl _ _⟩
      · have HC1 : Hid (∀ k, k < xs.length → w.cell? ⟨ga, k, none⟩ = some (.int .i64 (xs.getD k 0))) := fun k hk => by have := iv_cell hB1 k hk; rwa [Nat.zero_add] at this
        have HC2 : Hid (∀ k, k < ys.length → w.cell? ⟨gb, k, none⟩ = some (.int .i64 (ys.getD k 0))) := fun k hk => by have := iv_cell hB2 k hk; rwa [Nat.zero_add] at this
        have HL := hide hl
        have hl' : (ys.length : Int) = xs.length := by omega
        rw [← hl] at hc2 HC2
        unfold maxLen at hm1 hm2
        rw [← hl]
        clear hB1 hB2 ha hb hl hl'
        obtain ⟨n, hn⟩ : ∃ n, xs.length = n := ⟨_, rfl⟩
        rw [hn] at HC1 HC2 hc1 hc2 ⊢
        have HN := hide hn
        clear hn
        go_enter Tryd.func30, Tryd.ntmps30
        go_wp2
        go_loopg [5] n (fun g i wr => ∃ k m : Nat, g + k = n ∧ i = .int .i64 k ∧ wr = w.drewN m ∧ ∀ j, j < k → xs.getD j 0 = ys.getD j 0)
        case atStart => exact ⟨0, 0, by omega, rfl, rfl, fun j hj => absurd hj (by omega)⟩
        case round =>
          obtain ⟨k, m, hgk, rfl, rfl, hsame⟩ := hrel
          have HS := hide hsame
          clear hsame
          by_cases hk : k < n
          · have q1 := HC1.out k hk
            have q2 := HC2.out k hk
            obtain ⟨x, hx⟩ : ∃ x, xs.getD k 0 = x := ⟨_, rfl⟩
            obtain ⟨y, hy⟩ : ∃ y, ys.getD k 0 = y := ⟨_, rfl⟩
            rw [hx] at q1
            rw [hy] at q2
            have HX := hide hx
            have HY := hide hy
            clear hx hy
            go_wp2
            by_cases hxy : x = y
            · go_quiet (fail)
              go_wp2
              go_roundg (gk - 1)
              case measure => omega
              case rel => exact ⟨k + 1, m + nq, by omega, by go_num, by simp [World.drewN], fun j hj => by
                by_cases hjk : j = k
                · subst hjk
                  rw [HX.out, HY.out]; exact hxy
                · exact HS.out j (by omega)⟩
            · go_quiet (fail)
              go_wp2
              go_ret
              refine ⟨ret_bool ?_, ((Only.refl (fun _ => False) w).drewN m).drewN nq |>.below (Nat.le_refl _) (fun _ _ h => h)⟩
              rw [decide_eq_false (fun e => hxy (by rw [← HX.out, ← HY.out, e]))]
          · go_wp2
            go_ret
            refine ⟨ret_bool ?_, ((Only.refl (fun _ => False) w).drewN m).below (Nat.le_refl _) (fun _ _ h => h)⟩
            rw [decide_eq_true (eq_of_getD HL.out (fun j hj => HS.out j (by have := HN.out; omega)))]
  · obtain ⟨aoa, ca, rfl⟩ := ha.shape
    obtain ⟨aob, cb, rfl⟩ := hb.shape
    have hli : (xs.length : Int) ≠ ys.length := by omega
    have hne : xs ≠ ys := fun e => hl (by rw [e])
    rw [decide_eq_false hne]
    clear ha hb hl hne
    go_enter Tryd.func30, Tryd.ntmps30
    go_wp2
    go_ret
    exact ⟨rfl, Below.refl _ _⟩

end Go.Proofs.YtibgkmbdnelbeaaDoor
