/- Contracts: the document's own set (incipitref07): New, Is, Has, Add, Drop, First, Run, All. -/
import Derived.Test.YtibgkmbdnelbeaaDoorELive
namespace Go.Proofs.YtibgkmbdnelbeaaDoor
set_option maxRecDepth 20000
open Go.RowKit
set_option linter.unusedVariables false
set_option maxRecDepth 100000

/-- the row of bools -/
def bl (n : Nat) (f : Nat → Bool) : List Value := (List.range n).map (fun i => .bool (f i))
theorem bl_len (n : Nat) (f : Nat → Bool) : (bl n f).length = n := by simp [bl]
theorem bl_get (n : Nat) (f : Nat → Bool) (i : Nat) (h : i < n) : (bl n f)[i]? = some (.bool (f i)) := by rw [bl, List.getElem?_map, List.getElem?_range h]; rfl
theorem bl_set (n : Nat) (f g : Nat → Bool) (p : Nat) (x : Bool) (hp : g p = x) (hg : ∀ q, q ≠ p → g q = f q) : (bl n f).set p (.bool x) = bl n g := by
  apply List.ext_getElem?
  intro i
  by_cases hi : i < n
  · rw [List.getElem?_set]
    by_cases he : p = i
    · subst he
      rw [if_pos rfl, if_pos (by rw [bl_len]; exact hi), bl_get n g p hi, hp]
    · rw [if_neg he, bl_get n f i hi, bl_get n g i hi, hg i (fun h => he h.symm)]
  · rw [List.getElem?_eq_none (by rw [List.length_set, bl_len]; omega), List.getElem?_eq_none (by rw [bl_len]; omega)]
theorem bl_false (n : Nat) : bl n (fun _ => false) = List.replicate n (.bool false) := by rw [bl, List.map_const']; simp
/-- the document's set at block r, its row at block g -/
structure RefAt (w : World) (r g n : Nat) (f : Nat → Bool) : Prop where
  blk : Blk w r 62 [.slice (some ⟨g, 0, none⟩) n n]
  row : Blk w g 4 (bl n f)
  lo : 1 ≤ n
  hi : n ≤ 2048
  out : ∀ p, n ≤ p → f p = false
section
variable {w w' : World} {r g n : Nat} {f : Nat → Bool}
theorem RefAt.c0 (h : RefAt w r g n f) : w.cell? ⟨r, 0, none⟩ = some (.slice (some ⟨g, 0, none⟩) n n) := h.blk.cell 0
theorem RefAt.cb (h : RefAt w r g n f) (i : Nat) (hi : i < n) : w.cell? ⟨g, i, none⟩ = some (.bool (f i)) := (h.row.cell i).trans (bl_get n f i hi)
theorem RefAt.only {S : Nat → Prop} (h : RefAt w r g n f) (ho : Only S w w') (h1 : ¬ S r) (h2 : ¬ S g) : RefAt w' r g n f := ⟨h.blk.only ho h1, h.row.only ho h2, h.lo, h.hi, h.out⟩
theorem RefAt.below (h : RefAt w r g n f) (hb : Below w.heap.size w w') : RefAt w' r g n f := ⟨h.blk.below hb h.blk.lt, h.row.below hb h.row.lt, h.lo, h.hi, h.out⟩
theorem RefAt.ne (h : RefAt w r g n f) : r ≠ g := Blk.ne h.blk h.row (by decide)
end
theorem infoBool : (Tryd.prog.info? 4).map (fun i => (i.zero, i.size, i.bytes)) = some (some (.bool false), 1, 1) := by kernel_rfl
theorem madeBools (n : Nat) : (madeCells (Value.bool false).cells (n * 1)).toList = List.replicate n (Value.bool false) := by
  rw [Nat.mul_one]; exact toList_madeCells_one (.bool false) n

theorem refNew_bad (w : World) (n : Int) (h : ¬ (1 ≤ n ∧ n ≤ 2048)) : Calls Tryd.prog 9 #[.int .i64 n] w fun e w' => e = .returned (.tuple #[.pointer none, .int .i64 1]) ∧ w' = w := by
  by_cases h0 : n < 1
  · go_enter Tryd.func9, Tryd.ntmps9
    go_wp2
    go_ret2
    exact ⟨rfl, rfl⟩
  · have h1 : 2048 < n := by omega
    go_enter Tryd.func9, Tryd.ntmps9
    go_wp2
    go_ret2
    exact ⟨rfl, rfl⟩
theorem refNew_ok (w : World) (n : Nat) (h1 : 1 ≤ n) (h2 : n ≤ 2048) : Calls Tryd.prog 9 #[.int .i64 n] w fun e w' => ∃ r, e = .returned (.tuple #[dp r, .int .i64 0]) ∧ ∃ g, RefAt w' r g n (fun _ => false) ∧ w.heap.size ≤ r ∧ w.heap.size ≤ g ∧ Below w.heap.size w w' := by
  have h0 : ¬ (n : Int) < 1 := by omega
  have h3 : ¬ (2048 : Int) < n := by omega
  obtain ⟨i0, hi, hz0, hz1, hz2⟩ := info_parts infoBool
  go_enter Tryd.func9, Tryd.ntmps9
  go_wp2_with (at_make; refine wpList_make_full _ rfl _ _ 60 rfl w.heap.size 4 i0 (.bool false) 1 Tryd.underlying60 hi hz0 hz1 _ _ _ _ n rfl rfl rfl rfl (by rw [hz2]; omega) (by unfold maxLen; omega) (Nat.le_refl _) ?_; intro w1 hown hg; rw [madeBools] at hown; have HO := hide hown; have HG := hide hg; clear hown hg)
  go_ret2
  have hb1 : Below w.heap.size w w1 := (Below.refl w.heap.size w).grown HG.out (Nat.le_refl _) (by intro k hk; cases hk)
  have hR : Blk w1 w.heap.size 4 (bl n (fun _ => false)) := by
    have := own_heap HO.out
    unfold Blk
    rw [this, bl_false]
  exact ⟨_, rfl, w.heap.size, ⟨Blk.new w1 _ [.slice (some ⟨w.heap.size, 0, none⟩) n n], hR.alloc _, h1, h2, fun _ _ => rfl⟩, hb1.size, Nat.le_refl _, hb1.alloc hb1.size _⟩

section
variable (w : World) (r g n : Nat) (f : Nat → Bool)
theorem refIs_any (p : Int) (h : RefAt w r g n f) : Calls Tryd.prog 34 #[dp r, .int .i64 p] w fun e w' => e = .returned (.bool (decide (0 ≤ p ∧ p < n))) ∧ w' = w := by
  have c0 := h.c0
  clear h
  by_cases h0 : 0 ≤ p
  all_goals
    go_enter Tryd.func34, Tryd.ntmps34
    go_wp2
    go_ret
    exact ⟨ret_bool (by simp [h0] <;> omega), rfl⟩
theorem refHas_any (p : Int) (h : RefAt w r g n f) : Calls Tryd.prog 36 #[dp r, .int .i64 p] w fun e w' => e = .returned (.bool (hasI f p)) ∧ w' = w := by
  have HI := refIs_any w r g n f p h
  have c0 := h.c0
  have hn := h.hi
  by_cases hp : 0 ≤ p ∧ p < n
  · rw [decide_eq_true hp] at HI
    have HI := hide HI
    obtain ⟨q, rfl⟩ : ∃ q : Nat, p = q := ⟨p.toNat, by omega⟩
    have hq : (q : Int) < n := by omega
    have cb := h.cb q (by omega)
    rw [show hasI f (q : Int) = f q by simp [hasI]]
    obtain ⟨x, hx⟩ : ∃ x, f q = x := ⟨_, rfl⟩
    rw [hx] at cb ⊢
    clear h hp hx
    go_enter Tryd.func36, Tryd.ntmps36
    go_wp2_with (go_at_call 34; refine HI.out.mono ?_; rintro e w1 ⟨rfl, hw⟩; subst w1; clear HI)
    go_ret
    exact ⟨rfl, rfl⟩
  · rw [decide_eq_false hp] at HI
    have HI := hide HI
    have he : hasI f p = false := by
      simp only [hasI]
      by_cases h0 : 0 ≤ p
      · have h1 : n ≤ p.toNat := by omega
        simp [h.out _ h1]
      · simp [h0]
    rw [he]
    clear h hp he
    go_enter Tryd.func36, Tryd.ntmps36
    go_wp2_with (go_at_call 34; refine HI.out.mono ?_; rintro e w1 ⟨rfl, hw⟩; subst w1; clear HI)
    go_ret
    exact ⟨rfl, rfl⟩
theorem refAdd_any (p : Int) (h : RefAt w r g n f) : Calls Tryd.prog 15 #[dp r, .int .i64 p] w fun e w' => e = .returned (.int .i64 (addE n f p)) ∧ RefAt w' r g n (addF n f p) ∧ Only (· = g) w w' := by
  have HI := refIs_any w r g n f p h
  have c0 := h.c0
  have hn := h.hi
  have HX := hide h
  by_cases hp : 0 ≤ p ∧ p < n
  · rw [decide_eq_true hp] at HI
    have HI := hide HI
    obtain ⟨q, rfl⟩ : ∃ q : Nat, p = q := ⟨p.toNat, by omega⟩
    have hq : (q : Int) < n := by omega
    have hqn : q < n := by omega
    have cb := h.cb q hqn
    have fb := h.row.frozen q
    have he : addE n f q = if f q then 70 else 0 := by rw [addE, if_pos hp]; simp
    rw [he]
    cases hf : f q with
    | true =>
      rw [hf] at cb
      rw [if_pos rfl]
      have HE : Hid (addF n f q = f) := by
        show _ = _
        funext j
        simp only [addF]
        by_cases hj : j = q
        · subst hj; simp [hf]
        · simp [show ¬ ((j : Int) = (q : Int)) by omega]
      clear h hp he hf
      go_enter Tryd.func15, Tryd.ntmps15
      go_wp2_with (go_at_call 34; refine HI.out.mono ?_; rintro e w1 ⟨rfl, hw⟩; subst w1; clear HI)
      go_ret
      exact ⟨rfl, by rw [HE.out]; exact HX.out, Only.refl _ _⟩
    | false =>
      rw [hf] at cb
      rw [if_neg (by decide)]
      have HS : Hid ((bl n f).set q (.bool true) = bl n (addF n f q)) := bl_set n f _ q true (by simp [addF, hqn]) (fun j hj => by simp [addF, show ¬ ((j : Int) = (q : Int)) by omega])
      clear h hp he hf
      go_enter Tryd.func15, Tryd.ntmps15
      go_wp2_with (go_at_call 34; refine HI.out.mono ?_; rintro e w1 ⟨rfl, hw⟩; subst w1; clear HI)
      go_ret
      have hO : Only (· = g) w (w.setCell ⟨g, q, none⟩ (.bool true)) := (Only.refl (· = g) w).setCell ⟨g, q, none⟩ _ (fun _ => rfl)
      have hx := HX.out
      refine ⟨rfl, ⟨hx.blk.only hO hx.ne, ?_, hx.lo, hx.hi, fun j hj => ?_⟩, hO⟩
      · have := hx.row.set q (.bool true)
        rw [HS.out] at this
        exact this
      · simp [addF, hx.out j hj, show ¬ j < n by omega]
  · rw [decide_eq_false hp] at HI
    have HI := hide HI
    have he : addE n f p = 1 := by rw [addE, if_neg hp]
    rw [he]
    have HE : Hid (addF n f p = f) := by
      show _ = _
      funext j
      simp only [addF]
      rw [show decide ((j : Int) = p ∧ j < n) = false from decide_eq_false (by omega)]
      simp
    clear h hp he
    go_enter Tryd.func15, Tryd.ntmps15
    go_wp2_with (go_at_call 34; refine HI.out.mono ?_; rintro e w1 ⟨rfl, hw⟩; subst w1; clear HI)
    go_ret
    exact ⟨rfl, by rw [HE.out]; exact HX.out, Only.refl _ _⟩
theorem refDrop_any (p : Int) (h : RefAt w r g n f) : Calls Tryd.prog 14 #[dp r, .int .i64 p] w fun e w' => e = .returned (.int .i64 (dropE n f p)) ∧ RefAt w' r g n (dropF f p) ∧ Only (· = g) w w' := by
  have HI := refIs_any w r g n f p h
  have c0 := h.c0
  have hn := h.hi
  have HX := hide h
  by_cases hp : 0 ≤ p ∧ p < n
  · rw [decide_eq_true hp] at HI
    have HI := hide HI
    obtain ⟨q, rfl⟩ : ∃ q : Nat, p = q := ⟨p.toNat, by omega⟩
    have hq : (q : Int) < n := by omega
    have hqn : q < n := by omega
    have cb := h.cb q hqn
    have fb := h.row.frozen q
    have he : dropE n f q = if f q then 0 else 4 := by rw [dropE, if_pos hp]; simp
    rw [he]
    cases hf : f q with
    | false =>
      rw [hf] at cb
      rw [if_neg (by decide)]
      have HE : Hid (dropF f q = f) := by
        show _ = _
        funext j
        simp only [dropF]
        by_cases hj : j = q
        · subst hj; simp [hf]
        · simp [show ¬ ((j : Int) = (q : Int)) by omega]
      clear h hp he hf
      go_enter Tryd.func14, Tryd.ntmps14
      go_wp2_with (go_at_call 34; refine HI.out.mono ?_; rintro e w1 ⟨rfl, hw⟩; subst w1; clear HI)
      go_ret
      exact ⟨rfl, by rw [HE.out]; exact HX.out, Only.refl _ _⟩
    | true =>
      rw [hf] at cb
      rw [if_pos rfl]
      have HS : Hid ((bl n f).set q (.bool false) = bl n (dropF f q)) := bl_set n f _ q false (by simp [dropF]) (fun j hj => by simp [dropF, show ¬ ((j : Int) = (q : Int)) by omega])
      clear h hp he hf
      go_enter Tryd.func14, Tryd.ntmps14
      go_wp2_with (go_at_call 34; refine HI.out.mono ?_; rintro e w1 ⟨rfl, hw⟩; subst w1; clear HI)
      go_ret
      have hO : Only (· = g) w (w.setCell ⟨g, q, none⟩ (.bool false)) := (Only.refl (· = g) w).setCell ⟨g, q, none⟩ _ (fun _ => rfl)
      have hx := HX.out
      refine ⟨rfl, ⟨hx.blk.only hO hx.ne, ?_, hx.lo, hx.hi, fun j hj => ?_⟩, hO⟩
      · have := hx.row.set q (.bool false)
        rw [HS.out] at this
        exact this
      · simp [dropF, hx.out j hj]
  · rw [decide_eq_false hp] at HI
    have HI := hide HI
    have he : dropE n f p = 1 := by rw [dropE, if_neg hp]
    rw [he]
    have HE : Hid (dropF f p = f) := by
      show _ = _
      funext j
      simp only [dropF]
      by_cases hj : (j : Int) = p
      · rw [h.out j (by omega)]; simp
      · simp [hj]
    clear h hp he
    go_enter Tryd.func14, Tryd.ntmps14
    go_wp2_with (go_at_call 34; refine HI.out.mono ?_; rintro e w1 ⟨rfl, hw⟩; subst w1; clear HI)
    go_ret
    exact ⟨rfl, by rw [HE.out]; exact HX.out, Only.refl _ _⟩

theorem refFirst_any (p : Int) (h : RefAt w r g n f) : Calls Tryd.prog 37 #[dp r, .int .i64 p] w fun e w' => ∃ x, e = .returned (.int .i64 x) ∧ IsFst f n p x ∧ w' = w := by
  have c0 := h.c0
  have hn := h.hi
  have HX := hide h
  clear h
  go_enter Tryd.func37, Tryd.ntmps37
  go_wp2
  go_loopg [5] n (fun gg i wr => ∃ j : Nat, gg + j = n ∧ i = .int .i64 j ∧ (∀ q : Nat, p ≤ q → q < j → f q = false) ∧ w = wr)
  case atStart => exact ⟨0, rfl, rfl, fun q h1 h2 => by omega, rfl⟩
  case round =>
    obtain ⟨j, hj, rfl, hno, rfl⟩ := hrel
    have HNO := hide hno
    clear hno
    cases gk with
    | zero =>
      have h1 : ¬ (j : Int) < (n : Int) := by omega
      have hjn : j = n := by omega
      have HJ := hide hjn
      clear hjn
      go_wp2
      go_ret
      exact ⟨_, rfl, .inl ⟨rfl, fun q h1 h2 => HNO.out q h1 (by rw [HJ.out]; exact h2)⟩, rfl⟩
    | succ k =>
      have h1 : (j : Int) < (n : Int) := by omega
      have hjn : j < n := by omega
      have cb := HX.out.cb j hjn
      by_cases hp : p ≤ (j : Int)
      · cases hf : f j with
        | true =>
          rw [hf] at cb
          have HF := hide hf
          clear hf
          go_wp2
          go_ret
          exact ⟨_, rfl, .inr ⟨j, rfl, hp, hjn, HF.out, HNO.out⟩, rfl⟩
        | false =>
          rw [hf] at cb
          have HF := hide hf
          clear hf
          go_wp2
          go_roundg k
          case measure => omega
          case rel => exact ⟨j + 1, by omega, by go_num, fun q h1 h2 => by
            by_cases he : q = j
            · rw [he]; exact HF.out
            · exact HNO.out q h1 (by omega), rfl⟩
      · clear cb
        have hp' : (j : Int) < p := by omega
        go_wp2
        go_roundg k
        case measure => omega
        case rel => exact ⟨j + 1, by omega, by go_num, fun q h1 h2 => HNO.out q h1 (by omega), rfl⟩

theorem refRun_any (K : Int) (hK : K ≤ 9223372036854775807) (h : RefAt w r g n f) : Calls Tryd.prog 38 #[dp r, .int .i64 K] w fun e w' => ∃ x, e = .returned (.int .i64 x) ∧ (K < 1 ∧ x = -1 ∨ ∃ k : Nat, K = k ∧ 1 ≤ k ∧ IsRun f n k x) ∧ w' = w := by
  have c0 := h.c0
  have hn := h.hi
  have HX := hide h
  clear h
  by_cases hK1 : K < 1
  · go_enter Tryd.func38, Tryd.ntmps38
    go_wp2
    go_ret
    exact ⟨_, rfl, .inl ⟨by omega, rfl⟩, rfl⟩
  · obtain ⟨k, rfl⟩ : ∃ k : Nat, K = k := ⟨K.toNat, by omega⟩
    have hk1 : 1 ≤ k := by omega
    have hk2 : (k : Int) ≤ 9223372036854775807 := hK
    clear hK
    go_enter Tryd.func38, Tryd.ntmps38
    go_wp2
    go_loopg [5, 6] n (fun gg mv i wr => ∃ j m : Nat, gg + j = n ∧ mv = .int .i64 m ∧ i = .int .i64 j ∧ m < k ∧ m ≤ j ∧ (∀ i, i < m → f (j - m + i) = true) ∧ (m < j → f (j - m - 1) = false) ∧ (∀ p, p + k ≤ j → ¬ win f n k p) ∧ w = wr)
    case atStart => exact ⟨0, 0, rfl, rfl, rfl, by omega, Nat.le_refl _, fun i hi => by omega, fun h => by omega, fun p hp => by omega, rfl⟩
    case round =>
      obtain ⟨j, m, hj, rfl, rfl, hmk, hmj, hst, hbr, hno, rfl⟩ := hrel
      have HST := hide hst
      have HBR := hide hbr
      have HNO := hide hno
      clear hst hbr hno
      cases gk with
      | zero =>
        have h1 : ¬ (j : Int) < (n : Int) := by omega
        have hjn : j = n := by omega
        have HJ := hide hjn
        clear hjn
        go_wp2
        go_ret
        refine ⟨_, rfl, .inr ⟨k, rfl, hk1, .inl ⟨rfl, fun p hw => ?_⟩⟩, rfl⟩
        exact HNO.out p (by rw [HJ.out]; exact hw.1) hw
      | succ gg =>
        have h1 : (j : Int) < (n : Int) := by omega
        have hjn : j < n := by omega
        have cb := HX.out.cb j hjn
        cases hf : f j with
        | true =>
          rw [hf] at cb
          have HF := hide hf
          clear hf
          have HST2 : Hid (∀ i, i < m + 1 → f (j + 1 - (m + 1) + i) = true) := fun i hi => by
            rw [show j + 1 - (m + 1) + i = j - m + i by omega]
            by_cases he : i = m
            · rw [he, show j - m + m = j by omega]; exact HF.out
            · exact HST.out i (by omega)
          have low : ∀ p, p + k ≤ j + 1 → m + 1 < k → ¬ win f n k p := fun p hp hmk2 hw => by
            rcases Nat.lt_or_ge j (p + k) with h | h
            · have := hw.2 (j - m - 1 - p) (by omega)
              rw [show p + (j - m - 1 - p) = j - m - 1 by omega, HBR.out (by omega)] at this
              cases this
            · exact HNO.out p h hw
          have LOW := hide low
          clear low
          by_cases hmk3 : m + 1 = k
          · have heq : ((m : Int) + 1 == (k : Int)) = true := by simp; omega
            have HW : Hid (win f n k (j - m) ∧ ∀ p, p < j - m → ¬ win f n k p) := ⟨⟨by omega, fun i hi => by
              by_cases he : i = m
              · rw [he, show j - m + m = j by omega]; exact HF.out
              · exact HST.out i (by omega)⟩, fun p hp hw => HNO.out p (by omega) hw⟩
            go_wp2
            go_ret
            refine ⟨_, rfl, .inr ⟨k, rfl, hk1, .inr ⟨j - m, ?_, HW.out.1, HW.out.2⟩⟩, rfl⟩
            go_num
          · have heq : ((m : Int) + 1 == (k : Int)) = false := by simp; omega
            go_wp2
            go_roundg gg
            case measure => omega
            case rel =>
              refine ⟨j + 1, m + 1, by omega, by go_num, by go_num, by omega, by omega, HST2.out, fun h => ?_, fun p hp => LOW.out p hp (by omega), rfl⟩
              rw [show j + 1 - (m + 1) - 1 = j - m - 1 by omega]
              exact HBR.out (by omega)
        | false =>
          rw [hf] at cb
          have HF := hide hf
          clear hf
          have heq : ((0 : Int) == (k : Int)) = false := by simp; omega
          go_wp2
          go_roundg gg
          case measure => omega
          case rel =>
            refine ⟨j + 1, 0, by omega, by go_num, by go_num, by omega, by omega, fun i hi => by omega, fun h => HF.out, fun p hp hw => ?_, rfl⟩
            rcases Nat.lt_or_ge j (p + k) with h | h
            · have := hw.2 (j - p) (by omega)
              rw [show p + (j - p) = j by omega, HF.out] at this
              cases this
            · exact HNO.out p h hw
end

end Go.Proofs.YtibgkmbdnelbeaaDoor
