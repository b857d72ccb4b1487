/- Contracts: few, Of (incipitlaw07). -/
import Derived.Test.YtibgkmbdnelbeaaDoorERun
import Derived.Test.YtibgkmbdnelbeaaDoorEIs
namespace Go.Proofs.YtibgkmbdnelbeaaDoor
set_option maxRecDepth 20000
open Go.RowKit
set_option linter.unusedVariables false
set_option maxRecDepth 100000

theorem few_any (w : World) (n : Int) (ao : Option Addr) (m cap : Nat) : Calls Tryd.prog 17 #[.int .i64 n, .slice ao m cap] w fun e w' => e = .returned (.bool (decide (1 ≤ n ∧ n ≤ 300 ∧ m ≤ 400))) ∧ w' = w := by
  by_cases h1 : 1 ≤ n
  · by_cases h2 : n ≤ 300
    · by_cases h3 : m ≤ 400
      · have h3' : (m : Int) ≤ 400 := by omega
        rw [decide_eq_true ⟨h1, h2, h3⟩]
        go_enter Tryd.func17, Tryd.ntmps17
        go_wp2
        go_ret
        exact ⟨rfl, rfl⟩
      · have h3' : ¬ (m : Int) ≤ 400 := by omega
        rw [decide_eq_false (fun h => h3 h.2.2)]
        go_enter Tryd.func17, Tryd.ntmps17
        go_wp2
        go_ret
        exact ⟨rfl, rfl⟩
    · rw [decide_eq_false (fun h => h2 h.2.1)]
      go_enter Tryd.func17, Tryd.ntmps17
      go_wp2
      go_ret
      exact ⟨rfl, rfl⟩
  · rw [decide_eq_false (fun h => h1 h.1)]
    go_enter Tryd.func17, Tryd.ntmps17
    go_wp2
    go_ret
    exact ⟨rfl, rfl⟩

/-- the pages of a list -/
def ofF (n : Nat) (ks : List Int) : Nat → Bool := fun q => decide (q < n) && ks.contains (q : Int)
theorem ofF_nil (n : Nat) : ofF n [] = fun _ => false := by funext q; simp [ofF]
theorem ofF_snoc (n : Nat) (ks : List Int) (k : Nat) (hk : k < ks.length) : addF n (ofF n (ks.take k)) (ks.getD k 0) = ofF n (ks.take (k + 1)) := by
  funext q
  simp only [addF, ofF]
  rw [take_snoc ks k hk, getD_lt ks hk]
  generalize ks.take k = l
  generalize ks[k] = x
  rw [Bool.eq_iff_iff]
  simp only [Bool.or_eq_true, Bool.and_eq_true, decide_eq_true_eq, List.contains_iff_mem, List.mem_append, List.mem_singleton]
  constructor
  · rintro (⟨h1, h2⟩ | ⟨h1, h2⟩)
    · exact ⟨h1, .inl h2⟩
    · exact ⟨h2, .inr h1⟩
  · rintro ⟨h1, h2 | h2⟩
    · exact .inl ⟨h1, h2⟩
    · exact .inr ⟨h2, h1⟩

set_option maxHeartbeats 1000000 in
theorem of_ok (w : World) (n : Nat) (h1 : 1 ≤ n) (h2 : n ≤ 2048) (v : Value) (ks : List Int) (hv : Is w v ks) :
    Calls Tryd.prog 18 #[.int .i64 n, v] w fun e w' => e = .returned (dp w.heap.size) ∧ SetB w' w.heap.size n (ofF n ks) ∧ Below w.heap.size w w' := by
  have HN := hide (new_ok w n h1 h2)
  obtain ⟨w1, hw1⟩ : ∃ w1, w.alloc (.cells (sc n (fun _ => false)).toArray 54) = w1 := ⟨_, rfl⟩
  rw [hw1] at HN
  have hS1 : SetB w1 w.heap.size n (fun _ => false) := ⟨by rw [← hw1]; exact Blk.new w _ _, h1, h2, fun _ _ => rfl⟩
  have hb1 : Below w.heap.size w w1 := by rw [← hw1]; exact (Below.refl _ w).alloc (Nat.le_refl _) _
  have HS1 := hide hS1
  have HB1 := hide hb1
  have HV := hide hv
  obtain ⟨ao, cap, rfl⟩ : ∃ ao cap, v = .slice ao ks.length cap := by obtain ⟨ao, cap, h, _⟩ := hv; exact ⟨ao, cap, h⟩
  obtain ⟨_, hc1, hc2⟩ := hv.cap
  unfold maxLen at hc2
  obtain ⟨m, hm⟩ : ∃ m, ks.length = m := ⟨_, rfl⟩
  rw [hm] at HV hc1 ⊢
  have HM := hide hm
  clear hv hw1 hS1 hb1 hm
  go_enter Tryd.func18, Tryd.ntmps18
  go_wp2_with (go_at_call 8; refine HN.out.mono ?_; rintro e w2 ⟨rfl, hw⟩; subst w2; clear HN)
  go_loopg [22] m (fun g i wr => ∃ k : Nat, g + k = m ∧ i = .int .i64 k ∧ SetB wr w.heap.size n (ofF n (ks.take k)) ∧ Below w.heap.size w wr)
  case atStart => exact ⟨0, rfl, rfl, by rw [List.take_zero, ofF_nil]; exact HS1.out, HB1.out⟩
  case round =>
    obtain ⟨k, hk, rfl, hs, hb⟩ := hrel
    have HS := hide hs
    have HB := hide hb
    cases gk with
    | zero =>
      have hkm : k = m := by omega
      have h3 : ¬ (k : Int) < (m : Int) := by omega
      have HE : Hid (ks.take k = ks) := by show _ = _; rw [hkm]; exact List.take_of_length_le (by rw [HM.out]; exact Nat.le_refl _)
      clear hs hb hkm
      go_wp2
      go_ret
      have := HS.out
      rw [HE.out] at this
      exact ⟨rfl, this, HB.out⟩
    | succ g =>
      have h3 : (k : Int) < (m : Int) := by omega
      have hkl : k < ks.length := by rw [HM.out]; omega
      obtain ⟨b, off, hao, hcell⟩ := Is.at (HV.out.below hb) k hkl
      subst hao
      have HA := add_any wr w.heap.size n _ (ks.getD k 0) hs
      rw [ofF_snoc n ks k hkl] at HA
      have HA := hide HA
      obtain ⟨x, hx⟩ : ∃ x, ks.getD k 0 = x := ⟨_, rfl⟩
      rw [hx] at HA hcell
      clear hs hb hx hkl
      go_wp2_with (go_at_call 12; refine HA.out.mono ?_; rintro e w3 ⟨rfl, hs3, ho3⟩; have HS3 := hide hs3; have HB3 := hide (HB.out.trans (ho3.below HB.out.size (fun j hj e => by omega))); clear HA hs3 ho3)
      go_roundg g
      case measure => omega
      case rel => exact ⟨k + 1, by omega, by go_num, HS3.out, HB3.out⟩

end Go.Proofs.YtibgkmbdnelbeaaDoor
