/- Contracts: package freemap's Need, mayBe, Open. -/
import Derived.Test.YtbnhacibkmcmkaaDoorKMap
namespace Go.Proofs.YtbnhacibkmcmkaaDoor
set_option maxRecDepth 20000
open Go.RowKit
set_option linter.unusedVariables false
set_option maxRecDepth 100000

theorem needN_ok {n : Nat} (h1 : 8 ≤ n) (h2 : n ≤ 2048) : needN n = ((1 + (n - 1) / 1024 : Nat) : Int) := by
  rw [needN, if_pos (sizeB_iff.2 (by omega))]
  omega
theorem needN_no {n : Int} (h : ¬ (8 ≤ n ∧ n ≤ 2048)) : needN n = 0 := by rw [needN, sizeB_no h]; rfl
theorem need_any (w : World) (n : Int) : Calls Tryd.prog 14 #[.int .i64 n] w fun e w' => e = .returned (.int .i64 (needN n)) ∧ w' = w := by
  by_cases h0 : n < 8
  · rw [needN_no (by omega)]
    go_enter Tryd.func14, Tryd.ntmps14
    go_wp2
    go_ret
    exact ⟨rfl, rfl⟩
  · by_cases h1 : 2048 < n
    · rw [needN_no (by omega)]
      go_enter Tryd.func14, Tryd.ntmps14
      go_wp2
      go_ret
      exact ⟨rfl, rfl⟩
    · obtain ⟨m, rfl⟩ : ∃ m : Nat, n = (m : Int) + 1 := ⟨(n - 1).toNat, by omega⟩
      have e : needN ((m : Int) + 1) = 1 + ((m / 1024 : Nat) : Int) := by
        rw [needN, if_pos (sizeB_iff.2 (by omega))]; omega
      rw [e]
      obtain ⟨d, hd⟩ : ∃ d, m / 1024 = d := ⟨_, rfl⟩
      have hd1 : (m : Int) / 1024 = (d : Int) := by omega
      rw [hd]
      have hd2 : d < 2 := by omega
      have hm : m < 2048 := by omega
      go_enter Tryd.func14, Tryd.ntmps14
      go_wp2
      go_ret
      exact ⟨rfl, rfl⟩

set_option maxHeartbeats 1000000 in
theorem mayBe_any (w : World) (n : Int) (v : Value) (ks : List Int) (hv : Is w v ks) : Calls Tryd.prog 38 #[.int .i64 n, v] w fun e w' => e = .returned (.bool (mayB n ks)) ∧ w' = w := by
  have HN := need_any w n
  obtain ⟨ao, cap, rfl⟩ : ∃ ao cap, v = .slice ao ks.length cap := by obtain ⟨ao, cap, h, _⟩ := hv; exact ⟨ao, cap, h⟩
  by_cases hn : 8 ≤ n ∧ n ≤ 2048
  · have hs := sizeB_iff.2 hn
    rw [show mayB n ks = riseB n (-1) ks by rw [mayB, hs]; rfl]
    obtain ⟨N, hN⟩ : ∃ N : Nat, needN n = (N : Int) + 1 := by
      refine ⟨((n - 1) / 1024).toNat, ?_⟩
      rw [needN, if_pos hs]; omega
    rw [hN] at HN
    have HN := hide HN
    have hN0 : ¬ ((N : Int) + 1 = 0) := by omega
    have HV := hide hv
    obtain ⟨_, hc1, hc2⟩ := hv.cap
    unfold maxLen at hc2
    obtain ⟨m, hm⟩ : ∃ m, ks.length = m := ⟨_, rfl⟩
    rw [hm] at HV hc1 ⊢
    have HM := hide hm
    clear hv hm hN
    go_enter Tryd.func38, Tryd.ntmps38
    go_wp2_with (go_at_call 14; refine HN.out.mono ?_; rintro e w2 ⟨rfl, hw⟩; subst w2; clear HN)
    go_loopg [5, 13] m (fun g l i wr => ∃ (k : Nat) (L : Int), g + k = m ∧ i = .int .i64 k ∧ l = .int .i64 L ∧ riseB n (-1) ks = riseB n L (ks.drop k) ∧ w = wr)
    case atStart => exact ⟨0, -1, rfl, rfl, rfl, rfl, rfl⟩
    case round =>
      obtain ⟨k, L, hk, rfl, rfl, hr, rfl⟩ := hrel
      have HR := hide hr
      clear hr
      cases gk with
      | zero =>
        have hkm : k = m := by omega
        have h3 : ¬ (k : Int) < (m : Int) := by omega
        have HE : Hid (ks.drop k = []) := by show _ = _; exact List.drop_of_length_le (by rw [HM.out]; omega)
        clear hkm
        go_wp2
        go_ret
        refine ⟨ret_bool ?_, rfl⟩
        rw [HR.out, HE.out]; rfl
      | succ g =>
        have h3 : (k : Int) < (m : Int) := by omega
        have hkl : k < ks.length := by rw [HM.out]; omega
        obtain ⟨b, off, hao, hcell⟩ := Is.at HV.out k hkl
        subst hao
        have HD : Hid (ks.drop k = ks.getD k 0 :: ks.drop (k + 1)) := by show _ = _; rw [List.drop_eq_getElem_cons hkl, getD_lt ks hkl]
        obtain ⟨x, hx⟩ : ∃ x, ks.getD k 0 = x := ⟨_, rfl⟩
        rw [hx] at HD hcell
        clear hx hkl
        by_cases hxl : x ≤ L
        · go_wp2
          go_ret
          refine ⟨ret_bool ?_, rfl⟩
          rw [HR.out, HD.out, riseB_cons, decide_eq_false (show ¬ L < x by omega)]; rfl
        · by_cases hxn : n ≤ x
          · go_wp2
            go_ret
            refine ⟨ret_bool ?_, rfl⟩
            rw [HR.out, HD.out, riseB_cons, decide_eq_false (show ¬ x < n by omega)]; simp
          · go_wp2
            go_roundg g
            case measure => omega
            case rel =>
              refine ⟨k + 1, x, by omega, by go_num, rfl, ?_, rfl⟩
              rw [HR.out, HD.out, riseB_cons, decide_eq_true (show L < x by omega), decide_eq_true (show x < n by omega)]; rfl
  · rw [needN_no hn] at HN
    rw [show mayB n ks = false by rw [mayB, sizeB_no hn]; rfl]
    have HN := hide HN
    clear hv
    go_enter Tryd.func38, Tryd.ntmps38
    go_wp2_with (go_at_call 14; refine HN.out.mono ?_; rintro e w2 ⟨rfl, hw⟩; subst w2; clear HN)
    go_ret
    exact ⟨rfl, rfl⟩

theorem open_bad (w : World) (n : Int) (v : Value) (ks : List Int) (hv : Is w v ks) (h : mayB n ks = false) : Calls Tryd.prog 18 #[.int .i64 n, v] w fun e w' => e = .returned (.tuple #[.pointer none, .int .i64 1]) ∧ w' = w := by
  have HN := mayBe_any w n v ks hv
  rw [h] at HN
  have HN := hide HN
  obtain ⟨ao, cap, rfl⟩ : ∃ ao cap, v = .slice ao ks.length cap := by obtain ⟨ao, cap, h, _⟩ := hv; exact ⟨ao, cap, h⟩
  generalize ks.length = m at *
  clear hv
  go_enter Tryd.func18, Tryd.ntmps18
  go_wp2_with (go_at_call 38; refine HN.out.mono ?_; rintro e w2 ⟨rfl, hw⟩; subst w2; clear HN)
  go_ret2
  exact ⟨rfl, rfl⟩
theorem inL_snoc (n : Nat) (ks : List Int) (hr : riseB n (-1) ks = true) (k : Nat) (hk : k < ks.length) : addF n (inL (ks.take k)) (ks.getD k 0) = inL (ks.take (k + 1)) := by
  funext q
  have hm := riseB_mem hr ks[k] (List.getElem_mem hk)
  simp only [addF, inL]
  rw [take_snoc ks k hk, getD_lt ks hk]
  generalize ks.take k = l
  generalize ks[k] = x at *
  rw [Bool.eq_iff_iff]
  simp only [Bool.or_eq_true, decide_eq_true_eq, List.mem_append, List.mem_singleton]
  constructor
  · rintro (h | h)
    · exact .inl h
    · exact .inr h.1
  · rintro (h | h)
    · exact .inl h
    · exact .inr ⟨h, by omega⟩

set_option maxHeartbeats 2000000 in
theorem open_ok (w : World) (n : Nat) (v : Value) (ks : List Int) (hv : Is w v ks) (h : mayB n ks = true) (hT : TabB w) (hp : 0 < w.heap.size) :
    Calls Tryd.prog 18 #[.int .i64 n, v] w fun e w' => ∃ b, e = .returned (.tuple #[dp b, .int .i64 0]) ∧ MapE w' w.heap.size b n (inL ks) (inL ks) ∧ Below w.heap.size w w' := by
  have HMB := mayBe_any w n v ks hv
  rw [h] at HMB
  have HMB := hide HMB
  rw [mayB, Bool.and_eq_true, sizeB_iff] at h
  obtain ⟨hn, hr⟩ := h
  have h1 : 1 ≤ n := by omega
  have h2 : n ≤ 2048 := by omega
  have HN := hide (new_ok w n h1 h2)
  obtain ⟨w1, hw1⟩ : ∃ w1, w.alloc (.cells (sc n (fun _ => false)).toArray 81) = w1 := ⟨_, rfl⟩
  rw [hw1] at HN
  have hS1 : SetB w1 w.heap.size n (fun _ => false) := ⟨by rw [← hw1]; exact Blk.new w _ _, h1, h2, fun _ _ => rfl⟩
  have hb1 : Below w.heap.size w w1 := by rw [← hw1]; exact (Below.refl _ w).alloc (Nat.le_refl _) _
  have HS1 := hide hS1
  have HB1 := hide hb1
  have HV := hide hv
  have HRI := hide hr
  have HT := hide hT
  have HP := hide hp
  obtain ⟨ao, cap, rfl⟩ : ∃ ao cap, v = .slice ao ks.length cap := by obtain ⟨ao, cap, h, _⟩ := hv; exact ⟨ao, cap, h⟩
  obtain ⟨_, hc1, hc2⟩ := hv.cap
  unfold maxLen at hc2
  obtain ⟨m, hm⟩ : ∃ m, ks.length = m := ⟨_, rfl⟩
  rw [hm] at HV hc1 HMB ⊢
  have HM := hide hm
  clear hv hw1 hS1 hb1 hm hr hT hp
  go_enter Tryd.func18, Tryd.ntmps18
  go_wp2_with (first
    | (go_at_call 38; refine HMB.out.mono ?_; rintro e w2 ⟨rfl, hw⟩; subst w2; clear HMB)
    | (go_at_call 41; refine HN.out.mono ?_; rintro e w2 ⟨rfl, hw⟩; subst w2; clear HN))
  go_loopg [24] m (fun g i wr => ∃ k : Nat, g + k = m ∧ i = .int .i64 k ∧ SetB wr w.heap.size n (inL (ks.take k)) ∧ Below w.heap.size w wr)
  case atStart => exact ⟨0, rfl, rfl, by rw [List.take_zero]; exact HS1.out, HB1.out⟩
  case round =>
    obtain ⟨k, hk, rfl, hs, hb⟩ := hrel
    have HS := hide hs
    have HB := hide hb
    cases gk with
    | zero =>
      have hkm : k = m := by omega
      have h3 : ¬ (k : Int) < (m : Int) := by omega
      have he : ks.take k = ks := by rw [hkm]; exact List.take_of_length_le (by rw [HM.out]; exact Nat.le_refl _)
      rw [he] at hs
      have HC := hide (clone_any wr w.heap.size n (inL ks) hs)
      obtain ⟨w3, hw3⟩ : ∃ w3, wr.alloc (.cells (sc n (inL ks)).toArray 81) = w3 := ⟨_, rfl⟩
      rw [hw3] at HC
      have hb3 : Below wr.heap.size wr w3 := by rw [← hw3]; exact (Below.refl _ wr).alloc (Nat.le_refl _) _
      have hs3 : SetB w3 wr.heap.size n (inL ks) := ⟨by rw [← hw3]; exact Blk.new wr _ _, hs.lo, hs.hi, hs.out⟩
      have hz3 : w3.heap.size = wr.heap.size + 1 := by rw [← hw3]; simp
      have hlt := hs.lt
      have hb4 : Below w3.heap.size w3 (w3.alloc (.cells #[dp w.heap.size, dp wr.heap.size] 66)) := (Below.refl _ w3).alloc (Nat.le_refl _) _
      have hbz := hb.size
      have hball : Below w.heap.size w (w3.alloc (.cells #[dp w.heap.size, dp wr.heap.size] 66)) := (hb.trans (hb3.mono hbz)).trans (hb4.mono (by omega))
      have HR : Hid (MapE (w3.alloc (.cells #[dp w.heap.size, dp wr.heap.size] 66)) w.heap.size w3.heap.size n (inL ks) (inL ks)) :=
        ⟨w.heap.size, wr.heap.size, Blk.new w3 66 [dp w.heap.size, dp wr.heap.size], (hs.below hb3).below hb4, hs3.below hb4, by omega, by omega, Nat.le_refl _, hbz, HT.out.below hball, HP.out⟩
      have HBA := hide hball
      clear hs hb hkm he hb3 hs3 hz3 hb4 hball hw3 hlt hbz
      go_wp2_with (first
        | (go_at_call 43; refine HC.out.mono ?_; rintro e w4 ⟨rfl, hw⟩; subst w4; clear HC))
      go_ret2
      exact ⟨_, rfl, HR.out, HBA.out⟩
    | succ g =>
      have h3 : (k : Int) < (m : Int) := by omega
      have hkl : k < ks.length := by rw [HM.out]; omega
      obtain ⟨b, off, hao, hcell⟩ := Is.at (HV.out.below hb) k hkl
      subst hao
      have HA := add_any wr w.heap.size n _ (ks.getD k 0) hs
      rw [inL_snoc n ks HRI.out k hkl] at HA
      have HA := hide HA
      obtain ⟨x, hx⟩ : ∃ x, ks.getD k 0 = x := ⟨_, rfl⟩
      rw [hx] at HA hcell
      clear hs hb hx hkl
      go_wp2_with (go_at_call 42; refine HA.out.mono ?_; rintro e w3 ⟨rfl, hs3, ho3⟩; have HS3 := hide hs3; have HB3 := hide (HB.out.trans (ho3.below HB.out.size (fun j hj e => by omega))); clear HA hs3 ho3)
      go_roundg g
      case measure => omega
      case rel => exact ⟨k + 1, by omega, by go_num, HS3.out, HB3.out⟩

end Go.Proofs.YtbnhacibkmcmkaaDoor
