/- Contract: the document's answer: a page of a kind that is wanted (incipitref04.Want). -/
import Derived.Test.YtmeiahmolmneeaaDoorFRefGet
namespace Go.Proofs.YtmeiahmolmneeaaDoor
set_option maxRecDepth 20000
open Go.RowKit
set_option linter.unusedVariables false

/-- of no bytes no cell is read -/
theorem Sl.keep_nil {w w' : World} {v : Value} (h : Sl w v []) : Sl w' v [] := by
  obtain ⟨hb, ao, cap, rfl, h1, h2, h3, h4⟩ := h
  exact ⟨hb, ao, cap, rfl, h1, h2, h3, fun h => absurd rfl h⟩

set_option maxRecDepth 20000 in
set_option maxHeartbeats 4000000 in
theorem refWant_any (w : World) (v : Value) (zs : List Int) (q : Int) (kv : Value) (ks : List Int) (h : Sl w v zs) (hk : Is w kv ks) :
    Calls Tryd.prog 40 #[v, .int .i64 q, kv] w (GivesS w (wantS zs q ks)) := by
  have HN := hide (St.new w)
  have hza := zeroFrameRun
  have HG : Hid (∀ w1, St w w1 → Calls Tryd.prog 63 #[v, .int .i64 q] w1 fun r w2 => ∃ a c, r = .returned (.tuple #[.agg #[.int .i64 (getS zs q).kind, .int .i64 (getS zs q).page, .int .u64 (getS zs q).epoch, .slice a (getS zs q).data.length c], .int .i64 (getS zs q).err]) ∧ Sl w2 (.slice a (getS zs q).data.length c) (getS zs q).data ∧ (∀ k, (Value.slice a (getS zs q).data.length c).ownBlock = some k → (getS zs q).data ≠ [] → k ≠ w.heap.size) ∧ St w w2) := by
    intro w1 hs
    refine (refGet_any w1 v zs q (h.below hs.1)).mono ?_
    rintro r w2 ⟨a, c, rfl, hS, hb⟩
    refine ⟨a, c, rfl, hS, fun k hk hne => ?_, hs.below hb⟩
    rintro rfl
    obtain ⟨_, ao, cap, he, _, _, _, h4⟩ := hS
    obtain ⟨b, off, rfl, hc⟩ := h4 hne
    simp only [Value.slice.injEq, true_and] at he
    obtain ⟨rfl, rfl⟩ := he
    simp [Value.ownBlock] at hk
    subst hk
    have hc0 := hc 0 (List.length_pos_iff.2 hne)
    have hB := (hs.below hb).2
    have : w2.cell? ⟨w.heap.size, off + 0, none⟩ = _ := hB.cell (off + 0)
    rw [hc0] at this
    rcases (by omega : off + 0 = 0 ∨ off + 0 = 1 ∨ off + 0 = 2 ∨ off + 0 = 3 ∨ 4 ≤ off + 0) with h | h | h | h | h
    · rw [h] at this; simp at this
    · rw [h] at this; simp at this
    · rw [h] at this; simp at this
    · rw [h] at this; simp at this
    · rw [List.getElem?_eq_none (by simpa using h)] at this; simp at this
  have HE := hide (getS_err zs q)
  have HW1 := hide (wantS_err (zs := zs) (q := q) ks)
  have HW2 := hide (wantS_no (zs := zs) (q := q) (ks := ks))
  have HW3 := hide (wantS_yes (zs := zs) (q := q) (ks := ks))
  have HI := hide hk
  obtain ⟨ao, cap, rfl⟩ := sl_form' h
  obtain ⟨ko, kc, rfl, hkl, hkm, _⟩ := hk
  unfold maxLen at hkm
  obtain ⟨W, hW⟩ : ∃ W, W = wantS zs q ks := ⟨_, rfl⟩
  rw [← hW] at HW1 HW2 HW3 ⊢
  obtain ⟨G, hG⟩ : ∃ G, G = getS zs q := ⟨_, rfl⟩
  rw [← hG] at HG HE HW1 HW2 HW3
  obtain ⟨er, k, p, e, D⟩ := G
  simp only at HG HE HW1 HW2 HW3
  clear h hW hG
  by_cases h0 : er = 0
  · subst h0
    have HW2' : Hid (k ∉ ks → W = noFr 42) := fun h => HW2.out rfl h
    have HW3' : Hid (k ∈ ks → W = ⟨0, k, p, e, D⟩) := fun h => HW3.out rfl h
    clear HW1 HW2 HW3 HE
    go_enter Tryd.func40, Tryd.ntmps40
    go_wp2_with (first
      | (go_at_call 63; refine (HG.out _ HN.out).mono ?_; rintro e1 w1 ⟨a1, l1, rfl, S1, hn1, st1⟩; have HS1 := hide (S1.alloc (.cells #[.int .i64 k, .int .i64 p, .int .u64 e, .slice a1 D.length l1] 59)); have HQ1 := hide (Blk.new w1 59 [.int .i64 k, .int .i64 p, .int .u64 e, .slice a1 D.length l1]); have HST := hide (st1.below ((Below.refl _ w1).alloc (Nat.le_refl _) (.cells #[.int .i64 k, .int .i64 p, .int .u64 e, .slice a1 D.length l1] 59))); have HN1 := hide hn1; have hlt1 := st1.2.lt; clear HG HN S1 st1 hn1))
    obtain ⟨W2, hW2⟩ : ∃ W2, W2 = w1.alloc (.cells #[.int .i64 k, .int .i64 p, .int .u64 e, .slice a1 D.length l1] 59) := ⟨_, rfl⟩
    have HQ1' : Hid (Blk W2 w1.heap.size 59 [.int .i64 k, .int .i64 p, .int .u64 e, .slice a1 D.length l1]) := by show Blk _ _ _ _; rw [hW2]; exact HQ1.out
    rw [← hW2] at HS1 HST ⊢
    obtain ⟨B8, hB8⟩ : ∃ B, B = w1.heap.size := ⟨_, rfl⟩
    rw [← hB8] at HQ1' hlt1 ⊢
    clear hW2 HQ1 hB8
    go_loopg [10] ks.length (fun gl i wr => ∃ j : Nat, gl + j = ks.length ∧ i = .int .i64 j ∧ (∀ m, m < j → ks.getD m 0 ≠ k) ∧ Below W2.heap.size W2 wr)
    case atStart => exact ⟨0, by omega, rfl, fun m hm => by omega, Below.refl _ _⟩
    case round =>
      obtain ⟨j, hj, rfl, hno, hb⟩ := hrel
      have HNO := hide hno
      have Hb := hide hb
      have st := HST.out.below hb
      obtain ⟨⟨c0, c1, c2, c3⟩, f0, f1, f2, f3⟩ := st.cells
      obtain ⟨d0, d1, d2, d3⟩ := box_cells (HQ1'.out.below hb HQ1'.out.lt)
      have HSTR := hide st
      clear hno st
      cases gk with
      | zero =>
        obtain rfl : j = ks.length := by omega
        have hnin : k ∉ ks := fun h => by
          obtain ⟨m, hm⟩ := List.getElem?_of_mem h
          have hml := (List.getElem?_eq_some_iff.1 hm).1
          exact absurd (by rw [getD_lt ks hml]; exact (List.getElem?_eq_some_iff.1 hm).2) (HNO.out m hml)
        have HNI := hide hnin
        clear hb hnin
        go_wp2
        (try simp only [Exit.inBlock, Exit.then])
        obtain ⟨s1, b8, _⟩ := HSTR.out.store (.int .i64 0) (.int .i64 0) (.int .u64 0) (.slice none 0 0)
        refine bodyPost_ret (ret_frame rfl _ _ w.heap.size _ _ _ _ _ rfl rfl s1) rfl ?_
        rw [HW2'.out HNI.out]
        exact GivesS.no 42 b8
      | succ g =>
        have hjl : j < ks.length := by omega
        have hji : (j : Int) < (ks.length : Int) := by omega
        obtain ⟨ko', kc', he, _, _, h3⟩ := HI.out.below (HST.out.1.trans (hb.mono HST.out.1.size))
        simp only [Value.slice.injEq, true_and] at he
        obtain ⟨rfl, rfl⟩ := he
        obtain ⟨kb, koff, rfl, hc⟩ := h3 (by intro h; simp [h] at hjl)
        have cx := hc j hjl
        obtain ⟨x, hx⟩ : ∃ x, x = ks.getD j 0 := ⟨_, rfl⟩
        rw [← hx] at cx
        have HX := hide hx
        clear hc hx h3 hb
        by_cases hkx : x = k
        · subst hkx
          have hin : x ∈ ks := by rw [HX.out, getD_lt ks hjl]; exact List.getElem_mem hjl
          have HIN := hide hin
          clear hin
          go_wp2
          go_quiet (fail)
          go_wp2
          (try simp only [Exit.inBlock, Exit.then])
          obtain ⟨s1, b8, k8⟩ := (HSTR.out.drewN _).store (.int .i64 x) (.int .i64 p) (.int .u64 e) (.slice a1 D.length l1)
          refine bodyPost_ret (ret_frame rfl _ _ w.heap.size _ _ _ _ _ rfl rfl s1) rfl ?_
          rw [HW3'.out HIN.out]
          refine ⟨a1, l1, rfl, ?_, b8⟩
          by_cases hD : D = []
          · subst hD
            exact (HS1.out.below Hb.out).keep_nil
          · exact ((HS1.out.below Hb.out).drewN _).keep (fun kk hk _ => k8 kk (HN1.out kk hk hD))
        · have hkx' : (x == k) = false := by simpa using hkx
          go_wp2
          go_quiet (fail)
          go_wp2
          go_roundg g
          case measure => omega
          case rel =>
            refine ⟨j + 1, by omega, by go_num, fun m hm => ?_, below_drewN Hb.out _⟩
            rcases Nat.lt_or_ge m j with h | h
            · exact HNO.out m h
            · obtain rfl : m = j := by omega
              rw [← HX.out]
              exact hkx
  · rw [HW1.out h0]
    have hne : (er != 0) = true := by simpa using h0
    clear HW1 HW2 HW3 HE
    go_enter Tryd.func40, Tryd.ntmps40
    go_wp2_with (first
      | (go_at_call 63; refine (HG.out _ HN.out).mono ?_; rintro e1 w1 ⟨a1, l1, rfl, S1, _, st1⟩; have st2 := st1.below ((Below.refl _ w1).alloc (Nat.le_refl _) (.cells #[.int .i64 k, .int .i64 p, .int .u64 e, .slice a1 D.length l1] 59)); have HST := hide st2; obtain ⟨⟨c0, c1, c2, c3⟩, f0, f1, f2, f3⟩ := st2.cells; clear HG HN S1 st1 st2))
    (try simp only [Exit.inBlock, Exit.then])
    obtain ⟨s1, b8, _⟩ := HST.out.store (.int .i64 0) (.int .i64 0) (.int .u64 0) (.slice none 0 0)
    refine bodyPost_ret (ret_frame rfl _ _ w.heap.size _ _ _ _ _ rfl rfl s1) rfl ?_
    exact GivesS.no er b8

end Go.Proofs.YtmeiahmolmneeaaDoor
