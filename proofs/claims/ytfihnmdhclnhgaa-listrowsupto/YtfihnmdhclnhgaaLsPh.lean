/- Contracts: package list's checkPostings, offsetsMayBe, Phrase. -/
import Derived.Test.YtfihnmdhclnhgaaLsRow
import Derived.Test.YtfihnmdhclnhgaaPoChk
namespace Go.Proofs.Ytfihnmdhclnhgaa
set_option maxRecDepth 20000
open Go.RowKit
set_option linter.unusedVariables false
set_option linter.unusedSimpArgs false
set_option maxRecDepth 100000

/-- lists of postings that are read -/
def Pss (w : World) (v : Value) (us : List Value) (ls : List (List PE)) : Prop :=
  us.length = ls.length ∧ ∃ ao cap, v = .slice ao ls.length cap ∧ ls.length ≤ cap ∧ cap ≤ maxLen ∧ (∀ i, i < ls.length → Pq w (us.getD i nilS) (ls.getD i []) ∧ PqIn w (ls.getD i [])) ∧ (ls ≠ [] → ∃ b off, ao = some ⟨b, off, none⟩ ∧ ∀ i, i < ls.length → w.cell? ⟨b, off + i, none⟩ = some (us.getD i nilS))
theorem Pss.below {w w' : World} {v : Value} {us : List Value} {ls : List (List PE)} (h : Pss w v us ls) (hb : Below w.heap.size w w') : Pss w' v us ls := by
  obtain ⟨hl, ao, cap, rfl, h1, h2, h3, h4⟩ := h
  refine ⟨hl, ao, cap, rfl, h1, h2, fun i hi => ⟨(h3 i hi).1.below hb, (h3 i hi).2.below hb⟩, fun hne => ?_⟩
  obtain ⟨b, off, rfl, hc⟩ := h4 hne
  exact ⟨b, off, rfl, fun i hi => cell_belowL hb (hc i hi)⟩
theorem Pss.shape {w : World} {v : Value} {us : List Value} {ls : List (List PE)} (h : Pss w v us ls) : ∃ ao cap, v = .slice ao ls.length cap ∧ ls.length ≤ cap ∧ cap ≤ 9223372036854775807 := by
  obtain ⟨_, ao, cap, rfl, h1, h2, _⟩ := h
  exact ⟨ao, cap, rfl, h1, h2⟩
theorem Pss.at {w : World} {ao : Option Addr} {n cap : Nat} {us : List Value} {ls : List (List PE)} (h : Pss w (.slice ao n cap) us ls) (i : Nat) (hi : i < ls.length) : ∃ b off, ao = some ⟨b, off, none⟩ ∧ w.cell? ⟨b, off + i, none⟩ = some (us.getD i nilS) ∧ Pq w (us.getD i nilS) (ls.getD i []) ∧ PqIn w (ls.getD i []) := by
  obtain ⟨_, ao', cap', he, h1, h2, h3, h4⟩ := h
  simp only [Value.slice.injEq] at he
  obtain ⟨rfl, rfl, rfl⟩ := he
  obtain ⟨b, off, rfl, hc⟩ := h4 (by intro e; simp [e] at hi)
  exact ⟨b, off, rfl, hc i hi, (h3 i hi).1, (h3 i hi).2⟩

abbrev posOf (l : List PE) : List Po := l.map (·.2)
def okPs (ls : List (List PE)) : Bool := ls.all fun l => listOk 0 (posOf l)
theorem listOk_step (l : List PE) (D k : Nat) (h : k < l.length) : listOk D (posOf (l.drop k)) = (mayB D (l.getD k (nilS, noPo)).2 && listOk (l.getD k (nilS, noPo)).2.doc (posOf (l.drop (k + 1)))) := by
  rw [List.drop_eq_getElem_cons h, getD_pe l k h]
  rfl

set_option maxHeartbeats 2000000 in
theorem checkPs_any (w : World) (v : Value) (us : List Value) (ls : List (List PE)) (h : Pss w v us ls) : Calls Try.prog 50 #[v] w fun e w' => e = .returned (.int .i64 (if okPs ls = true then 0 else 160)) ∧ Below w.heap.size w w' := by
  obtain ⟨ao, cap, rfl, h1, h2⟩ := h.shape
  have HU := hide h
  obtain ⟨n, hn⟩ : ∃ n, ls.length = n := ⟨_, rfl⟩
  have HN := hide hn
  rw [hn] at HU h1 ⊢
  have HE : Hid (∀ b, okPs ls = b → (if okPs ls = true then (0 : Int) else 160) = if b = true then 0 else 160) := fun b hb => by rw [hb]
  generalize (if okPs ls = true then (0 : Int) else 160) = E at *
  clear h hn
  go_enter Try.func50, Try.ntmps50
  go_wp2
  go_loopg [10] n (fun g i wr => ∃ k : Nat, g + k = n ∧ i = .int .i64 (k : Int) ∧ okPs ls = okPs (ls.drop k) ∧ Below w.heap.size w wr)
  case atStart => exact ⟨0, by omega, rfl, by rw [List.drop_zero], Below.refl _ _⟩
  case round =>
    obtain ⟨k, hg, rfl, hr, hb⟩ := hrel
    have HR := hide hr
    have HB := hide hb
    obtain ⟨GK, hGK⟩ : ∃ x, gk = x := ⟨_, rfl⟩
    have HGK := hide hGK
    have HG : Hid (gk + k = n) := hg
    clear hr hb hGK
    by_cases hk : k < n
    · obtain ⟨b, off, rfl, c1, hq, hqi⟩ := (HU.out.below HB.out).at k (by have := HN.out; omega)
      have HS : Hid (okPs (ls.drop k) = (listOk 0 (posOf (ls.getD k [])) && okPs (ls.drop (k + 1)))) := all_step ls (fun l => listOk 0 (posOf l)) [] k (by have := HN.out; omega)
      obtain ⟨ua, uc, hus, hxc1, hxc2⟩ := hq.shape
      obtain ⟨x, hx⟩ : ∃ x, ls.getD k [] = x := ⟨_, rfl⟩
      rw [hx] at hq hqi HS hus hxc1
      rw [hus] at c1 hq
      obtain ⟨m, hm⟩ : ∃ m, x.length = m := ⟨_, rfl⟩
      have HM := hide hm
      rw [hm] at c1 hq hxc1
      have HQ := hide hq
      have HQI := hide hqi
      obtain ⟨WR, hWR⟩ : ∃ y, y = wr := ⟨_, rfl⟩
      subst hWR
      have hkk : (k : Int) < (n : Int) := by omega
      clear hq hqi hus hx hm
      go_wp2
      go_loopg [5, 16] m (fun g l5 l16 wx => ∃ (j D : Nat), g + j = m ∧ l16 = .int .i64 (j : Int) ∧ l5 = .int .u32 (D : Int) ∧ D < 4294967296 ∧ listOk 0 (posOf x) = listOk D (posOf (x.drop j)) ∧ Below WR.heap.size WR wx)
      case atStart => exact ⟨0, 0, by omega, rfl, rfl, by decide, by rw [List.drop_zero], Below.refl _ _⟩
      case round =>
        obtain ⟨j, D, hgj, rfl, rfl, hD, hrj, hbj⟩ := hrel
        have HRJ := hide hrj
        have HBJ := hide hbj
        clear hrj hbj
        by_cases hj : j < m
        · obtain ⟨b2, off2, rfl, d0, d1⟩ := (HQ.out.below HBJ.out).at j (by have := HM.out; omega)
          have hmem : x.getD j (nilS, noPo) ∈ x := by
            have hjl : j < x.length := by have := HM.out; omega
            rw [getD_pe x j hjl]
            exact List.getElem_mem hjl
          have HSJ := hide (listOk_step x D j (by have := HM.out; omega))
          obtain ⟨hpd, hpi⟩ := (HQI.out.below HBJ.out) _ hmem
          obtain ⟨y, hy⟩ : ∃ y, x.getD j (nilS, noPo) = y := ⟨_, rfl⟩
          rw [hy] at d0 d1 HSJ hpd hpi
          obtain ⟨yv, yd, yp⟩ := y
          simp only at d0 d1 hpd hpi
          obtain ⟨ya, yc, rfl, _, _⟩ := hpi.shape
          obtain ⟨yn, hyn⟩ : ∃ n, yp.length = n := ⟨_, rfl⟩
          obtain ⟨W2, hW2⟩ : ∃ W2, wr.alloc (.cells #[.int .u32 (yd : Int), .slice ya yn yc] 63) = W2 := ⟨_, rfl⟩
          have hb2 : Below wr.heap.size wr W2 := by rw [← hW2]; exact (Below.refl _ wr).alloc (Nat.le_refl _) _
          obtain ⟨e0, e1⟩ := box_po (w := W2) (b := wr.heap.size) (e := 63) (x := .int .u32 (yd : Int)) (y := .slice ya yn yc) (by rw [← hW2]; exact Blk.new wr _ _)
          have hPV : PoV W2 (.agg #[.int .u32 (yd : Int), .slice ya yn yc]) ⟨yd, yp⟩ := ⟨hpd, _, rfl, by rw [← hyn]; exact hpi.below hb2⟩
          have HCK := hide (check_any W2 D _ ⟨yd, yp⟩ hPV)
          have hbx : Blk W2 wr.heap.size 63 [.int .u32 (yd : Int), .slice ya yn yc] := by rw [← hW2]; exact Blk.new wr _ _
          have HBX := hide hbx
          have HB2 : Hid (Below WR.heap.size WR W2) := HBJ.out.trans (hb2.mono HBJ.out.size)
          have hjj : (j : Int) < (m : Int) := by omega
          rw [hyn] at d1
          have HPD := hide hpd
          clear hmem hpi hy hyn hb2 hPV hbx hpd
          cases hmb : mayB D ⟨yd, yp⟩ with
          | false =>
            have HF : Hid (okPs ls = false) := by
              show _ = _
              rw [HR.out, HS.out, HRJ.out, HSJ.out]
              simp only [hmb, Bool.false_and]
            rw [check_bad hmb] at HCK
            clear hmb HS HRJ HSJ
            go_wp2_with (go_at_call 74; refine HCK.out.mono ?_; rintro e w5 ⟨rfl, hb⟩; have HB5 := hide hb; clear HCK hb)
            go_ret
            exact ⟨ret_int (by rw [HE.out false HF.out]; rfl), HB.out.trans ((HB2.out.trans (HB5.out.mono HB2.out.size)).mono HB.out.size)⟩
          | true =>
            have HRN : Hid (listOk 0 (posOf x) = listOk yd (posOf (x.drop (j + 1)))) := by
              show _ = _
              rw [HRJ.out, HSJ.out]
              simp only [hmb, Bool.true_and]
            rw [check_ok hmb] at HCK
            clear hmb HRJ HSJ
            go_wp2_with (go_at_call 74; refine HCK.out.mono ?_; rintro e w5 ⟨rfl, hb⟩; have HB5 := hide hb; have z0 : w5.cell? ⟨wr.heap.size, 0, none⟩ = some (.int .u32 (yd : Int)) := (HBX.out.below hb HBX.out.lt).cell 0; clear HCK hb)
            go_roundg (gk - 1)
            case measure => omega
            case rel => exact ⟨j + 1, yd, by omega, by go_num, rfl, HPD.out, HRN.out, HB2.out.trans (HB5.out.mono HB2.out.size)⟩
        · obtain rfl : j = m := by omega
          have HRN : Hid (okPs ls = okPs (ls.drop (k + 1))) := by
            show _ = _
            rw [HR.out, HS.out, HRJ.out, List.drop_of_length_le (by have := HM.out; omega)]
            rfl
          go_wp2
          go_roundg (GK - 1)
          case measure => have := HGK.out; have := HG.out; omega
          case rel => exact ⟨k + 1, by have := HGK.out; have := HG.out; omega, by go_num, HRN.out, HB.out.trans (HBJ.out.mono HB.out.size)⟩
    · obtain rfl : k = n := by omega
      have HF : Hid (okPs ls = true) := by
        show _ = _
        rw [HR.out, List.drop_of_length_le (by have := HN.out; omega)]
        rfl
      go_wp2
      go_ret
      exact ⟨ret_int (by rw [HE.out true HF.out]; rfl), HB.out⟩

/-- offsets that rise, none above MaxPos -/
def offR : List Int → Bool
  | x :: y :: l => decide (x < y) && decide (y ≤ 1048576) && offR (y :: l)
  | _ => true
def offB (ks : List Int) : Bool := decide (1 ≤ ks.length) && decide (ks.length ≤ 16) && decide (ks.getD 0 0 = 0) && offR ks
theorem off_short {xs : List Int} (h : xs.length ≤ 1) : offR xs = true := by
  match xs, h with
  | [], _ => rfl
  | [_], _ => rfl
theorem off_step (xs : List Int) (k : Nat) (h : k + 1 < xs.length) : offR (xs.drop k) = (decide (xs.getD k 0 < xs.getD (k + 1) 0) && decide (xs.getD (k + 1) 0 ≤ 1048576) && offR (xs.drop (k + 1))) := by
  rw [List.drop_eq_getElem_cons (show k < xs.length by omega), List.drop_eq_getElem_cons h, getD_lt xs (show k < xs.length by omega), getD_lt xs h]
  rfl

set_option maxHeartbeats 2000000 in
theorem offsMay_any (w : World) (v : Value) (zs : List Int) (h : Is w v zs) : Calls Try.prog 59 #[v] w fun e w' => e = .returned (.bool (offB zs)) ∧ Below w.heap.size w w' := by
  obtain ⟨ao, cap, rfl, h1, h2⟩ := h.shape
  have HU := hide h
  obtain ⟨n, hn⟩ : ∃ n, zs.length = n := ⟨_, rfl⟩
  have HN := hide hn
  have HE : Hid (offB zs = (decide (1 ≤ n) && decide (n ≤ 16) && decide (zs.getD 0 0 = 0) && offR zs)) := by rw [← hn]; rfl
  generalize offB zs = E at *
  rw [hn] at HU h1 ⊢
  clear h hn
  by_cases n0 : n < 1
  · obtain rfl : n = 0 := by omega
    go_enter Try.func59, Try.ntmps59
    go_wp2
    go_ret
    exact ⟨ret_bool (by rw [HE.out]; rfl), Below.refl _ _⟩
  have i0 : ¬ ((n : Int) < 1) := by omega
  by_cases n1 : 16 < n
  · have i1 : (16 : Int) < (n : Int) := by omega
    go_enter Try.func59, Try.ntmps59
    go_wp2
    go_ret
    exact ⟨ret_bool (by rw [HE.out, decide_eq_false (show ¬ n ≤ 16 by omega)]; simp), Below.refl _ _⟩
  have i1 : ¬ ((16 : Int) < (n : Int)) := by omega
  obtain ⟨b, off, rfl, c0⟩ := HU.out.at 0 (by have := HN.out; omega)
  rw [Nat.add_zero] at c0
  obtain ⟨z0, hz0⟩ : ∃ z, zs.getD 0 0 = z := ⟨_, rfl⟩
  rw [hz0] at c0 HE
  have hnp : (0 : Int) < (n : Int) := by omega
  clear hz0
  by_cases hz : z0 = 0
  · subst hz
    have HE2 : Hid (E = offR zs) := by
      show _ = _
      rw [HE.out, decide_eq_true (show 1 ≤ n by omega), decide_eq_true (show n ≤ 16 by omega)]
      simp
    clear HE
    go_enter Try.func59, Try.ntmps59
    go_wp2
    go_loopg [3] n (fun g l3 wr => ∃ (i k : Nat), i = k + 1 ∧ g = n - k ∧ l3 = .int .i64 (i : Int) ∧ offR zs = offR (zs.drop k) ∧ ∃ q, wr = w.drewN q)
    case atStart => exact ⟨1, 0, rfl, rfl, rfl, by rw [List.drop_zero], 0, rfl⟩
    case round =>
      obtain ⟨i, k, hik, hg, rfl, hr, q, rfl⟩ := hrel
      have HR := hide hr
      have HIK := hide hik
      have HG := hide hg
      clear hr hg
      by_cases hi : i < n
      · obtain ⟨b1, off1, he1, c1⟩ := HU.out.at i (by have := HN.out; omega)
        obtain ⟨b2, off2, he, c2⟩ := HU.out.at k (by have := HN.out; omega)
        obtain ⟨rfl, rfl⟩ : b = b2 ∧ off = off2 := by simpa using he
        obtain ⟨rfl, rfl⟩ : b = b1 ∧ off = off1 := by simpa using he1
        obtain ⟨x, hx⟩ : ∃ x, zs.getD i 0 = x := ⟨_, rfl⟩
        obtain ⟨y, hy⟩ : ∃ y, zs.getD k 0 = y := ⟨_, rfl⟩
        have HS : Hid (offR (zs.drop k) = (decide (y < x) && decide (x ≤ 1048576) && offR (zs.drop i))) := by
          have := off_step zs k (by have := HN.out; omega)
          rw [← hik, hx, hy] at this
          exact this
        rw [hx] at c1
        rw [hy] at c2
        have hii : (i : Int) < (n : Int) := by omega
        have hkk : (k : Int) < (n : Int) := by omega
        have hw1 : IntKind.i64.wrap ((i : Int) - 1) = (k : Int) := by rw [IntWalk.i64_in _ (by omega)]; omega
        have hw2 : IntKind.i64.wrap ((i : Int) + 1) = (i : Int) + 1 := IntWalk.i64_in _ (by omega)
        clear he he1 hx hy hik c0
        by_cases hxy : x ≤ y
        · have HF : Hid (E = false) := by
            show _ = _
            rw [HE2.out, HR.out, HS.out, decide_eq_false (show ¬ y < x by omega)]
            rfl
          clear HS
          go_wp2
          go_quiet (fail)
          go_wp2
          go_ret
          exact ⟨ret_bool (by rw [HF.out]), by repeat (first | exact Below.refl _ _ | refine below_drewN ?_ _)⟩
        · by_cases hxm : x ≤ 1048576
          · have HS2 : Hid (offR zs = offR (zs.drop i)) := by
              show _ = _
              rw [HR.out, HS.out, decide_eq_true (show y < x by omega), decide_eq_true hxm]
              rfl
            have hxm2 : ¬ (1048576 : Int) < x := by omega
            clear HS
            go_wp2
            go_quiet (fail)
            go_wp2
            go_roundg (n - i)
            case measure => have := HIK.out; have := HG.out; omega
            case rel => exact ⟨i + 1, i, rfl, rfl, by go_num, HS2.out, _, rfl⟩
          · have HF : Hid (E = false) := by
              show _ = _
              rw [HE2.out, HR.out, HS.out, decide_eq_false hxm]
              simp
            have hxm2 : (1048576 : Int) < x := by omega
            clear HS
            go_wp2
            go_quiet (fail)
            go_wp2
            go_ret
            exact ⟨ret_bool (by rw [HF.out]), by repeat (first | exact Below.refl _ _ | refine below_drewN ?_ _)⟩
      · have hii : ¬ (i : Int) < (n : Int) := by omega
        have HF : Hid (E = true) := by
          show _ = _
          rw [HE2.out, HR.out]
          exact off_short (by rw [List.length_drop, HN.out]; have := HIK.out; omega)
        clear hik
        go_wp2
        go_ret
        exact ⟨ret_bool (by rw [HF.out]), by repeat (first | exact Below.refl _ _ | refine below_drewN ?_ _)⟩
  · have hzz : (z0 == 0) = false := by simpa using hz
    go_enter Try.func59, Try.ntmps59
    go_wp2
    go_ret
    exact ⟨ret_bool (by rw [HE.out, decide_eq_false hz]; simp), Below.refl _ _⟩

end Go.Proofs.Ytfihnmdhclnhgaa
