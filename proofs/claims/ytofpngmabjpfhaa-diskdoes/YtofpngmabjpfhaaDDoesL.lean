/- Contract: does, the kind that loads. -/
import Derived.Test.YtofpngmabjpfhaaDDoesW
namespace Go.Proofs.Ytofpngmabjpfhaa
open Go.RowKit
set_option linter.unusedVariables false

theorem flip1_ok (x : Int) (hx : 0 ≤ x ∧ x ≤ 255) : ∃ y : Int, bits .xor .u8 x 1 = y ∧ 0 ≤ y ∧ y ≤ 255 := by
  have h := u8_xor x 1 hx.1 (by omega) (by omega) (by omega)
  have h2 : x.toNat ^^^ (1 : Int).toNat < 2 ^ 8 := Nat.xor_lt_two_pow (by omega) (by decide)
  exact ⟨_, h, by omega, by omega⟩
def isBytesN (N : Nat) (cs : List Value) : Prop := ∀ j, j < N → ∃ y : Int, cs[j]? = some (.int .u8 y)
theorem isBytesN_set {N : Nat} {cs : List Value} (h : isBytesN N cs) (k : Nat) (y : Int) : isBytesN N (cs.set k (.int .u8 y)) := by
  intro j hj
  obtain ⟨z, hz⟩ := h j hj
  rw [List.getElem?_set]
  split
  · rename_i e
    subst e
    rw [if_pos (List.getElem?_eq_some_iff.1 hz).1]
    exact ⟨y, rfl⟩
  · exact ⟨z, hz⟩

set_option maxHeartbeats 4000000 in
set_option maxRecDepth 20000 in
theorem does_load (w0 w : World) (b r n c q : Nat) (qs : List Value) (o : OpA) (hB : Both w0 w b r n c) (hq : Blk w q 35 qs) (ho : OpOk w0 o) (hc : c ≤ 1000) (hn100 : n ≤ 100) (hk : o.dO = 6) :
    Calls Try.prog 12 #[dp b, dp r, .agg (opc o).toArray] w fun e w' => e = .returned (.bool true) ∧ Both w0 w' b r n (c + 1) ∧ Blk w' q 35 qs := by
  obtain ⟨d, F, G, hD, hR, hFG, hF, hG, hW, hS, hnF, hnG⟩ := both_open hB hq
  have hqs := hq.lt
  have hbA : Below w.heap.size w (w.alloc (.cells (opc o).toArray 35)) := (Below.refl _ w).alloc (Nat.le_refl _) _
  have hN := Blk.new w 35 (opc o)
  have q0 : (w.alloc (.cells (opc o).toArray 35)).cell? ⟨w.heap.size, 0, none⟩ = some (.int .i64 o.dO) := Blk.cell hN 0
  rw [hk] at q0
  obtain ⟨wA, hwA⟩ : ∃ wA, wA = w.alloc (.cells (opc o).toArray 35) := ⟨_, rfl⟩
  have hsA : wA.heap.size = w.heap.size + 1 := by rw [hwA]; simp
  rw [← hwA] at hbA hN
  have hWA : Below w0.heap.size w0 wA := below_then hW hbA (Nat.le_refl _)
  have hw0 := hW.size
  obtain ⟨L, hL⟩ : ∃ L, L = d.st.length * 256 := ⟨_, rfl⟩
  have hpos := hD.ok.pos
  have hnd := hS.1
  have hLl : 0 < L ∧ L ≤ 25600 := by omega
  have hil : (imgS d.st).length = L := by rw [hL]; exact imgS_len hD.ok.st
  have hib : ByteOk (imgS d.st) := imgS_ok hD.ok.st
  obtain ⟨img, himg⟩ : ∃ img, img = imgS d.st := ⟨_, rfl⟩
  have HI : Hid (Calls Try.prog 20 #[dp r] (w.alloc (.cells (opc o).toArray 35)) fun e w' => (∃ gi ci, e = .returned (.slice (some ⟨gi, 0, none⟩) L ci) ∧ w'.ownsRow wA.heap.size 5 1 (.slice (some ⟨gi, 0, none⟩) L ci) L (pc img)) ∧ Below wA.heap.size wA w') := by
    rw [← hwA]
    refine (refImage_any wA r G d (hR.below hbA)).mono ?_
    rintro e w' ⟨u, rfl, ho', hb⟩
    rw [← hL, ← himg] at ho'
    rcases own_form ho' with ⟨_, h0⟩ | ⟨gi, ci, rfl⟩
    · omega
    · exact ⟨⟨gi, ci, rfl, ho'⟩, hb⟩
  rw [← himg] at hil hib
  have HQ : Hid (∀ w1, Below wA.heap.size wA w1 → w1.cell? ⟨w.heap.size, 1, none⟩ = some (.int .i64 o.p) ∧ w1.cell? ⟨w.heap.size, 2, none⟩ = some (.int .i64 o.n)) := fun w1 h1 => ⟨(hN.below h1 (by omega)).cell 1, (hN.below h1 (by omega)).cell 2⟩
  have HDA := hide (hD.below hbA)
  have HRA := hide (hR.below hbA)
  have HWA := hide hWA
  have HG' := hide hG
  have HnG : Hid (¬ G q) := hnG
  have HnF : Hid (¬ F q) := hnF
  have HqA := hide (hq.below hbA hq.lt)
  have HF' := hide hF
  have HFG' := hide hFG
  have HSz := hide hS
  have HIB := hide hib
  have hn63 := ho.hn.2
  have hn63' := ho.hn.1
  clear hD hR hFG hF hG hW hS hbA hN hWA hk hib himg hL hwA hpos
  go_enter Try.func12, Try.ntmps12
  by_cases hp : 0 ≤ o.p ∧ o.p < (L : Int)
  · obtain ⟨P, hP⟩ : ∃ P : Nat, o.p = (P : Int) := ⟨o.p.toNat, by omega⟩
    have hPL : P < L := by omega
    have hPi : (P : Int) < (L : Int) := by omega
    obtain ⟨M1, hM1⟩ : ∃ M1 : Nat, M1 = (max o.n 0).toNat := ⟨_, rfl⟩
    obtain ⟨M2, hM2⟩ : ∃ M2 : Nat, M2 = min M1 L := ⟨_, rfl⟩
    obtain ⟨m, hm⟩ : ∃ m : Nat, m = L - M2 := ⟨_, rfl⟩
    have hmax : ∀ (ts : Array TypeId) (t : TypeId) (wx : World), (Builtin.max_ ts t #[.int .i64 o.n, .int .i64 0]).run Try.prog wx = .ok (.int .i64 (M1 : Int)) wx := by
      intro ts t wx
      rw [run_max_int2]
      congr 2
      split <;> omega
    have hmin : ∀ (ts : Array TypeId) (t : TypeId) (wx : World), (Builtin.min_ ts t #[.int .i64 (M1 : Int), .int .i64 (L : Int)]).run Try.prog wx = .ok (.int .i64 (M2 : Int)) wx := by
      intro ts t wx
      rw [run_min_int2]
      congr 2
      split <;> omega
    have hmi : (L : Int) - (M2 : Int) = (m : Int) := by omega
    have hmw : IntKind.i64.wrap (m : Int) = (m : Int) := IntWalk.i64_in _ (by omega)
    have hmL : m ≤ L := by omega
    obtain ⟨x, hx⟩ : ∃ x, x = img.getD P 0 := ⟨_, rfl⟩
    have hxb := HIB.out.get P
    rw [← hx] at hxb
    obtain ⟨y, hy, hy0, hy1⟩ := flip1_ok x hxb
    rw [hP] at HQ
    have HX := hide hx
    clear hP hp hM1 hM2 hm hx
    go_wp2_with (go_at_call 20; refine HI.out.mono ?_; rintro e w1 ⟨⟨gi, ci, rfl, hown⟩, hb1⟩; have HOw := hide hown; have Hb1 := hide hb1; have q1 := (HQ.out w1 hb1).1; have hci : L ≤ ci ∧ ci ≤ 9223372036854775807 := own_len hown; have hgi := (hown.lt gi rfl); have HS1 := own_blk hown; have k1 : w1.cell? ⟨gi, P, none⟩ = some (.int .u8 x) := (by { obtain ⟨_, _, _, _, sp, hB, _⟩ := own_blk hown; rw [hB.cell, List.getElem?_append_left (by rw [pc_len, hil]; exact hPL)]; unfold pc; rw [List.getElem?_map, List.getElem?_eq_getElem (by rw [hil]; exact hPL), HX.out, List.getD_eq_getElem?_getD, List.getElem?_eq_getElem (by rw [hil]; exact hPL)]; rfl }); have k2 : w1.frozen? ⟨gi, P, none⟩ = false := (by { obtain ⟨_, _, _, _, sp, hB, _⟩ := own_blk hown; exact hB.frozen P }); have k3 : (w1.setCell ⟨gi, P, none⟩ (.int .u8 y)).cell? ⟨w.heap.size, 2, none⟩ = some (.int .i64 o.n) := ((World.cell?_of_block (w := w1) (Below.heap_setCell w1 ⟨gi, P, none⟩ _ w.heap.size (by show w.heap.size ≠ gi; omega))).trans (HQ.out w1 hb1).2); have hcut := fun wx => cut_head (P := Try.prog) 33 5 1 Try.underlying33 sizeU8 (some ⟨gi, 0, none⟩) L ci m (by omega) hci.2 wx; clear HS1; clear HI hown hb1)
    obtain ⟨wI, hwI⟩ : ∃ x, x = w1.setCell ⟨gi, P, none⟩ (.int .u8 y) := ⟨_, rfl⟩
    have hoI : Only (· = gi) w1 wI := by rw [hwI]; exact (Only.refl (· = gi) w1).setCell ⟨gi, P, none⟩ _ (fun _ => rfl)
    have hsI : w1.heap.size ≤ wI.heap.size := hoI.size
    have hs1 := Hb1.out.size
    obtain ⟨zs, hzs⟩ : ∃ zs, zs = (img.set P y).take m := ⟨_, rfl⟩
    have hzl : zs.length = m := by rw [hzs, List.length_take, List.length_set, hil]; omega
    have HZL := hide hzl
    have hzb : ByteOk zs := by
      rw [hzs]
      refine ByteOk.take (fun z hz => ?_) m
      rcases List.mem_or_eq_of_mem_set hz with h' | rfl
      · exact HIB.out z h'
      · exact ⟨hy0, hy1⟩
    have HZB := hide hzb
    have HSI : Hid (Sl wI (.slice (some ⟨gi, 0, none⟩) m ci) zs) := by
      obtain ⟨_, _, _, _, sp, hB, _⟩ := own_blk HOw.out
      have hB2 := Blk.set hB P (.int .u8 y)
      rw [← hwI, List.set_append_left _ _ (by rw [pc_len, hil]; exact hPL)] at hB2
      have := sl_of_range (cap := ci) (hB2.range 0 (pc zs) (fun j hj => by
        rw [pc_len, hzl] at hj
        rw [Nat.zero_add, List.getElem?_append_left (by rw [List.length_set, pc_len, hil]; omega), hzs]
        unfold pc
        rw [List.map_take, List.map_set, List.getElem?_take, if_pos hj])) hzb (by omega) hci.2
      rwa [hzl] at this
    have HqI := hide ((HqA.out.below Hb1.out HqA.out.lt).only hoI (fun e => by omega))
    have HDI : Hid (Dev wI b F d) := (HDA.out.below Hb1.out).keep hoI (fun k hf e => by have := HF'.out k hf; omega)
    have HRI : Hid (Ref wI r G d) := (HRA.out.below Hb1.out).keep hoI (fun k hg e => by have := HG'.out k hg; omega)
    have HWI : Hid (Below w0.heap.size w0 wI) := by
      have h1 := below_then HWA.out Hb1.out (Nat.le_refl _)
      exact h1.trans (hoI.below h1.size (fun k hk e => by omega))
    rw [← hwI]
    clear hwI hoI hzs hzb hzl k1 k2 k3 q1
    have hm5 : m ≤ 500000 := by omega
    have HJ : Hid (Calls Try.prog 36 #[.slice none 0 0, .slice (some ⟨gi, 0, none⟩) m ci] wI fun e w' => (∃ go cgo, e = .returned (.slice (some ⟨go, 0, none⟩) m cgo) ∧ w'.ownsRow wI.heap.size 5 1 (.slice (some ⟨go, 0, none⟩) m cgo) m (pc zs)) ∧ Below wI.heap.size wI w') := by
      refine (refJoin_any wI _ _ [] zs (Sl.nil wI) HSI.out (by rw [HZL.out]; simp; omega)).mono ?_
      rintro e w' ⟨u, rfl, ho', hne, hb, _⟩
      rw [List.nil_append, HZL.out] at ho'
      rcases own_form ho' with ⟨h, _⟩ | ⟨go, cgo, rfl⟩
      · exact absurd h hne
      · exact ⟨⟨go, cgo, rfl, ho'⟩, hb⟩
    have HLd : Hid (∀ w3 go cgo, Below wI.heap.size wI w3 → w3.ownsRow wI.heap.size 5 1 (.slice (some ⟨go, 0, none⟩) m cgo) m (pc zs) → Calls Try.prog 27 #[dp b, .slice (some ⟨go, 0, none⟩) m cgo] w3 fun e w' => e = .returned (.int .i64 (loadR d zs).1) ∧ Dev w' b F (loadR d zs).2 ∧ Only F w3 w') := fun w3 go cgo h3 hown =>
      load_all w3 b F d _ zs (HDI.out.below h3) (sl_of_own hown HZB.out rfl) (fun k hk hf => by have := (hown.lt k hk).1; have := HF'.out k hf; omega)
    have HRl : Hid (∀ w3 w4 w5 go, Below wI.heap.size wI w3 → wI.heap.size ≤ go → Only F w3 w4 → Only (· = go) w4 w5 → Calls Try.prog 37 #[dp r, .slice (some ⟨gi, 0, none⟩) m ci] w5 fun e w' => e = .returned (.int .i64 (loadR d zs).1) ∧ Ref w' r (fun k => G k ∨ w5.heap.size ≤ k) (loadR d zs).2 ∧ Only G w5 w') := fun w3 w4 w5 go h3 hgo h4 h5 =>
      refLoad_all w5 r G d _ zs (((HRI.out.below h3).keep h4 (fun k hg hf => HFG'.out k hf hg)).keep h5 (fun k hg e => by have := HG'.out k hg; omega)) (((HSI.out.below h3).only h4 (fun k hk hf => by simp [Value.ownBlock] at hk; have := HF'.out k hf; omega)).only h5 (fun k hk e => by simp [Value.ownBlock] at hk; omega)) (fun k hk hg => by simp [Value.ownBlock] at hk; have := HG'.out k hg; omega)
    have HEnd : Hid (∀ w3 w4 w5 w6 go, Below wI.heap.size wI w3 → wI.heap.size ≤ go → Only F w3 w4 → Dev w4 b F (loadR d zs).2 → Only (· = go) w4 w5 → Only G w5 w6 → Ref w6 r (fun k => G k ∨ w5.heap.size ≤ k) (loadR d zs).2 → Both w0 w6 b r n (c + 1) ∧ Blk w6 q 35 qs) := fun w3 w4 w5 w6 go h3 hgo h4 d4 h5 h6 d6 => by
      have hW3 := below_then HWI.out h3 (Nat.le_refl _)
      have hW4 := hW3.trans (h4.below hW3.size (fun k hk h => by have := HF'.out k h; omega))
      have hW5 := hW4.trans (h5.below hW4.size (fun k hk e => by omega))
      have hW6 := hW5.trans (h6.below hW5.size (fun k hk h => by have := HG'.out k h; omega))
      have hs5 := hW5.size
      refine ⟨both_typed ((d4.keep h5 (fun k hf e => by have := HF'.out k hf; omega)).keep h6 (fun k hf hg => HFG'.out k hf hg)) d6 (fun k h => (HF'.out k h).1) (fun k h => ?_) hW6 (sized_load HSz.out zs), (((HqI.out.below h3 HqI.out.lt).only h4 HnF.out).only h5 (fun e => by have := HqI.out.lt; omega)).only h6 HnG.out⟩
      rcases h with h | h
      · exact (HG'.out k h).1
      · omega
    generalize (loadR d zs).1 = E at HLd HRl
    generalize (loadR d zs).2 = d' at HLd HRl HEnd
    go_wp2_with (first
      | (go_at_call 36; refine HJ.out.mono ?_; rintro e w3 ⟨⟨go, cgo, rfl, hown3⟩, hb3⟩; have HO3 := hide hown3; have Hb3 := hide hb3; have hcgo : m ≤ cgo ∧ cgo ≤ 9223372036854775807 := own_len hown3; have hgo := (hown3.lt go rfl).1; clear HJ hown3 hb3)
      | (go_at_call 27; refine (HLd.out w3 go cgo Hb3.out HO3.out).mono ?_; rintro e w4 ⟨rfl, hd4, ho4⟩; have HD4 := hide hd4; have HO4 := hide ho4; clear HLd hd4 ho4))
    have HB4 : Hid (∃ cs, Blk w4 go 5 cs ∧ isBytesN m cs) := by
      obtain ⟨_, _, _, _, sp, hB, _⟩ := own_blk (ownsRow_only HO3.out HO4.out (fun k hk hf => by simp [Value.ownBlock] at hk; have := HF'.out k hf; omega))
      refine ⟨_, hB, fun j hj => ⟨zs.getD j 0, ?_⟩⟩
      have hzl := HZL.out
      rw [List.getElem?_append_left (by rw [pc_len]; omega)]
      unfold pc
      rw [List.getElem?_map, List.getElem?_eq_getElem (by omega), List.getD_eq_getElem?_getD, List.getElem?_eq_getElem (by omega)]; rfl
    go_loopg [137] m (fun g i wr => ∃ (k : Nat) (cs : List Value), g + k = m ∧ i = .int .i64 k ∧ Blk wr go 5 cs ∧ isBytesN m cs ∧ Only (· = go) w4 wr)
    case atStart =>
      obtain ⟨cs, h1, h2⟩ := HB4.out
      exact ⟨0, cs, by omega, rfl, h1, h2, Only.refl _ _⟩
    case round =>
      obtain ⟨k, cs, hk, rfl, hB, hy, ho5⟩ := hrel
      cases gk with
      | succ g =>
        have hk2 : k < m := by omega
        have hki : (k : Int) < (m : Int) := by omega
        obtain ⟨y, hyk⟩ := hy k hk2
        have cy := (hB.cell k).trans hyk
        have fy := hB.frozen k
        have HB := hide hB
        have HY := hide hy
        have HO := hide ho5
        clear hB hy ho5 hyk
        go_wp2
        go_roundg g
        case measure => omega
        case rel => exact ⟨k + 1, _, by omega, by go_num, HB.out.set k _, isBytesN_set HY.out k _, HO.out.setCell ⟨go, k, none⟩ _ (fun _ => rfl)⟩
      | zero =>
        obtain rfl : k = m := by omega
        obtain ⟨w5, rfl⟩ : ∃ x, x = wr := ⟨_, rfl⟩
        have HO5 := hide ho5
        clear hB hy ho5
        go_wp2_with (go_at_call 37; refine (HRl.out w3 w4 w5 go Hb3.out hgo HO4.out HO5.out).mono ?_; rintro e w6 ⟨rfl, hd6, ho6⟩; clear HRl)
        go_ret
        exact ⟨by simp, HEnd.out w3 w4 w5 w6 go Hb3.out hgo HO4.out HD4.out HO5.out ho6 hd6⟩
  · have hcs : o.p < 0 ∨ (0 ≤ o.p ∧ ¬ o.p < (L : Int)) := by omega
    clear hp
    rcases hcs with hp | ⟨hp, hp2⟩
    all_goals
      go_wp2_with (go_at_call 20; refine HI.out.mono ?_; rintro e w1 ⟨⟨gi, ci, rfl, hown⟩, hb1⟩; have HOw := hide hown; have Hb1 := hide hb1; have q1 := (HQ.out w1 hb1).1; have hci : L ≤ ci ∧ ci ≤ 9223372036854775807 := own_len hown; have hgi := (hown.lt gi rfl); clear HI hown hb1)
      obtain ⟨wI, rfl⟩ : ∃ x, x = w1 := ⟨_, rfl⟩
      have hsI := Hb1.out.size
      have HSI : Hid (Sl wI (.slice (some ⟨gi, 0, none⟩) L ci) img) := sl_of_own HOw.out HIB.out rfl
      obtain ⟨m, rfl⟩ : ∃ m, m = L := ⟨_, rfl⟩
      obtain ⟨zs, rfl⟩ : ∃ zs, zs = img := ⟨_, rfl⟩
      have HZL := hide hil
      have HZB := HIB
      have HDI := hide (HDA.out.below Hb1.out)
      have HqI := hide (HqA.out.below Hb1.out HqA.out.lt)
      have HRI := hide (HRA.out.below Hb1.out)
      have HWI : Hid (Below w0.heap.size w0 wI) := below_then HWA.out Hb1.out (Nat.le_refl _)
      have hm5 : m ≤ 500000 := by omega
      have HJ : Hid (Calls Try.prog 36 #[.slice none 0 0, .slice (some ⟨gi, 0, none⟩) m ci] wI fun e w' => (∃ go cgo, e = .returned (.slice (some ⟨go, 0, none⟩) m cgo) ∧ w'.ownsRow wI.heap.size 5 1 (.slice (some ⟨go, 0, none⟩) m cgo) m (pc zs)) ∧ Below wI.heap.size wI w') := by
        refine (refJoin_any wI _ _ [] zs (Sl.nil wI) HSI.out (by rw [HZL.out]; simp; omega)).mono ?_
        rintro e w' ⟨u, rfl, ho', hne, hb, _⟩
        rw [List.nil_append, HZL.out] at ho'
        rcases own_form ho' with ⟨h, _⟩ | ⟨go, cgo, rfl⟩
        · exact absurd h hne
        · exact ⟨⟨go, cgo, rfl, ho'⟩, hb⟩
      have HLd : Hid (∀ w3 go cgo, Below wI.heap.size wI w3 → w3.ownsRow wI.heap.size 5 1 (.slice (some ⟨go, 0, none⟩) m cgo) m (pc zs) → Calls Try.prog 27 #[dp b, .slice (some ⟨go, 0, none⟩) m cgo] w3 fun e w' => e = .returned (.int .i64 (loadR d zs).1) ∧ Dev w' b F (loadR d zs).2 ∧ Only F w3 w') := fun w3 go cgo h3 hown =>
        load_all w3 b F d _ zs (HDI.out.below h3) (sl_of_own hown HZB.out rfl) (fun k hk hf => by have := (hown.lt k hk).1; have := HF'.out k hf; omega)
      have HRl : Hid (∀ w3 w4 w5 go, Below wI.heap.size wI w3 → wI.heap.size ≤ go → Only F w3 w4 → Only (· = go) w4 w5 → Calls Try.prog 37 #[dp r, .slice (some ⟨gi, 0, none⟩) m ci] w5 fun e w' => e = .returned (.int .i64 (loadR d zs).1) ∧ Ref w' r (fun k => G k ∨ w5.heap.size ≤ k) (loadR d zs).2 ∧ Only G w5 w') := fun w3 w4 w5 go h3 hgo h4 h5 =>
        refLoad_all w5 r G d _ zs (((HRI.out.below h3).keep h4 (fun k hg hf => HFG'.out k hf hg)).keep h5 (fun k hg e => by have := HG'.out k hg; omega)) (((HSI.out.below h3).only h4 (fun k hk hf => by simp [Value.ownBlock] at hk; have := HF'.out k hf; omega)).only h5 (fun k hk e => by simp [Value.ownBlock] at hk; omega)) (fun k hk hg => by simp [Value.ownBlock] at hk; have := HG'.out k hg; omega)
      have HEnd : Hid (∀ w3 w4 w5 w6 go, Below wI.heap.size wI w3 → wI.heap.size ≤ go → Only F w3 w4 → Dev w4 b F (loadR d zs).2 → Only (· = go) w4 w5 → Only G w5 w6 → Ref w6 r (fun k => G k ∨ w5.heap.size ≤ k) (loadR d zs).2 → Both w0 w6 b r n (c + 1) ∧ Blk w6 q 35 qs) := fun w3 w4 w5 w6 go h3 hgo h4 d4 h5 h6 d6 => by
        have hW3 := below_then HWI.out h3 (Nat.le_refl _)
        have hW4 := hW3.trans (h4.below hW3.size (fun k hk h => by have := HF'.out k h; omega))
        have hW5 := hW4.trans (h5.below hW4.size (fun k hk e => by omega))
        have hW6 := hW5.trans (h6.below hW5.size (fun k hk h => by have := HG'.out k h; omega))
        have hs5 := hW5.size
        refine ⟨both_typed ((d4.keep h5 (fun k hf e => by have := HF'.out k hf; omega)).keep h6 (fun k hf hg => HFG'.out k hf hg)) d6 (fun k h => (HF'.out k h).1) (fun k h => ?_) hW6 (sized_load HSz.out zs), (((HqI.out.below h3 HqI.out.lt).only h4 HnF.out).only h5 (fun e => by have := HqI.out.lt; omega)).only h6 HnG.out⟩
        rcases h with h | h
        · exact (HG'.out k h).1
        · omega
      generalize (loadR d zs).1 = E at HLd HRl
      generalize (loadR d zs).2 = d' at HLd HRl HEnd
      go_wp2_with (first
        | (go_at_call 36; refine HJ.out.mono ?_; rintro e w3 ⟨⟨go, cgo, rfl, hown3⟩, hb3⟩; have HO3 := hide hown3; have Hb3 := hide hb3; have hcgo : m ≤ cgo ∧ cgo ≤ 9223372036854775807 := own_len hown3; have hgo := (hown3.lt go rfl).1; clear HJ hown3 hb3)
        | (go_at_call 27; refine (HLd.out w3 go cgo Hb3.out HO3.out).mono ?_; rintro e w4 ⟨rfl, hd4, ho4⟩; have HD4 := hide hd4; have HO4 := hide ho4; clear HLd hd4 ho4))
      have HB4 : Hid (∃ cs, Blk w4 go 5 cs ∧ isBytesN m cs) := by
        obtain ⟨_, _, _, _, sp, hB, _⟩ := own_blk (ownsRow_only HO3.out HO4.out (fun k hk hf => by simp [Value.ownBlock] at hk; have := HF'.out k hf; omega))
        refine ⟨_, hB, fun j hj => ⟨zs.getD j 0, ?_⟩⟩
        have hzl := HZL.out
        rw [List.getElem?_append_left (by rw [pc_len]; omega)]
        unfold pc
        rw [List.getElem?_map, List.getElem?_eq_getElem (by omega), List.getD_eq_getElem?_getD, List.getElem?_eq_getElem (by omega)]; rfl
      go_loopg [137] m (fun g i wr => ∃ (k : Nat) (cs : List Value), g + k = m ∧ i = .int .i64 k ∧ Blk wr go 5 cs ∧ isBytesN m cs ∧ Only (· = go) w4 wr)
      case atStart =>
        obtain ⟨cs, h1, h2⟩ := HB4.out
        exact ⟨0, cs, by omega, rfl, h1, h2, Only.refl _ _⟩
      case round =>
        obtain ⟨k, cs, hk, rfl, hB, hy, ho5⟩ := hrel
        cases gk with
        | succ g =>
          have hk2 : k < m := by omega
          have hki : (k : Int) < (m : Int) := by omega
          obtain ⟨y, hyk⟩ := hy k hk2
          have cy := (hB.cell k).trans hyk
          have fy := hB.frozen k
          have HB := hide hB
          have HY := hide hy
          have HO := hide ho5
          clear hB hy ho5 hyk
          go_wp2
          go_roundg g
          case measure => omega
          case rel => exact ⟨k + 1, _, by omega, by go_num, HB.out.set k _, isBytesN_set HY.out k _, HO.out.setCell ⟨go, k, none⟩ _ (fun _ => rfl)⟩
        | zero =>
          obtain rfl : k = m := by omega
          obtain ⟨w5, rfl⟩ : ∃ x, x = wr := ⟨_, rfl⟩
          have HO5 := hide ho5
          clear hB hy ho5
          go_wp2_with (go_at_call 37; refine (HRl.out w3 w4 w5 go Hb3.out hgo HO4.out HO5.out).mono ?_; rintro e w6 ⟨rfl, hd6, ho6⟩; clear HRl)
          go_ret
          exact ⟨by simp, HEnd.out w3 w4 w5 w6 go Hb3.out hgo HO4.out HD4.out HO5.out ho6 hd6⟩

end Go.Proofs.Ytofpngmabjpfhaa
