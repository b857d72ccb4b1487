/- Contract: package posting's next, the walk. -/
import Derived.Test.YtmjkpgmmfooajaaPoNext
namespace Go.Proofs.Ytmjkpgmmfooajaa
set_option maxRecDepth 20000
open Go.RowKit
set_option linter.unusedVariables false
set_option linter.unusedSimpArgs false
set_option maxRecDepth 100000

theorem nextOk_noRoom {prev : Nat} {zs : List Int} (h : nextRoom zs = false) : nextOk prev zs = false := by unfold nextOk; rw [h]; rfl
theorem nextOk_err {prev : Nat} {zs : List Int} (h : (nP zs).2.2 ≠ 0) : nextOk prev zs = false := by unfold nextOk; rw [decide_eq_false h]; simp
theorem nextOk_bad {prev : Nat} {zs : List Int} (h : mayB prev (nextPo prev zs) = false) : nextOk prev zs = false := by unfold nextOk; rw [h]; simp
theorem replicate_set (xs : List Int) (m : Nat) (x : Int) : (xs ++ List.replicate (m + 1) 0).set xs.length x = (xs ++ [x]) ++ List.replicate m 0 := by
  rw [List.set_append_right _ _ (Nat.le_refl _), Nat.sub_self, List.replicate_succ]
  simp
theorem nextRoom_no {zs : List Int} (h : 2000 < (nN zs).1 ∨ (nN zs).2.1.length < (nN zs).1) : nextRoom zs = false := by
  unfold nextRoom
  rcases h with h | h
  · rw [decide_eq_false (show ¬ (nN zs).1 ≤ 2000 by omega)]; rfl
  · rw [decide_eq_false (show ¬ (nN zs).1 ≤ (nN zs).2.1.length by omega)]; simp

theorem NxI.make {w : World} {U : Nat → Prop} {b A PB d n : Nat} {sv : Value} {vals zs : List Int} {er : Int} {W W' : World} (h : NxI w U b A PB d sv vals zs er W) (hb : Below W.heap.size W W')
    (hr : W'.ownsRow W.heap.size 3 1 (.slice (some ⟨W.heap.size, 0, none⟩) n n) n (iv (List.replicate n 0))) :
    NxI w U b A PB d (.slice (some ⟨W.heap.size, 0, none⟩) n n) (List.replicate n 0) zs er (W'.setCell ⟨PB, 1, none⟩ (.slice (some ⟨W.heap.size, 0, none⟩) n n)) := by
  have h' := h.below hb
  have hlt := h.bP.lt
  have hl := h.lts
  obtain ⟨u, h1, h2, hU⟩ := h'.rd
  have ho : Only (· = PB) W' (W'.setCell ⟨PB, 1, none⟩ (.slice (some ⟨W.heap.size, 0, none⟩) n n)) := (Only.refl (· = PB) W').setCell ⟨PB, 1, none⟩ _ (fun _ => rfl)
  refine ⟨h'.bA.only ho (by omega), h'.bP.set 1 _, ?_, ⟨u, h1.only ho (fun j hj e => ⟨by omega, fun k hk => by have := h2 k hk; omega⟩), h2, hU⟩, h'.only.trans (T := (· = PB)) ho (fun j hj e => by have := hl.2.2; omega), hl⟩
  have h3 : Ints W' (PB + 1) (.slice (some ⟨W.heap.size, 0, none⟩) n n) (List.replicate n 0) := by
    unfold Ints
    rw [List.length_replicate]
    exact ownsRow_le' hr (by omega)
  exact h3.only ho (fun j hj e => by have := (h3.lt j hj).1; omega)
/-- the answer's box is written -/
theorem NxI.lay {w : World} {U : Nat → Prop} {b A PB d : Nat} {sv : Value} {vals zs : List Int} {er : Int} {W : World} (h : NxI w U b A PB d sv vals zs er W) (x0 x1 : Value) :
    Blk (laidP W A x0 x1) A 34 [x0, x1] ∧ Only (· = b) w (laidP W A x0 x1) ∧ (∀ v, Ints W (PB + 1) v vals → Ints (laidP W A x0 x1) w.heap.size v vals) ∧ ∀ u, Rd W b u zs er → (∀ k, u.ownBlock = some k → k < A) → Rd (laidP W A x0 x1) b u zs er := by
  have ho := laidP_only W A x0 x1
  have hl := h.lts
  exact ⟨laidP_blk h.bA _ _, h.only.trans (T := (· = A)) ho (fun j hj e => by have := hl.2.2; omega), fun v hv => (hv.only ho (fun j hj e => by have := (hv.lt j hj).1; omega)).base (by omega), fun u h1 h2 => h1.only ho (fun j hj e => ⟨by omega, fun k hk => by have := h2 k hk; omega⟩)⟩

set_option maxHeartbeats 4000000 in
theorem next_any (w : World) (b : Nat) (u : Value) (zs : List Int) (prev : Nat) (h : Rd w b u zs 0) (hp : prev < 4294967296) :
    Calls Try.prog 39 #[.pointer (some ⟨b, 0, none⟩), .int .u32 (prev : Int)] w (GivesNx w u b prev zs) := by
  have hzs := h.2.1.bytes
  obtain ⟨i0, hi0, hz0, hz1, hz2⟩ := info_parts infoInt
  have hza : ∀ wx : World, (zeroValue 34).run Try.prog wx = .ok (.agg #[.int .u32 0, .slice none 0 0]) wx := fun wx => by kernel_rfl
  obtain ⟨w1, hw1⟩ : ∃ w1, w.alloc (.cells #[.int .u32 0, .slice none 0 0] 34) = w1 := ⟨_, rfl⟩
  have hb1 : Below w.heap.size w w1 := by rw [← hw1]; exact (Below.refl _ w).alloc (Nat.le_refl _) _
  have hA1 : Blk w1 w.heap.size 34 [.int .u32 0, .slice none 0 0] := by rw [← hw1]; exact Blk.new w _ _
  have hs1 : w1.heap.size = w.heap.size + 1 := by rw [← hw1]; simp
  have hbl := h.lt
  have hul := h.2.2
  -- the first number
  have hD1 : (nD zs).1 < 4294967296 := varS_lt hzs 0
  have hDb : ByteOk (nD zs).2.1 := varS_bytes hzs 0
  have hN1 : (nN zs).1 < 4294967296 := varS_lt hDb _
  have hNb : ByteOk (nN zs).2.1 := varS_bytes hDb _
  have HT1 : Hid (Calls Try.prog 49 #[.pointer (some ⟨b, 0, none⟩)] w1 fun e W' => e = .returned (.int .u32 (nD zs).1) ∧ Blk W' w.heap.size 34 [.int .u32 0, .slice none 0 0] ∧ Only (· = b) w W' ∧ ∃ u', Rd W' b u' (nD zs).2.1 (nD zs).2.2 ∧ (∀ k, u'.ownBlock = some k → k < w.heap.size) ∧ ∀ k, u'.ownBlock = some k → u.ownBlock = some k) := by
    refine (readerVar_any w1 b u zs 0 (h.keep hb1)).mono ?_
    rintro e W' ⟨rfl, hg, u', hr, hk⟩
    have ho := only_of_grown hg
    exact ⟨rfl, hA1.only ho (by omega), (Only.of_below (· = b) hb1).trans ho (fun _ _ h => h), u', hr, (fun k hk' => (hul k (hk k hk')).2), hk⟩
  have HNXT : Hid (nN zs = varS (nD zs).2.1 (nD zs).2.2) := rfl
  have HNP : Hid (nP zs = posR (nN zs).1 0 (nN zs).2.1 (nN zs).2.2) := rfl
  have HPO : Hid (nextPo prev zs = ⟨(prev + (nD zs).1) % 4294967296, (nP zs).1⟩) := rfl
  have HNR : Hid (2000 < (nN zs).1 ∨ (nN zs).2.1.length < (nN zs).1 → nextOk prev zs = false) := fun h => nextOk_noRoom (nextRoom_no h)
  have HNE : Hid ((nP zs).2.2 ≠ 0 → nextOk prev zs = false) := nextOk_err
  have HNB : Hid (mayB prev (nextPo prev zs) = false → nextOk prev zs = false) := nextOk_bad
  have HYES : Hid ((nN zs).1 ≤ 2000 → (nN zs).1 ≤ (nN zs).2.1.length → (nP zs).2.2 = 0 → mayB prev (nextPo prev zs) = true → nextOk prev zs = true) := fun h1 h2 h3 h4 => by
    unfold nextOk nextRoom
    rw [decide_eq_true h1, decide_eq_true h2, decide_eq_true h3, h4]; rfl
  have HYQ : Hid (nextOk prev zs = true → nextQ prev zs = nextPo prev zs ∧ nextE prev zs = 0) := fun h => by unfold nextQ nextE; rw [h]; exact ⟨rfl, rfl⟩
  have HGN : Hid (∀ W', nextOk prev zs = false → Only (· = b) w W' → GivesNx w u b prev zs (.returned (.tuple #[.agg #[.int .u32 0, .slice none 0 0], .int .i64 150])) W') := fun W' h1 h2 => GivesNx.no h1 h2
  generalize nextOk prev zs = OK at HNR HNE HNB HYES HYQ HGN
  obtain ⟨⟨D, zD, eD⟩, hD⟩ : ∃ x, nD zs = x := ⟨_, rfl⟩
  rw [hD] at hD1 hDb HT1 HNXT HPO
  obtain ⟨⟨N, zN, eN⟩, hN⟩ : ∃ x, nN zs = x := ⟨_, rfl⟩
  rw [hN] at hN1 hNb HNXT HNP HNR HYES
  simp only at hD1 hDb HT1 HNXT HPO hN1 hNb HNP HNR HYES
  obtain ⟨d, hd⟩ : ∃ d : Nat, (prev + D) % 4294967296 = d := ⟨_, rfl⟩
  rw [hd] at HPO
  have hdi : ((prev : Int) + (D : Int)) % 4294967296 = (d : Int) := by omega
  have hdlt : d < 4294967296 := by omega
  obtain ⟨A, hA⟩ : ∃ A, w.heap.size = A := ⟨_, rfl⟩
  have HA := hide hA
  have HU := hide h
  have HDI := hide hdi
  rw [hA] at HT1 hs1 hbl
  have HTK : Hid (∀ PB sv vals z er W, NxI w (fun k => u.ownBlock = some k) b A PB d sv vals z er W → Calls Try.prog 49 #[.pointer (some ⟨b, 0, none⟩)] W fun e W' => e = .returned (.int .u32 (varS z er).1) ∧ NxI w (fun k => u.ownBlock = some k) b A PB d sv vals (varS z er).2.1 (varS z er).2.2 W') := fun PB sv vals z er W h => h.take
  clear hb1 hA1 hul hzs h hD hd
  go_enter Try.func39, Try.ntmps39
  go_wp2_with (first
    | (go_at_call 49; refine HT1.out.mono ?_; rintro e w2 ⟨rfl, hA2, ho2, u2, hr2, hk2, hkU⟩; have hI3 : NxI w (fun k => u.ownBlock = some k) b A w2.heap.size d (.slice none 0 0) [] zD eD (w2.alloc (.cells #[.int .u32 (d : Int), .slice none 0 0] 34)) := ⟨hA2.alloc _, Blk.new w2 _ _, Ints.nil _ _, ⟨u2, hr2.keep ((Below.refl _ _).alloc (Nat.le_refl _) _), hk2, hkU⟩, ho2.alloc _, ⟨hbl, hA2.lt, HA.out.symm⟩⟩; have HT2 := hide (HTK.out _ _ _ _ _ _ hI3); rw [← HNXT.out] at HT2; clear HT1 hA2 ho2 hr2 hk2 hkU hI3)
    | (go_at_call 49; refine HT2.out.mono ?_; rintro e w4 ⟨rfl, hI4⟩; have HI4 := hide hI4; obtain ⟨⟨a0, a1⟩, a2, a3⟩ := po_cells hI4.bA; obtain ⟨⟨p0, p1⟩, p2, p3⟩ := po_cells hI4.bP; obtain ⟨u4, hr4, _⟩ := hI4.rd; have HLF := hide (left_any w4 b u4 zN eN hr4); clear HT2 hI4 hr4)
    | (go_at_call 40; refine HLF.out.mono ?_; rintro e w4' ⟨rfl, hw⟩; subst w4'; clear HLF)
    | (at_make; refine wpList_make_full _ rfl _ _ 32 rfl w4.heap.size 3 i0 (.int .i64 0) 1 Try.underlying32 hi0 hz0 hz1 .u32 .u32 _ _ N rfl rfl rfl rfl (by rw [hz2]; omega) (by unfold maxLen; omega) (Nat.le_refl _) ?_; intro w5 ho5 hg5; rw [madeInts] at ho5; have hb5 : Below w4.heap.size w4 w5 := (Below.refl _ w4).grown hg5 (Nat.le_refl _) (fun k hk => by cases hk); have HI6 := hide (HI4.out.make hb5 ho5); clear p0 p1 p2 p3 a0 a1 a2 a3; obtain ⟨⟨p0, p1⟩, p2, p3⟩ := po_cells (HI4.out.below hb5).bP; clear ho5 hg5 hb5))
  · refine bodyPost_ret (ret_po1 rfl _ _ A _ _ _ rfl rfl (HI4.out.lay _ _).1) rfl ?_
    exact HGN.out _ (HNR.out (by omega)) (HI4.out.lay _ _).2.1
  · have hNr : N ≤ 2000 ∧ N ≤ zN.length := by omega
    obtain ⟨SV, hSV⟩ : ∃ v, v = Value.slice (some ⟨w4.heap.size, 0, none⟩) N N := ⟨_, rfl⟩
    have HSV := hide hSV
    obtain ⟨PB, hPB⟩ : ∃ x, w2.heap.size = x := ⟨_, rfl⟩
    rw [hPB] at HI6 ⊢
    obtain ⟨G, hG⟩ : ∃ x, w4.heap.size = x := ⟨_, rfl⟩
    rw [hG] at HI6 hSV HSV ⊢
    clear p0 p1 p2 p3 HI4 hPB hG hSV
    go_loopg [8, 33] N (fun g av i wr => ∃ (k a : Nat) (xs z : List Int) (er : Int), g + k = N ∧ av = .int .i64 (a : Int) ∧ i = .int .i64 (k : Int) ∧ xs.length = k ∧ a ≤ k * 4294967296 ∧ ByteOk z ∧ NxI w (fun k => u.ownBlock = some k) b A PB d (.slice (some ⟨G, 0, none⟩) N N) (xs ++ List.replicate (N - k) 0) z er wr ∧ posR N 0 zN eN = (xs ++ (posR (N - k) a z er).1, (posR (N - k) a z er).2))
    case atStart => exact ⟨0, 0, [], zN, eN, by omega, rfl, rfl, rfl, by omega, hNb, by simpa using HI6.out, by simp⟩
    case round =>
      obtain ⟨k, a, xs, z, er, hg, rfl, rfl, hxl, hab, hzb, hI, hPR⟩ := hrel
      obtain ⟨W, hW⟩ : ∃ x, x = wr := ⟨_, rfl⟩
      subst hW
      have HI := hide hI
      have HPR := hide hPR
      clear hI hPR HI6
      by_cases hk : k < N
      · obtain ⟨m, hm⟩ : ∃ m, N - k = m + 1 := ⟨N - k - 1, by omega⟩
        have hx := varS_lt hzb er
        have hzb2 := varS_bytes hzb er
        have hT := HTK.out _ _ _ _ _ _ HI.out
        have hp2 := HPR.out
        rw [hm, posR] at hp2
        rw [hm] at HI hT
        obtain ⟨⟨X, z2, e2⟩, hX⟩ : ∃ x, varS z er = x := ⟨_, rfl⟩
        rw [hX] at hx hT hp2 hzb2
        simp only at hx hT hp2 hzb2
        have HT := hide hT
        have HP2 := hide hp2
        have HZB := hide hzb2
        clear hT hp2 hzb2 hX
        have hkk : k * 4294967296 ≤ 2000 * 4294967296 := Nat.mul_le_mul_right _ (by omega)
        go_wp2_with (first
          | (go_at_call 49; refine HT.out.mono ?_; rintro e W2 ⟨rfl, hI2⟩; obtain ⟨⟨p0, p1⟩, _⟩ := po_cells hI2.bP; obtain ⟨⟨q, hq⟩, hfz, hI3⟩ := hI2.put (by simp; omega) k ((a : Int) + (X : Int)) hk; rw [← hxl, replicate_set, hxl] at hI3; have HI3 := hide hI3; clear HT hI2 hI3))
        go_roundg (gk - 1)
        case measure => omega
        case rel =>
          refine ⟨k + 1, a + X, xs ++ [(a : Int) + (X : Int)], z2, e2, by omega, by go_num, by go_num, by simp; omega, by omega, HZB.out, ?_, ?_⟩
          · rw [show N - (k + 1) = m by omega]; exact HI3.out
          · rw [show N - (k + 1) = m by omega, HP2.out, List.append_assoc]; simp
      · obtain rfl : k = N := by omega
        have hE : nP zs = (xs, z, er) := by rw [HNP.out, HPR.out, Nat.sub_self]; simp [posR]
        have hI := HI.out
        rw [Nat.sub_self, List.replicate_zero, List.append_nil] at hI
        obtain ⟨u9, hr9, _⟩ := hI.rd
        have HER := hide (err_any W b u9 z er hr9)
        have HQ : Hid (nextPo prev zs = ⟨d, xs⟩) := by show _ = _; rw [HPO.out, hE]
        have HCK := hide (check_any W prev (.agg #[.int .u32 (d : Int), .slice (some ⟨G, 0, none⟩) k k]) ⟨d, xs⟩ ⟨hdlt, _, rfl, hI.row.is⟩)
        have HI9 := hide hI
        obtain ⟨⟨p0, p1⟩, p2, p3⟩ := po_cells hI.bP
        obtain ⟨⟨a0, a1⟩, a2, a3⟩ := po_cells hI.bA
        have HE := hide hE
        clear hE hI hr9 HI HPR HTK
        by_cases e0 : er = 0
        · subst e0
          cases hm : mayB prev ⟨d, xs⟩ with
          | false =>
            rw [check_bad hm] at HCK
            have HM := hide hm
            clear hm
            go_wp2_with (first
              | (go_at_call 50; refine HER.out.mono ?_; rintro e W2 ⟨rfl, hw⟩; subst W2; clear HER)
              | (go_at_call 16; refine HCK.out.mono ?_; rintro e W2 ⟨rfl, hb⟩; have HI2 := hide (HI9.out.below hb); clear HCK hb p0 p1 p2 p3 a0 a1 a2 a3; obtain ⟨⟨p0, p1⟩, p2, p3⟩ := po_cells HI2.out.bP; obtain ⟨⟨a0, a1⟩, a2, a3⟩ := po_cells HI2.out.bA))
            refine bodyPost_ret (ret_po1 rfl _ _ A _ _ _ rfl rfl (HI2.out.lay _ _).1) rfl ?_
            exact HGN.out _ (HNB.out (by rw [HQ.out]; exact HM.out)) (HI2.out.lay _ _).2.1
          | true =>
            rw [check_ok hm] at HCK
            have HM := hide hm
            clear hm
            go_wp2_with (first
              | (go_at_call 50; refine HER.out.mono ?_; rintro e W2 ⟨rfl, hw⟩; subst W2; clear HER)
              | (go_at_call 16; refine HCK.out.mono ?_; rintro e W2 ⟨rfl, hb⟩; have HI2 := hide (HI9.out.below hb); clear HCK hb p0 p1 p2 p3 a0 a1 a2 a3; obtain ⟨⟨p0, p1⟩, p2, p3⟩ := po_cells HI2.out.bP; obtain ⟨⟨a0, a1⟩, a2, a3⟩ := po_cells HI2.out.bA))
            refine bodyPost_ret (ret_po1 rfl _ _ A _ _ _ rfl rfl (HI2.out.lay _ _).1) rfl ?_
            have hOK := HYES.out hNr.1 hNr.2 (by rw [HE.out]) (by rw [HQ.out]; exact HM.out)
            obtain ⟨q1, q2⟩ := HYQ.out hOK
            obtain ⟨u5, h5, h6, h7⟩ := HI2.out.rd
            refine ⟨_, (by rw [q2]; rfl), ?_, (HI2.out.lay _ _).2.1, fun _ => ⟨u5, by rw [HE.out]; exact (HI2.out.lay _ _).2.2.2 u5 h5 h6, h7⟩⟩
            rw [q1, HQ.out]
            exact ⟨hdlt, _, rfl, (HI2.out.lay _ _).2.2.1 _ HI2.out.row⟩
        · have hne : (er == 0) = false := by simpa using e0
          go_wp2_with (first
            | (go_at_call 50; refine HER.out.mono ?_; rintro e W2 ⟨rfl, hw⟩; subst W2; clear HER))
          refine bodyPost_ret (ret_po1 rfl _ _ A _ _ _ rfl rfl (HI9.out.lay _ _).1) rfl ?_
          exact HGN.out _ (HNE.out (by rw [HE.out]; exact e0)) (HI9.out.lay _ _).2.1
  · refine bodyPost_ret (ret_po1 rfl _ _ A _ _ _ rfl rfl (HI4.out.lay _ _).1) rfl ?_
    exact HGN.out _ (HNR.out (by omega)) (HI4.out.lay _ _).2.1

end Go.Proofs.Ytmjkpgmmfooajaa
