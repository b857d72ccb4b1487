/- The walk of the statement HeadSector. -/
import Derived.Test.YtmeiahmolmneeaaDoorHTrim
namespace Go.Proofs.YtmeiahmolmneeaaDoor
set_option maxRecDepth 20000
open Go.RowKit
set_option linter.unusedVariables false

/-! ### behind the first sector of a head's page are noughts -/
theorem lay_tail (h : Hd) (hm : mayB h.p h.ms h.us.length = true) : (layS h).drop 64 = List.replicate 192 0 := by
  have hr := may_raw hm
  have hl : loadS (bearS h.p h.ms h.us) 0 = bearS h.p h.ms h.us := by rw [loadS_zero (by rw [bearS_len hm]; omega), padTo_full (by rw [bearS_len hm]; omega)]
  have e1 : layS h = (be4 (ofS (bodyS 1 (h.e % 2) h.e (bearS h.p h.ms h.us))) ++ headS 1 (h.e % 2) h.e) ++ bearS h.p h.ms h.us := by
    unfold layS pageS sealS
    conv => lhs; rw [show bodyS 1 (h.e % 2) h.e (bearS h.p h.ms h.us) = headS 1 (h.e % 2) h.e ++ bearS h.p h.ms h.us from by unfold bodyS; rw [hl]]
    rw [List.append_assoc]
    congr 2
    unfold bodyS
    rw [hl]
  have e2 : (be4 (ofS (bodyS 1 (h.e % 2) h.e (bearS h.p h.ms h.us))) ++ headS 1 (h.e % 2) h.e).length = 16 := by rw [List.length_append, headS_len]; simp [be4]
  rw [e1, List.drop_append, List.drop_of_length_le (by omega), e2, List.nil_append]
  unfold bearS padTo
  rw [List.drop_append, List.drop_of_length_le (by omega), List.nil_append, List.drop_replicate]
  congr 1
  omega

/-- so many bytes of a page, that are copied to their own place in another one -/
theorem splice_same (Z Y : List Int) (o : Nat) (hz : Z.length = 256) (hy : Y.length = 256) (ho : 64 ≤ o) (ho2 : o + 64 ≤ 256) (hZ : Z.drop 64 = List.replicate 192 0) (hY : Y.drop 64 = List.replicate 192 0) : splice Z o ((Y.drop o).take 64) = Z := by
  have e : ∀ X : List Int, X.drop 64 = List.replicate 192 0 → ∀ n, 64 ≤ n → X.drop n = List.replicate (256 - n) 0 := by
    intro X hX n hn
    have : X.drop n = (X.drop 64).drop (n - 64) := by rw [List.drop_drop]; congr 1; omega
    rw [this, hX, List.drop_replicate]
    congr 1
    omega
  unfold splice
  rw [e Y hY o ho, List.take_replicate, show min 64 (256 - o) = 64 by omega, List.length_replicate, e Z hZ (o + 64) (by omega)]
  have h2 := e Z hZ o ho
  conv => rhs; rw [← List.take_append_drop o Z, h2]
  rw [List.replicate_append_replicate]
  congr 2
  omega
theorem splice_first (X Y : List Int) (hx : X.length = 256) (hy : Y.length = 256) (hX : X.drop 64 = List.replicate 192 0) (hY : Y.drop 64 = List.replicate 192 0) : splice X 0 ((Y.drop 0).take 64) = Y := by
  unfold splice
  rw [List.drop_zero, List.take_zero, List.nil_append, List.length_take, show 0 + min 64 Y.length = 64 by omega, hX, ← hY, List.take_append_drop]

/-- bytes copied into a row of the call's own -/
theorem own_copied {w : World} {base g n c : Nat} {Z seg : List Int} (h : w.ownsRow base 5 1 (.slice (some ⟨g, 0, none⟩) n c) n (Z.map (Value.int .u8))) (o : Nat) (ho : o + seg.length ≤ n) :
    w.there g o seg.length ∧ (w.setCells g o (pc seg)).ownsRow base 5 1 (.slice (some ⟨g, 0, none⟩) n c) n ((splice Z o seg).map (Value.int .u8)) := by
  obtain ⟨hb, hn, hm, hx, sp, hB, hs⟩ := own_blk h
  refine ⟨hB.there o _ (by rw [List.length_append]; omega), ?_⟩
  have h2 := own_splice h o (pc seg) (by rw [pc_len]; omega) (fun cs hc hl => hc.setMany (pc seg) o w hl)
  have e : splice (Z.map (Value.int .u8)) o (pc seg) = (splice Z o seg).map (Value.int .u8) := by
    unfold splice pc
    simp only [List.map_append, List.map_take, List.map_drop, List.length_map]
  rw [e] at h2
  exact h2

theorem getD_rep (n i : Nat) : (List.replicate n (0 : Int)).getD i 0 = 0 := by
  simp only [List.getD, List.getElem?_replicate]
  split <;> rfl

theorem bitZ (pk : Nat) (h : pk < 256) (j : Nat) : bits .and .u8 (((pk / 2 ^ j : Nat)) : Int) 1 = ((pk / 2 ^ j % 2 : Nat) : Int) := by
  have hlt : pk / 2 ^ j < 256 := Nat.lt_of_le_of_lt (Nat.div_le_self _ _) h
  have := u8_and_nat (pk / 2 ^ j) 1 hlt (by omega)
  rw [Nat.and_one_is_mod] at this
  exact this

/-- b[l:h] of a row's beginning, its value shown -/
theorem cut_row (g n cap l h : Nat) (h1 : l ≤ h) (h2 : h ≤ n) (h3 : n ≤ cap ∧ l < cap) (wx : World) :
    (Instr.slice 24 (.slice (some ⟨g, 0, none⟩) n cap) (some (.int .i64 l)) (some (.int .i64 h)) none).run Tryd.prog wx = .ok (.slice (some ⟨g, l, none⟩) (h - l) (cap - l)) wx := by
  rw [run_slice_lh wx 24 (some ⟨g, 0, none⟩) n cap tySl .i64 .i64 l h (by omega) (by omega) (by omega), szSl]
  simp only [Result.andThen, sliced, Int.toNat_natCast]
  rw [if_neg (by omega)]
  simp [Addr.add]
  omega

/-- what lies in the mixed page when so many sectors were gone through -/
def mixS (X Y : List Int) (pk j : Nat) : List Int := if j = 0 then X else if pk % 2 = 1 then Y else X

theorem mix_next (X Y : List Int) (pk j : Nat) (hj : 1 ≤ j) : mixS X Y pk (j + 1) = mixS X Y pk j := by
  unfold mixS
  rw [if_neg (show ¬ j + 1 = 0 by omega), if_neg (show ¬ j = 0 by omega)]

set_option maxHeartbeats 4000000 in
theorem headSector_walk (w : World) (va : Value) (ga : Hd) (vb : Value) (gb : Hd) (pk : Nat) (hva : HdIn w va ga) (hvb : HdIn w vb gb) (hp256 : pk < 256) (hT : Tab w) :
    Calls Tryd.prog 7 #[va, vb, .int .u8 pk] w fun e w' => e = .returned (.bool true) ∧ Below w.heap.size w w' := by
  obtain ⟨ma, mc, ua, uc, rfl, hI, hU, he⟩ := hva
  obtain ⟨mb, nc, ub, vc, rfl, hJ, hV, he'⟩ := hvb
  obtain ⟨e, p, ms, us⟩ := ga
  obtain ⟨e', p', ns, vs⟩ := gb
  simp only at hI hU he hJ hV he' ⊢
  unfold hdV
  obtain ⟨M, hM⟩ : ∃ M, M = ms.length := ⟨_, rfl⟩
  obtain ⟨N, hN⟩ : ∃ N, N = us.length := ⟨_, rfl⟩
  obtain ⟨M', hM'⟩ : ∃ M, M = ns.length := ⟨_, rfl⟩
  obtain ⟨N', hN'⟩ : ∃ N, N = vs.length := ⟨_, rfl⟩
  rw [← hM] at hI ⊢
  rw [← hN] at hU ⊢
  rw [← hM'] at hJ ⊢
  rw [← hN'] at hV ⊢
  obtain ⟨cs, hcs⟩ : ∃ cs : List Value, cs = [.int .u64 e, .int .i64 p, .slice ma M mc, .slice ua N uc] := ⟨_, rfl⟩
  obtain ⟨ds, hds⟩ : ∃ ds : List Value, ds = [.int .u64 e', .int .i64 p', .slice mb M' nc, .slice ub N' vc] := ⟨_, rfl⟩
  have HN0 : Hid (Bh2 w ((w.alloc (.cells #[.int .u64 e, .int .i64 p, .slice ma M mc, .slice ua N uc] 26)).alloc (.cells #[.int .u64 e', .int .i64 p', .slice mb M' nc, .slice ub N' vc] 26)) cs ds) := by show Bh2 _ _ _ _; rw [hcs, hds]; exact Bh2.new w _ _
  have HL := hide (live_bh2 w cs ds hT)
  have HCE : Hid (∀ w1, Bh2 w w1 cs ds → (w1.cell? ⟨w.heap.size, 0, none⟩ = some (.int .u64 e) ∧ w1.cell? ⟨w.heap.size, 1, none⟩ = some (.int .i64 p) ∧ w1.cell? ⟨w.heap.size, 2, none⟩ = some (.slice ma M mc) ∧ w1.cell? ⟨w.heap.size, 3, none⟩ = some (.slice ua N uc)) ∧ (w1.cell? ⟨w.heap.size + 1, 0, none⟩ = some (.int .u64 e') ∧ w1.cell? ⟨w.heap.size + 1, 1, none⟩ = some (.int .i64 p') ∧ w1.cell? ⟨w.heap.size + 1, 2, none⟩ = some (.slice mb M' nc) ∧ w1.cell? ⟨w.heap.size + 1, 3, none⟩ = some (.slice ub N' vc))) := fun w1 hb => ⟨box_cells (hcs ▸ hb.2.1), box_cells (hds ▸ hb.2.2)⟩
  have HVA : Hid (∀ w1, Below w.heap.size w w1 → HdV w1 (.agg #[.int .u64 e, .int .i64 p, .slice ma M mc, .slice ua N uc]) ⟨e, p, ms, us⟩) := fun w1 hb => ⟨ma, mc, ua, uc, by rw [hM, hN]; rfl, by rw [← hM]; exact hI.below hb, by rw [← hN]; exact hU.below hb, he⟩
  have HVB : Hid (∀ w1, Below w.heap.size w w1 → HdV w1 (.agg #[.int .u64 e', .int .i64 p', .slice mb M' nc, .slice ub N' vc]) ⟨e', p', ns, vs⟩) := fun w1 hb => ⟨mb, nc, ub, vc, by rw [hM', hN']; rfl, by rw [← hM']; exact hJ.below hb, by rw [← hN']; exact hV.below hb, he'⟩
  have HS : Hid (∀ w1, Bh2 w w1 cs ds → Calls Tryd.prog 10 #[.slice (some ⟨w1.heap.size, 0, none⟩) 2 2] (w1.alloc (.cells #[.int .u64 e, .int .i64 p, .slice ma M mc, .slice ua N uc, .int .u64 e', .int .i64 p', .slice mb M' nc, .slice ub N' vc] 26)) fun r w2 => r = .returned (.bool (decide ((M ≤ 100 ∧ N ≤ 3000) ∧ (M' ≤ 100 ∧ N' ≤ 3000)))) ∧ Bh2 w w2 cs ds) := fun w1 hb => by
    refine (short_two w1 ⟨e, p, ma, M, mc, ua, N, uc⟩ ⟨e', p', mb, M', nc, ub, N', vc⟩).mono ?_
    rintro r w2 ⟨rfl, hb2⟩
    exact ⟨rfl, hb.below hb2⟩
  have hUok := hU.bytes
  have hVok := hV.bytes
  have HBA : Hid (mayB p ms us.length = false → ∀ w1, Bh2 w w1 cs ds → Calls Tryd.prog 13 #[.agg #[.int .u64 e, .int .i64 p, .slice ma M mc, .slice ua N uc]] w1 fun r w2 => r = .returned (.tuple #[.slice none 0 0, .int .i64 60]) ∧ Bh2 w w2 cs ds) := fun hm w1 hb => by
    refine (hlay_bad w1 _ ⟨e, p, ms, us⟩ (HVA.out w1 hb.1) hm).mono ?_
    rintro r w2 ⟨rfl, hb2⟩
    exact ⟨rfl, hb.below hb2⟩
  have HBB : Hid (mayB p' ns vs.length = false → ∀ w1, Bh2 w w1 cs ds → Calls Tryd.prog 13 #[.agg #[.int .u64 e', .int .i64 p', .slice mb M' nc, .slice ub N' vc]] w1 fun r w2 => r = .returned (.tuple #[.slice none 0 0, .int .i64 60]) ∧ Bh2 w w2 cs ds) := fun hm w1 hb => by
    refine (hlay_bad w1 _ ⟨e', p', ns, vs⟩ (HVB.out w1 hb.1) hm).mono ?_
    rintro r w2 ⟨rfl, hb2⟩
    exact ⟨rfl, hb.below hb2⟩
  have HOA : Hid (mayB p ms us.length = true → ∀ w1, Bh2 w w1 cs ds → Calls Tryd.prog 13 #[.agg #[.int .u64 e, .int .i64 p, .slice ma M mc, .slice ua N uc]] w1 fun r w2 => ∃ a c, r = .returned (.tuple #[.slice a 256 c, .int .i64 0]) ∧ w2.ownsRow w1.heap.size 5 1 (.slice a 256 c) 256 ((layS ⟨e, p, ms, us⟩).map (Value.int .u8)) ∧ Bh2 w w2 cs ds ∧ Below w1.heap.size w1 w2) := fun hm w1 hb => by
    refine (hlay_ok w1 _ ⟨e, p, ms, us⟩ (HVA.out w1 hb.1) hm (hT.below hb.1)).mono ?_
    rintro r w2 ⟨v', rfl, ⟨a, n, c, rfl, ho⟩, hb2⟩
    rw [layS_len] at ho
    obtain ⟨a', c', hh⟩ := own_slice ho
    simp only [Value.slice.injEq] at hh
    obtain ⟨rfl, rfl, rfl⟩ := hh
    exact ⟨_, _, rfl, ho, hb.below hb2, hb2⟩
  have HOB : Hid (mayB p' ns vs.length = true → ∀ w1, Bh2 w w1 cs ds → Calls Tryd.prog 13 #[.agg #[.int .u64 e', .int .i64 p', .slice mb M' nc, .slice ub N' vc]] w1 fun r w2 => ∃ a c, r = .returned (.tuple #[.slice a 256 c, .int .i64 0]) ∧ w2.ownsRow w1.heap.size 5 1 (.slice a 256 c) 256 ((layS ⟨e', p', ns, vs⟩).map (Value.int .u8)) ∧ Bh2 w w2 cs ds ∧ Below w1.heap.size w1 w2) := fun hm w1 hb => by
    refine (hlay_ok w1 _ ⟨e', p', ns, vs⟩ (HVB.out w1 hb.1) hm (hT.below hb.1)).mono ?_
    rintro r w2 ⟨v', rfl, ⟨a, n, c, rfl, ho⟩, hb2⟩
    rw [layS_len] at ho
    obtain ⟨a', c', hh⟩ := own_slice ho
    simp only [Value.slice.injEq] at hh
    obtain ⟨rfl, rfl, rfl⟩ := hh
    exact ⟨_, _, rfl, ho, hb.below hb2, hb2⟩
  have hza := zeroHeadRun
  clear hcs hds hM hN hM' hN' hI hU hJ hV HVA HVB
  by_cases hsh : (M ≤ 100 ∧ N ≤ 3000) ∧ (M' ≤ 100 ∧ N' ≤ 3000)
  · rw [decide_eq_true hsh] at HS
    cases hma : mayB p ms us.length with
    | false =>
      have HA := hide (HBA.out hma)
      cases hmb : mayB p' ns vs.length with
      | false =>
        have HB := hide (HBB.out hmb)
        clear HOA HOB HBA HBB
        go_enter Tryd.func7, Tryd.ntmps7
        go_wp2_with (first
          | (go_at_call 9; refine (HL.out _ HN0.out).mono ?_; rintro e1 w1 ⟨rfl, b1⟩; have HS1 := hide (HS.out w1 b1); obtain ⟨⟨c0, c1, c2, c3⟩, ⟨d0, d1, d2, d3⟩⟩ := HCE.out _ b1; clear HN0 HS b1)
          | (go_at_call 10; refine HS1.out.mono ?_; rintro e1 w2 ⟨rfl, b2⟩; clear c0 c1 c2 c3 d0 d1 d2 d3; obtain ⟨⟨c0, c1, c2, c3⟩, ⟨d0, d1, d2, d3⟩⟩ := HCE.out _ b2; have HA2 := hide (HA.out w2 b2); clear HS1 HA b2)
          | (go_at_call 13; refine HA2.out.mono ?_; rintro e1 w3 ⟨rfl, b3⟩; clear c0 c1 c2 c3 d0 d1 d2 d3; obtain ⟨⟨c0, c1, c2, c3⟩, ⟨d0, d1, d2, d3⟩⟩ := HCE.out _ b3; have HB3 := hide (HB.out w3 b3); clear HA2 HB b3)
          | (go_at_call 13; refine HB3.out.mono ?_; rintro e1 w4 ⟨rfl, b4⟩; have HB4 := hide b4.1; clear c0 c1 c2 c3 d0 d1 d2 d3; clear HB3 b4))
        go_ret
        exact ⟨rfl, HB4.out⟩
      | true =>
        have HB := hide (HOB.out hmb)
        clear HOA HOB HBA HBB
        go_enter Tryd.func7, Tryd.ntmps7
        go_wp2_with (first
          | (go_at_call 9; refine (HL.out _ HN0.out).mono ?_; rintro e1 w1 ⟨rfl, b1⟩; have HS1 := hide (HS.out w1 b1); obtain ⟨⟨c0, c1, c2, c3⟩, ⟨d0, d1, d2, d3⟩⟩ := HCE.out _ b1; clear HN0 HS b1)
          | (go_at_call 10; refine HS1.out.mono ?_; rintro e1 w2 ⟨rfl, b2⟩; clear c0 c1 c2 c3 d0 d1 d2 d3; obtain ⟨⟨c0, c1, c2, c3⟩, ⟨d0, d1, d2, d3⟩⟩ := HCE.out _ b2; have HA2 := hide (HA.out w2 b2); clear HS1 HA b2)
          | (go_at_call 13; refine HA2.out.mono ?_; rintro e1 w3 ⟨rfl, b3⟩; clear c0 c1 c2 c3 d0 d1 d2 d3; obtain ⟨⟨c0, c1, c2, c3⟩, ⟨d0, d1, d2, d3⟩⟩ := HCE.out _ b3; have HB3 := hide (HB.out w3 b3); clear HA2 HB b3)
          | (go_at_call 13; refine HB3.out.mono ?_; rintro e1 w4 ⟨a4, l4, rfl, O4, b4, _⟩; have HB4 := hide b4.1; clear c0 c1 c2 c3 d0 d1 d2 d3; clear HB3 b4))
        go_ret
        exact ⟨rfl, HB4.out⟩
    | true =>
      have HA := hide (HOA.out hma)
      cases hmb : mayB p' ns vs.length with
      | false =>
        have HB := hide (HBB.out hmb)
        clear HOA HOB HBA HBB
        go_enter Tryd.func7, Tryd.ntmps7
        go_wp2_with (first
          | (go_at_call 9; refine (HL.out _ HN0.out).mono ?_; rintro e1 w1 ⟨rfl, b1⟩; have HS1 := hide (HS.out w1 b1); obtain ⟨⟨c0, c1, c2, c3⟩, ⟨d0, d1, d2, d3⟩⟩ := HCE.out _ b1; clear HN0 HS b1)
          | (go_at_call 10; refine HS1.out.mono ?_; rintro e1 w2 ⟨rfl, b2⟩; clear c0 c1 c2 c3 d0 d1 d2 d3; obtain ⟨⟨c0, c1, c2, c3⟩, ⟨d0, d1, d2, d3⟩⟩ := HCE.out _ b2; have HA2 := hide (HA.out w2 b2); clear HS1 HA b2)
          | (go_at_call 13; refine HA2.out.mono ?_; rintro e1 w3 ⟨a3, l3, rfl, O3, b3, _⟩; clear c0 c1 c2 c3 d0 d1 d2 d3; obtain ⟨⟨c0, c1, c2, c3⟩, ⟨d0, d1, d2, d3⟩⟩ := HCE.out _ b3; have HB3 := hide (HB.out w3 b3); have HO3 := hide O3; clear HA2 HB b3 O3)
          | (go_at_call 13; refine HB3.out.mono ?_; rintro e1 w4 ⟨rfl, b4⟩; have HB4 := hide b4.1; clear c0 c1 c2 c3 d0 d1 d2 d3; clear HB3 b4))
        go_ret
        exact ⟨rfl, HB4.out⟩
      | true =>
        have HB := hide (HOB.out hmb)
        clear HOA HOB HBA HBB
        have hta := lay_tail ⟨e, p, ms, us⟩ hma
        have htb := lay_tail ⟨e', p', ns, vs⟩ hmb
        have hla := layS_ok (h := ⟨e, p, ms, us⟩) hma hUok
        have hlb := layS_ok (h := ⟨e', p', ns, vs⟩) hmb hVok
        have hna := layS_len ⟨e, p, ms, us⟩
        have hnb := layS_len ⟨e', p', ns, vs⟩
        obtain ⟨X, hX⟩ : ∃ X, X = layS ⟨e, p, ms, us⟩ := ⟨_, rfl⟩
        obtain ⟨Y, hY⟩ : ∃ Y, Y = layS ⟨e', p', ns, vs⟩ := ⟨_, rfl⟩
        rw [← hX] at HA hta hla hna
        rw [← hY] at HB htb hlb hnb
        have HTR : Hid (∀ w1 a c, Sl w1 (.slice a 256 c) X → ∃ a' c', (∀ wx, (Instr.slice 24 (.slice a 256 c) (some (.int .i64 64)) none none).run Tryd.prog wx = .ok (.slice a' 192 c') wx) ∧ Calls Tryd.prog 28 #[.slice a' 192 c', .string ⟨#[0]⟩] w1 fun r w' => r = .returned (.slice none 0 0) ∧ Below w1.heap.size w1 w') := by
          intro w1 a c hs
          rw [← hna] at hs
          obtain ⟨a', c', hr, hs'⟩ := cut_l w1 a X c 64 hs (by omega)
          have h192 : (X.drop 64).length = 192 := by rw [hta, List.length_replicate]
          rw [h192, hna] at hr
          have hs2 := hs' w1 hs
          have := trim_zero w1 a' c' (X.drop 64) hs2 (fun i hi => by rw [hta]; exact getD_rep _ _) (by omega)
          rw [h192] at this
          exact ⟨a', c', hr, this⟩
        have HXE : Hid (∀ w1 u v (zs ys : List Int), Sl w1 u zs → Sl w1 v ys → zs = ys → Calls Tryd.prog 19 #[u, v] w1 fun r w' => r = .returned (.bool true) ∧ w' = w1) := fun w1 u v zs ys h1 h2 hh => by
          have := equal_any w1 u v zs ys h1 h2
          rwa [decide_eq_true hh] at this
        have HTA := hide hta
        have HTB := hide htb
        have HLA := hide hla
        have HLB := hide hlb
        have HNA := hide hna
        have HNB := hide hnb
        clear hT hUok hVok hma hmb hta htb hla hlb hna hnb hX hY
        go_enter Tryd.func7, Tryd.ntmps7
        go_wp2_with (first
          | (go_at_call 9; refine (HL.out _ HN0.out).mono ?_; rintro e1 w1 ⟨rfl, b1⟩; have HS1 := hide (HS.out w1 b1); obtain ⟨⟨c0, c1, c2, c3⟩, ⟨d0, d1, d2, d3⟩⟩ := HCE.out _ b1; clear HN0 HS b1)
          | (go_at_call 10; refine HS1.out.mono ?_; rintro e1 w2 ⟨rfl, b2⟩; clear c0 c1 c2 c3 d0 d1 d2 d3; obtain ⟨⟨c0, c1, c2, c3⟩, ⟨d0, d1, d2, d3⟩⟩ := HCE.out _ b2; have HA2 := hide (HA.out w2 b2); clear HS1 HA b2)
          | (go_at_call 13; refine HA2.out.mono ?_; rintro e1 w3 ⟨a3, l3, rfl, O3, b3, _⟩; clear c0 c1 c2 c3 d0 d1 d2 d3; obtain ⟨⟨c0, c1, c2, c3⟩, ⟨d0, d1, d2, d3⟩⟩ := HCE.out _ b3; have HB3 := hide (HB.out w3 b3); have HO3 := hide O3; clear HA2 HB b3 O3)
          | (go_at_call 13; refine HB3.out.mono ?_; rintro e1 w4 ⟨a4, l4, rfl, O4, b4, bel4⟩; have HB4 := hide b4.1; have SX4 := sl_of_own (own_keep HO3.out bel4) HLA.out rfl; have SY4 := sl_of_own O4 HLB.out rfl; obtain ⟨ta, tc, hcut, htr⟩ := HTR.out w4 a3 l3 SX4; have HT4 := hide htr; have HSX4 := hide SX4; have HSY4 := hide SY4; clear c0 c1 c2 c3 d0 d1 d2 d3; clear HB3 HO3 HTR b4 bel4 O4 SX4 SY4 htr)
          | (go_at_call 28; refine HT4.out.mono ?_; rintro e1 w5 ⟨rfl, b5⟩; have HX5 := hide (HSX4.out.below b5); have HY5 := hide (HSY4.out.below b5); have HB5 := hide (HB4.out.trans (b5.mono HB4.out.size)); have HC5 := hide (clone_any w5 _ X HX5.out (by have := HNA.out; omega)); clear HT4 HSX4 HSY4 HB4 b5 hcut)
          | (go_at_call 22; refine HC5.out.mono ?_; rintro e1 w6 ⟨u6, rfl, O6, b6⟩; rw [HNA.out] at O6; obtain ⟨a6, c6, rfl⟩ := own_slice O6; obtain ⟨g6, rfl⟩ : ∃ g, a6 = some ⟨g, 0, none⟩ := (by rcases O6.2 with ⟨h, _⟩ | ⟨g, cap, cur, h, _⟩; simp at h; simp only [Value.slice.injEq] at h; exact ⟨g, h.1⟩); have hc6 : Hid (256 ≤ c6) := (by rcases O6.2 with ⟨h, _⟩ | ⟨g, cap, cur, h, _, _, h4, _⟩; simp at h; simp only [Value.slice.injEq] at h; show 256 ≤ c6; rw [h.2.2]; exact h4); have HO6 := hide O6; have Hb6 := hide b6; clear HC5 O6 b6))
        go_loopg [56] 4 (fun gk i wr => ∃ j : Nat, gk + j = 4 ∧ i = .int .i64 j ∧ wr.ownsRow w5.heap.size 5 1 (.slice (some ⟨g6, 0, none⟩) 256 c6) 256 ((mixS X Y pk j).map (Value.int .u8)) ∧ Below w5.heap.size w5 wr)
        case atStart => exact ⟨0, rfl, rfl, HO6.out, Hb6.out⟩
        case round =>
          obtain ⟨j, hj, rfl, hown, hbr⟩ := hrel
          have HOW := hide hown
          have HBR := hide hbr
          clear HO6 Hb6 hown hbr
          cases gk with
          | zero =>
            obtain rfl : j = 4 := by omega
            have HXR := hide (HX5.out.below HBR.out)
            have HYR := hide (HY5.out.below HBR.out)
            have HBE := hide (HB5.out.trans (HBR.out.mono HB5.out.size))
            by_cases hb : pk % 2 = 1
            · have hmx : mixS X Y pk 4 = Y := by unfold mixS; rw [if_neg (by omega), if_pos hb]
              have hand : bits .and .u8 (pk : Int) 1 = 1 := by have := bitZ pk hp256 0; simp only [Nat.pow_zero, Nat.div_one] at this; rw [this, hb]; rfl
              have hmo : ByteOk (mixS X Y pk 4) := by rw [hmx]; exact HLB.out
              have HE := hide (HXE.out wr _ _ _ _ (sl_of_own HOW.out hmo rfl) HYR.out hmx)
              clear hmx hmo hb
              go_wp2_with (go_at_call 19; refine HE.out.mono ?_; rintro e1 w9 ⟨rfl, hw⟩; subst w9; clear HE)
              go_ret
              exact ⟨rfl, HBE.out⟩
            · have hb0 : pk % 2 = 0 := by omega
              have hmx : mixS X Y pk 4 = X := by unfold mixS; rw [if_neg (by omega), if_neg hb]
              have hand : bits .and .u8 (pk : Int) 1 = 0 := by have := bitZ pk hp256 0; simp only [Nat.pow_zero, Nat.div_one] at this; rw [this, hb0]; rfl
              have hmo : ByteOk (mixS X Y pk 4) := by rw [hmx]; exact HLA.out
              have HE := hide (HXE.out wr _ _ _ _ (sl_of_own HOW.out hmo rfl) HXR.out hmx)
              clear hmx hmo hb hb0
              go_wp2_with (go_at_call 19; refine HE.out.mono ?_; rintro e1 w9 ⟨rfl, hw⟩; subst w9; clear HE)
              go_ret
              exact ⟨rfl, HBE.out⟩
          | succ gl =>
            rcases (by omega : j = 0 ∨ j = 1 ∨ j = 2 ∨ j = 3) with rfl | rfl | rfl | rfl
            · by_cases hb : pk % 2 = 1
              · have hand : bits .and .u8 ((pk : Int)) 1 = 1 := by
                  have h1 := bitZ pk hp256 0
                  rw [show pk / 2 ^ 0 % 2 = 1 from by simpa using hb] at h1
                  rw [show (((pk / 2 ^ 0 : Nat)) : Int) = (pk : Int) from by simp] at h1
                  exact h1
                have hm2 : splice (mixS X Y pk 0) 0 ((Y.drop 0).take 64) = mixS X Y pk 1 := by
                  have h1 := splice_first X Y HNA.out HNB.out HTA.out HTB.out
                  rw [show mixS X Y pk 0 = X from rfl, h1]
                  unfold mixS
                  rw [if_neg (by omega), if_pos (by omega)]
                have hcm : ∀ wx, (Instr.slice 24 (.slice (some ⟨g6, 0, none⟩) 256 c6) (some (.int .i64 0)) (some (.int .i64 64)) none).run Tryd.prog wx = .ok (.slice (some ⟨g6, 0, none⟩) 64 (c6 - 0)) wx := fun wx => cut_row g6 256 c6 0 64 (by omega) (by omega) (by have := hc6.out; omega) wx
                obtain ⟨ya, yc, hcy, hcs⟩ : ∃ a' c', (∀ wx, (Instr.slice 24 (.slice a4 256 l4) (some (.int .i64 0)) none none).run Tryd.prog wx = .ok (.slice a' 256 c') wx) ∧ ∀ wx, Sl wx (.slice a4 256 l4) Y → Sl wx (.slice a' 256 c') (Y.drop 0) := by
                  have hs := HY5.out
                  rw [← HNB.out] at hs
                  obtain ⟨a', c', h1, h2⟩ := cut_l w5 a4 Y l4 0 hs (by have := HNB.out; omega)
                  have hl : (Y.drop 0).length = 256 := by rw [List.length_drop, HNB.out]
                  rw [hl, HNB.out] at h1 h2
                  exact ⟨a', c', h1, h2⟩
                have HCS := hide hcs
                have HM2 := hide hm2
                clear hcs hm2
                go_wp2
                refine wp_region_only (fun _ => False) [isV (.slice (some ⟨g6, 0, none⟩) 256 c6), isV (.int .i64 ((0 : Nat) : Int)), isV (.int .i64 0), isV (.int .i64 ((0 : Nat) : Int)), isV (.int .i64 1), isV (.int .i64 64), isV (.slice (some ⟨g6, 0, none⟩) 64 (c6 - 0)), isV (.slice a4 256 l4), isV (.int .i64 ((0 : Nat) : Int)), isV (.int .i64 0), isV (.slice ya 256 yc)] 99 87 11 (by kernel_rfl) (by kernel_rfl) (by kernel_rfl) (by kernel_rfl) rfl ?_ ?_ ?_
                · repeat (first | exact trivial | refine allStL_isV ?_)
                · refine ⟨?_, ?_, ?_, ?_, ?_, ?_, ?_, ?_, ?_, ?_, ?_, trivial⟩
                  · intro act wx h
                    have e11 : act.eval (.tmp 11) = .slice (some ⟨g6, 0, none⟩) 256 c6 := h.old 11 (by kernel_rfl)
                    have hrel := h.rel
                    clear h
                    refine gives_by rfl act.eval rfl ?_
                    generalize act.eval = ρ at *
                    intro hf hc
                    go_simp
                    exact ⟨relM_quiet (by decide) (Only.refl _ _), rfl⟩
                  · intro act wx h
                    have e12 : act.eval (.tmp 12) = .int .i64 ((0 : Nat) : Int) := h.old 12 (by kernel_rfl)
                    have hrel := h.rel
                    clear h
                    refine gives_by rfl act.eval rfl ?_
                    generalize act.eval = ρ at *
                    intro hf hc
                    go_simp
                    exact ⟨relM_quiet (by decide) (Only.refl _ _), rfl⟩
                  · intro act wx h
                    obtain ⟨v66, e66, f66⟩ := h.val 1 66 (by kernel_rfl)
                    obtain rfl : v66 = .int .i64 ((0 : Nat) : Int) := f66
                    have hrel := h.rel
                    clear h
                    refine gives_by rfl act.eval rfl ?_
                    generalize act.eval = ρ at *
                    intro hf hc
                    go_simp
                    exact ⟨relM_quiet (by decide) (Only.refl _ _), rfl⟩
                  · intro act wx h
                    have e12 : act.eval (.tmp 12) = .int .i64 ((0 : Nat) : Int) := h.old 12 (by kernel_rfl)
                    have hrel := h.rel
                    clear h
                    refine gives_by rfl act.eval rfl ?_
                    generalize act.eval = ρ at *
                    intro hf hc
                    go_simp
                    exact ⟨relM_quiet (by decide) (Only.refl _ _), rfl⟩
                  · intro act wx h
                    obtain ⟨v68, e68, f68⟩ := h.val 3 68 (by kernel_rfl)
                    obtain rfl : v68 = .int .i64 ((0 : Nat) : Int) := f68
                    have hrel := h.rel
                    clear h
                    refine gives_by rfl act.eval rfl ?_
                    generalize act.eval = ρ at *
                    intro hf hc
                    go_simp
                    exact ⟨relM_quiet (by decide) (Only.refl _ _), rfl⟩
                  · intro act wx h
                    obtain ⟨v69, e69, f69⟩ := h.val 4 69 (by kernel_rfl)
                    obtain rfl : v69 = .int .i64 1 := f69
                    have hrel := h.rel
                    clear h
                    refine gives_by rfl act.eval rfl ?_
                    generalize act.eval = ρ at *
                    intro hf hc
                    go_simp
                    exact ⟨relM_quiet (by decide) (Only.refl _ _), rfl⟩
                  · intro act wx h
                    obtain ⟨v65, e65, f65⟩ := h.val 0 65 (by kernel_rfl)
                    obtain rfl : v65 = .slice (some ⟨g6, 0, none⟩) 256 c6 := f65
                    obtain ⟨v67, e67, f67⟩ := h.val 2 67 (by kernel_rfl)
                    obtain rfl : v67 = .int .i64 0 := f67
                    obtain ⟨v70, e70, f70⟩ := h.val 5 70 (by kernel_rfl)
                    obtain rfl : v70 = .int .i64 64 := f70
                    have hrel := h.rel
                    clear h
                    refine gives_by rfl act.eval rfl ?_
                    generalize act.eval = ρ at *
                    intro hf hc
                    go_simp
                    exact ⟨relM_quiet (by decide) (Only.refl _ _), rfl⟩
                  · intro act wx h
                    have e9 : act.eval (.tmp 9) = .slice a4 256 l4 := h.old 9 (by kernel_rfl)
                    have hrel := h.rel
                    clear h
                    refine gives_by rfl act.eval rfl ?_
                    generalize act.eval = ρ at *
                    intro hf hc
                    go_simp
                    exact ⟨relM_quiet (by decide) (Only.refl _ _), rfl⟩
                  · intro act wx h
                    have e12 : act.eval (.tmp 12) = .int .i64 ((0 : Nat) : Int) := h.old 12 (by kernel_rfl)
                    have hrel := h.rel
                    clear h
                    refine gives_by rfl act.eval rfl ?_
                    generalize act.eval = ρ at *
                    intro hf hc
                    go_simp
                    exact ⟨relM_quiet (by decide) (Only.refl _ _), rfl⟩
                  · intro act wx h
                    obtain ⟨v73, e73, f73⟩ := h.val 8 73 (by kernel_rfl)
                    obtain rfl : v73 = .int .i64 ((0 : Nat) : Int) := f73
                    have hrel := h.rel
                    clear h
                    refine gives_by rfl act.eval rfl ?_
                    generalize act.eval = ρ at *
                    intro hf hc
                    go_simp
                    exact ⟨relM_quiet (by decide) (Only.refl _ _), rfl⟩
                  · intro act wx h
                    obtain ⟨v72, e72, f72⟩ := h.val 7 72 (by kernel_rfl)
                    obtain rfl : v72 = .slice a4 256 l4 := f72
                    obtain ⟨v74, e74, f74⟩ := h.val 9 74 (by kernel_rfl)
                    obtain rfl : v74 = .int .i64 0 := f74
                    have hrel := h.rel
                    clear h
                    refine gives_by rfl act.eval rfl ?_
                    generalize act.eval = ρ at *
                    intro hf hc
                    go_simp
                    exact ⟨relM_quiet (by decide) (Only.refl _ _), rfl⟩
                · intro oL hoL vals w3' ho3 hvv
                  simp only [List.getElem?_toArray, List.getElem?_cons_succ, List.getElem?_cons_zero, Option.some.injEq] at hoL
                  subst hoL
                  generalize hact : putAll _ vals 0 _ = act
                  have hv6 : vals 6 = .slice (some ⟨g6, 0, none⟩) 64 (c6 - 0) := hvv 6 71 (by decide) (by kernel_rfl)
                  have hv10 : vals 10 = .slice ya 256 yc := hvv 10 75 (by decide) (by kernel_rfl)
                  clear hvv
                  have hw3 : Below wr.heap.size wr w3' := ho3.below (Nat.le_refl _) (fun _ _ h => h)
                  have O3' := own_keep HOW.out hw3
                  have B3' := HBR.out.trans (hw3.mono HBR.out.size)
                  have S3' := HCS.out w3' (HY5.out.below B3')
                  have hsl : ((Y.drop 0).take 64).length = 64 := by rw [List.length_take, List.length_drop, HNB.out]; rfl
                  obtain ⟨th, ow⟩ := own_copied O3' (seg := (Y.drop 0).take 64) 0 (by rw [hsl]; omega)
                  have hrun := run_copy_first (P := Tryd.prog) w3' 24 3 5 Tryd.underlying24 sizeU8 g6 0 64 (c6 - 0) ya 256 yc (Y.drop 0) S3' th
                  rw [HM2.out] at ow
                  have hgw : w5.heap.size ≤ g6 := (O3'.lt g6 rfl).1
                  have oC : Only (fun k => k = g6) w3' (w3'.setCells g6 0 (pc ((Y.drop 0).take 64))) := Only.setCells g6 _ 0 _ (Only.refl _ w3') (fun _ => rfl)
                  have B4' := B3'.trans (oC.below B3'.size (fun k hk h => by omega))
                  have HRUN := hide hrun
                  have HOW2 := hide ow
                  have HBR2 := hide B4'
                  clear hrun ow B4' oC O3' B3' S3' th hw3 ho3 HOW HBR HCS HM2 hcm hcy
                  subst hact
                  simp only [List.dropLast, putAll, Act.put, List.setIfInBounds_toArray, List.set_cons_zero, List.set_cons_succ, hv6, hv10, Nat.zero_add, Nat.reduceAdd]
                  refine gives_of_run rfl (exec_copy (.tmp 71) (.tmp 75) 24 24 rfl _ _ rfl rfl _ HRUN.out) ?_
                  go_wp2
                  go_roundg gl
                  case measure => omega
                  case rel => exact ⟨1, by omega, rfl, HOW2.out, HBR2.out⟩
              · have hb : pk % 2 = 0 := by omega
                have hand : bits .and .u8 ((pk : Int)) 1 = 0 := by
                  have h1 := bitZ pk hp256 0
                  rw [show pk / 2 ^ 0 % 2 = 0 from by simpa using hb] at h1
                  rw [show (((pk / 2 ^ 0 : Nat)) : Int) = (pk : Int) from by simp] at h1
                  exact h1
                have hmx : mixS X Y pk 1 = X := by unfold mixS; rw [if_neg (by omega), if_neg (by omega)]
                go_wp2
                go_roundg gl
                case measure => omega
                case rel => exact ⟨1, by omega, rfl, by rw [hmx]; exact HOW.out, HBR.out⟩
            · by_cases hb : pk / 2 % 2 = 1
              · have hand : bits .and .u8 ((pk : Int) / 2) 1 = 1 := by
                  have h1 := bitZ pk hp256 1
                  rw [show pk / 2 ^ 1 % 2 = 1 from by simpa using hb] at h1
                  rw [show (((pk / 2 ^ 1 : Nat)) : Int) = (pk : Int) / 2 from by simp] at h1
                  exact h1
                have hzl : (mixS X Y pk 1).length = 256 := by unfold mixS; split; exact HNA.out; split; exact HNB.out; exact HNA.out
                have hzt : (mixS X Y pk 1).drop 64 = List.replicate 192 0 := by unfold mixS; split; exact HTA.out; split; exact HTB.out; exact HTA.out
                have hm2 : splice (mixS X Y pk 1) 64 ((Y.drop 64).take 64) = mixS X Y pk 2 := by
                  rw [splice_same _ Y 64 hzl HNB.out (by omega) (by omega) hzt HTB.out]
                  exact (mix_next X Y pk 1 (by omega)).symm
                have hcm : ∀ wx, (Instr.slice 24 (.slice (some ⟨g6, 0, none⟩) 256 c6) (some (.int .i64 64)) (some (.int .i64 128)) none).run Tryd.prog wx = .ok (.slice (some ⟨g6, 64, none⟩) 64 (c6 - 64)) wx := fun wx => cut_row g6 256 c6 64 128 (by omega) (by omega) (by have := hc6.out; omega) wx
                obtain ⟨ya, yc, hcy, hcs⟩ : ∃ a' c', (∀ wx, (Instr.slice 24 (.slice a4 256 l4) (some (.int .i64 64)) none none).run Tryd.prog wx = .ok (.slice a' 192 c') wx) ∧ ∀ wx, Sl wx (.slice a4 256 l4) Y → Sl wx (.slice a' 192 c') (Y.drop 64) := by
                  have hs := HY5.out
                  rw [← HNB.out] at hs
                  obtain ⟨a', c', h1, h2⟩ := cut_l w5 a4 Y l4 64 hs (by have := HNB.out; omega)
                  have hl : (Y.drop 64).length = 192 := by rw [List.length_drop, HNB.out]
                  rw [hl, HNB.out] at h1 h2
                  exact ⟨a', c', h1, h2⟩
                have HCS := hide hcs
                have HM2 := hide hm2
                clear hcs hm2 hzl hzt
                go_wp2
                refine wp_region_only (fun _ => False) [isV (.slice (some ⟨g6, 0, none⟩) 256 c6), isV (.int .i64 ((1 : Nat) : Int)), isV (.int .i64 64), isV (.int .i64 ((1 : Nat) : Int)), isV (.int .i64 2), isV (.int .i64 128), isV (.slice (some ⟨g6, 64, none⟩) 64 (c6 - 64)), isV (.slice a4 256 l4), isV (.int .i64 ((1 : Nat) : Int)), isV (.int .i64 64), isV (.slice ya 192 yc)] 99 87 11 (by kernel_rfl) (by kernel_rfl) (by kernel_rfl) (by kernel_rfl) rfl ?_ ?_ ?_
                · repeat (first | exact trivial | refine allStL_isV ?_)
                · refine ⟨?_, ?_, ?_, ?_, ?_, ?_, ?_, ?_, ?_, ?_, ?_, trivial⟩
                  · intro act wx h
                    have e11 : act.eval (.tmp 11) = .slice (some ⟨g6, 0, none⟩) 256 c6 := h.old 11 (by kernel_rfl)
                    have hrel := h.rel
                    clear h
                    refine gives_by rfl act.eval rfl ?_
                    generalize act.eval = ρ at *
                    intro hf hc
                    go_simp
                    exact ⟨relM_quiet (by decide) (Only.refl _ _), rfl⟩
                  · intro act wx h
                    have e12 : act.eval (.tmp 12) = .int .i64 ((1 : Nat) : Int) := h.old 12 (by kernel_rfl)
                    have hrel := h.rel
                    clear h
                    refine gives_by rfl act.eval rfl ?_
                    generalize act.eval = ρ at *
                    intro hf hc
                    go_simp
                    exact ⟨relM_quiet (by decide) (Only.refl _ _), rfl⟩
                  · intro act wx h
                    obtain ⟨v66, e66, f66⟩ := h.val 1 66 (by kernel_rfl)
                    obtain rfl : v66 = .int .i64 ((1 : Nat) : Int) := f66
                    have hrel := h.rel
                    clear h
                    refine gives_by rfl act.eval rfl ?_
                    generalize act.eval = ρ at *
                    intro hf hc
                    go_simp
                    exact ⟨relM_quiet (by decide) (Only.refl _ _), rfl⟩
                  · intro act wx h
                    have e12 : act.eval (.tmp 12) = .int .i64 ((1 : Nat) : Int) := h.old 12 (by kernel_rfl)
                    have hrel := h.rel
                    clear h
                    refine gives_by rfl act.eval rfl ?_
                    generalize act.eval = ρ at *
                    intro hf hc
                    go_simp
                    exact ⟨relM_quiet (by decide) (Only.refl _ _), rfl⟩
                  · intro act wx h
                    obtain ⟨v68, e68, f68⟩ := h.val 3 68 (by kernel_rfl)
                    obtain rfl : v68 = .int .i64 ((1 : Nat) : Int) := f68
                    have hrel := h.rel
                    clear h
                    refine gives_by rfl act.eval rfl ?_
                    generalize act.eval = ρ at *
                    intro hf hc
                    go_simp
                    exact ⟨relM_quiet (by decide) (Only.refl _ _), rfl⟩
                  · intro act wx h
                    obtain ⟨v69, e69, f69⟩ := h.val 4 69 (by kernel_rfl)
                    obtain rfl : v69 = .int .i64 2 := f69
                    have hrel := h.rel
                    clear h
                    refine gives_by rfl act.eval rfl ?_
                    generalize act.eval = ρ at *
                    intro hf hc
                    go_simp
                    exact ⟨relM_quiet (by decide) (Only.refl _ _), rfl⟩
                  · intro act wx h
                    obtain ⟨v65, e65, f65⟩ := h.val 0 65 (by kernel_rfl)
                    obtain rfl : v65 = .slice (some ⟨g6, 0, none⟩) 256 c6 := f65
                    obtain ⟨v67, e67, f67⟩ := h.val 2 67 (by kernel_rfl)
                    obtain rfl : v67 = .int .i64 64 := f67
                    obtain ⟨v70, e70, f70⟩ := h.val 5 70 (by kernel_rfl)
                    obtain rfl : v70 = .int .i64 128 := f70
                    have hrel := h.rel
                    clear h
                    refine gives_by rfl act.eval rfl ?_
                    generalize act.eval = ρ at *
                    intro hf hc
                    go_simp
                    exact ⟨relM_quiet (by decide) (Only.refl _ _), rfl⟩
                  · intro act wx h
                    have e9 : act.eval (.tmp 9) = .slice a4 256 l4 := h.old 9 (by kernel_rfl)
                    have hrel := h.rel
                    clear h
                    refine gives_by rfl act.eval rfl ?_
                    generalize act.eval = ρ at *
                    intro hf hc
                    go_simp
                    exact ⟨relM_quiet (by decide) (Only.refl _ _), rfl⟩
                  · intro act wx h
                    have e12 : act.eval (.tmp 12) = .int .i64 ((1 : Nat) : Int) := h.old 12 (by kernel_rfl)
                    have hrel := h.rel
                    clear h
                    refine gives_by rfl act.eval rfl ?_
                    generalize act.eval = ρ at *
                    intro hf hc
                    go_simp
                    exact ⟨relM_quiet (by decide) (Only.refl _ _), rfl⟩
                  · intro act wx h
                    obtain ⟨v73, e73, f73⟩ := h.val 8 73 (by kernel_rfl)
                    obtain rfl : v73 = .int .i64 ((1 : Nat) : Int) := f73
                    have hrel := h.rel
                    clear h
                    refine gives_by rfl act.eval rfl ?_
                    generalize act.eval = ρ at *
                    intro hf hc
                    go_simp
                    exact ⟨relM_quiet (by decide) (Only.refl _ _), rfl⟩
                  · intro act wx h
                    obtain ⟨v72, e72, f72⟩ := h.val 7 72 (by kernel_rfl)
                    obtain rfl : v72 = .slice a4 256 l4 := f72
                    obtain ⟨v74, e74, f74⟩ := h.val 9 74 (by kernel_rfl)
                    obtain rfl : v74 = .int .i64 64 := f74
                    have hrel := h.rel
                    clear h
                    refine gives_by rfl act.eval rfl ?_
                    generalize act.eval = ρ at *
                    intro hf hc
                    go_simp
                    exact ⟨relM_quiet (by decide) (Only.refl _ _), rfl⟩
                · intro oL hoL vals w3' ho3 hvv
                  simp only [List.getElem?_toArray, List.getElem?_cons_succ, List.getElem?_cons_zero, Option.some.injEq] at hoL
                  subst hoL
                  generalize hact : putAll _ vals 0 _ = act
                  have hv6 : vals 6 = .slice (some ⟨g6, 64, none⟩) 64 (c6 - 64) := hvv 6 71 (by decide) (by kernel_rfl)
                  have hv10 : vals 10 = .slice ya 192 yc := hvv 10 75 (by decide) (by kernel_rfl)
                  clear hvv
                  have hw3 : Below wr.heap.size wr w3' := ho3.below (Nat.le_refl _) (fun _ _ h => h)
                  have O3' := own_keep HOW.out hw3
                  have B3' := HBR.out.trans (hw3.mono HBR.out.size)
                  have S3' := HCS.out w3' (HY5.out.below B3')
                  have hsl : ((Y.drop 64).take 64).length = 64 := by rw [List.length_take, List.length_drop, HNB.out]; rfl
                  obtain ⟨th, ow⟩ := own_copied O3' (seg := (Y.drop 64).take 64) 64 (by rw [hsl]; omega)
                  have hrun := run_copy_first (P := Tryd.prog) w3' 24 3 5 Tryd.underlying24 sizeU8 g6 64 64 (c6 - 64) ya 192 yc (Y.drop 64) S3' th
                  rw [HM2.out] at ow
                  have hgw : w5.heap.size ≤ g6 := (O3'.lt g6 rfl).1
                  have oC : Only (fun k => k = g6) w3' (w3'.setCells g6 64 (pc ((Y.drop 64).take 64))) := Only.setCells g6 _ 64 _ (Only.refl _ w3') (fun _ => rfl)
                  have B4' := B3'.trans (oC.below B3'.size (fun k hk h => by omega))
                  have HRUN := hide hrun
                  have HOW2 := hide ow
                  have HBR2 := hide B4'
                  clear hrun ow B4' oC O3' B3' S3' th hw3 ho3 HOW HBR HCS HM2 hcm hcy
                  subst hact
                  simp only [List.dropLast, putAll, Act.put, List.setIfInBounds_toArray, List.set_cons_zero, List.set_cons_succ, hv6, hv10, Nat.zero_add, Nat.reduceAdd]
                  refine gives_of_run rfl (exec_copy (.tmp 71) (.tmp 75) 24 24 rfl _ _ rfl rfl _ HRUN.out) ?_
                  go_wp2
                  go_roundg gl
                  case measure => omega
                  case rel => exact ⟨2, by omega, rfl, HOW2.out, HBR2.out⟩
              · have hb : pk / 2 % 2 = 0 := by omega
                have hand : bits .and .u8 ((pk : Int) / 2) 1 = 0 := by
                  have h1 := bitZ pk hp256 1
                  rw [show pk / 2 ^ 1 % 2 = 0 from by simpa using hb] at h1
                  rw [show (((pk / 2 ^ 1 : Nat)) : Int) = (pk : Int) / 2 from by simp] at h1
                  exact h1
                have hmx : mixS X Y pk 2 = mixS X Y pk 1 := mix_next X Y pk 1 (by omega)
                go_wp2
                go_roundg gl
                case measure => omega
                case rel => exact ⟨2, by omega, rfl, by rw [hmx]; exact HOW.out, HBR.out⟩
            · by_cases hb : pk / 4 % 2 = 1
              · have hand : bits .and .u8 ((pk : Int) / 4) 1 = 1 := by
                  have h1 := bitZ pk hp256 2
                  rw [show pk / 2 ^ 2 % 2 = 1 from by simpa using hb] at h1
                  rw [show (((pk / 2 ^ 2 : Nat)) : Int) = (pk : Int) / 4 from by simp] at h1
                  exact h1
                have hzl : (mixS X Y pk 2).length = 256 := by unfold mixS; split; exact HNA.out; split; exact HNB.out; exact HNA.out
                have hzt : (mixS X Y pk 2).drop 64 = List.replicate 192 0 := by unfold mixS; split; exact HTA.out; split; exact HTB.out; exact HTA.out
                have hm2 : splice (mixS X Y pk 2) 128 ((Y.drop 128).take 64) = mixS X Y pk 3 := by
                  rw [splice_same _ Y 128 hzl HNB.out (by omega) (by omega) hzt HTB.out]
                  exact (mix_next X Y pk 2 (by omega)).symm
                have hcm : ∀ wx, (Instr.slice 24 (.slice (some ⟨g6, 0, none⟩) 256 c6) (some (.int .i64 128)) (some (.int .i64 192)) none).run Tryd.prog wx = .ok (.slice (some ⟨g6, 128, none⟩) 64 (c6 - 128)) wx := fun wx => cut_row g6 256 c6 128 192 (by omega) (by omega) (by have := hc6.out; omega) wx
                obtain ⟨ya, yc, hcy, hcs⟩ : ∃ a' c', (∀ wx, (Instr.slice 24 (.slice a4 256 l4) (some (.int .i64 128)) none none).run Tryd.prog wx = .ok (.slice a' 128 c') wx) ∧ ∀ wx, Sl wx (.slice a4 256 l4) Y → Sl wx (.slice a' 128 c') (Y.drop 128) := by
                  have hs := HY5.out
                  rw [← HNB.out] at hs
                  obtain ⟨a', c', h1, h2⟩ := cut_l w5 a4 Y l4 128 hs (by have := HNB.out; omega)
                  have hl : (Y.drop 128).length = 128 := by rw [List.length_drop, HNB.out]
                  rw [hl, HNB.out] at h1 h2
                  exact ⟨a', c', h1, h2⟩
                have HCS := hide hcs
                have HM2 := hide hm2
                clear hcs hm2 hzl hzt
                go_wp2
                refine wp_region_only (fun _ => False) [isV (.slice (some ⟨g6, 0, none⟩) 256 c6), isV (.int .i64 ((2 : Nat) : Int)), isV (.int .i64 128), isV (.int .i64 ((2 : Nat) : Int)), isV (.int .i64 3), isV (.int .i64 192), isV (.slice (some ⟨g6, 128, none⟩) 64 (c6 - 128)), isV (.slice a4 256 l4), isV (.int .i64 ((2 : Nat) : Int)), isV (.int .i64 128), isV (.slice ya 128 yc)] 99 87 11 (by kernel_rfl) (by kernel_rfl) (by kernel_rfl) (by kernel_rfl) rfl ?_ ?_ ?_
                · repeat (first | exact trivial | refine allStL_isV ?_)
                · refine ⟨?_, ?_, ?_, ?_, ?_, ?_, ?_, ?_, ?_, ?_, ?_, trivial⟩
                  · intro act wx h
                    have e11 : act.eval (.tmp 11) = .slice (some ⟨g6, 0, none⟩) 256 c6 := h.old 11 (by kernel_rfl)
                    have hrel := h.rel
                    clear h
                    refine gives_by rfl act.eval rfl ?_
                    generalize act.eval = ρ at *
                    intro hf hc
                    go_simp
                    exact ⟨relM_quiet (by decide) (Only.refl _ _), rfl⟩
                  · intro act wx h
                    have e12 : act.eval (.tmp 12) = .int .i64 ((2 : Nat) : Int) := h.old 12 (by kernel_rfl)
                    have hrel := h.rel
                    clear h
                    refine gives_by rfl act.eval rfl ?_
                    generalize act.eval = ρ at *
                    intro hf hc
                    go_simp
                    exact ⟨relM_quiet (by decide) (Only.refl _ _), rfl⟩
                  · intro act wx h
                    obtain ⟨v66, e66, f66⟩ := h.val 1 66 (by kernel_rfl)
                    obtain rfl : v66 = .int .i64 ((2 : Nat) : Int) := f66
                    have hrel := h.rel
                    clear h
                    refine gives_by rfl act.eval rfl ?_
                    generalize act.eval = ρ at *
                    intro hf hc
                    go_simp
                    exact ⟨relM_quiet (by decide) (Only.refl _ _), rfl⟩
                  · intro act wx h
                    have e12 : act.eval (.tmp 12) = .int .i64 ((2 : Nat) : Int) := h.old 12 (by kernel_rfl)
                    have hrel := h.rel
                    clear h
                    refine gives_by rfl act.eval rfl ?_
                    generalize act.eval = ρ at *
                    intro hf hc
                    go_simp
                    exact ⟨relM_quiet (by decide) (Only.refl _ _), rfl⟩
                  · intro act wx h
                    obtain ⟨v68, e68, f68⟩ := h.val 3 68 (by kernel_rfl)
                    obtain rfl : v68 = .int .i64 ((2 : Nat) : Int) := f68
                    have hrel := h.rel
                    clear h
                    refine gives_by rfl act.eval rfl ?_
                    generalize act.eval = ρ at *
                    intro hf hc
                    go_simp
                    exact ⟨relM_quiet (by decide) (Only.refl _ _), rfl⟩
                  · intro act wx h
                    obtain ⟨v69, e69, f69⟩ := h.val 4 69 (by kernel_rfl)
                    obtain rfl : v69 = .int .i64 3 := f69
                    have hrel := h.rel
                    clear h
                    refine gives_by rfl act.eval rfl ?_
                    generalize act.eval = ρ at *
                    intro hf hc
                    go_simp
                    exact ⟨relM_quiet (by decide) (Only.refl _ _), rfl⟩
                  · intro act wx h
                    obtain ⟨v65, e65, f65⟩ := h.val 0 65 (by kernel_rfl)
                    obtain rfl : v65 = .slice (some ⟨g6, 0, none⟩) 256 c6 := f65
                    obtain ⟨v67, e67, f67⟩ := h.val 2 67 (by kernel_rfl)
                    obtain rfl : v67 = .int .i64 128 := f67
                    obtain ⟨v70, e70, f70⟩ := h.val 5 70 (by kernel_rfl)
                    obtain rfl : v70 = .int .i64 192 := f70
                    have hrel := h.rel
                    clear h
                    refine gives_by rfl act.eval rfl ?_
                    generalize act.eval = ρ at *
                    intro hf hc
                    go_simp
                    exact ⟨relM_quiet (by decide) (Only.refl _ _), rfl⟩
                  · intro act wx h
                    have e9 : act.eval (.tmp 9) = .slice a4 256 l4 := h.old 9 (by kernel_rfl)
                    have hrel := h.rel
                    clear h
                    refine gives_by rfl act.eval rfl ?_
                    generalize act.eval = ρ at *
                    intro hf hc
                    go_simp
                    exact ⟨relM_quiet (by decide) (Only.refl _ _), rfl⟩
                  · intro act wx h
                    have e12 : act.eval (.tmp 12) = .int .i64 ((2 : Nat) : Int) := h.old 12 (by kernel_rfl)
                    have hrel := h.rel
                    clear h
                    refine gives_by rfl act.eval rfl ?_
                    generalize act.eval = ρ at *
                    intro hf hc
                    go_simp
                    exact ⟨relM_quiet (by decide) (Only.refl _ _), rfl⟩
                  · intro act wx h
                    obtain ⟨v73, e73, f73⟩ := h.val 8 73 (by kernel_rfl)
                    obtain rfl : v73 = .int .i64 ((2 : Nat) : Int) := f73
                    have hrel := h.rel
                    clear h
                    refine gives_by rfl act.eval rfl ?_
                    generalize act.eval = ρ at *
                    intro hf hc
                    go_simp
                    exact ⟨relM_quiet (by decide) (Only.refl _ _), rfl⟩
                  · intro act wx h
                    obtain ⟨v72, e72, f72⟩ := h.val 7 72 (by kernel_rfl)
                    obtain rfl : v72 = .slice a4 256 l4 := f72
                    obtain ⟨v74, e74, f74⟩ := h.val 9 74 (by kernel_rfl)
                    obtain rfl : v74 = .int .i64 128 := f74
                    have hrel := h.rel
                    clear h
                    refine gives_by rfl act.eval rfl ?_
                    generalize act.eval = ρ at *
                    intro hf hc
                    go_simp
                    exact ⟨relM_quiet (by decide) (Only.refl _ _), rfl⟩
                · intro oL hoL vals w3' ho3 hvv
                  simp only [List.getElem?_toArray, List.getElem?_cons_succ, List.getElem?_cons_zero, Option.some.injEq] at hoL
                  subst hoL
                  generalize hact : putAll _ vals 0 _ = act
                  have hv6 : vals 6 = .slice (some ⟨g6, 128, none⟩) 64 (c6 - 128) := hvv 6 71 (by decide) (by kernel_rfl)
                  have hv10 : vals 10 = .slice ya 128 yc := hvv 10 75 (by decide) (by kernel_rfl)
                  clear hvv
                  have hw3 : Below wr.heap.size wr w3' := ho3.below (Nat.le_refl _) (fun _ _ h => h)
                  have O3' := own_keep HOW.out hw3
                  have B3' := HBR.out.trans (hw3.mono HBR.out.size)
                  have S3' := HCS.out w3' (HY5.out.below B3')
                  have hsl : ((Y.drop 128).take 64).length = 64 := by rw [List.length_take, List.length_drop, HNB.out]; rfl
                  obtain ⟨th, ow⟩ := own_copied O3' (seg := (Y.drop 128).take 64) 128 (by rw [hsl]; omega)
                  have hrun := run_copy_first (P := Tryd.prog) w3' 24 3 5 Tryd.underlying24 sizeU8 g6 128 64 (c6 - 128) ya 128 yc (Y.drop 128) S3' th
                  rw [HM2.out] at ow
                  have hgw : w5.heap.size ≤ g6 := (O3'.lt g6 rfl).1
                  have oC : Only (fun k => k = g6) w3' (w3'.setCells g6 128 (pc ((Y.drop 128).take 64))) := Only.setCells g6 _ 128 _ (Only.refl _ w3') (fun _ => rfl)
                  have B4' := B3'.trans (oC.below B3'.size (fun k hk h => by omega))
                  have HRUN := hide hrun
                  have HOW2 := hide ow
                  have HBR2 := hide B4'
                  clear hrun ow B4' oC O3' B3' S3' th hw3 ho3 HOW HBR HCS HM2 hcm hcy
                  subst hact
                  simp only [List.dropLast, putAll, Act.put, List.setIfInBounds_toArray, List.set_cons_zero, List.set_cons_succ, hv6, hv10, Nat.zero_add, Nat.reduceAdd]
                  refine gives_of_run rfl (exec_copy (.tmp 71) (.tmp 75) 24 24 rfl _ _ rfl rfl _ HRUN.out) ?_
                  go_wp2
                  go_roundg gl
                  case measure => omega
                  case rel => exact ⟨3, by omega, rfl, HOW2.out, HBR2.out⟩
              · have hb : pk / 4 % 2 = 0 := by omega
                have hand : bits .and .u8 ((pk : Int) / 4) 1 = 0 := by
                  have h1 := bitZ pk hp256 2
                  rw [show pk / 2 ^ 2 % 2 = 0 from by simpa using hb] at h1
                  rw [show (((pk / 2 ^ 2 : Nat)) : Int) = (pk : Int) / 4 from by simp] at h1
                  exact h1
                have hmx : mixS X Y pk 3 = mixS X Y pk 2 := mix_next X Y pk 2 (by omega)
                go_wp2
                go_roundg gl
                case measure => omega
                case rel => exact ⟨3, by omega, rfl, by rw [hmx]; exact HOW.out, HBR.out⟩
            · by_cases hb : pk / 8 % 2 = 1
              · have hand : bits .and .u8 ((pk : Int) / 8) 1 = 1 := by
                  have h1 := bitZ pk hp256 3
                  rw [show pk / 2 ^ 3 % 2 = 1 from by simpa using hb] at h1
                  rw [show (((pk / 2 ^ 3 : Nat)) : Int) = (pk : Int) / 8 from by simp] at h1
                  exact h1
                have hzl : (mixS X Y pk 3).length = 256 := by unfold mixS; split; exact HNA.out; split; exact HNB.out; exact HNA.out
                have hzt : (mixS X Y pk 3).drop 64 = List.replicate 192 0 := by unfold mixS; split; exact HTA.out; split; exact HTB.out; exact HTA.out
                have hm2 : splice (mixS X Y pk 3) 192 ((Y.drop 192).take 64) = mixS X Y pk 4 := by
                  rw [splice_same _ Y 192 hzl HNB.out (by omega) (by omega) hzt HTB.out]
                  exact (mix_next X Y pk 3 (by omega)).symm
                have hcm : ∀ wx, (Instr.slice 24 (.slice (some ⟨g6, 0, none⟩) 256 c6) (some (.int .i64 192)) (some (.int .i64 256)) none).run Tryd.prog wx = .ok (.slice (some ⟨g6, 192, none⟩) 64 (c6 - 192)) wx := fun wx => cut_row g6 256 c6 192 256 (by omega) (by omega) (by have := hc6.out; omega) wx
                obtain ⟨ya, yc, hcy, hcs⟩ : ∃ a' c', (∀ wx, (Instr.slice 24 (.slice a4 256 l4) (some (.int .i64 192)) none none).run Tryd.prog wx = .ok (.slice a' 64 c') wx) ∧ ∀ wx, Sl wx (.slice a4 256 l4) Y → Sl wx (.slice a' 64 c') (Y.drop 192) := by
                  have hs := HY5.out
                  rw [← HNB.out] at hs
                  obtain ⟨a', c', h1, h2⟩ := cut_l w5 a4 Y l4 192 hs (by have := HNB.out; omega)
                  have hl : (Y.drop 192).length = 64 := by rw [List.length_drop, HNB.out]
                  rw [hl, HNB.out] at h1 h2
                  exact ⟨a', c', h1, h2⟩
                have HCS := hide hcs
                have HM2 := hide hm2
                clear hcs hm2 hzl hzt
                go_wp2
                refine wp_region_only (fun _ => False) [isV (.slice (some ⟨g6, 0, none⟩) 256 c6), isV (.int .i64 ((3 : Nat) : Int)), isV (.int .i64 192), isV (.int .i64 ((3 : Nat) : Int)), isV (.int .i64 4), isV (.int .i64 256), isV (.slice (some ⟨g6, 192, none⟩) 64 (c6 - 192)), isV (.slice a4 256 l4), isV (.int .i64 ((3 : Nat) : Int)), isV (.int .i64 192), isV (.slice ya 64 yc)] 99 87 11 (by kernel_rfl) (by kernel_rfl) (by kernel_rfl) (by kernel_rfl) rfl ?_ ?_ ?_
                · repeat (first | exact trivial | refine allStL_isV ?_)
                · refine ⟨?_, ?_, ?_, ?_, ?_, ?_, ?_, ?_, ?_, ?_, ?_, trivial⟩
                  · intro act wx h
                    have e11 : act.eval (.tmp 11) = .slice (some ⟨g6, 0, none⟩) 256 c6 := h.old 11 (by kernel_rfl)
                    have hrel := h.rel
                    clear h
                    refine gives_by rfl act.eval rfl ?_
                    generalize act.eval = ρ at *
                    intro hf hc
                    go_simp
                    exact ⟨relM_quiet (by decide) (Only.refl _ _), rfl⟩
                  · intro act wx h
                    have e12 : act.eval (.tmp 12) = .int .i64 ((3 : Nat) : Int) := h.old 12 (by kernel_rfl)
                    have hrel := h.rel
                    clear h
                    refine gives_by rfl act.eval rfl ?_
                    generalize act.eval = ρ at *
                    intro hf hc
                    go_simp
                    exact ⟨relM_quiet (by decide) (Only.refl _ _), rfl⟩
                  · intro act wx h
                    obtain ⟨v66, e66, f66⟩ := h.val 1 66 (by kernel_rfl)
                    obtain rfl : v66 = .int .i64 ((3 : Nat) : Int) := f66
                    have hrel := h.rel
                    clear h
                    refine gives_by rfl act.eval rfl ?_
                    generalize act.eval = ρ at *
                    intro hf hc
                    go_simp
                    exact ⟨relM_quiet (by decide) (Only.refl _ _), rfl⟩
                  · intro act wx h
                    have e12 : act.eval (.tmp 12) = .int .i64 ((3 : Nat) : Int) := h.old 12 (by kernel_rfl)
                    have hrel := h.rel
                    clear h
                    refine gives_by rfl act.eval rfl ?_
                    generalize act.eval = ρ at *
                    intro hf hc
                    go_simp
                    exact ⟨relM_quiet (by decide) (Only.refl _ _), rfl⟩
                  · intro act wx h
                    obtain ⟨v68, e68, f68⟩ := h.val 3 68 (by kernel_rfl)
                    obtain rfl : v68 = .int .i64 ((3 : Nat) : Int) := f68
                    have hrel := h.rel
                    clear h
                    refine gives_by rfl act.eval rfl ?_
                    generalize act.eval = ρ at *
                    intro hf hc
                    go_simp
                    exact ⟨relM_quiet (by decide) (Only.refl _ _), rfl⟩
                  · intro act wx h
                    obtain ⟨v69, e69, f69⟩ := h.val 4 69 (by kernel_rfl)
                    obtain rfl : v69 = .int .i64 4 := f69
                    have hrel := h.rel
                    clear h
                    refine gives_by rfl act.eval rfl ?_
                    generalize act.eval = ρ at *
                    intro hf hc
                    go_simp
                    exact ⟨relM_quiet (by decide) (Only.refl _ _), rfl⟩
                  · intro act wx h
                    obtain ⟨v65, e65, f65⟩ := h.val 0 65 (by kernel_rfl)
                    obtain rfl : v65 = .slice (some ⟨g6, 0, none⟩) 256 c6 := f65
                    obtain ⟨v67, e67, f67⟩ := h.val 2 67 (by kernel_rfl)
                    obtain rfl : v67 = .int .i64 192 := f67
                    obtain ⟨v70, e70, f70⟩ := h.val 5 70 (by kernel_rfl)
                    obtain rfl : v70 = .int .i64 256 := f70
                    have hrel := h.rel
                    clear h
                    refine gives_by rfl act.eval rfl ?_
                    generalize act.eval = ρ at *
                    intro hf hc
                    go_simp
                    exact ⟨relM_quiet (by decide) (Only.refl _ _), rfl⟩
                  · intro act wx h
                    have e9 : act.eval (.tmp 9) = .slice a4 256 l4 := h.old 9 (by kernel_rfl)
                    have hrel := h.rel
                    clear h
                    refine gives_by rfl act.eval rfl ?_
                    generalize act.eval = ρ at *
                    intro hf hc
                    go_simp
                    exact ⟨relM_quiet (by decide) (Only.refl _ _), rfl⟩
                  · intro act wx h
                    have e12 : act.eval (.tmp 12) = .int .i64 ((3 : Nat) : Int) := h.old 12 (by kernel_rfl)
                    have hrel := h.rel
                    clear h
                    refine gives_by rfl act.eval rfl ?_
                    generalize act.eval = ρ at *
                    intro hf hc
                    go_simp
                    exact ⟨relM_quiet (by decide) (Only.refl _ _), rfl⟩
                  · intro act wx h
                    obtain ⟨v73, e73, f73⟩ := h.val 8 73 (by kernel_rfl)
                    obtain rfl : v73 = .int .i64 ((3 : Nat) : Int) := f73
                    have hrel := h.rel
                    clear h
                    refine gives_by rfl act.eval rfl ?_
                    generalize act.eval = ρ at *
                    intro hf hc
                    go_simp
                    exact ⟨relM_quiet (by decide) (Only.refl _ _), rfl⟩
                  · intro act wx h
                    obtain ⟨v72, e72, f72⟩ := h.val 7 72 (by kernel_rfl)
                    obtain rfl : v72 = .slice a4 256 l4 := f72
                    obtain ⟨v74, e74, f74⟩ := h.val 9 74 (by kernel_rfl)
                    obtain rfl : v74 = .int .i64 192 := f74
                    have hrel := h.rel
                    clear h
                    refine gives_by rfl act.eval rfl ?_
                    generalize act.eval = ρ at *
                    intro hf hc
                    go_simp
                    exact ⟨relM_quiet (by decide) (Only.refl _ _), rfl⟩
                · intro oL hoL vals w3' ho3 hvv
                  simp only [List.getElem?_toArray, List.getElem?_cons_succ, List.getElem?_cons_zero, Option.some.injEq] at hoL
                  subst hoL
                  generalize hact : putAll _ vals 0 _ = act
                  have hv6 : vals 6 = .slice (some ⟨g6, 192, none⟩) 64 (c6 - 192) := hvv 6 71 (by decide) (by kernel_rfl)
                  have hv10 : vals 10 = .slice ya 64 yc := hvv 10 75 (by decide) (by kernel_rfl)
                  clear hvv
                  have hw3 : Below wr.heap.size wr w3' := ho3.below (Nat.le_refl _) (fun _ _ h => h)
                  have O3' := own_keep HOW.out hw3
                  have B3' := HBR.out.trans (hw3.mono HBR.out.size)
                  have S3' := HCS.out w3' (HY5.out.below B3')
                  have hsl : ((Y.drop 192).take 64).length = 64 := by rw [List.length_take, List.length_drop, HNB.out]; rfl
                  obtain ⟨th, ow⟩ := own_copied O3' (seg := (Y.drop 192).take 64) 192 (by rw [hsl]; omega)
                  have hrun := run_copy_first (P := Tryd.prog) w3' 24 3 5 Tryd.underlying24 sizeU8 g6 192 64 (c6 - 192) ya 64 yc (Y.drop 192) S3' th
                  rw [HM2.out] at ow
                  have hgw : w5.heap.size ≤ g6 := (O3'.lt g6 rfl).1
                  have oC : Only (fun k => k = g6) w3' (w3'.setCells g6 192 (pc ((Y.drop 192).take 64))) := Only.setCells g6 _ 192 _ (Only.refl _ w3') (fun _ => rfl)
                  have B4' := B3'.trans (oC.below B3'.size (fun k hk h => by omega))
                  have HRUN := hide hrun
                  have HOW2 := hide ow
                  have HBR2 := hide B4'
                  clear hrun ow B4' oC O3' B3' S3' th hw3 ho3 HOW HBR HCS HM2 hcm hcy
                  subst hact
                  simp only [List.dropLast, putAll, Act.put, List.setIfInBounds_toArray, List.set_cons_zero, List.set_cons_succ, hv6, hv10, Nat.zero_add, Nat.reduceAdd]
                  refine gives_of_run rfl (exec_copy (.tmp 71) (.tmp 75) 24 24 rfl _ _ rfl rfl _ HRUN.out) ?_
                  go_wp2
                  go_roundg gl
                  case measure => omega
                  case rel => exact ⟨4, by omega, rfl, HOW2.out, HBR2.out⟩
              · have hb : pk / 8 % 2 = 0 := by omega
                have hand : bits .and .u8 ((pk : Int) / 8) 1 = 0 := by
                  have h1 := bitZ pk hp256 3
                  rw [show pk / 2 ^ 3 % 2 = 0 from by simpa using hb] at h1
                  rw [show (((pk / 2 ^ 3 : Nat)) : Int) = (pk : Int) / 8 from by simp] at h1
                  exact h1
                have hmx : mixS X Y pk 4 = mixS X Y pk 3 := mix_next X Y pk 3 (by omega)
                go_wp2
                go_roundg gl
                case measure => omega
                case rel => exact ⟨4, by omega, rfl, by rw [hmx]; exact HOW.out, HBR.out⟩
  · rw [decide_eq_false hsh] at HS
    go_enter Tryd.func7, Tryd.ntmps7
    go_wp2_with (first
      | (go_at_call 9; refine (HL.out _ HN0.out).mono ?_; rintro e1 w1 ⟨rfl, b1⟩; have HS1 := hide (HS.out w1 b1); obtain ⟨⟨c0, c1, c2, c3⟩, ⟨d0, d1, d2, d3⟩⟩ := HCE.out _ b1; clear HN0 HS b1)
      | (go_at_call 10; refine HS1.out.mono ?_; rintro e1 w2 ⟨rfl, b2⟩; have HB2 := hide b2; clear c0 c1 c2 c3 d0 d1 d2 d3; clear HS1 b2)
      | (go_at_call 9; refine (HL.out _ HB2.out).mono ?_; rintro e1 w3 ⟨rfl, b3⟩; clear HB2))
    go_ret
    exact ⟨rfl, b3.1⟩

end Go.Proofs.YtmeiahmolmneeaaDoor
