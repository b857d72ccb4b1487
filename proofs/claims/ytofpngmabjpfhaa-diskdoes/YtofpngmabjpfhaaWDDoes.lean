/- The walk of the statement DiskDoes. -/
import Derived.Test.YtofpngmabjpfhaaDDoesA
import Derived.OpenShut
namespace Go.Proofs.Ytofpngmabjpfhaa
open Go.RowKit Go.ChangeShapes Go.WideShapes
set_option linter.unusedVariables false

set_option maxHeartbeats 1000000 in
set_option maxRecDepth 20000 in
theorem diskDoes_refused (w : World) (pg : Int) (v : Value) (os : List OpA) (hs : Script w v os) (hno : ¬ (fewB os = true ∧ 8 ≤ pg ∧ pg ≤ 100)) :
    Calls Try.prog 3 #[.int .i64 pg, v] w fun e w' => e = .returned (.bool true) ∧ Below w.heap.size w w' := by
  have HF1 := hide (few_any w v os hs)
  have HLive : Hid (∀ wx : World, Calls Try.prog 9 #[] wx fun e w' => e = .returned (.bool true) ∧ Below wx.heap.size wx w') := fun wx => live_any wx
  have hcases : (fewB os = false) ∨ (fewB os = true ∧ (pg < 8 ∨ 2048 < pg)) ∨ (fewB os = true ∧ 100 < pg ∧ pg ≤ 2048) := by
    cases e0 : fewB os
    · exact .inl rfl
    · have h3 : ¬ (8 ≤ pg ∧ pg ≤ 100) := fun h => hno ⟨e0, h⟩
      by_cases h4 : pg < 8 ∨ 2048 < pg
      · exact .inr (.inl ⟨rfl, h4⟩)
      · exact .inr (.inr ⟨rfl, by omega, by omega⟩)
  clear hs hno
  rcases hcases with e0 | ⟨e0, hpg⟩ | ⟨e0, hpg, hpg2⟩
  · have HLive2 := HLive
    go_enter Try.func3, Try.ntmps3
    go_wp2_with (first
      | (go_at_call 8; refine HF1.out.mono ?_; rintro e w1 ⟨⟨u, rfl, _, _⟩, hb1⟩; have HB1 := hide hb1; clear HF1 hb1)
      | (go_at_call 9; refine (HLive.out w1).mono ?_; rintro e w2 ⟨rfl, hb2⟩; have HB2 := hide hb2; clear HLive hb2)
      | (go_at_call 9; refine (HLive2.out w2).mono ?_; rintro e w3 ⟨rfl, hb3⟩; have HB3 := hide hb3; clear HLive2 hb3))
    go_ret
    exact ⟨rfl, below_then (below_then HB1.out HB2.out (Nat.le_refl _)) HB3.out (Nat.le_refl _)⟩
  · have HN : Hid (∀ wx : World, Calls Try.prog _ _ _ _) := fun wx => new_bad wx pg hpg
    have HR : Hid (∀ wx : World, Calls Try.prog _ _ _ _) := fun wx => refNew_bad wx pg hpg
    clear hpg
    go_enter Try.func3, Try.ntmps3
    go_wp2_with (first
      | (go_at_call 8; refine HF1.out.mono ?_; rintro e w1 ⟨⟨u, rfl, _, _⟩, hb1⟩; have HB1 := hide hb1; clear HF1 hb1)
      | (go_at_call 9; refine (HLive.out w1).mono ?_; rintro e w2 ⟨rfl, hb2⟩; have HB2 := hide hb2; clear HLive hb2)
      | (go_at_call 10; refine (HN.out w2).mono ?_; rintro e w3 ⟨rfl, hw3⟩; subst w3; clear HN)
      | (go_at_call 11; refine (HR.out w2).mono ?_; rintro e w3 ⟨rfl, hw3⟩; subst w3; clear HR))
    go_ret
    exact ⟨rfl, below_then HB1.out HB2.out (Nat.le_refl _)⟩
  · obtain ⟨n, rfl⟩ : ∃ n : Nat, pg = (n : Int) := ⟨pg.toNat, by omega⟩
    have HN : Hid (∀ wx : World, Calls Try.prog _ _ _ _) := fun wx => new_ok wx n (by omega) (by omega)
    have HR : Hid (∀ wx : World, Calls Try.prog _ _ _ _) := fun wx => refNew_ok wx n (by omega) (by omega)
    clear hpg2
    go_enter Try.func3, Try.ntmps3
    go_wp2_with (first
      | (go_at_call 8; refine HF1.out.mono ?_; rintro e w1 ⟨⟨u, rfl, _, _⟩, hb1⟩; have HB1 := hide hb1; clear HF1 hb1)
      | (go_at_call 9; refine (HLive.out w1).mono ?_; rintro e w2 ⟨rfl, hb2⟩; have HB2 := hide hb2; clear HLive hb2)
      | (go_at_call 10; refine (HN.out w2).mono ?_; rintro e w3 ⟨b, rfl, _, hb3⟩; have HB3 := hide hb3; clear HN hb3)
      | (go_at_call 11; refine (HR.out w3).mono ?_; rintro e w4 ⟨⟨r, rfl, _⟩, hb4⟩; have HB4 := hide hb4; clear HR hb4))
    go_ret
    exact ⟨rfl, below_then (below_then (below_then HB1.out HB2.out (Nat.le_refl _)) HB3.out (Nat.le_refl _)) HB4.out (Nat.le_refl _)⟩

theorem both_new {w w1 w2 w3 : World} {b r n : Nat} (h1 : Below w.heap.size w w1) (hd : Dev w2 b (fun k => w1.heap.size ≤ k) (newD n)) (h2 : Below w1.heap.size w1 w2) (hr : Ref w3 r (fun k => w2.heap.size ≤ k) (newD n)) (h3 : Below w2.heap.size w2 w3) : Both w w3 b r n 0 := by
  have s1 := h1.size
  have s2 := h2.size
  have s3 := h3.size
  exact ⟨newD n, _, _, hd.bound.below h3, hr.bound, fun k hk hg => by have := hk.2; have := hg.1; omega, fun k hk => ⟨Nat.le_trans s1 hk.1, Nat.lt_of_lt_of_le hk.2 s3⟩, fun k hk => ⟨by have := hk.1; omega, hk.2⟩, below_then (below_then h1 h2 (Nat.le_refl _)) h3 (Nat.le_refl _), by simp [newD], by simp [newD], by simp [newD]⟩

theorem sl_two (w : World) : Sl (w.alloc (.cells #[.int .u8 77, .int .u8 77] 5)) (.slice (some ⟨w.heap.size, 0, none⟩) 2 2) [77, 77] := by
  have hN : Blk (w.alloc (.cells (pc [77, 77]).toArray 5)) w.heap.size 5 (pc [77, 77]) := Blk.new w 5 (pc [77, 77])
  exact sl_of_range (cap := 2) (hN.range 0 _ (fun j _ => by rw [Nat.zero_add])) (fun z hz => by simp at hz; omega) (by simp) (by unfold maxLen; omega)
theorem page_two (w : World) : Calls Try.prog 16 #[.slice (some ⟨w.heap.size, 0, none⟩) 2 2] (w.alloc (.cells #[.int .u8 77, .int .u8 77] 5)) fun e w' => ∃ g, e = .returned (.slice (some ⟨g, 0, none⟩) 256 256) ∧ Sl w' (.slice (some ⟨g, 0, none⟩) 256 256) (pageS [77, 77]) ∧ Below w.heap.size w w' := by
  refine (page_any _ _ [77, 77] (sl_two w)).mono ?_
  rintro e w' ⟨rfl, hP, hb⟩
  exact ⟨_, rfl, sl_page hP (pageS_ok (bs := [77, 77]) (fun z hz => by simp at hz; omega)), below_then ((Below.refl _ w).alloc (Nat.le_refl _) _) hb (Nat.le_refl _)⟩
theorem sl_three (w : World) : Sl (w.alloc (.cells #[.int .u8 4, .int .u8 4, .int .u8 4] 5)) (.slice (some ⟨w.heap.size, 0, none⟩) 3 3) [4, 4, 4] := by
  have hN : Blk (w.alloc (.cells (pc [4, 4, 4]).toArray 5)) w.heap.size 5 (pc [4, 4, 4]) := Blk.new w 5 (pc [4, 4, 4])
  exact sl_of_range (cap := 3) (hN.range 0 _ (fun j _ => by rw [Nat.zero_add])) (fun z hz => by simp at hz; omega) (by simp) (by unfold maxLen; omega)

set_option maxHeartbeats 2000000 in
set_option maxRecDepth 20000 in
theorem diskDoes_walk (w : World) (pg : Int) (v : Value) (os : List OpA) (hp : (Lit.int .i64 pg).wf = true) (hs : Script w v os) :
    Calls Try.prog 3 #[.int .i64 pg, v] w fun e w' => e = .returned (.bool true) ∧ Below w.heap.size w w' := by
  by_cases hyes : fewB os = true ∧ 8 ≤ pg ∧ pg ≤ 100
  case neg => exact diskDoes_refused w pg v os hs hyes
  obtain ⟨e0, h8, h100⟩ := hyes
  obtain ⟨n, rfl⟩ : ∃ n : Nat, pg = (n : Int) := ⟨pg.toNat, by omega⟩
  have hF1 := few_any w v os hs
  rw [e0] at hF1
  have HF1 := hide hF1
  have HLive : Hid (∀ wx : World, Calls Try.prog 9 #[] wx fun e w' => e = .returned (.bool true) ∧ Below wx.heap.size wx w') := fun wx => live_any wx
  have HN : Hid (∀ wx : World, Calls Try.prog _ _ _ _) := fun wx => new_ok wx n (by omega) (by omega)
  have HR : Hid (∀ wx : World, Calls Try.prog _ _ _ _) := fun wx => refNew_ok wx n (by omega) (by omega)
  obtain ⟨T, hT⟩ : ∃ T, T = os.take 50 := ⟨_, rfl⟩
  have hTl : T.length ≤ 50 := by rw [hT]; simp; omega
  rw [← hT] at HF1
  have hn100 : n ≤ 100 := by omega
  have hn1 : ¬ (100 : Int) < (n : Int) := by omega
  have hza := zeroOpRun
  clear hT hF1 hs e0 hp h8 h100
  go_enter Try.func3, Try.ntmps3
  go_wp2_with (first
    | (go_at_call 8; refine HF1.out.mono ?_; rintro e w1 ⟨⟨u, rfl, hu, _⟩, hb1⟩; have hu := hu rfl; obtain ⟨ac, cc, rfl, hTc, hcc⟩ := hu.form; have HU := hide hu; have HB1 := hide hb1; clear HF1 hu hb1)
    | (go_at_call 9; refine (HLive.out w1).mono ?_; rintro e w2 ⟨rfl, hb2⟩; have HB2 := hide (below_then HB1.out hb2 (Nat.le_refl _)); clear HLive hb2 HB1)
    | (go_at_call 10; refine (HN.out w2).mono ?_; rintro e w3 ⟨b0, rfl, hd3, hb3⟩; have HD3 := hide hd3; have HB3 := hide hb3; clear HN hd3 hb3)
    | (go_at_call 11; refine (HR.out w3).mono ?_; rintro e w4 ⟨⟨r, rfl, hr4⟩, hb4⟩; have HBo := hide (both_new HB2.out HD3.out HB3.out hr4 hb4); clear HR hr4 hb4 HB2 HD3 HB3))
  go_loopg [7, 54] T.length (fun g dv i wr => ∃ k b : Nat, g + k = T.length ∧ dv = dp b ∧ i = .int .i64 k ∧ Both w wr b r n k)
  case atStart => exact ⟨0, b0, by omega, rfl, rfl, HBo.out⟩
  case round =>
    obtain ⟨k, b, hk, rfl, rfl, hB⟩ := hrel
    have HB := hide hB
    cases gk with
    | zero =>
      obtain rfl : k = T.length := by omega
      have hbel := hB.bel
      obtain ⟨d, F, G, h1, h2, _⟩ := hB
      have HI1 := hide (image_any wr b F d h1)
      have HI2 : Hid (∀ wx, Below wr.heap.size wr wx → Calls Try.prog _ _ _ _) := fun wx hx => refImage_any wx r G d (h2.below hx)
      have HOK := hide (imgS_ok h1.ok.st)
      clear h1 h2
      go_wp2_with (first
        | (go_at_call 19; refine HI1.out.mono ?_; rintro e w5 ⟨u1, rfl, ho5, hb5⟩; have HO5 := hide (sl_of_own ho5 HOK.out rfl); have HB5 := hide hb5; clear HI1 ho5 hb5)
        | (go_at_call 20; refine (HI2.out w5 HB5.out).mono ?_; rintro e w6 ⟨u2, rfl, ho6, hb6⟩; have HO6 := hide (sl_of_own ho6 HOK.out rfl); have HO56 := hide (HO5.out.below hb6); have HB6 := hide hb6; clear HI2 ho6 hb6 HO5)
        | (go_at_call 18; refine (refSame_any w6 _ _ _ _ HO56.out HO6.out).mono ?_; rw [decide_eq_true rfl]; rintro e w7 ⟨rfl, hb7⟩))
      go_ret
      exact ⟨rfl, below_then (below_then (below_then hbel HB5.out (Nat.le_refl _)) HB6.out (Nat.le_refl _)) hb7 (Nat.le_refl _)⟩
    | succ g =>
      have hkT : k < T.length := by omega
      have hki : (k : Int) < (T.length : Int) := by omega
      have hk50 : k ≤ 1000 := by omega
      have hSr := HU.out.below hB.bel
      have hop := hSr.op hkT
      have hop0 := HU.out.op hkT
      obtain ⟨_, ao', cap', he, _, _, h4⟩ := hSr
      simp only [Value.slice.injEq, true_and] at he
      obtain ⟨rfl, rfl⟩ := he
      obtain ⟨gb, off, rfl, hgb, hrg⟩ := h4 (by intro h; simp [h] at hkT)
      have hR := hrg k hkT
      obtain ⟨o, ho⟩ : ∃ o, o = opAt T k := ⟨_, rfl⟩
      rw [← ho] at hop hop0 hR
      obtain ⟨z1, z2, z3, z4⟩ := op_facts hop
      have HRg := hide hR
      have HZ1 := hide z1
      have HZ2 := hide z2
      have HZ3 := hide z3
      have HZ4 := hide z4
      have hN := Blk.new wr 35 (opc o)
      have HN1 : Hid ((wr.alloc (.cells (opc o).toArray 35)).rangeAt wr.heap.size 0 (opc o)) := hN.range 0 _ (fun j _ => by rw [Nat.zero_add])
      have hBA := hB.below ((Below.refl _ wr).alloc (Nat.le_refl _) (.cells (opc o).toArray 35))
      have HDo := hide (does_any w _ b r n k wr.heap.size (opc o) o hBA hN hop0 hk50 hn100)
      have hsz : wr.heap.size < (wr.alloc (.cells (opc o).toArray 35)).heap.size := by simp
      clear z1 z2 z3 z4 hR hrg h4 ho hN hop hop0 hB HB hBA
      by_cases h7 : o.dO = 7
      · go_wp2_with (first
          | ((with_reducible refine wpList_load_mid rfl 35 (.tmp 56) rfl gb (off + k * 5) ?_ (opc o) _ HRg.out Try.underlying35 rfl HZ1.out ?_); exact rfl)
          | ((with_reducible refine wpList_store_new rfl 35 (.tmp 12) (.tmp 57) rfl opZero (opc o).toArray 35 ?_ ?_ HZ3.out HZ2.out HZ4.out ?_); exact rfl; exact rfl)
          | ((with_reducible refine wpList_load_mid rfl 35 (.tmp 12) rfl wr.heap.size 0 ?_ (opc o) _ HN1.out Try.underlying35 rfl HZ1.out ?_); exact rfl)
          | (go_at_call 12; refine HDo.out.mono ?_; rintro e w2 ⟨rfl, hB2, hQ2⟩; have HB2 := hide hB2; have HQ2 := hide hQ2; have c1 : w2.cell? ⟨wr.heap.size, 1, none⟩ = some (.int .i64 o.p) := Blk.cell hQ2 1; clear HDo hB2 hQ2)
          | (go_at_call 13; refine (same_both o.p HB2.out).mono ?_; rintro e w3 ⟨rfl, hb3⟩; have HB3 := hide (HB2.out.below hb3); have hQ3 := HQ2.out.below hb3 HQ2.out.lt; have HQ3 := hide hQ3; have c0 : w3.cell? ⟨wr.heap.size, 0, none⟩ = some (.int .i64 o.dO) := Blk.cell hQ3 0; rw [h7] at c0; clear HB2 HQ2 hb3 hQ3 c1)
          | (go_at_call 14; refine (clone_both HB3.out (by omega)).mono ?_; rintro e w4 ⟨cb, rfl, hb4, hS4⟩; have HS4 := hide hS4; have hQ4 := HQ3.out.below hb4 HQ3.out.lt; have c1 : w4.cell? ⟨wr.heap.size, 1, none⟩ = some (.int .i64 o.p) := Blk.cell hQ4 1; clear HB3 HQ3 hb4 hS4 hQ4 c0)
          | (go_at_call 13; refine (same_both o.p HS4.out.both).mono ?_; rintro e w5 ⟨rfl, hb5⟩; have HS5 := hide (HS4.out.below hb5); clear HS4 hb5 c1)
          | (go_at_call 16; refine (page_two w5).mono ?_; rintro e w6 ⟨pgb, rfl, hP6, hb6⟩; have HS6 := hide (HS5.out.below hb6); have HP6 := hide hP6; clear HS5 hP6 hb6)
          | (go_at_call 15; refine (spare_write HS6.out (by omega) 1 _ _ HP6.out).mono ?_; rintro e w7 ⟨E, rfl, hS7⟩; have HS7 := hide hS7; clear HS6 HP6 hS7)
          | (go_at_call 17; refine (spare_crash HS7.out _ [4, 4, 4] (sl_three w7) rfl).mono ?_; rintro e w8 ⟨rfl, hB8⟩; have HB8 := hide hB8; clear HS7 hB8))
        go_roundg g
        case measure => omega
        case rel => exact ⟨k + 1, cb, by omega, rfl, by go_num, HB8.out⟩
      · have h7b : (o.dO == 7) = false := by simpa using h7
        have h7c : (o.dO != 7) = true := by simpa using h7
        go_wp2_with (first
          | ((with_reducible refine wpList_load_mid rfl 35 (.tmp 56) rfl gb (off + k * 5) ?_ (opc o) _ HRg.out Try.underlying35 rfl HZ1.out ?_); exact rfl)
          | ((with_reducible refine wpList_store_new rfl 35 (.tmp 12) (.tmp 57) rfl opZero (opc o).toArray 35 ?_ ?_ HZ3.out HZ2.out HZ4.out ?_); exact rfl; exact rfl)
          | ((with_reducible refine wpList_load_mid rfl 35 (.tmp 12) rfl wr.heap.size 0 ?_ (opc o) _ HN1.out Try.underlying35 rfl HZ1.out ?_); exact rfl)
          | (go_at_call 12; refine HDo.out.mono ?_; rintro e w2 ⟨rfl, hB2, hQ2⟩; have HB2 := hide hB2; have HQ2 := hide hQ2; have c1 : w2.cell? ⟨wr.heap.size, 1, none⟩ = some (.int .i64 o.p) := Blk.cell hQ2 1; clear HDo hB2 hQ2)
          | (go_at_call 13; refine (same_both o.p HB2.out).mono ?_; rintro e w3 ⟨rfl, hb3⟩; have HB3 := hide (HB2.out.below hb3); have hQ3 := HQ2.out.below hb3 HQ2.out.lt; have HQ3 := hide hQ3; have c0 : w3.cell? ⟨wr.heap.size, 0, none⟩ = some (.int .i64 o.dO) := Blk.cell hQ3 0; clear HB2 HQ2 hb3 hQ3 c1))
        go_roundg g
        case measure => omega
        case rel => exact ⟨k + 1, b, by omega, rfl, by go_num, HB3.out⟩

end Go.Proofs.Ytofpngmabjpfhaa
