/- Contract: the document's way whose form bytes are. -/
import Derived.Test.YtimmfnjkknbofaaDoorJWdPz
import Derived.Test.YtimmfnjkknbofaaDoorJWdRb
namespace Go.Proofs.YtimmfnjkknbofaaDoor
set_option maxRecDepth 20000
open Go.RowKit
set_option linter.unusedVariables false
set_option linter.unusedSimpArgs false
set_option maxRecDepth 100000

theorem fdsZ_rest : ∀ (k : Nat) (l : List Int), (fdsZ k l).2 = l.drop (5 * k)
  | 0, l => by simp [fdsZ]
  | k + 1, l => by
    rw [fdsZ]
    show ((fdsZ k l).2).drop 5 = _
    rw [fdsZ_rest k l, List.drop_drop, show 5 * k + 5 = 5 * (k + 1) by omega]
theorem getD_dropZ (l : List Int) (p i : Nat) : (l.drop p).getD i 0 = l.getD (p + i) 0 := by
  simp [List.getD, List.getElem?_drop]
theorem fdsZ_at (zs : List Int) (j : Nat) : fdsZ (j + 1) (zs.drop 2) = ((fdsZ j (zs.drop 2)).1 ++ [((256 * zs.getD (2 + 5 * j) 0 + zs.getD (2 + 5 * j + 1) 0, 256 * zs.getD (2 + 5 * j + 2) 0 + zs.getD (2 + 5 * j + 2 + 1) 0, zs.getD (2 + 5 * j + 2 + 2) 0 + 1) : Fd)], (fdsZ (j + 1) (zs.drop 2)).2) := by
  refine Prod.ext ?_ rfl
  show (fdsZ j (zs.drop 2)).1 ++ [(fdZ (fdsZ j (zs.drop 2)).2).1] = _
  rw [fdsZ_rest, List.drop_drop]
  unfold fdZ
  simp only [getD_dropZ, Nat.add_zero, Nat.add_assoc]
theorem form_okZ {C : Cn} (h : FmOk C) : ByteOk (formP C) := by
  intro z hz
  unfold formP at hz
  rcases List.mem_cons.1 hz with e | hz
  · subst e; have := h.cap; omega
  rcases List.mem_cons.1 hz with e | hz
  · subst e; have := h.nf; omega
  rcases List.mem_append.1 hz with hz | hz
  · obtain ⟨x, hx, hz⟩ := List.mem_flatMap.1 hz
    have := h.fd x hx
    unfold fdB at hz
    rcases List.mem_append.1 hz with hz | hz
    · exact numBytes_ok 2 _ z hz
    rcases List.mem_append.1 hz with hz | hz
    · exact numBytes_ok 2 _ z hz
    · rw [List.mem_singleton] at hz; omega
  rcases List.mem_cons.1 hz with e | hz
  · subst e; have := h.ns; omega
  · obtain ⟨x, hx, hz⟩ := List.mem_flatMap.1 hz
    exact txt_ok (h.st x hx).2 (by have := (h.st x hx).1; omega) z hz
/-- behind j ranges -/
structure QfI (w : World) (t B : Nat) (v : Value) (zs : List Int) (j : Nat) (vf : Value) (X : World) : Prop where
  ta : Ta w X t v (2 + 5 * j)
  box : Blk X B 25 [vf, .slice none 0 0, .int .i64 (zs.getD 0 0)]
  res : Blk X w.heap.size 25 [.slice none 0 0, .slice none 0 0, .int .i64 0]
  fds : FdO X (B + 1) vf (fdsZ j (zs.drop 2)).1
  size : B + 1 ≤ X.heap.size

/-- behind k stop words -/
structure QtI (w : World) (t B base p : Nat) (v : Value) (A : Int) (l : List Int) (zs : List Int) (k : Nat) (vf vs : Value) (fs : List Fd) (X : World) : Prop where
  at_ : (txsZ k l).2 = zs.drop p
  lim : p ≤ 2000 + 256 * k
  ta : Ta w X t v p
  box : Blk X B 25 [vf, vs, .int .i64 A]
  res : Blk X w.heap.size 25 [.slice none 0 0, .slice none 0 0, .int .i64 0]
  fds : FdO X (B + 1) vf fs
  vlt : ∀ j, vf.ownBlock = some j → j < base
  txs : SzO X base vs (txsZ k l).1
  size : base ≤ X.heap.size
theorem txs_at {k p : Nat} {l zs : List Int} (h : (txsZ k l).2 = zs.drop p) {L : Nat} (hL : zs.getD p 0 = (L : Int)) : txsZ (k + 1) l = ((txsZ k l).1 ++ [(List.range L).map (fun i => zs.getD (p + 1 + i) 0)], zs.drop (p + 1 + L)) := by
  have e0 : (zs.drop p).getD 0 0 = (L : Int) := by rw [getD_dropZ, Nat.add_zero, hL]
  show ((txsZ k l).1 ++ [(txZ (txsZ k l).2).1], (txZ (txsZ k l).2).2) = _
  rw [h]
  unfold txZ
  rw [e0, Int.toNat_natCast, List.drop_drop]
  simp only [getD_dropZ, Nat.add_assoc]

set_option maxHeartbeats 8000000 in
theorem refParse_any (w : World) (v : Value) (zs : List Int) (hz : Sl w v zs) (hl : zs.length ≤ 100000) :
    Calls Tryd.prog 11 #[v] w fun e w' => ∃ u, e = .returned (.tuple #[u, .int .i64 (prsE zs)]) ∧ CnfV w' u (prsR zs) ∧ Below w.heap.size w w' := by
  obtain ⟨vo, vc, rfl⟩ := sl_form' hz
  have hby := hz.bytes
  obtain ⟨W0, hW0⟩ : ∃ W0, w.alloc (.cells #[.slice none 0 0, .slice none 0 0, .int .i64 0] 25) = W0 := ⟨_, rfl⟩
  have hb0 : Below w.heap.size w W0 := by rw [← hW0]; exact (Below.refl _ w).alloc (Nat.le_refl _) _
  have hB0 : Blk W0 w.heap.size 25 [.slice none 0 0, .slice none 0 0, .int .i64 0] := by rw [← hW0]; exact Blk.new w _ _
  have hs0 : W0.heap.size = w.heap.size + 1 := by rw [← hW0]; simp
  obtain ⟨W1, hW1⟩ : ∃ W1, W0.alloc (.cells #[.slice vo zs.length vc, .int .i64 0] 65) = W1 := ⟨_, rfl⟩
  have hb1 : Below W0.heap.size W0 W1 := by rw [← hW1]; exact (Below.refl _ W0).alloc (Nat.le_refl _) _
  have HTA : Hid (Ta w W1 W0.heap.size (.slice vo zs.length vc) 0) := ⟨by rw [← hW1]; exact Blk.new W0 _ _, hb0.trans (hb1.mono hb0.size), hb0.size⟩
  have HBR : Hid (Blk W1 w.heap.size 25 [.slice none 0 0, .slice none 0 0, .int .i64 0]) := hB0.below hb1 hB0.lt
  have HS0 := hide hs0
  have HS1 : Hid (W1.heap.size = W0.heap.size + 1) := by show _ = _; rw [← hW1]; simp
  have HONE : Hid (∀ W p, Ta w W W0.heap.size (.slice vo zs.length vc) p → p ≤ 1000000 → Calls Tryd.prog 34 #[.pointer (some ⟨W0.heap.size, 0, none⟩)] W fun e w' => e = .returned (.int .i64 (zs.getD p 0)) ∧ Ta w w' W0.heap.size (.slice vo zs.length vc) (p + 1) ∧ Only (· = W0.heap.size) W w') := fun W p h hp => taOne_any w W _ _ zs p hz h (by omega) hl
  have HTWO : Hid (∀ W p, Ta w W W0.heap.size (.slice vo zs.length vc) p → p ≤ 1000000 → Calls Tryd.prog 35 #[.pointer (some ⟨W0.heap.size, 0, none⟩)] W fun e w' => e = .returned (.int .i64 (256 * zs.getD p 0 + zs.getD (p + 1) 0)) ∧ Ta w w' W0.heap.size (.slice vo zs.length vc) (p + 2) ∧ Only (· = W0.heap.size) W w') := fun W p h hp => taTwo_any w W _ _ zs p hz h (by omega) hl
  have hA := hby.get 0
  have hN := hby.get 1
  obtain ⟨A, hAA⟩ : ∃ A, zs.getD 0 0 = A := ⟨_, rfl⟩
  obtain ⟨N, hNN⟩ : ∃ N : Nat, zs.getD 1 0 = (N : Int) := ⟨(zs.getD 1 0).toNat, by omega⟩
  have HA := hide (HONE.out W1 0 HTA.out (by omega))
  rw [hAA] at hA HA
  rw [hNN] at hN
  have HAA := hide hAA
  have HNN := hide hNN
  obtain ⟨n, hn⟩ : ∃ n, zs.length = n := ⟨_, rfl⟩
  rw [hn] at HTA HONE HTWO HA hW1 ⊢
  have HN := hide hn
  have HZ := hide hz
  have HBY := hide hby
  clear hz hby hb0 hB0 hs0 hb1 hAA hNN hn
  go_enter Tryd.func11, Tryd.ntmps11
  go_wp2_with (first
    | (go_at_call 34; refine HA.out.mono ?_; rintro e w4 ⟨rfl, ht, ho⟩
       obtain ⟨W5, hW5⟩ : ∃ W5, w4.alloc (.cells #[.slice none 0 0, .slice none 0 0, .int .i64 A] 25) = W5 := ⟨_, rfl⟩
       have hoA : Only (fun _ => False) w4 W5 := by rw [← hW5]; exact (Only.refl _ w4).alloc _
       have HBX5 : Hid (Blk W5 w4.heap.size 25 [.slice none 0 0, .slice none 0 0, .int .i64 A]) := by rw [← hW5]; exact Blk.new w4 _ _
       have HS5 : Hid (W5.heap.size = w4.heap.size + 1 ∧ W1.heap.size ≤ w4.heap.size) := ⟨by rw [← hW5]; simp, ho.size⟩
       have HBR5 : Hid (Blk W5 w.heap.size 25 [.slice none 0 0, .slice none 0 0, .int .i64 0]) := (HBR.out.only ho (fun e => by have := HS0.out; omega)).only hoA (fun h => h)
       have HB := HONE.out W5 1 (ht.only hoA (fun _ _ h => h)) (by omega)
       rw [HNN.out] at HB
       have HB := hide HB
       clear HA ht ho hoA)
    | (go_at_call 34; refine HB.out.mono ?_; rintro e w6 ⟨rfl, ht, ho⟩; have HQ0 : Hid (QfI w W0.heap.size w4.heap.size (.slice vo n vc) zs 0 (.slice none 0 0) w6) := ⟨ht, by rw [HAA.out]; exact HBX5.out.only ho (fun e => by have := HS5.out.2; have := HS1.out; omega), HBR5.out.only ho (fun e => by have := HS0.out; omega), FdO.nil _ _, by have := HS5.out.1; have := ho.size; omega⟩; clear HB ht ho))
  clear hW0 hW1 hW5
  have HBl : Hid (W0.heap.size < w4.heap.size) := by have := HS5.out.2; have := HS1.out; show _ < _; omega
  go_loopg [6] N (fun g l6 wr => ∃ (j : Nat) (fo : Option Addr) (fc : Nat), g + j = N ∧ l6 = .int .i64 (g : Int) ∧ QfI w W0.heap.size w4.heap.size (.slice vo n vc) zs j (.slice fo j fc) wr)
  case atStart => exact ⟨0, none, 0, by omega, rfl, HQ0.out⟩
  case round =>
    obtain ⟨j, fo, fc, hg, rfl, hI⟩ := hrel
    have HI := hide hI
    have HG : Hid (gk + j = N) := hg
    obtain ⟨GK, hGK⟩ : ∃ x, gk = x := ⟨_, rfl⟩
    have HGK := hide hGK
    obtain ⟨WR, hWR⟩ : ∃ y, y = wr := ⟨_, rfl⟩
    subst hWR
    clear hI hGK
    by_cases hj : 0 < gk
    · have hjj : (0 : Int) < (gk : Int) := by omega
      have g0 := HBY.out.get (2 + 5 * j)
      have g1 := HBY.out.get (2 + 5 * j + 1)
      have g2 := HBY.out.get (2 + 5 * j + 2)
      have g3 := HBY.out.get (2 + 5 * j + 2 + 1)
      have g4 := HBY.out.get (2 + 5 * j + 2 + 2)
      have HFE := hide (fdsZ_at zs j)
      have HP := HTWO.out WR (2 + 5 * j) HI.out.ta (by omega)
      obtain ⟨F, hF⟩ : ∃ F : Nat, 256 * zs.getD (2 + 5 * j) 0 + zs.getD (2 + 5 * j + 1) 0 = (F : Int) := ⟨(256 * zs.getD (2 + 5 * j) 0 + zs.getD (2 + 5 * j + 1) 0).toNat, by omega⟩
      obtain ⟨T, hT⟩ : ∃ F : Nat, 256 * zs.getD (2 + 5 * j + 2) 0 + zs.getD (2 + 5 * j + 2 + 1) 0 = (F : Int) := ⟨(256 * zs.getD (2 + 5 * j + 2) 0 + zs.getD (2 + 5 * j + 2 + 1) 0).toNat, by omega⟩
      obtain ⟨M, hM⟩ : ∃ F : Nat, zs.getD (2 + 5 * j + 2 + 2) 0 = (F : Int) := ⟨(zs.getD (2 + 5 * j + 2 + 2) 0).toNat, by omega⟩
      have hF2 : F < 65536 := by omega
      have hT2 : T < 65536 := by omega
      have hM2 : M ≤ 255 := by omega
      rw [hF] at HP
      rw [hF, hT, hM] at HFE
      have HP := hide HP
      have HTT := hide hT
      have HMM := hide hM
      have hj255 : j ≤ 255 := by omega
      clear g0 g1 g2 g3 g4 hF hT hM
      go_wp2_with (first
        | (go_at_call 35; refine HP.out.mono ?_; rintro e w7 ⟨rfl, ht, ho⟩; have HO7 := hide ho; have HQ := HTWO.out w7 (2 + 5 * j + 2) ht (by omega); rw [HTT.out] at HQ; have HQ := hide HQ; clear HP ht ho)
        | (go_at_call 35; refine HQ.out.mono ?_; rintro e w8 ⟨rfl, ht, ho⟩
           have HO8 : Hid (Only (· = W0.heap.size) WR w8) := HO7.out.trans ho (fun _ _ h => h)
           obtain ⟨W9, hW9⟩ : ∃ W9, w8.alloc (.cells #[.int .i32 (F : Int), .int .i32 (T : Int), .int .i64 0] 54) = W9 := ⟨_, rfl⟩
           have hoA : Only (fun _ => False) w8 W9 := by rw [← hW9]; exact (Only.refl _ w8).alloc _
           have HFB9 : Hid (Blk W9 w8.heap.size 54 [.int .i32 (F : Int), .int .i32 (T : Int), .int .i64 0]) := by rw [← hW9]; exact Blk.new w8 _ _
           have HO9 : Hid (Only (· = W0.heap.size) WR W9) := HO8.out.trans hoA (fun _ _ h => h.elim)
           have HS9 : Hid (W9.heap.size = w8.heap.size + 1 ∧ WR.heap.size ≤ w8.heap.size) := ⟨by rw [← hW9]; simp, HO8.out.size⟩
           have HR := HONE.out W9 (2 + 5 * j + 2 + 2) (ht.only hoA (fun _ _ h => h)) (by omega)
           rw [HMM.out] at HR
           have HR := hide HR
           have HW9 := hide hW9
           clear HQ ht ho hoA hW9)
        | (go_at_call 34; rw [HW9.out]; refine HR.out.mono ?_; rintro e w10 ⟨rfl, ht, ho⟩
           have HO10 : Hid (Only (· = W0.heap.size) WR w10) := HO9.out.trans ho (fun _ _ h => h)
           have HT10 := hide ht
           have HFB10 := hide (HFB9.out.only ho (fun e => by have := HS9.out.2; have := HI.out.size; have := HBl.out; omega))
           have b0 : w10.cell? ⟨w8.heap.size, 0, none⟩ = some (.int .i32 (F : Int)) := HFB10.out.cell 0
           have b1 : w10.cell? ⟨w8.heap.size, 1, none⟩ = some (.int .i32 (T : Int)) := HFB10.out.cell 1
           have b2 : w10.cell? ⟨w8.heap.size, 2, none⟩ = some (.int .i64 0) := HFB10.out.cell 2
           have bf2 := HFB10.out.frozen 2
           obtain ⟨W11, hW11⟩ : ∃ W11, w10.setCell ⟨w8.heap.size, 2, none⟩ (.int .i64 ((M : Int) + 1)) = W11 := ⟨_, rfl⟩
           have hoS : Only (· = w8.heap.size) w10 W11 := by rw [← hW11]; exact (Only.refl (· = w8.heap.size) w10).setCell _ _ (fun _ => rfl)
           have hfb11 : Blk W11 w8.heap.size 54 [.int .i32 (F : Int), .int .i32 (T : Int), .int .i64 ((M : Int) + 1)] := by rw [← hW11]; exact HFB10.out.set 2 _
           have m0 : W11.cell? ⟨w8.heap.size, 0, none⟩ = some (.int .i32 (F : Int)) := hfb11.cell 0
           have m1 : W11.cell? ⟨w8.heap.size, 1, none⟩ = some (.int .i32 (T : Int)) := hfb11.cell 1
           have m2 : W11.cell? ⟨w8.heap.size, 2, none⟩ = some (.int .i64 ((M : Int) + 1)) := hfb11.cell 2
           have HO11 : Hid (Only (fun q => q = W0.heap.size ∨ q = w8.heap.size) WR W11) := (HO10.out.mono (T := fun q => q = W0.heap.size ∨ q = w8.heap.size) (fun _ _ e => .inl e)).trans hoS (fun _ _ e => .inr e)
           have hbx := HI.out.box.only HO11.out (fun e => by have := HBl.out; have := HI.out.size; have := HS9.out.2; rcases e with e | e <;> omega)
           have d0 : W11.cell? ⟨w4.heap.size, 0, none⟩ = some (.slice fo j fc) := hbx.cell 0
           have hfd11 := HI.out.fds.only HO11.out (fun q hq e => by have h1 := HI.out.fds.lt q hq; have := HBl.out; have := HS9.out.2; rcases e with e | e <;> omega)
           have HT11 := hide (HT10.out.only hoS (fun q hq e => by have := HBl.out; have := HI.out.size; have := HS9.out.2; omega))
           obtain ⟨ao, ac, w12, hr12, ho12, hoo⟩ := push_fd W11 (w4.heap.size + 1) _ _ hfd11 ((F : Int), (T : Int), (M : Int) + 1) (by unfold FdOk I32; simp only; omega) (by rw [fdsZ_len]; omega) (Nat.le_trans HI.out.size HO11.out.size)
           rw [fdsZ_len] at hr12 ho12
           have HR12 := hide hr12
           have HF12 := hide ho12
           have hbx12 := hbx.only hoo (fun e => by have := (hfd11.lt _ e).1; omega)
           have HBX12 := hide hbx12
           have d12 : w12.cell? ⟨w4.heap.size, 0, none⟩ = some (.slice fo j fc) := hbx12.cell 0
           have f12 := hbx12.frozen 0
           have HOO : Hid (Only (fun q => q = W0.heap.size ∨ w4.heap.size < q) WR w12) := (HO11.out.mono (T := fun q => q = W0.heap.size ∨ w4.heap.size < q) (fun q _ e => by have := HI.out.size; have := HS9.out.2; rcases e with e | e; exact .inl e; exact .inr (by omega))).trans hoo (fun q _ e => .inr (by have := (hfd11.lt q e).1; omega))
           have HT12 := hide (HT11.out.only hoo (fun q hq e => by have := (hfd11.lt q e).1; have := HBl.out; omega))
           clear HR ht ho hoS hfb11 hbx hfd11 hr12 ho12 hbx12 hoo)
        | (at_builtin; (with_reducible refine wpList_append_run _ rfl (.tmp 37) (.tmp 39) 22 rfl _ _ ?_ ?_ _ _ HR12.out ?_); exact rfl; exact rfl; clear HR12))
      go_roundg (gk - 1)
      case measure => omega
      case rel =>
        have hoB : Only (fun q => q = w4.heap.size) w12 (w12.setCell ⟨w4.heap.size, 0, none⟩ (.slice ao (j + 1) ac)) := (Only.refl _ w12).setCell _ _ (fun _ => rfl)
        refine ⟨j + 1, ao, ac, by have := HG.out; omega, by rw [show ((gk - 1 : Nat) : Int) = (gk : Int) - 1 by omega], ⟨?_, HBX12.out.set 0 _, (HI.out.res.only HOO.out (fun e => by have := HS0.out; have := HI.out.res.lt; have := HBl.out; rcases e with e | e <;> omega)).only hoB (fun e => by have := HS0.out; have := HBl.out; omega), ?_, by have := HOO.out.size; have := hoB.size; have := HI.out.size; omega⟩⟩
        · have := HT12.out.only hoB (fun q hq e => by have := HBl.out; omega)
          rw [show 2 + 5 * (j + 1) = 2 + 5 * j + 2 + 2 + 1 by omega]
          exact this
        · rw [HFE.out]
          exact HF12.out.only hoB (fun q hq e => by have := (HF12.out.lt q hq).1; omega)
    · obtain rfl : gk = 0 := by omega
      obtain rfl : j = N := by have := HG.out; omega
      have hN2 : j ≤ 255 := by omega
      have gq := HBY.out.get (2 + 5 * j)
      obtain ⟨Q, hQ⟩ : ∃ F : Nat, zs.getD (2 + 5 * j) 0 = (F : Int) := ⟨(zs.getD (2 + 5 * j) 0).toNat, by omega⟩
      have hQ2 : Q ≤ 255 := by omega
      have HC := HONE.out WR (2 + 5 * j) HI.out.ta (by omega)
      rw [hQ] at HC
      have HC := hide HC
      have HQQ := hide hQ
      clear gq hQ
      go_wp2_with (go_at_call 34; refine HC.out.mono ?_; rintro e w13 ⟨rfl, ht, ho⟩; have HO13 := hide ho; have HT13 := hide ht; clear HC ht ho)
      have HBB : Hid (w4.heap.size < w13.heap.size) := Nat.lt_of_lt_of_le HI.out.size HO13.out.size
      have HT0 : Hid (QtI w W0.heap.size w4.heap.size w13.heap.size (2 + 5 * j + 1) (.slice vo n vc) A (zs.drop (2 + 5 * j + 1)) zs 0 (.slice fo j fc) (.slice none 0 0) (fdsZ j (zs.drop 2)).1 w13) :=
        ⟨rfl, by omega, HT13.out, by have := HI.out.box.only HO13.out (fun e => by have := HBl.out; omega); rwa [HAA.out] at this, HI.out.res.only HO13.out (fun e => by have := HS0.out; omega), HI.out.fds.only HO13.out (fun q hq e => by have := (HI.out.fds.lt q hq).1; have := HBl.out; omega), fun q hq => Nat.lt_of_lt_of_le (HI.out.fds.lt q hq).2 HO13.out.size, SzO.nil _ _, Nat.le_refl _⟩
      go_loopg [8] Q (fun g l8 wr => ∃ (k p : Nat) (so : Option Addr) (sp : Nat), g + k = Q ∧ l8 = .int .i64 (g : Int) ∧ QtI w W0.heap.size w4.heap.size w13.heap.size p (.slice vo n vc) A (zs.drop (2 + 5 * j + 1)) zs k (.slice fo j fc) (.slice so k sp) (fdsZ j (zs.drop 2)).1 wr)
      case atStart => exact ⟨0, _, none, 0, by omega, rfl, HT0.out⟩
      case round =>
        obtain ⟨k, p, so, sp, hg, rfl, hI⟩ := hrel
        have HT := hide hI
        have HG2 : Hid (gk + k = Q) := hg
        obtain ⟨WT, hWT⟩ : ∃ y, y = wr := ⟨_, rfl⟩
        subst hWT
        have hlim := hI.lim
        have hp : p ≤ 100000 := by omega
        obtain ⟨GK, hGK⟩ : ∃ x, gk = x := ⟨_, rfl⟩
        have HGK := hide hGK
        clear hI hlim hGK
        by_cases hk : 0 < gk
        · have hkk : (0 : Int) < (gk : Int) := by omega
          have gl := HBY.out.get p
          obtain ⟨L, hL⟩ : ∃ F : Nat, zs.getD p 0 = (F : Int) := ⟨(zs.getD p 0).toNat, by omega⟩
          have hL2 : L ≤ 255 := by omega
          have HXA := hide (txs_at HT.out.at_ hL)
          have HL1 := HONE.out WT p HT.out.ta (by omega)
          rw [hL] at HL1
          have HL1 := hide HL1
          clear gl hL
          go_wp2_with (go_at_call 34; refine HL1.out.mono ?_; rintro e w14 ⟨rfl, ht, ho⟩; have HO14 := hide ho; have HT14 := hide ht; clear HL1 ht ho)
          go_loopg [9, 10] L (fun g l9 l10 wr => ∃ (i : Nat) (a : Option Addr) (c : Nat), g + i = L ∧ l10 = .int .i64 (g : Int) ∧ l9 = .slice a i c ∧ Ob wr w14.heap.size (.slice a i c) ((List.range i).map (fun q => zs.getD (p + 1 + q) 0)) ∧ Ta w wr W0.heap.size (.slice vo n vc) (p + 1 + i) ∧ Only (fun q => q = W0.heap.size ∨ w14.heap.size ≤ q) w14 wr)
          case atStart => exact ⟨0, none, 0, by omega, rfl, rfl, Ob.nil _ _, HT14.out, Only.refl _ _⟩
          case round =>
            obtain ⟨i, a, c, hg3, rfl, rfl, hob, hta, hoo⟩ := hrel
            have HOB := hide hob
            have HTA3 := hide hta
            have HOO := hide hoo
            have HG3 : Hid (gk + i = L) := hg3
            obtain ⟨WI, hWI⟩ : ∃ y, y = wr := ⟨_, rfl⟩
            subst hWI
            clear hob hta hoo
            by_cases hi : 0 < gk
            · have hii : (0 : Int) < (gk : Int) := by omega
              have gx := HBY.out.get (p + 1 + i)
              obtain ⟨x, hx⟩ : ∃ x, zs.getD (p + 1 + i) 0 = x := ⟨_, rfl⟩
              rw [hx] at gx
              have HL3 := HONE.out WI (p + 1 + i) HTA3.out (by omega)
              rw [hx] at HL3
              have HL3 := hide HL3
              have HXX := hide hx
              have hi255 : i ≤ 255 := by omega
              clear hx
              go_wp2_with (first
                | (go_at_call 34; refine HL3.out.mono ?_; rintro e w16 ⟨rfl, ht, ho⟩
                   have HT16 := hide ht
                   have HOX : Hid (Only (fun q => q = W0.heap.size ∨ w14.heap.size ≤ q) w14 w16) := HOO.out.trans ho (fun _ _ e => .inl e)
                   have hlt : W0.heap.size < w14.heap.size := (by have := HBl.out; have := HBB.out; have := HT.out.size; have := HO14.out.size; omega)
                   obtain ⟨ao, ac, w17, hr17, ho17, hb17⟩ := run_append_b w16 w14.heap.size _ _ (HOB.out.only ho (fun q hq e => by have := (HOB.out.lt q hq).1; omega)) x (by omega) (by simp; omega) (HOX.out.size)
                   rw [List.length_map, List.length_range] at hr17 ho17
                   have HR17 := hide hr17
                   have HO17 := hide ho17
                   have HB17 := hide hb17
                   have HLT := hide hlt
                   clear HL3 ht ho hlt hr17 ho17 hb17)
                | (at_builtin; (with_reducible refine wpList_append_run _ rfl (.tmp 54) (.tmp 58) 26 rfl _ _ ?_ ?_ _ _ HR17.out ?_); exact rfl; exact rfl; clear HR17))
              go_roundg (gk - 1)
              case measure => omega
              case rel =>
                have hoB : Only (fun q => w14.heap.size ≤ q) w16 w17 := ⟨HB17.out.os, HB17.out.tape, HB17.out.output, HB17.out.size, fun q _ hn => HB17.out.block q (by omega)⟩
                refine ⟨i + 1, ao, ac, by have := HG3.out; omega, by rw [show ((gk - 1 : Nat) : Int) = (gk : Int) - 1 by omega], rfl, ?_, ?_, HOX.out.trans hoB (fun _ _ e => .inr e)⟩
                · rw [List.range_succ, List.map_append, List.map_singleton, HXX.out]
                  exact HO17.out
                · exact HT16.out.only hoB (fun q hq e => by have := HLT.out; omega)
            · obtain rfl : gk = 0 := by omega
              obtain rfl : i = L := by have := HG3.out; omega
              obtain ⟨zb, hzb⟩ : ∃ zb, (List.range i).map (fun q => zs.getD (p + 1 + q) 0) = zb := ⟨_, rfl⟩
              have hob := HOB.out
              rw [hzb] at hob
              have hcv := run_convert_sl (P := Tryd.prog) WI 26 5 9 Tryd.underlying26 Tryd.underlying5 Tryd.underlying9 _ _ hob.sl
              obtain ⟨sx, hsx⟩ : ∃ sx, strOfNums zb = sx := ⟨_, rfl⟩
              rw [hsx] at hcv
              have HSX := hide hsx
              have HZB := hide hzb
              have HOKB : Hid (ByteOk zb) := hob.ok
              have HBL3 : Hid (W0.heap.size < w4.heap.size ∧ w4.heap.size < w13.heap.size ∧ w13.heap.size ≤ w14.heap.size) := ⟨HBl.out, HBB.out, Nat.le_trans HT.out.size HO14.out.size⟩
              have HOA : Hid (Only (fun q => q = W0.heap.size ∨ w14.heap.size ≤ q) WT WI) := (HO14.out.mono (T := fun q => q = W0.heap.size ∨ w14.heap.size ≤ q) (fun _ _ e => .inl e)).trans HOO.out (fun _ _ e => e)
              obtain ⟨W18, hW18⟩ : ∃ W18, WI.alloc (.cells #[.string sx] 9) = W18 := ⟨_, rfl⟩
              have hoA : Only (fun _ => False) WI W18 := by rw [← hW18]; exact (Only.refl _ WI).alloc _
              have hc18 : W18.cell? ⟨WI.heap.size, 0, none⟩ = some (.string sx) := by rw [← hW18]; exact (Blk.new WI 9 [.string sx]).cell 0
              have HOA18 : Hid (Only (fun q => q = W0.heap.size ∨ w14.heap.size ≤ q) WT W18) := HOA.out.trans hoA (fun _ _ h => h.elim)
              have hvs : ∀ q, (Value.slice so k sp).ownBlock = some q → w13.heap.size ≤ q ∧ q < WT.heap.size := fun q hq => HT.out.txs.lt q hq
              have HWT : Hid (WT.heap.size ≤ w14.heap.size) := HO14.out.size
              have htx18 := HT.out.txs.only HOA18.out (fun q hq e => by have h1 := hvs q hq; have h2 := HBL3.out; have h3 := HWT.out; rcases e with e | e <;> omega)
              obtain ⟨ao, ac, w19, hr19, ho19, hoo19⟩ := push_sz W18 w13.heap.size _ _ htx18 zb HOKB.out WI.heap.size 1 (by rw [hc18, hsx]) (by rw [txsZ_len]; omega) (Nat.le_trans HT.out.size HOA18.out.size)
              rw [txsZ_len, ← hW18] at hr19
              rw [txsZ_len] at ho19
              have hbxI := HT.out.box.only HOA.out (fun e => by have h2 := HBL3.out; rcases e with e | e <;> omega)
              have k1 : WI.cell? ⟨w4.heap.size, 1, none⟩ = some (.slice so k sp) := hbxI.cell 1
              have hbx19 := (hbxI.only hoA (fun h => h)).only hoo19 (fun e => by have := (hvs _ e).1; have h2 := HBL3.out; omega)
              have k19 : w19.cell? ⟨w4.heap.size, 1, none⟩ = some (.slice so k sp) := hbx19.cell 1
              have f19 := hbx19.frozen 1
              have HBX19 := hide hbx19
              have HR19 := hide hr19
              have HS19 := hide ho19
              have HOL : Hid (Only (fun q => q = W0.heap.size ∨ w13.heap.size ≤ q) WT w19) := (HOA18.out.mono (T := fun q => q = W0.heap.size ∨ w13.heap.size ≤ q) (fun q _ e => by have h2 := HBL3.out; rcases e with e | e; exact .inl e; exact .inr (by omega))).trans hoo19 (fun q _ e => .inr (hvs q e).1)
              have HT19 := hide (((HTA3.out.only hoA (fun _ _ h => h))).only hoo19 (fun q hq e => by have := (hvs q e).1; have h2 := HBL3.out; omega))
              clear hzb hob hsx hW18 hoA hc18 hvs htx18 hr19 ho19 hoo19 hbxI hbx19
              go_wp2_with (at_builtin; (with_reducible refine wpList_append_run _ rfl (.tmp 61) (.tmp 64) 23 rfl _ _ ?_ ?_ _ _ HR19.out ?_); exact rfl; exact rfl; clear HR19)
              go_roundg (GK - 1)
              case measure => have := HGK.out; omega
              case rel =>
                have hoB : Only (fun q => q = w4.heap.size) w19 (w19.setCell ⟨w4.heap.size, 1, none⟩ (.slice ao (k + 1) ac)) := (Only.refl _ w19).setCell _ _ (fun _ => rfl)
                have h1 := HGK.out
                subst h1
                have hat := HXA.out
                rw [HZB.out] at hat
                refine ⟨k + 1, p + 1 + i, ao, ac, by have := HG2.out; omega, by congr 1; omega, ⟨by rw [hat], by have := HT.out.lim; omega, HT19.out.only hoB (fun q hq e => by have h2 := HBL3.out; omega), HBX19.out.set 1 _, (HT.out.res.only HOL.out (fun e => by have := HS0.out; have h2 := HBL3.out; rcases e with e | e <;> omega)).only hoB (fun e => by have := HS0.out; have h2 := HBL3.out; omega), (HT.out.fds.only HOL.out (fun q hq e => by have h3 := (HT.out.fds.lt q hq).1; have h4 := HT.out.vlt q hq; have h2 := HBL3.out; rcases e with e | e <;> omega)).only hoB (fun q hq e => by have h3 := (HT.out.fds.lt q hq).1; omega), HT.out.vlt, ?_, by have := HOL.out.size; have := hoB.size; have := HT.out.size; omega⟩⟩
                rw [hat]
                exact HS19.out.only hoB (fun q hq e => by have := (HS19.out.lt q hq).1; have h2 := HBL3.out; omega)
        · obtain rfl : gk = 0 := by omega
          obtain rfl : k = Q := by have := HG2.out; omega
          have hC : confZ zs = ⟨(fdsZ j (zs.drop 2)).1, (txsZ k (zs.drop (2 + 5 * j + 1))).1, A⟩ := by
            unfold confZ
            rw [HNN.out, Int.toNat_natCast]
            simp only [fdsZ_rest, List.drop_drop, getD_dropZ, Nat.add_zero]
            rw [HQQ.out, Int.toNat_natCast, HAA.out]
          obtain ⟨q1, q2, q3, q4, q5⟩ := confZ_ok HBY.out
          have hl1 : (fdsZ j (zs.drop 2)).1.length = j := fdsZ_len _ _
          have hl2 : (txsZ k (zs.drop (2 + 5 * j + 1))).1.length = k := txsZ_len _ _
          have hcv : CnfV WT (.agg #[.slice fo j fc, .slice so k sp, .int .i64 A]) (confZ zs) := by
            rw [hC]
            refine ⟨fo, fc, so, sp, ?_, ?_, ?_⟩
            · simp only [hl1, hl2]
            · have := HT.out.fds.tbl; simp only [hl1]; exact this
            · have := HT.out.txs.strs; simp only [hl2]; exact this
          have hcn : CnOk (confZ zs) := ⟨by omega, by omega, by omega, by omega, fun z hz => by have := (q1 z hz).2; omega⟩
          have HRB := hide (refBytes_any WT _ _ hcv hcn)
          have HRS := hide (ref_same HBY.out)
          have HCV := hide hcv
          have b0 : WT.cell? ⟨w4.heap.size, 0, none⟩ = some (.slice fo j fc) := HT.out.box.cell 0
          have b1 : WT.cell? ⟨w4.heap.size, 1, none⟩ = some (.slice so k sp) := HT.out.box.cell 1
          have b2 : WT.cell? ⟨w4.heap.size, 2, none⟩ = some (.int .i64 A) := HT.out.box.cell 2
          have HBX : Hid (∀ W, Below WT.heap.size WT W → W.cell? ⟨w4.heap.size, 0, none⟩ = some (.slice fo j fc) ∧ W.cell? ⟨w4.heap.size, 1, none⟩ = some (.slice so k sp) ∧ W.cell? ⟨w4.heap.size, 2, none⟩ = some (.int .i64 A)) := fun W hb => ⟨cell_belowW hb b0, cell_belowW hb b1, cell_belowW hb b2⟩
          obtain ⟨bn, hbn⟩ : ∃ bn, (bytL (confZ zs)).length = bn := ⟨_, rfl⟩
          have HBN := hide hbn
          obtain ⟨s1, hs1⟩ : ∃ s, strOfNums (bytL (confZ zs)) = s := ⟨_, rfl⟩
          obtain ⟨s2, hs2⟩ : ∃ s, strOfNums zs = s := ⟨_, rfl⟩
          have HS1x := hide hs1
          have HS2x := hide hs2
          clear hC q1 q2 q3 q4 q5 hl1 hl2 hcv hcn hbn hs1 hs2
          have hno : ∀ h : ¬ (bytE (confZ zs) = 0 ∧ bytL (confZ zs) = zs), prsE zs = 140 ∧ prsR zs = zeroC := fun h => by
            have hpb : prsB zs = false := by
              cases hp : prsB zs with
              | false => rfl
              | true => exact absurd ⟨(HRS.out.2 hp).1, (HRS.out.2 hp).2.1⟩ h
            exact ⟨by unfold prsE; rw [hpb]; rfl, by unfold prsR; rw [hpb]; rfl⟩
          have HNO := hide hno
          clear hno
          by_cases hE : bytE (confZ zs) = 0
          · by_cases hLz : bytL (confZ zs) = zs
            · obtain ⟨hp1, hp2⟩ := HRS.out.1 ⟨hE, hLz⟩
              have e1 : prsE zs = 0 := by unfold prsE; rw [hp1]; rfl
              have e2 : prsR zs = confZ zs := by unfold prsR; rw [hp1, hp2]; rfl
              have HE1 := hide e1
              have HE2 := hide e2
              have hss : s1 = s2 := by rw [← HS1x.out, ← HS2x.out, hLz]
              subst hss
              rw [hE] at HRB
              clear hE hLz hp1 hp2 e1 e2 HRS HNO
              go_wp2_with (go_at_call 9; refine HRB.out.mono ?_; rintro e w20 ⟨u, rfl, ho, hb⟩; obtain ⟨ua, uc, rfl⟩ := ho.shape; rw [HBN.out] at ho ⊢; have HB20 := hide hb; obtain ⟨d0, d1, d2⟩ := HBX.out w20 hb; have hres := HT.out.res.below hb HT.out.res.lt; have HRES := hide hres; have f0 := hres.frozen 0; have f1 := hres.frozen 1; have f2 := hres.frozen 2; have k0 : w20.cell? ⟨w.heap.size, 0, none⟩ = some (.slice none 0 0) := hres.cell 0; have k1 : w20.cell? ⟨w.heap.size, 1, none⟩ = some (.slice none 0 0) := hres.cell 1; have k2 : w20.cell? ⟨w.heap.size, 2, none⟩ = some (.int .i64 0) := hres.cell 2; have hcx := run_convert_sl (P := Tryd.prog) w20 26 5 9 Tryd.underlying26 Tryd.underlying5 Tryd.underlying9 _ _ ho.sl; have hcz := run_convert_sl (P := Tryd.prog) w20 26 5 9 Tryd.underlying26 Tryd.underlying5 Tryd.underlying9 _ _ (HZ.out.below (HT.out.ta.below.trans (hb.mono HT.out.ta.below.size))); rw [HS1x.out] at hcx; rw [HN.out, HS2x.out] at hcz; clear HRB ho hb hres)
              have hr1 := ((HRES.out.set 0 (.slice fo j fc)).set 1 (.slice so k sp)).set 2 (.int .i64 A)
              have hoR : Only (· = w.heap.size) w20 (((w20.setCell ⟨w.heap.size, 0, none⟩ (.slice fo j fc)).setCell ⟨w.heap.size, 1, none⟩ (.slice so k sp)).setCell ⟨w.heap.size, 2, none⟩ (.int .i64 A)) := (((Only.refl (· = w.heap.size) w20).setCell _ _ (fun _ => rfl)).setCell _ _ (fun _ => rfl)).setCell _ _ (fun _ => rfl)
              refine bodyPost_ret (ret_conf rfl _ _ w.heap.size _ _ _ _ rfl rfl hr1) rfl ?_
              rw [HE1.out, HE2.out]
              refine ⟨_, rfl, ?_, (HT.out.ta.below.trans (HB20.out.mono HT.out.ta.below.size)).trans (hoR.below (Nat.le_trans HT.out.ta.below.size HB20.out.size) (fun q hq e => by omega))⟩
              obtain ⟨fo', fc', so', sp', he, ht1, ht2⟩ := HCV.out.below HB20.out
              simp only [Value.agg.injEq, Array.mk.injEq, List.cons.injEq, Value.slice.injEq, and_true] at he
              obtain ⟨⟨rfl, hj1, rfl⟩, ⟨rfl, hk1, rfl⟩, hA1⟩ := he
              have hwr : w.heap.size < w4.heap.size := by have := HS0.out; have := HBl.out; omega
              refine ⟨fo, fc, so, sp, by rw [← hj1, ← hk1, ← hA1], ht1.keepO (fun q hq hl => hoR.block q hl (fun e => ?_)), ht2.keep (fun q hq hl => hoR.block q hl (fun e => ?_))⟩
              · have := (HT.out.fds.lt q (by cases fo <;> exact hq)).1
                omega
              · have := (HT.out.txs.lt q (by cases so <;> exact hq)).1
                have := HBB.out
                omega
            · obtain ⟨e1, e2⟩ := HNO.out (fun h => hLz h.2)
              have HE1 := hide e1
              have HE2 := hide e2
              have hok1 : ByteOk (bytL (confZ zs)) := by
                unfold bytL
                split
                · rename_i h
                  exact fun y hy => (by
                    have hfm := mayC_fm h.1 (fun z hz => ((confZ_ok HBY.out).1 z hz).1)
                    exact form_okZ hfm y hy)
                · exact fun z hz => by cases hz
              have hsd : ¬ s1 = s2 := fun e => hLz (strOfNums_inj hok1 HBY.out |>.1 (by rw [HS1x.out, HS2x.out, e]))
              have hsd2 : ¬ s1.toList = s2.toList := fun e => hsd ((toList_same _ _).1 e)
              have hsd3 : (s1.toList == s2.toList) = false := by simpa using hsd2
              rw [hE] at HRB
              clear hE hLz e1 e2 HRS HNO hok1
              go_wp2_with (go_at_call 9; refine HRB.out.mono ?_; rintro e w20 ⟨u, rfl, ho, hb⟩; obtain ⟨ua, uc, rfl⟩ := ho.shape; rw [HBN.out] at ho ⊢; have HB20 := hide hb; have hres := HT.out.res.below hb HT.out.res.lt; have HRES := hide hres; have f0 := hres.frozen 0; have f1 := hres.frozen 1; have f2 := hres.frozen 2; have k0 : w20.cell? ⟨w.heap.size, 0, none⟩ = some (.slice none 0 0) := hres.cell 0; have k1 : w20.cell? ⟨w.heap.size, 1, none⟩ = some (.slice none 0 0) := hres.cell 1; have k2 : w20.cell? ⟨w.heap.size, 2, none⟩ = some (.int .i64 0) := hres.cell 2; have hcx := run_convert_sl (P := Tryd.prog) w20 26 5 9 Tryd.underlying26 Tryd.underlying5 Tryd.underlying9 _ _ ho.sl; have hcz := run_convert_sl (P := Tryd.prog) w20 26 5 9 Tryd.underlying26 Tryd.underlying5 Tryd.underlying9 _ _ (HZ.out.below (HT.out.ta.below.trans (hb.mono HT.out.ta.below.size))); rw [HS1x.out] at hcx; rw [HN.out, HS2x.out] at hcz; clear HRB ho hb hres)
              have hr1 := ((HRES.out.set 0 (.slice none 0 0)).set 1 (.slice none 0 0)).set 2 (.int .i64 0)
              have hoR : Only (· = w.heap.size) w20 (((w20.setCell ⟨w.heap.size, 0, none⟩ (.slice none 0 0)).setCell ⟨w.heap.size, 1, none⟩ (.slice none 0 0)).setCell ⟨w.heap.size, 2, none⟩ (.int .i64 0)) := (((Only.refl (· = w.heap.size) w20).setCell _ _ (fun _ => rfl)).setCell _ _ (fun _ => rfl)).setCell _ _ (fun _ => rfl)
              refine bodyPost_ret (ret_conf rfl _ _ w.heap.size _ _ _ _ rfl rfl hr1) rfl ?_
              rw [HE1.out, HE2.out]
              exact ⟨_, rfl, zeroC_v _, (HT.out.ta.below.trans (HB20.out.mono HT.out.ta.below.size)).trans (hoR.below (Nat.le_trans HT.out.ta.below.size HB20.out.size) (fun q hq e => by omega))⟩
          · obtain ⟨e1, e2⟩ := HNO.out (fun h => hE h.1)
            have HE1 := hide e1
            have HE2 := hide e2
            obtain ⟨E, hEE⟩ : ∃ E, bytE (confZ zs) = E := ⟨_, rfl⟩
            rw [hEE] at HRB hE
            have hEb : (E == 0) = false := by simpa using hE
            clear e1 e2 HRS HNO hEE
            go_wp2_with (go_at_call 9; refine HRB.out.mono ?_; rintro e w20 ⟨u, rfl, ho, hb⟩; obtain ⟨ua, uc, rfl⟩ := ho.shape; rw [HBN.out] at ho ⊢; have HB20 := hide hb; have hres := HT.out.res.below hb HT.out.res.lt; have HRES := hide hres; have f0 := hres.frozen 0; have f1 := hres.frozen 1; have f2 := hres.frozen 2; have k0 : w20.cell? ⟨w.heap.size, 0, none⟩ = some (.slice none 0 0) := hres.cell 0; have k1 : w20.cell? ⟨w.heap.size, 1, none⟩ = some (.slice none 0 0) := hres.cell 1; have k2 : w20.cell? ⟨w.heap.size, 2, none⟩ = some (.int .i64 0) := hres.cell 2; clear HRB ho hb hres)
            have hr1 := ((HRES.out.set 0 (.slice none 0 0)).set 1 (.slice none 0 0)).set 2 (.int .i64 0)
            have hoR : Only (· = w.heap.size) w20 (((w20.setCell ⟨w.heap.size, 0, none⟩ (.slice none 0 0)).setCell ⟨w.heap.size, 1, none⟩ (.slice none 0 0)).setCell ⟨w.heap.size, 2, none⟩ (.int .i64 0)) := (((Only.refl (· = w.heap.size) w20).setCell _ _ (fun _ => rfl)).setCell _ _ (fun _ => rfl)).setCell _ _ (fun _ => rfl)
            refine bodyPost_ret (ret_conf rfl _ _ w.heap.size _ _ _ _ rfl rfl hr1) rfl ?_
            rw [HE1.out, HE2.out]
            exact ⟨_, rfl, zeroC_v _, (HT.out.ta.below.trans (HB20.out.mono HT.out.ta.below.size)).trans (hoR.below (Nat.le_trans HT.out.ta.below.size HB20.out.size) (fun q hq e => by omega))⟩

end Go.Proofs.YtimmfnjkknbofaaDoor
