/- The walk of FreemapDoes. -/
import Derived.Test.YtbnhacibkmcmkaaDoorKDoes
import Derived.Test.YtbnhacibkmcmkaaDoorKRefO
import Derived.Test.YtbnhacibkmcmkaaDoorKLive
namespace Go.Proofs.YtbnhacibkmcmkaaDoor
set_option maxRecDepth 20000
open Go.RowKit
set_option linter.unusedVariables false
set_option maxRecDepth 100000

/-- what becomes of a map's copy, and of the document's own, while the map itself is let go on -/
theorem Both.parted {w4 w5 w6 w7 : World} {B b r q n C c t s : Nat} {f g f1 f2 f3 g3 : Nat → Bool} {cc : Nat → Int} (hm : MapB w4 B b t s n f g) (hr : RefM w4 B r q n cc) (hc : MapE w4 C c n f1 g3) (hbC : b < C) (htC : t < C) (hBC : B ≤ C)
    (h5 : Only (· = t) w4 w5) (h6 : Only (· = t) w5 w6) (h7 : Only (· = b) w6 w7) (hm7 : MapE w7 B b n f2 f3) : MapE w7 B c n f1 g3 ∧ RefM w7 B r q n cc ∧ Below B w4 w7 := by
  have ho : Only (fun j => j = t ∨ j = b) w4 w7 := by
    have a1 : Only (fun j => j = t ∨ j = b) w4 w5 := h5.mono (fun _ _ e => .inl e)
    have a2 : Only (fun j => j = t ∨ j = b) w5 w6 := h6.mono (fun _ _ e => .inl e)
    have a3 : Only (fun j => j = t ∨ j = b) w6 w7 := h7.mono (fun _ _ e => .inr e)
    exact only_on (only_on a1 a2) a3
  have hT : TabB w7 := by obtain ⟨_, _, h⟩ := hm7; exact h.tab
  have hrt : r ≠ t := Blk.ne hr.blk hm.ts.blk (by decide)
  have hrb : r ≠ b := Blk.ne hr.blk hm.blk (by decide)
  have hqt : q ≠ t := Blk.ne hr.row hm.ts.blk (by decide)
  have hqb : q ≠ b := Blk.ne hr.row hm.blk (by decide)
  refine ⟨(hc.apart ho (fun j e => by rcases e with e | e <;> omega) hT).base hBC hm.pos, hr.only ho (fun e => e.elim hrt hrb) (fun e => e.elim hqt hqb), ho.below hm.le (fun j hj e => by have := hm.lob; have := hm.lot; rcases e with e | e <;> omega)⟩

set_option maxHeartbeats 8000000 in
theorem freemapDoes_walk (w : World) (pages : Int) (v1 : Value) (ks : List Int) (v2 : Value) (os : List OpE) (hpg : (Lit.int .i64 pages).wf = true) (hv1 : Is w v1 ks) (hv2 : Script w v2 os) (hT : TabB w) : Calls Tryd.prog 4 #[.int .i64 pages, v1, v2] w fun e w' => e = .returned (.bool true) ∧ Below w.heap.size w w' := by
  have HL := hide (fun (W : World) (hb : Below w.heap.size w W) => live_any W (hT.below hb))
  obtain ⟨ao1, cap1, rfl⟩ : ∃ ao cap, v1 = .slice ao ks.length cap := by obtain ⟨ao, cap, h, _⟩ := hv1; exact ⟨ao, cap, h⟩
  obtain ⟨ao2, T, cap2, rfl⟩ : ∃ ao T cap, v2 = .slice ao T cap := by obtain ⟨_, ao, cap, h, _⟩ := hv2; exact ⟨ao, _, cap, h⟩
  obtain ⟨hTe, hT2, hT3, hat⟩ := script_at hv2 rfl
  clear hTe
  unfold maxLen at hT3
  have HV1 := hide hv1
  obtain ⟨N1, hN1⟩ : ∃ N1, ks.length = N1 := ⟨_, rfl⟩
  rw [hN1] at HV1 ⊢
  by_cases hbig : 5000 < N1
  · have hbigi : (5000 : Int) < (N1 : Int) := by omega
    clear hv1 hv2 hat hN1 hT
    go_enter Tryd.func4, Tryd.ntmps4
    go_wp2_with (first
      | (go_at_call 9; refine (HL.out w (Below.refl _ w)).mono ?_; rintro e w1 ⟨rfl, hb1⟩; have HB1 := hide hb1; clear hb1)
      | (go_at_call 9; refine (HL.out w1 HB1.out).mono ?_; rintro e w2 ⟨rfl, hb2⟩; have HB2 := hide (below_on HB1.out hb2); clear hb2 HL))
    go_ret
    exact ⟨rfl, HB2.out⟩
  · have hbigi : ¬ (5000 : Int) < (N1 : Int) := by omega
    have HC : Hid (∀ W, Below w.heap.size w W → Calls Tryd.prog 19 #[.slice ao1 N1 cap1] W fun e w' => ∃ v', e = .returned v' ∧ Ints w' W.heap.size v' ks ∧ Below W.heap.size W w') := fun W hb => sClone_any W _ ks (HV1.out.below hb) (by omega)
    cases hmay : mayB pages ks with
    | false =>
      have HO : Hid (∀ W v, Is W v ks → Calls Tryd.prog 18 #[.int .i64 pages, v] W fun e w' => e = .returned (.tuple #[.pointer none, .int .i64 1]) ∧ w' = W) := fun W v hi => open_bad W pages _ ks hi hmay
      have HRO : Hid (∀ W, Below w.heap.size w W → Calls Tryd.prog 20 #[.int .i64 pages, .slice ao1 N1 cap1] W fun e w' => e = .returned (.tuple #[.pointer none, .int .i64 1]) ∧ Below W.heap.size W w') := fun W hb => refOpenM_bad W pages _ ks (HV1.out.below hb) hmay
      clear hv1 hv2 hat hN1 hT
      go_enter Tryd.func4, Tryd.ntmps4
      go_wp2_with (first
        | (go_at_call 9; refine (HL.out w (Below.refl _ w)).mono ?_; rintro e w1 ⟨rfl, hb1⟩; have HB1 := hide hb1; clear hb1 HL)
        | (go_at_call 19; refine (HC.out w1 HB1.out).mono ?_; rintro e w2 ⟨cv0, rfl, hi2, hb2⟩; have HI2 := hide hi2.is; have HB2 := hide (below_on HB1.out hb2); clear HC hi2 hb2)
        | (go_at_call 18; refine (HO.out w2 cv0 HI2.out).mono ?_; rintro e w3 ⟨rfl, hw⟩; subst w3; clear HO)
        | (go_at_call 20; refine (HRO.out w2 HB2.out).mono ?_; rintro e w4 ⟨rfl, hb4⟩; have HB4 := hide (below_on HB2.out hb4); clear HRO hb4))
      go_ret
      exact ⟨rfl, HB4.out⟩
    | true =>
      have hsz : 8 ≤ pages ∧ pages ≤ 2048 := by rw [mayB, Bool.and_eq_true, sizeB_iff] at hmay; exact hmay.1
      obtain ⟨n, rfl⟩ : ∃ n : Nat, pages = n := ⟨pages.toNat, by omega⟩
      have HO : Hid (∀ W v, Below w.heap.size w W → Is W v ks → Calls Tryd.prog 18 #[.int .i64 n, v] W fun e w' => ∃ b, e = .returned (.tuple #[dp b, .int .i64 0]) ∧ MapE w' W.heap.size b n (inL ks) (inL ks) ∧ Below W.heap.size W w') := fun W v hb hi => open_ok W n _ ks hi hmay (hT.below hb) (by have := World.block_lt_of_cell? w _ (hT 0 (by decide)); exact Nat.lt_of_lt_of_le this hb.size)
      have HRO : Hid (∀ W, Below w.heap.size w W → Calls Tryd.prog 20 #[.int .i64 n, .slice ao1 N1 cap1] W fun e w' => ∃ r q, e = .returned (.tuple #[dp r, .int .i64 0]) ∧ RefM w' W.heap.size r q n (codeP (inL ks) (inL ks)) ∧ Below W.heap.size W w') := fun W hb => refOpenM_ok W n _ ks (HV1.out.below hb) hmay
      obtain ⟨m, hm⟩ : ∃ m, min T 60 = m := ⟨_, rfl⟩
      have hmin : ∀ (ts : Array TypeId) (t : TypeId) (wx : World), (Builtin.min_ ts t #[.int .i64 (T : Int), .int .i64 60]).run Tryd.prog wx = .ok (.int .i64 (m : Int)) wx := run_min80 T 60 m hm
      have hm60 : m ≤ 60 := by omega
      have hmT : m ≤ T := by omega
      have hcut : ∀ wx, (Instr.slice 36 (.slice ao2 T cap2) none (some (.int .i64 (m : Int))) none).run Tryd.prog wx = .ok (.slice ao2 m cap2) wx := cut_head 36 45 2 Tryd.underlying36 sizeOp ao2 T cap2 m (by omega) (by unfold maxLen; exact hT3)
      have HAT := hide hat
      clear hv1 hv2 hat hN1 hT hmay hm
      go_enter Tryd.func4, Tryd.ntmps4
      go_wp2_with (first
        | (go_at_call 9; refine (HL.out w (Below.refl _ w)).mono ?_; rintro e w1 ⟨rfl, hb1⟩; have HB1 := hide hb1; clear hb1 HL)
        | (go_at_call 19; refine (HC.out w1 HB1.out).mono ?_; rintro e w2 ⟨cv0, rfl, hi2, hb2⟩; have HI2 := hide hi2.is; have HB2 := hide (below_on HB1.out hb2); clear HC hi2 hb2)
        | (go_at_call 18; refine (HO.out w2 cv0 HB2.out HI2.out).mono ?_; rintro e w3 ⟨b, rfl, hm3, hb3⟩; have HM3 := hide hm3; have HB23 := hide hb3; have HB3 := hide (below_on HB2.out hb3); clear HO hm3 hb3)
        | (go_at_call 20; refine (HRO.out w3 HB3.out).mono ?_; rintro e w4 ⟨r, q, rfl, hr4, hb4⟩; have HBO : Hid (Both w4 w2.heap.size b r q n (inL ks) (inL ks)) := ⟨HM3.out.below hb4, ⟨hr4.blk, hr4.row, Nat.le_trans HB23.out.size hr4.lor, Nat.le_trans HB23.out.size hr4.loq, hr4.hi⟩⟩; have HB4 := hide (below_on HB3.out hb4); clear HRO hr4 hb4))
      clear hmin hcut
      obtain ⟨B, hB⟩ : ∃ B, w2.heap.size = B := ⟨_, rfl⟩
      rw [hB] at HBO
      have hwB : w.heap.size ≤ B := by rw [← hB]; exact HB2.out.size
      clear HB1 HB2 HB3 HB23 HM3 HI2 hB
      go_loopg [7, 53] m (fun gg mv kv wr => ∃ (k b : Nat) (f g : Nat → Bool), gg + k = m ∧ mv = dp b ∧ kv = .int .i64 k ∧ Both wr B b r q n f g ∧ Below w.heap.size w wr)
      case atStart => exact ⟨0, b, _, _, by omega, rfl, rfl, HBO.out, HB4.out⟩
      case round =>
        obtain ⟨k, b, f, g, hk, rfl, rfl, hbo, hbw⟩ := hrel
        clear HBO HB4
        have HBW := hide hbw
        cases gk with
        | zero =>
          have h1 : ¬ (k : Int) < (m : Int) := by omega
          have HSM := hide (same_any wr B b r q n f g hbo.map hbo.ref)
          clear hbo hbw
          go_wp2_with (go_at_call 22; refine HSM.out.mono ?_; rintro e W2 ⟨rfl, hb2⟩; have HB2 := hide (below_on HBW.out hb2); clear HSM hb2)
          go_ret
          exact ⟨rfl, HB2.out⟩
        | succ gg =>
          have h1 : (k : Int) < (m : Int) := by omega
          obtain ⟨gb, off, hao, hgb, hrg, hpl, hph⟩ := HAT.out k (by omega)
          obtain ⟨z1, z2, z3, z4⟩ := op_facts (opAt os k)
          have hrg' := range_below hrg hbw hgb
          obtain ⟨⟨D, P⟩, ho⟩ : ∃ o, opAt os k = o := ⟨_, rfl⟩
          rw [ho] at hpl hph hrg' z1 z2 z3 z4
          simp only at hpl hph
          have HRG := hide hrg'
          have HZ1 := hide z1
          have HZ2 := hide z2
          have HZ3 := hide z3
          have HZ4 := hide z4
          have hz := zeroOpRun
          subst hao
          obtain ⟨W1, hW1⟩ : ∃ W1, wr.alloc (.cells (opc ⟨D, P⟩).toArray 45) = W1 := ⟨_, rfl⟩
          have hob : Blk W1 wr.heap.size 45 (opc ⟨D, P⟩) := by rw [← hW1]; exact Blk.new wr _ _
          have hb1 : Below wr.heap.size wr W1 := by rw [← hW1]; exact (Below.refl _ wr).alloc (Nat.le_refl _) _
          have HRG2 : Hid (W1.rangeAt wr.heap.size 0 (opc ⟨D, P⟩)) := fun j v hj => by rw [Nat.zero_add, hob.cell]; exact hj
          have HDO : Hid (Calls Tryd.prog 21 #[dp b, dp r, .agg (opc ⟨D, P⟩).toArray] W1 fun e w' => e = .returned (.bool true) ∧ ∃ f' g', Both w' B b r q n f' g' ∧ Below w.heap.size w w' ∧ Blk w' wr.heap.size 45 (opc ⟨D, P⟩)) := by
            refine (does_any W1 B b r q n f g D P (hbo.below hb1)).mono ?_
            rintro e w' ⟨rfl, f', g', x1, x2, x3⟩
            exact ⟨rfl, f', g', x1, (below_on hbw hb1).trans (x2.mono hwB), x3 _ _ hob⟩
          have HSM : Hid (∀ W f' g', Both W B b r q n f' g' → Calls Tryd.prog 22 #[dp b, dp r] W fun e w' => e = .returned (.bool true) ∧ Below W.heap.size W w') := fun W f' g' h => same_any W B b r q n f' g' h.map h.ref
          clear hbo hbw hrg hrg' z1 z2 z3 z4 ho hob hb1 HAT
          by_cases hd5 : D = 5
          · subst hd5
            go_wp2_with (first
              | ((with_reducible refine wpList_load_mid rfl 45 (.tmp 55) rfl gb (off + k * 2) ?_ (opc ⟨5, P⟩) _ HRG.out Tryd.underlying45 rfl HZ1.out ?_); exact rfl)
              | ((with_reducible refine wpList_store_new rfl 45 (.tmp 12) (.tmp 56) rfl opZero (opc ⟨5, P⟩).toArray 45 ?_ ?_ HZ3.out HZ2.out HZ4.out ?_); exact rfl; exact rfl; rw [hW1]; clear HRG)
              | ((with_reducible refine wpList_load_mid rfl 45 (.tmp 12) rfl wr.heap.size 0 ?_ (opc ⟨5, P⟩) _ HRG2.out Tryd.underlying45 rfl HZ1.out ?_); exact rfl)
              | (go_at_call 21; refine HDO.out.mono ?_; rintro e W2 ⟨rfl, f', g', hbo2, hbw2, hob2⟩; have HBO2 := hide hbo2; have HBW2 := hide hbw2; have HOB2 := hide hob2; clear HDO hbo2 hbw2 hob2)
              | (go_at_call 22; refine (HSM.out W2 f' g' HBO2.out).mono ?_; rintro e W3 ⟨rfl, hb3⟩; have HBO3 := hide (HBO2.out.below hb3); have HBW3 := hide (below_on HBW2.out hb3); have HOB3 := hide (HOB2.out.below hb3 HOB2.out.lt); clear HSM hb3; have c0 : W3.cell? ⟨wr.heap.size, 0, none⟩ = some (.int .i64 5) := HOB3.out.cell 0; have HCL := hide (mclone_any W3 B b n f' g' HBO3.out.map))
              | (go_at_call 23; refine HCL.out.mono ?_; rintro e W4 ⟨c, rfl, hm4, hb4⟩; obtain ⟨t, s, hmb⟩ := HBO3.out.map; have hbC := hmb.blk.lt; have htC := hmb.ts.blk.lt; have HMB := hide (hmb.below hb4); have HM4 := hide hm4; have HR4 := hide (HBO3.out.ref.below hb4); have HBW4 := hide (below_on HBW3.out hb4); have HOB4 := hide (HOB3.out.below hb4 HOB3.out.lt); have hBC := hmb.le; have HAL := hide (mallocT W4 B b t s n f' g' HMB.out); clear hm4 hb4 hmb HCL c0)
              | (go_at_call 24; refine HAL.out.mono ?_; rintro e W5 ⟨rfl, hm5, ho5⟩; have HO5 := hide ho5; have HOB5 := hide (HOB4.out.only ho5 (Blk.ne HOB4.out HMB.out.ts.blk (by decide))); have c1 : W5.cell? ⟨wr.heap.size, 1, none⟩ = some (.int .i64 P) := HOB5.out.cell 1; have HFR := hide (mfreeT W5 B b t s n _ g' P hm5); clear hm5 ho5 HAL)
              | (go_at_call 25; refine HFR.out.mono ?_; rintro e W6 ⟨rfl, hm6, ho6⟩; have HO6 := hide ho6; have HAB := hide (mabortT W6 B b t s n _ g' hm6); clear hm6 ho6 HFR)
              | (go_at_call 26; refine HAB.out.mono ?_; rintro e W7 ⟨rfl, hm7, ho7⟩; have HFI := hide (Both.parted HMB.out HR4.out HM4.out hbC htC hBC HO5.out HO6.out ho7 hm7); clear hm7 ho7 HAB))
            go_roundg gg
            case measure => omega
            case rel => exact ⟨k + 1, c, f', g', by omega, rfl, by go_num, ⟨HFI.out.1, HFI.out.2.1⟩, HBW4.out.trans (HFI.out.2.2.mono hwB)⟩
          · go_wp2_with (first
              | ((with_reducible refine wpList_load_mid rfl 45 (.tmp 55) rfl gb (off + k * 2) ?_ (opc ⟨D, P⟩) _ HRG.out Tryd.underlying45 rfl HZ1.out ?_); exact rfl)
              | ((with_reducible refine wpList_store_new rfl 45 (.tmp 12) (.tmp 56) rfl opZero (opc ⟨D, P⟩).toArray 45 ?_ ?_ HZ3.out HZ2.out HZ4.out ?_); exact rfl; exact rfl; rw [hW1]; clear HRG)
              | ((with_reducible refine wpList_load_mid rfl 45 (.tmp 12) rfl wr.heap.size 0 ?_ (opc ⟨D, P⟩) _ HRG2.out Tryd.underlying45 rfl HZ1.out ?_); exact rfl)
              | (go_at_call 21; refine HDO.out.mono ?_; rintro e W2 ⟨rfl, f', g', hbo2, hbw2, hob2⟩; have HBO2 := hide hbo2; have HBW2 := hide hbw2; have HOB2 := hide hob2; clear HDO hbo2 hbw2 hob2)
              | (go_at_call 22; refine (HSM.out W2 f' g' HBO2.out).mono ?_; rintro e W3 ⟨rfl, hb3⟩; have HBO3 := hide (HBO2.out.below hb3); have HBW3 := hide (below_on HBW2.out hb3); have HOB3 := hide (HOB2.out.below hb3 HOB2.out.lt); clear HSM hb3; have c0 : W3.cell? ⟨wr.heap.size, 0, none⟩ = some (.int .i64 D) := HOB3.out.cell 0))
            go_roundg gg
            case measure => omega
            case rel => exact ⟨k + 1, b, f', g', by omega, rfl, by go_num, HBO3.out, HBW3.out⟩

end Go.Proofs.YtbnhacibkmcmkaaDoor
