/- Contract: the runes of bytes, by the document (incipitref13.Runes). -/
import Derived.Test.YtfpphepjkpofiaaDoorFFirst
import Derived.Test.YtfpphepjkpofiaaDoorFPc
import Derived.Test.YtfpphepjkpofiaaDoorCut
namespace Go.Proofs.YtfpphepjkpofiaaDoor
set_option maxRecDepth 20000
open Go.RowKit
set_option linter.unusedVariables false
set_option linter.unusedSimpArgs false
set_option maxRecDepth 100000

theorem marks_none (w : World) (base : Nat) (hb : base ≤ w.heap.size) : Marks (w.alloc (.cells #[] 28)) base (.slice (some ⟨w.heap.size, 0, none⟩) 0 0) [] :=
  ⟨rfl, .inr ⟨w.heap.size, 0, #[], rfl, hb, heap_alloc_new w _, Nat.le_refl _, by simp [maxLen], by simp, rfl⟩⟩
theorem dec_width {b : List Int} (hb : ByteOk b) (hne : b ≠ []) : (decN b).2 ≤ b.length := by
  rcases dec_is hb hne with ⟨r, _, h2, h3⟩ | ⟨h3, _⟩
  · rw [h3]; exact h2.length_le
  · rw [h3]; exact List.length_pos_iff.2 hne

set_option maxHeartbeats 2000000 in
theorem refRunes_any (w : World) (v : Value) (zs : List Int) (h : Sl w v zs) (hl : zs.length ≤ 100000) : Calls Tryd.prog 9 #[v] w fun e w' => ∃ u, e = .returned u ∧ Marks w' w.heap.size u (runesN zs) ∧ Below w.heap.size w w' := by
  have hok := h.1
  obtain ⟨ao, L, cap, rfl⟩ := sl_form h
  have hL := sl_len h
  have hLi : (L : Int) ≤ 100000 := by omega
  obtain ⟨w1, hw1⟩ : ∃ w1, w.alloc (.cells #[] 28) = w1 := ⟨_, rfl⟩
  have HM0 : Hid (Marks w1 w.heap.size (.slice (some ⟨w.heap.size, 0, none⟩) 0 0) []) := by rw [← hw1]; exact marks_none w _ (Nat.le_refl _)
  have HB0 : Hid (Below w.heap.size w w1) := by rw [← hw1]; exact (Below.refl _ w).alloc (Nat.le_refl _) _
  have HS := hide h
  have HL := hide hL
  have HOK := hide hok
  have HRL := hide (runesN_len zs)
  clear h hok hL hl
  go_enter Tryd.func9, Tryd.ntmps9
  go_wp2
  go_loopg [3, 4] L (fun gk l t wr => ∃ (p k : Nat) (al : Option Addr) (cl : Nat) (RR : List (Nat × Nat)), gk + p = L ∧ t = .int .i64 (p : Int) ∧ l = .slice al k cl ∧ RR.length = k ∧ Marks wr w.heap.size (.slice al k cl) RR ∧ RR ++ rnL gk p (zs.drop p) = runesN zs ∧ Below w.heap.size w wr)
  case atStart => exact ⟨0, 0, _, 0, [], rfl, rfl, rfl, rfl, HM0.out, by rw [HL.out]; rfl, HB0.out⟩
  case round =>
    clear HM0 HB0 hw1
    obtain ⟨p, k, al, cl, RR, hk, rfl, rfl, hrr, hm, hr, hbw⟩ := hrel
    have HM := hide hm
    have HR := hide hr
    have HBW := hide hbw
    have HK := hide hrr
    clear hm hr hbw hrr
    cases gk with
    | zero =>
      obtain rfl : p = L := by omega
      have hlt : ¬ (p : Int) < (p : Int) := by omega
      go_wp2
      go_ret
      refine ⟨_, rfl, ?_, HBW.out⟩
      have h1 := HR.out
      rw [show rnL 0 p (zs.drop p) = [] from rfl, List.append_nil] at h1
      rw [← h1]
      exact HM.out
    | succ g =>
      have hp : (p : Int) < (L : Int) := by omega
      have hpz : p < zs.length := by have := HL.out; omega
      have hne : zs.drop p ≠ [] := by
        intro e
        have := congrArg List.length e
        simp at this
        omega
      have hSz : Sl wr (.slice ao zs.length cap) zs := by rw [← HL.out]; exact HS.out.below HBW.out
      obtain ⟨a', c', hcut, hsl⟩ := cut_l wr ao zs cap p hSz (by omega)
      rw [← HL.out] at hcut
      have HSL := hide (hsl wr hSz)
      have hdok : ByteOk (zs.drop p) := HOK.out.drop p
      have hwid := dec_width hdok hne
      have hpos := decN_pos _ hne
      have hle := decN_le (zs.drop p)
      have HFI := hide (refFirst_any wr _ (zs.drop p) HSL.out hne)
      have hstep := rnL_on g p hne
      obtain ⟨m, hm⟩ : ∃ m, (zs.drop p).length = m := ⟨_, rfl⟩
      have hmL : m + p = L := by have := HL.out; rw [← hm]; simp; omega
      rw [hm] at hcut hwid HFI
      have HST : Hid (rnL (g + 1) p (zs.drop p) = (p, (decN (zs.drop p)).1) :: rnL (g + 1 - (decN (zs.drop p)).2) (p + (decN (zs.drop p)).2) (zs.drop (p + (decN (zs.drop p)).2))) := by
        show _ = _
        rw [hstep, List.drop_drop]
        congr 1
        exact rnL_fuel _ _ _ _ (by have := HL.out; simp only [List.length_drop]; omega) (by have := HL.out; simp only [List.length_drop]; omega)
      generalize decN (zs.drop p) = d at *
      obtain ⟨r, n⟩ := d
      simp only at hwid hpos hle HFI HST
      have hpi : (p : Int) + (n : Int) ≤ 100000 := by omega
      have HAP : Hid (∀ W, Below wr.heap.size wr W → ∃ w3 ao2 cap2, (Builtin.append_ #[24, 24] 24 #[.slice al k cl, .slice (some ⟨W.heap.size, 0, none⟩) 1 1]).run Tryd.prog (W.alloc (.cells #[.int .i64 (p : Int), .int .i32 (r : Int)] 28)) = .ok (.slice ao2 (k + 1) cap2) w3 ∧ Marks w3 w.heap.size (.slice ao2 (k + 1) cap2) (RR ++ [(p, r)]) ∧ Below w.heap.size w w3) := fun W hW => by
        have hMW := HM.out.below hW
        obtain ⟨v2, w3, hr, hi2, hg2, hv2, ao2, cap2, rfl⟩ := run_append_mark W w.heap.size _ _ hMW (p, r) (by have h1 := congrArg List.length HR.out; simp at h1; have h2 := HRL.out; have h3 := HL.out; omega) (by have := HBW.out.size; have := hW.size; omega)
        rw [HK.out] at hr hi2
        refine ⟨w3, ao2, cap2, hr, hi2, ?_⟩
        have hoA : Only (fun q => (Value.slice al k cl).ownBlock = some q) W w3 := ((Only.refl _ W).alloc _).grown hg2 (fun q e _ => e)
        have hbW := HBW.out.trans (hW.mono HBW.out.size)
        exact hbW.trans (hoA.below hbW.size (fun q hq e => by have h1 := (hMW.lt q e).1; omega))
      clear hstep hdok hne hm hSz hsl
      go_wp2_with (first
        | (go_at_call 31; refine HFI.out.mono ?_; rintro e w2 ⟨rfl, hb⟩; obtain ⟨w3, ao2, cap2, hap, hm3, hb3⟩ := HAP.out w2 hb; have HA3 := hide hap; have HM3 := hide hm3; have HB3 := hide hb3; clear HFI HAP hb hap hm3 hb3)
        | (at_builtin; (with_reducible refine wpList_append_run _ rfl (.tmp 19) (.tmp 23) 24 rfl _ _ ?_ ?_ _ _ HA3.out ?_); exact rfl; exact rfl; clear HA3))
      go_roundg (g + 1 - n)
      case measure => omega
      case rel =>
        refine ⟨p + n, k + 1, ao2, cap2, RR ++ [(p, r)], by omega, by go_num, rfl, by simp; have := HK.out; omega, HM3.out, ?_, HB3.out⟩
        rw [List.append_assoc, ← HR.out, HST.out]
        rfl

end Go.Proofs.YtfpphepjkpofiaaDoor
