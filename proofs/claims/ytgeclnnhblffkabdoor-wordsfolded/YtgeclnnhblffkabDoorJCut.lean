/- Cuts of a slice of bytes that is read: b[l:h], b[:h], b[l:], as run equations whose values show their form. -/
import Derived.Test.YtgeclnnhblffkabDoorOwn
import Derived.Test.YtgeclnnhblffkabDoorJFFst
import Derived.Test.YtgeclnnhblffkabDoorFPp
import Derived.Test.YtgeclnnhblffkabDoorJFMarks
namespace Go.Proofs.YtgeclnnhblffkabDoor
set_option maxRecDepth 20000
open Go.RowKit

theorem sl_take' {w : World} {ao : Option Addr} {zs : List Int} {cap : Nat} (n : Nat) (h : Sl w (.slice ao zs.length cap) zs) (hn : n ≤ zs.length) : Sl w (.slice ao (zs.take n).length cap) (zs.take n) := by
  have := sl_take n h hn
  rwa [show (zs.take n).length = n by simp; omega]
theorem sl_drop0' {w : World} {ao : Option Addr} {zs : List Int} {cap : Nat} (n : Nat) (h : Sl w (.slice ao zs.length cap) zs) (hn : n ≤ zs.length) (hc : cap = n) : Sl w (.slice ao (zs.drop n).length 0) (zs.drop n) := by
  have := sl_cut0 n h hn hc
  rwa [show (zs.drop n).length = zs.length - n by simp]
theorem sl_drop' {w : World} {ao : Option Addr} {zs : List Int} {cap : Nat} (n : Nat) (h : Sl w (.slice ao zs.length cap) zs) (hn : n ≤ zs.length) : Sl w (.slice (Option.map (fun x => x.add n) ao) (zs.drop n).length (cap - n)) (zs.drop n) := by
  have := sl_cut n h hn
  rwa [show (zs.drop n).length = zs.length - n by simp]
theorem sl_cap {w : World} {ao : Option Addr} {n cap : Nat} {zs : List Int} (S : Sl w (.slice ao n cap) zs) : n = zs.length ∧ zs.length ≤ cap ∧ cap ≤ maxLen := by
  obtain ⟨_, ao', cap', he, h', h2, _⟩ := S
  simp at he
  exact ⟨he.2.1, by omega, by omega⟩

theorem tySl : Tryd.prog.underlying 26 = some (.slice (Tryd.prog.elem 26)) := by kernel_rfl
theorem szSl (wx : World) : (Go.sizeOf (Tryd.prog.elem 26)).run Tryd.prog wx = .ok 1 wx := by kernel_rfl

/-- b[l:h] -/
theorem cut_lh (w : World) (ao : Option Addr) (zs : List Int) (cap l h : Nat) (S : Sl w (.slice ao zs.length cap) zs) (h1 : l ≤ h) (h2 : h ≤ zs.length) :
    ∃ a' c', (∀ wx, (Instr.slice 26 (.slice ao zs.length cap) (some (.int .i64 l)) (some (.int .i64 h)) none).run Tryd.prog wx = .ok (.slice a' ((zs.take h).drop l).length c') wx) ∧
      ∀ wx, Sl wx (.slice ao zs.length cap) zs → Sl wx (.slice a' ((zs.take h).drop l).length c') ((zs.take h).drop l) := by
  have hle := (sl_cap S).2.1
  have hlen : ((zs.take h).drop l).length = h - l := by simp; omega
  have hlt : l ≤ (zs.take h).length := by simp; omega
  by_cases hc : cap = l
  · refine ⟨ao, 0, fun wx => ?_, fun wx hS => sl_drop0' l (sl_take' h hS h2) hlt hc⟩
    rw [run_slice_lh wx 26 ao zs.length cap tySl .i64 .i64 l h (by omega) (by omega) (by omega), szSl]
    simp only [Result.andThen, sliced, Int.toNat_natCast]
    rw [if_pos hc, hlen, show cap - l = 0 by omega]
  · refine ⟨Option.map (fun x => x.add l) ao, cap - l, fun wx => ?_, fun wx hS => sl_drop' l (sl_take' h hS h2) hlt⟩
    rw [run_slice_lh wx 26 ao zs.length cap tySl .i64 .i64 l h (by omega) (by omega) (by omega), szSl]
    simp only [Result.andThen, sliced, Int.toNat_natCast]
    rw [if_neg hc, hlen, Nat.mul_one]

/-- b[l:] -/
theorem cut_l (w : World) (ao : Option Addr) (zs : List Int) (cap l : Nat) (S : Sl w (.slice ao zs.length cap) zs) (h1 : l ≤ zs.length) :
    ∃ a' c', (∀ wx, (Instr.slice 26 (.slice ao zs.length cap) (some (.int .i64 l)) none none).run Tryd.prog wx = .ok (.slice a' (zs.drop l).length c') wx) ∧
      ∀ wx, Sl wx (.slice ao zs.length cap) zs → Sl wx (.slice a' (zs.drop l).length c') (zs.drop l) := by
  have hle := (sl_cap S).2.1
  have hlen : (zs.drop l).length = zs.length - l := by simp
  by_cases hc : cap = l
  · refine ⟨ao, 0, fun wx => ?_, fun wx hS => sl_drop0' l hS h1 hc⟩
    rw [run_slice_l wx 26 ao zs.length cap tySl .i64 l (by omega) (by omega), szSl]
    simp only [Result.andThen, sliced, Int.toNat_natCast]
    rw [if_pos hc, hlen, show cap - l = 0 by omega]
  · refine ⟨Option.map (fun x => x.add l) ao, cap - l, fun wx => ?_, fun wx hS => sl_drop' l hS h1⟩
    rw [run_slice_l wx 26 ao zs.length cap tySl .i64 l (by omega) (by omega), szSl]
    simp only [Result.andThen, sliced, Int.toNat_natCast]
    rw [if_neg hc, hlen, Nat.mul_one]

/-- b[:h] -/
theorem cut_h (w : World) (ao : Option Addr) (zs : List Int) (cap h : Nat) (S : Sl w (.slice ao zs.length cap) zs) (h2 : h ≤ zs.length) :
    ∃ a' c', (∀ wx, (Instr.slice 26 (.slice ao zs.length cap) none (some (.int .i64 h)) none).run Tryd.prog wx = .ok (.slice a' (zs.take h).length c') wx) ∧
      ∀ wx, Sl wx (.slice ao zs.length cap) zs → Sl wx (.slice a' (zs.take h).length c') (zs.take h) := by
  have hle := (sl_cap S).2.1
  have hlen : (zs.take h).length = h := by simp; omega
  refine ⟨ao, cap, fun wx => ?_, fun wx hS => sl_take' h hS h2⟩
  rw [run_slice_h wx 26 ao zs.length cap tySl .i64 h (by omega) (by omega), szSl]
  simp only [Result.andThen, sliced, Int.toNat_natCast]
  rw [hlen]
  by_cases hc : cap = 0
  · rw [if_pos hc]; rfl
  · rw [if_neg hc]
    cases ao with
    | none => rfl
    | some x => simp [Addr.add]

end Go.Proofs.YtgeclnnhblffkabDoor
/- Contract: the runes of bytes, by the document (incipitref13.Runes). -/
namespace Go.Proofs.YtgeclnnhblffkabDoor
set_option maxRecDepth 20000
open Go.RowKit
set_option linter.unusedVariables false
set_option linter.unusedSimpArgs false
set_option maxRecDepth 100000

theorem marks_none (w : World) (base : Nat) (hb : base ≤ w.heap.size) : Marks (w.alloc (.cells #[] 44)) base (.slice (some ⟨w.heap.size, 0, none⟩) 0 0) [] :=
  ⟨rfl, .inr ⟨w.heap.size, 0, #[], rfl, hb, heap_alloc_new w _, Nat.le_refl _, by simp [maxLen], by simp, rfl⟩⟩
theorem dec_width {b : List Int} (hb : ByteOk b) (hne : b ≠ []) : (decN b).2 ≤ b.length := by
  rcases dec_is hb hne with ⟨r, _, h2, h3⟩ | ⟨h3, _⟩
  · rw [h3]; exact h2.length_le
  · rw [h3]; exact List.length_pos_iff.2 hne

set_option maxHeartbeats 2000000 in
theorem refRunes_any (w : World) (v : Value) (zs : List Int) (h : Sl w v zs) (hl : zs.length ≤ 100000) : Calls Tryd.prog 11 #[v] w fun e w' => ∃ u, e = .returned u ∧ Marks w' w.heap.size u (runesN zs) ∧ Below w.heap.size w w' := by
  have hok := h.1
  obtain ⟨ao, L, cap, rfl⟩ := sl_form h
  have hL := sl_len h
  have hLi : (L : Int) ≤ 100000 := by omega
  obtain ⟨w1, hw1⟩ : ∃ w1, w.alloc (.cells #[] 44) = w1 := ⟨_, rfl⟩
  have HM0 : Hid (Marks w1 w.heap.size (.slice (some ⟨w.heap.size, 0, none⟩) 0 0) []) := by rw [← hw1]; exact marks_none w _ (Nat.le_refl _)
  have HB0 : Hid (Below w.heap.size w w1) := by rw [← hw1]; exact (Below.refl _ w).alloc (Nat.le_refl _) _
  have HS := hide h
  have HL := hide hL
  have HOK := hide hok
  have HRL := hide (runesN_len zs)
  clear h hok hL hl
  go_enter Tryd.func11, Tryd.ntmps11
  go_wp2
  go_loopg [3, 4] L (fun gk l t wr => ∃ (p k : Nat) (al : Option Addr) (cl : Nat) (RR : List (Nat × Nat)), gk + p = L ∧ t = .int .i64 (p : Int) ∧ l = .slice al k cl ∧ RR.length = k ∧ Marks wr w.heap.size (.slice al k cl) RR ∧ RR ++ rnL gk p (zs.drop p) = runesN zs ∧ Below w.heap.size w wr)
  case atStart => exact ⟨0, 0, _, 0, [], rfl, rfl, rfl, rfl, HM0.out, by rw [HL.out]; rfl, HB0.out⟩
  case round =>
    clear HM0 HB0 hw1
    obtain ⟨p, k, al, cl, RR, hk, rfl, rfl, hrr, hm, hr, hbw⟩ := hrel
    have HM := hide hm
    have HR := hide hr
    have HBW := hide hbw
    have HK := hide hrr
    clear hm hr hbw hrr
    cases gk with
    | zero =>
      obtain rfl : p = L := by omega
      have hlt : ¬ (p : Int) < (p : Int) := by omega
      go_wp2
      go_ret
      refine ⟨_, rfl, ?_, HBW.out⟩
      have h1 := HR.out
      rw [show rnL 0 p (zs.drop p) = [] from rfl, List.append_nil] at h1
      rw [← h1]
      exact HM.out
    | succ g =>
      have hp : (p : Int) < (L : Int) := by omega
      have hpz : p < zs.length := by have := HL.out; omega
      have hne : zs.drop p ≠ [] := by
        intro e
        have := congrArg List.length e
        simp at this
        omega
      have hSz : Sl wr (.slice ao zs.length cap) zs := by rw [← HL.out]; exact HS.out.below HBW.out
      obtain ⟨a', c', hcut, hsl⟩ := cut_l wr ao zs cap p hSz (by omega)
      rw [← HL.out] at hcut
      have HSL := hide (hsl wr hSz)
      have hdok : ByteOk (zs.drop p) := HOK.out.drop p
      have hwid := dec_width hdok hne
      have hpos := decN_pos _ hne
      have hle := decN_le (zs.drop p)
      have HFI := hide (refFirst_any wr _ (zs.drop p) HSL.out hne)
      have hstep := rnL_on g p hne
      obtain ⟨m, hm⟩ : ∃ m, (zs.drop p).length = m := ⟨_, rfl⟩
      have hmL : m + p = L := by have := HL.out; rw [← hm]; simp; omega
      rw [hm] at hcut hwid HFI
      have HST : Hid (rnL (g + 1) p (zs.drop p) = (p, (decN (zs.drop p)).1) :: rnL (g + 1 - (decN (zs.drop p)).2) (p + (decN (zs.drop p)).2) (zs.drop (p + (decN (zs.drop p)).2))) := by
        show _ = _
        rw [hstep, List.drop_drop]
        congr 1
        exact rnL_fuel _ _ _ _ (by have := HL.out; simp only [List.length_drop]; omega) (by have := HL.out; simp only [List.length_drop]; omega)
      generalize decN (zs.drop p) = d at *
      obtain ⟨r, n⟩ := d
      simp only at hwid hpos hle HFI HST
      have hpi : (p : Int) + (n : Int) ≤ 100000 := by omega
      have HAP : Hid (∀ W, Below wr.heap.size wr W → ∃ w3 ao2 cap2, (Builtin.append_ #[39, 39] 39 #[.slice al k cl, .slice (some ⟨W.heap.size, 0, none⟩) 1 1]).run Tryd.prog (W.alloc (.cells #[.int .i64 (p : Int), .int .i32 (r : Int)] 44)) = .ok (.slice ao2 (k + 1) cap2) w3 ∧ Marks w3 w.heap.size (.slice ao2 (k + 1) cap2) (RR ++ [(p, r)]) ∧ Below w.heap.size w w3) := fun W hW => by
        have hMW := HM.out.below hW
        obtain ⟨v2, w3, hr, hi2, hg2, hv2, ao2, cap2, rfl⟩ := run_append_mark W w.heap.size _ _ hMW (p, r) (by have h1 := congrArg List.length HR.out; simp at h1; have h2 := HRL.out; have h3 := HL.out; omega) (by have := HBW.out.size; have := hW.size; omega)
        rw [HK.out] at hr hi2
        refine ⟨w3, ao2, cap2, hr, hi2, ?_⟩
        have hoA : Only (fun q => (Value.slice al k cl).ownBlock = some q) W w3 := ((Only.refl _ W).alloc _).grown hg2 (fun q e _ => e)
        have hbW := HBW.out.trans (hW.mono HBW.out.size)
        exact hbW.trans (hoA.below hbW.size (fun q hq e => by have h1 := (hMW.lt q e).1; omega))
      clear hstep hdok hne hm hSz hsl
      go_wp2_with (first
        | (go_at_call 17; refine HFI.out.mono ?_; rintro e w2 ⟨rfl, hb⟩; obtain ⟨w3, ao2, cap2, hap, hm3, hb3⟩ := HAP.out w2 hb; have HA3 := hide hap; have HM3 := hide hm3; have HB3 := hide hb3; clear HFI HAP hb hap hm3 hb3)
        | (at_builtin; (with_reducible refine wpList_append_run _ rfl (.tmp 19) (.tmp 23) 39 rfl _ _ ?_ ?_ _ _ HA3.out ?_); exact rfl; exact rfl; clear HA3))
      go_roundg (g + 1 - n)
      case measure => omega
      case rel =>
        refine ⟨p + n, k + 1, ao2, cap2, RR ++ [(p, r)], by omega, by go_num, rfl, by simp; have := HK.out; omega, HM3.out, ?_, HB3.out⟩
        rw [List.append_assoc, ← HR.out, HST.out]
        rfl

end Go.Proofs.YtgeclnnhblffkabDoor
