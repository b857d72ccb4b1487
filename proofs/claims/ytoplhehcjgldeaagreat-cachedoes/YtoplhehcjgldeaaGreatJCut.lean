/- Cuts of a slice of bytes that is read: b[l:h], b[:h], b[l:], as run equations whose values show their form. -/
import Derived.Test.YtoplhehcjgldeaaGreatOwn
import Derived.Test.YtoplhehcjgldeaaGreatJDSmall
namespace Go.Proofs.YtoplhehcjgldeaaGreat
open Go.RowKit

theorem sl_take' {w : World} {ao : Option Addr} {zs : List Int} {cap : Nat} (n : Nat) (h : Sl w (.slice ao zs.length cap) zs) (hn : n ≤ zs.length) : Sl w (.slice ao (zs.take n).length cap) (zs.take n) := by
  have := sl_take n h hn
  rwa [show (zs.take n).length = n by simp; omega]
theorem sl_drop0' {w : World} {ao : Option Addr} {zs : List Int} {cap : Nat} (n : Nat) (h : Sl w (.slice ao zs.length cap) zs) (hn : n ≤ zs.length) (hc : cap = n) : Sl w (.slice ao (zs.drop n).length 0) (zs.drop n) := by
  have := sl_cut0 n h hn hc
  rwa [show (zs.drop n).length = zs.length - n by simp]
theorem sl_drop' {w : World} {ao : Option Addr} {zs : List Int} {cap : Nat} (n : Nat) (h : Sl w (.slice ao zs.length cap) zs) (hn : n ≤ zs.length) : Sl w (.slice (Option.map (fun x => x.add n) ao) (zs.drop n).length (cap - n)) (zs.drop n) := by
  have := sl_cut n h hn
  rwa [show (zs.drop n).length = zs.length - n by simp]
theorem sl_cap {w : World} {ao : Option Addr} {n cap : Nat} {zs : List Int} (S : Sl w (.slice ao n cap) zs) : n = zs.length ∧ zs.length ≤ cap ∧ cap ≤ maxLen := by
  obtain ⟨_, ao', cap', he, h', h2, _⟩ := S
  simp at he
  exact ⟨he.2.1, by omega, by omega⟩

theorem tySl : Tryz.prog.underlying 46 = some (.slice (Tryz.prog.elem 46)) := by kernel_rfl
theorem szSl (wx : World) : (Go.sizeOf (Tryz.prog.elem 46)).run Tryz.prog wx = .ok 1 wx := by kernel_rfl

/-- b[l:h] -/
theorem cut_lh (w : World) (ao : Option Addr) (zs : List Int) (cap l h : Nat) (S : Sl w (.slice ao zs.length cap) zs) (h1 : l ≤ h) (h2 : h ≤ zs.length) :
    ∃ a' c', (∀ wx, (Instr.slice 46 (.slice ao zs.length cap) (some (.int .i64 l)) (some (.int .i64 h)) none).run Tryz.prog wx = .ok (.slice a' ((zs.take h).drop l).length c') wx) ∧
      ∀ wx, Sl wx (.slice ao zs.length cap) zs → Sl wx (.slice a' ((zs.take h).drop l).length c') ((zs.take h).drop l) := by
  have hle := (sl_cap S).2.1
  have hlen : ((zs.take h).drop l).length = h - l := by simp; omega
  have hlt : l ≤ (zs.take h).length := by simp; omega
  by_cases hc : cap = l
  · refine ⟨ao, 0, fun wx => ?_, fun wx hS => sl_drop0' l (sl_take' h hS h2) hlt hc⟩
    rw [run_slice_lh wx 46 ao zs.length cap tySl .i64 .i64 l h (by omega) (by omega) (by omega), szSl]
    simp only [Result.andThen, sliced, Int.toNat_natCast]
    rw [if_pos hc, hlen, show cap - l = 0 by omega]
  · refine ⟨Option.map (fun x => x.add l) ao, cap - l, fun wx => ?_, fun wx hS => sl_drop' l (sl_take' h hS h2) hlt⟩
    rw [run_slice_lh wx 46 ao zs.length cap tySl .i64 .i64 l h (by omega) (by omega) (by omega), szSl]
    simp only [Result.andThen, sliced, Int.toNat_natCast]
    rw [if_neg hc, hlen, Nat.mul_one]

/-- b[l:] -/
theorem cut_l (w : World) (ao : Option Addr) (zs : List Int) (cap l : Nat) (S : Sl w (.slice ao zs.length cap) zs) (h1 : l ≤ zs.length) :
    ∃ a' c', (∀ wx, (Instr.slice 46 (.slice ao zs.length cap) (some (.int .i64 l)) none none).run Tryz.prog wx = .ok (.slice a' (zs.drop l).length c') wx) ∧
      ∀ wx, Sl wx (.slice ao zs.length cap) zs → Sl wx (.slice a' (zs.drop l).length c') (zs.drop l) := by
  have hle := (sl_cap S).2.1
  have hlen : (zs.drop l).length = zs.length - l := by simp
  by_cases hc : cap = l
  · refine ⟨ao, 0, fun wx => ?_, fun wx hS => sl_drop0' l hS h1 hc⟩
    rw [run_slice_l wx 46 ao zs.length cap tySl .i64 l (by omega) (by omega), szSl]
    simp only [Result.andThen, sliced, Int.toNat_natCast]
    rw [if_pos hc, hlen, show cap - l = 0 by omega]
  · refine ⟨Option.map (fun x => x.add l) ao, cap - l, fun wx => ?_, fun wx hS => sl_drop' l hS h1⟩
    rw [run_slice_l wx 46 ao zs.length cap tySl .i64 l (by omega) (by omega), szSl]
    simp only [Result.andThen, sliced, Int.toNat_natCast]
    rw [if_neg hc, hlen, Nat.mul_one]

/-- b[:h] -/
theorem cut_h (w : World) (ao : Option Addr) (zs : List Int) (cap h : Nat) (S : Sl w (.slice ao zs.length cap) zs) (h2 : h ≤ zs.length) :
    ∃ a' c', (∀ wx, (Instr.slice 46 (.slice ao zs.length cap) none (some (.int .i64 h)) none).run Tryz.prog wx = .ok (.slice a' (zs.take h).length c') wx) ∧
      ∀ wx, Sl wx (.slice ao zs.length cap) zs → Sl wx (.slice a' (zs.take h).length c') (zs.take h) := by
  have hle := (sl_cap S).2.1
  have hlen : (zs.take h).length = h := by simp; omega
  refine ⟨ao, cap, fun wx => ?_, fun wx hS => sl_take' h hS h2⟩
  rw [run_slice_h wx 46 ao zs.length cap tySl .i64 h (by omega) (by omega), szSl]
  simp only [Result.andThen, sliced, Int.toNat_natCast]
  rw [hlen]
  by_cases hc : cap = 0
  · rw [if_pos hc]; rfl
  · rw [if_neg hc]
    cases ao with
    | none => rfl
    | some x => simp [Addr.add]

end Go.Proofs.YtoplhehcjgldeaaGreat
/- Contract: a page's bytes, of a few (incipitlaw03.Page). -/
namespace Go.Proofs.YtoplhehcjgldeaaGreat
open Go.RowKit
set_option linter.unusedVariables false

def pageS (bs : List Int) : List Int := (List.range 256).map (fun i => bs.getD (i / 64) 0)
theorem pageS_len (bs : List Int) : (pageS bs).length = 256 := by unfold pageS; rw [List.length_map, List.length_range]
theorem pageS_ok {bs : List Int} (h : ByteOk bs) : PageOk (pageS bs) := ⟨pageS_len bs, fun z hz => by
  obtain ⟨i, _, rfl⟩ := List.mem_map.1 hz
  exact h.get _⟩
theorem pageS_get (bs : List Int) {k : Nat} (h : k < 256) : (pageS bs)[k]? = some (bs.getD (k / 64) 0) := by
  unfold pageS
  rw [List.getElem?_map, List.getElem?_range h]; rfl
/-- the page while it is filled -/
def pageK (bs : List Int) (k : Nat) : List Int := (pageS bs).take k ++ List.replicate (256 - k) 0
theorem pageK_len (bs : List Int) {k : Nat} (h : k ≤ 256) : (pageK bs k).length = 256 := by
  unfold pageK
  rw [List.length_append, List.length_take, pageS_len, List.length_replicate]; omega
theorem pageK_set (bs : List Int) {k : Nat} (h : k < 256) : (pageK bs k).set k (bs.getD (k / 64) 0) = pageK bs (k + 1) := by
  unfold pageK
  have hl : ((pageS bs).take k).length = k := by rw [List.length_take, pageS_len]; omega
  rw [List.set_append_right _ _ (by omega), hl, Nat.sub_self, show 256 - k = (256 - (k + 1)) + 1 by omega, List.replicate_succ, List.set_cons_zero]
  rw [List.take_add_one, pageS_get bs h, List.append_assoc]; rfl
theorem pageK_same (bs : List Int) {k : Nat} (h : k < 256) (hb : bs.length ≤ k / 64) : pageK bs k = pageK bs (k + 1) := by
  rw [← pageK_set bs h, getD_ge bs hb]
  unfold pageK
  have hl : ((pageS bs).take k).length = k := by rw [List.length_take, pageS_len]; omega
  rw [List.set_append_right _ _ (by omega), hl, Nat.sub_self, show 256 - k = (256 - (k + 1)) + 1 by omega, List.replicate_succ, List.set_cons_zero]

set_option maxHeartbeats 1000000 in
theorem page_any (w : World) (v : Value) (bs : List Int) (h : Sl w v bs) :
    Calls Tryz.prog 58 #[v] w fun e w' => e = .returned (.slice (some ⟨w.heap.size, 0, none⟩) 256 256) ∧ Blk w' w.heap.size 5 (pc (pageS bs)) ∧ Below w.heap.size w w' := by
  obtain ⟨i0, hi, hz0, hz1, hz2⟩ := info_parts infoU8
  have HS := hide h
  obtain ⟨ao, cap, rfl⟩ := sl_form' h
  have hcap := (sl_cap h).2
  unfold maxLen at hcap
  clear h
  go_enter Tryz.func58, Tryz.ntmps58
  go_wp2_with (at_make; refine wpList_make_full _ rfl _ _ 46 rfl w.heap.size 5 i0 (.int .u8 0) 1 Tryz.underlying46 hi hz0 hz1 _ _ _ _ 256 rfl rfl rfl rfl (by rw [hz2]; omega) (by unfold maxLen; omega) (Nat.le_refl _) ?_; intro w1 hown hg; rw [madeBytes] at hown; have HO := hide hown; have HG := hide hg; clear hown hg)
  go_loopg [9] 256 (fun g i wr => ∃ k : Nat, g + k = 256 ∧ i = .int .i64 k ∧ Blk wr w.heap.size 5 (pc (pageK bs k)) ∧ Below w.heap.size w wr)
  case atStart =>
    refine ⟨0, rfl, rfl, ?_, (Below.refl _ w).grown HG.out (Nat.le_refl _) (fun k hk => by cases hk)⟩
    have := own_heap HO.out
    unfold Blk
    rw [this]
    unfold pageK pc
    rw [List.take_zero, List.nil_append, List.map_replicate]
  case round =>
    obtain ⟨k, hk, rfl, hB, hb⟩ := hrel
    have HB := hide hB
    have Hb := hide hb
    cases gk with
    | zero =>
      obtain rfl : k = 256 := by omega
      clear hB hb
      go_wp2
      go_ret
      refine ⟨rfl, ?_, Hb.out⟩
      have := HB.out
      unfold pageK at this
      rw [List.take_of_length_le (by rw [pageS_len]; omega)] at this
      simpa using this
    | succ g =>
      have hkl : k < 256 := by omega
      have hki : (k : Int) < 256 := by omega
      have hq : (k : Int) / 64 = ((k / 64 : Nat) : Int) := by omega
      by_cases hin : k / 64 < bs.length
      · have hini : ((k / 64 : Nat) : Int) < (bs.length : Int) := by omega
        obtain ⟨q, hqq⟩ : ∃ q, q = k / 64 := ⟨_, rfl⟩
        rw [← hqq] at hq hini hin
        have HQ := hide hqq
        obtain ⟨_, ao', cap', he, _, _, _, h4⟩ := HS.out.below hb
        simp only [Value.slice.injEq, true_and] at he
        obtain ⟨rfl, rfl⟩ := he
        obtain ⟨sb, so, rfl, hc⟩ := h4 (by intro h; simp [h] at hin)
        have c1 := hc q hin
        obtain ⟨c, hcc⟩ : ∃ c, c = bs.getD q 0 := ⟨_, rfl⟩
        rw [← hcc] at c1
        have HC := hide hcc
        have ck := Blk.cell hB k
        have hl : k < (pc (pageK bs k)).length := by rw [pc_len, pageK_len bs (by omega)]; exact hkl
        rw [List.getElem?_eq_getElem hl] at ck
        generalize (pc (pageK bs k))[k] = old at ck
        have fk := Blk.frozen hB k
        clear hqq hcc hB hb h4 hc
        go_wp2
        go_roundg g
        case measure => omega
        case rel =>
          refine ⟨k + 1, by omega, by go_num, ?_, Hb.out.setCell (Nat.le_refl _) _⟩
          have := Blk.set HB.out k (.int .u8 c)
          rw [← pageK_set bs hkl, ← HQ.out, ← HC.out]
          unfold pc at this ⊢
          rw [List.map_set]
          exact this
      · have hini : ¬ ((k / 64 : Nat) : Int) < (bs.length : Int) := by omega
        obtain ⟨q, hqq⟩ : ∃ q, q = k / 64 := ⟨_, rfl⟩
        rw [← hqq] at hq hini hin
        have HQ := hide hqq
        clear hqq hB hb
        go_wp2
        go_roundg g
        case measure => omega
        case rel =>
          refine ⟨k + 1, by omega, by go_num, ?_, Hb.out⟩
          rw [← pageK_same bs hkl (by rw [← HQ.out]; omega)]
          exact HB.out

end Go.Proofs.YtoplhehcjgldeaaGreat
/- Contract: what a page shows (Read). -/
namespace Go.Proofs.YtoplhehcjgldeaaGreat
open Go.RowKit
set_option linter.unusedVariables false

theorem sizePage : (Tryz.prog.info? 85).map (·.size) = some 256 := by kernel_rfl
theorem zeroPageRun (w : World) : (zeroValue 85).run Tryz.prog w = .ok (.agg pageZero) w := by kernel_rfl
theorem pageZero_size : pageZero.size = 256 := Array.size_replicate
theorem sizeWrite : (Tryz.prog.info? 88).map (·.size) = some 257 := by kernel_rfl

theorem zeroInt (w : World) : (zeroValue 3).run Tryz.prog w = .ok (.int .i64 0) w := by kernel_rfl
theorem keyedInt : Maps.Keyed Tryz.prog 3 := Maps.int_keyed Tryz.underlying3
theorem keyInt (p : Nat) (h : p ≤ 1000000) : keyOf Tryz.prog 3 (.int .i64 p) = some (.int .i64 p) := Maps.keyOf_int_mk Tryz.underlying3 (WalkArith.wf_i64 (by omega))

/-- facts for an array that is read, and laid into a new block -/
theorem page_facts {r : List Int} (h : PageOk r) : ((Tryz.prog.info? 85).map (·.size) = some (pc r).length) ∧ ((Tryz.prog.info? 85).map (·.size) = some (pc r).toArray.size) ∧ pageZero.size = (pc r).toArray.size ∧ (pc r).toArray.all (·.oneCell') = true := by
  have hl : (pc r).length = 256 := by rw [pc_len]; exact h.1
  exact ⟨by rw [hl]; exact sizePage, by rw [List.size_toArray, hl]; exact sizePage, pageZero_size.trans (by rw [List.size_toArray, hl]), all_oneCell_toArray (pc_one r)⟩

set_option maxHeartbeats 1000000 in
theorem read_ok (w : World) (b : Nat) (F : Nat → Prop) (d : Dv) (p : Nat) (h : Dev w b F d) (hp : p < d.st.length) (hon : d.off = false) :
    Calls Tryz.prog 13 #[dp b, .int .i64 p] w fun e w' => e = .returned (.tuple #[.slice (some ⟨w.heap.size, 0, none⟩) 256 256, .int .i64 0]) ∧ Blk w' w.heap.size 85 (pc (showsD d p)) ∧ Below w.heap.size w w' := by
  obtain ⟨sb, cap, mb, vw, lf, D, h⟩ := h
  have c0 := h.blk.c0
  have c1 := h.blk.c1
  have c2 := h.blk.c2
  have c3 := h.blk.c3
  have hbl := Blk.lt h.blk
  rw [hon] at c3
  have hpi : (p : Int) < (d.st.length : Int) := by omega
  have HM : Hid (Calls Tryz.prog _ _ w _) := made_any w b _ cap _ c0
  rw [decide_eq_true h.ok.pos] at HM
  have HH := hide (has_yes w b _ cap _ (p : Int) c0 (by omega) hpi)
  have hl := (own_blk h.st).2
  have hm := hl.2.1
  have hfew := h.ok.few
  unfold maxLen at hm
  have hR := own_range h.st (p * 256) (pc (sAt d.st p)) (flatS_get h.ok.st hp)
  obtain ⟨z1, z2, z3, z4⟩ := page_facts (h.ok.row hp)
  have hza := zeroPageRun
  have HX := hide h
  have HR := hide hR
  have HZ1 := hide z1
  have HZ2 := hide z2
  have HZ3 := hide z3
  have HZ4 := hide z4
  have HK := hide (keyInt p (by omega))
  have HMP := hide h.map
  have hsh := h.shown p
  have hhas := hsh.1
  have HSH := hide hsh.2
  clear hR z1 z2 z3 z4 hl hsh
  cases hL : lastIx d.ws p with
  | none =>
    rw [hL] at hhas
    have hhas' : Maps.has D (.int .i64 p) = false := hhas
    have HS : Hid (showsD d p = sAt d.st p) := by show showsD d p = _; unfold showsD; rw [hL]
    clear h hhas hL HSH
    go_enter Tryz.func13, Tryz.ntmps13
    go_wp2_with (first
      | ((with_reducible refine wpList_load_mid rfl 85 (.tmp 29) rfl sb (p * 256) ?_ (pc (sAt d.st p)) _ HR.out Tryz.underlying85 rfl HZ1.out ?_); exact rfl)
      | ((with_reducible refine wpList_store_new rfl 85 (.tmp 6) (.tmp 30) rfl pageZero (pc (sAt d.st p)).toArray 85 ?_ ?_ HZ3.out HZ2.out HZ4.out ?_); exact rfl; exact rfl)
      | (at_lookup; refine wpList_lookup_own_ok_int _ rfl _ _ 52 rfl 3 3 .i64 keyedInt Tryz.underlying52 Tryz.underlying3 (zeroInt _) mb _ D rfl (HMP.out.alloc _) _ _ rfl HK.out ?_; intro c hat hwc; clear hat hwc HK)
      | (go_at_call 47; refine HM.out.mono ?_; rintro e w1 ⟨rfl, hw⟩; subst w1; clear HM)
      | (go_at_call 48; refine HH.out.mono ?_; rintro e w1 ⟨rfl, hw⟩; subst w1; clear HH))
    go_ret2
    rw [HS.out]
    exact ⟨rfl, Blk.new w _ _, (Below.refl _ w).alloc (Nat.le_refl _) _⟩
  | some i =>
    rw [hL] at hhas
    have hhas' : Maps.has D (.int .i64 p) = true := hhas
    obtain ⟨hi, hip⟩ := lastIx_lt _ _ _ hL
    have HS : Hid (showsD d p = (wAt d.ws i).2) := by show showsD d p = _; unfold showsD; rw [hL]
    have HA := hide (HSH.out i hL)
    have hii : (i : Int) < (d.ws.length : Int) := by omega
    rcases own_form h.ws with ⟨_, h0⟩ | ⟨g, capw, rfl⟩
    · omega
    have hlw := (own_blk h.ws).2
    have hmw := hlw.2.1
    have hmw1 := hlw.1
    unfold maxLen at hmw
    have hR2 := hide ((World.rangeAt_alloc (own_range h.ws (i * 257 + 1) (pc (wAt d.ws i).2) (flatW_bytes (fun x hx => (h.ok.ws x hx).2) hi)) (.cells (pc (sAt d.st p)).toArray 85)))
    obtain ⟨z1, z2, z3, z4⟩ := page_facts (h.ok.wait hi).2
    have hs2 : (pc (sAt d.st p)).toArray.size = (pc (wAt d.ws i).2).toArray.size := by rw [← HZ3.out, z3]
    have HY1 := hide z1
    have HY2 := hide z2
    have HY3 := hide hs2
    have HY4 := hide z4
    clear h hhas hL HSH z1 z2 z3 z4 hlw hs2 hip
    go_enter Tryz.func13, Tryz.ntmps13
    go_wp2_with (first
      | ((with_reducible refine wpList_load_mid rfl 85 (.tmp 29) rfl sb (p * 256) ?_ (pc (sAt d.st p)) _ HR.out Tryz.underlying85 rfl HZ1.out ?_); exact rfl)
      | ((with_reducible refine wpList_load_mid rfl 85 (.tmp 47) rfl g (i * 257 + 1) ?_ (pc (wAt d.ws i).2) _ hR2.out Tryz.underlying85 rfl HY1.out ?_); exact rfl)
      | ((with_reducible refine wpList_store_new rfl 85 (.tmp 6) (.tmp 30) rfl pageZero (pc (sAt d.st p)).toArray 85 ?_ ?_ HZ3.out HZ2.out HZ4.out ?_); exact rfl; exact rfl)
      | ((with_reducible refine wpList_store_new rfl 85 (.tmp 6) (.tmp 48) rfl (pc (sAt d.st p)).toArray (pc (wAt d.ws i).2).toArray 85 ?_ ?_ HY3.out HY2.out HY4.out ?_); exact rfl; exact rfl)
      | (at_lookup; refine wpList_lookup_own_ok_int _ rfl _ _ 52 rfl 3 3 .i64 keyedInt Tryz.underlying52 Tryz.underlying3 (zeroInt _) mb _ D rfl (HMP.out.alloc _) _ _ rfl HK.out ?_; intro c hat hwc; obtain rfl : c = (i : Int) := (by have := hat.symm.trans HA.out; simpa using this); clear hat hwc HK HA)
      | (go_at_call 47; refine HM.out.mono ?_; rintro e w1 ⟨rfl, hw⟩; subst w1; clear HM)
      | (go_at_call 48; refine HH.out.mono ?_; rintro e w1 ⟨rfl, hw⟩; subst w1; clear HH))
    go_ret2
    rw [HS.out]
    exact ⟨rfl, Blk.new w _ _, (Below.refl _ w).alloc (Nat.le_refl _) _⟩

end Go.Proofs.YtoplhehcjgldeaaGreat
