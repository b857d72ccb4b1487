/- Contract: a write waits (Write). -/
import Derived.Test.YtoplhehcjgldeaaGreatJCut
import Derived.Test.YtoplhehcjgldeaaGreatRegionL
import Derived.Maps.AppendAt
namespace Go.Proofs.YtoplhehcjgldeaaGreat
open Go.RowKit
set_option linter.unusedVariables false

def writeZero : Array Value := (wc (0, zeroPage)).toArray
theorem zeroWriteRun (w : World) : (zeroValue 88).run Tryz.prog w = .ok (.agg writeZero) w := by kernel_rfl

def wcA (p : Int) (zs : List Int) : Array Value := (Value.int .i64 p :: pc zs).toArray
theorem buildWrite (p : Int) (w : World) : (Instr.build 88 #[(0, .int .i64 p)]).run Tryz.prog w = .ok (.agg (wcA p zeroPage)) w := by kernel_rfl
theorem wcA_size (p : Int) (zs : List Int) : (wcA p zs).size = zs.length + 1 := by simp [wcA, pc_len]
theorem wcA_one (p : Int) (zs : List Int) : (wcA p zs).all (·.oneCell') = true := by
  apply all_oneCell_toArray
  intro v hv
  rcases List.mem_cons.1 hv with rfl | h
  · rfl
  · exact pc_one _ v h

/-- the copy of what is written -/
theorem run_copy_write (w : World) (p : Int) (v : Value) (zs : List Int) (S : Sl w v zs) (hl : zs.length = 256) :
    (Builtin.copy_ #[46, 46] 3 #[.slice (some ⟨w.heap.size, 1, none⟩) 256 256, v]).run Tryz.prog (w.alloc (.cells (wcA p zeroPage) 88)) = .ok (.int .i64 256) (w.alloc (.cells (wcA p zs) 88)) := by
  obtain ⟨ao, n, cap, rfl⟩ := sl_form S
  have hB : Blk (w.alloc (.cells (wcA p zeroPage) 88)) w.heap.size 88 (.int .i64 p :: pc zeroPage) := Blk.new w _ _
  have := run_copy_there (P := Tryz.prog) _ 46 3 5 Tryz.underlying46 sizeU8 w.heap.size 1 256 256 ao n cap zs (S.alloc _) (by omega) (hB.there 1 zs.length (by rw [List.length_cons, pc_len, zeroPage_ok.1]; omega))
  rw [this, hl]
  have e := setCells_new (pc zs) [.int .i64 p] w 88 (pc zeroPage) (by rw [pc_len, pc_len, hl, zeroPage_ok.1])
  unfold wcA
  simp only [List.singleton_append, List.length_singleton] at e
  rw [show zs.map (Value.int .u8) = pc zs from rfl, e]
  rfl

theorem writeCells : (Value.agg writeZero).cells.size = 257 := (wcA_size 0 zeroPage).trans (by rw [zeroPage_ok.1])
theorem infoWrite : (Tryz.prog.info? 88).map (fun i => (i.zero, i.size, i.bytes)) = some (some (.agg writeZero), 257, 264) := by kernel_rfl

/-- what a write or a sync leaves of a device -/
theorem spend_dev (w : World) (b : Nat) (F : Nat → Prop) (d : Dv) (h : Dev w b F d) (hdl : d.done < 1000000000) :
    Calls Tryz.prog 70 #[dp b] w fun e w' => e = .returned (.int .i64 (spendE d)) ∧ Dev w' b F (spendD d) ∧ Only (· = b) w w' := by
  obtain ⟨sb, cap, mb, vw, lf, D, h⟩ := h
  have key : ∀ (w' : World) (d' : Dv) (lf' : Int), d'.st = d.st → d'.ws = d.ws → DvOk d' → DiskB w' b (.slice (some ⟨sb, 0, none⟩) d.st.length cap) vw (.map (some mb)) (!d'.off) d'.left.isSome lf' d'.done → (∀ n : Nat, d'.left = some n → lf' = n) → Only (· = b) w w' → Dev w' b F d' := by
    intro w' d' lf' e1 e2 ok hB hlf ho
    refine ⟨sb, cap, mb, vw, lf', D, ok, by rw [e1]; exact hB, hlf, ?_, ?_, ?_, by rw [e2]; exact h.shown, h.fb, h.fs, h.fm, h.fw⟩
    · rw [e1]; exact ownsRow_only h.st ho (fun k hk => by simp [Value.ownBlock] at hk; subst hk; exact h.sb_ne)
    · rw [e2]; exact ownsRow_only h.ws ho (fun k hk => (h.wb_ne k hk).1)
    · rw [e2]; exact ownsMap_only h.map ho h.mb_ne.1
  have hB := h.blk
  cases hl : d.left with
  | none =>
    rw [hl] at hB
    refine (spend_calm w b _ _ _ _ lf d.done hB (by omega) (by omega)).mono ?_
    rintro e w' ⟨rfl, h1, ho⟩
    have e1 : spendD d = { d with done := d.done + 1 } := by unfold spendD; rw [hl]
    refine ⟨by simp [spendE, hl], key w' _ lf (by rw [e1]) (by rw [e1]) h.ok.spend ?_ (fun n hn => by rw [e1] at hn; exact h.lf n hn) ho, ho⟩
    rw [e1]
    show DiskB w' b _ _ _ (!d.off) d.left.isSome lf ((d.done + 1 : Nat) : Int)
    rw [hl]
    exact h1
  | some n =>
    rw [hl] at hB
    have hlf := h.lf n hl
    subst hlf
    cases n with
    | zero =>
      refine (spend_dark w b _ _ _ _ d.done hB).mono ?_
      rintro e w' ⟨rfl, h1, ho⟩
      have e1 : spendD d = { d with off := true } := by unfold spendD; rw [hl]
      refine ⟨by simp [spendE, hl], key w' _ 0 (by rw [e1]) (by rw [e1]) h.ok.spend ?_ (fun n hn => by rw [e1] at hn; exact h.lf n hn) ho, ho⟩
      rw [e1]
      show DiskB w' b _ _ _ (!true) d.left.isSome 0 (d.done : Int)
      rw [hl]
      exact h1
    | succ n =>
      have hn := h.ok.left _ hl
      refine (spend_armed w b _ _ _ _ _ d.done hB (by omega) (by omega) (by omega) (by omega)).mono ?_
      rintro e w' ⟨rfl, h1, ho⟩
      have e1 : spendD d = { d with left := some n, done := d.done + 1 } := by unfold spendD; rw [hl]
      refine ⟨by simp [spendE, hl], key w' _ (n : Int) (by rw [e1]) (by rw [e1]) h.ok.spend ?_ (fun m hm => by rw [e1] at hm; simp at hm; omega) ho, ho⟩
      rw [e1]
      show DiskB w' b _ _ _ (!d.off) true (n : Int) ((d.done + 1 : Nat) : Int)
      have e2 : ((n + 1 : Nat) : Int) - 1 = (n : Int) := by omega
      rw [e2] at h1
      exact h1

/-- one write more waits -/
theorem DvOk.more {d : Dv} (h : DvOk d) {p : Nat} {zs : List Int} (hp : p < d.st.length) (hz : PageOk zs) : DvOk { d with ws := d.ws ++ [(p, zs)] } :=
  ⟨h.pos, h.few, h.st, (fun x hx => by
    rcases List.mem_append.1 hx with hx | hx
    · exact h.ws x hx
    · simp at hx; subst hx; exact ⟨hp, hz⟩), h.left⟩

def isB (base : Nat) (cs : List Value) : Value → World → Prop := fun v w => ∃ g, v = .slice (some ⟨g, 0, none⟩) 1 1 ∧ Blk w g 88 cs ∧ base ≤ g
theorem stS_isB (S : Nat → Prop) (base : Nat) (cs : List Value) (hS : ∀ k, S k → k < base) : StS S (isB base cs) := by
  rintro v w w' ho ⟨g, hv, hB, hg⟩
  exact ⟨g, hv, hB.only ho (fun hs => by have := hS g hs; omega), hg⟩
def isA (base n : Nat) (old : Option Nat) (xs : List Value) : Value → World → Prop := fun v w => (∃ ao cap, v = .slice ao n cap) ∧ w.ownsRow 0 88 257 v n xs ∧ ∀ k, v.ownBlock = some k → old = some k ∨ base ≤ k
theorem stS_isA (base n : Nat) (old : Option Nat) (xs : List Value) : StS (fun _ => False) (isA base n old xs) := by
  rintro v w w' ho ⟨h1, h2, h3⟩
  exact ⟨h1, ownsRow_only h2 ho (fun _ _ h => h), h3⟩

set_option maxRecDepth 100000 in
set_option maxHeartbeats 2000000 in
theorem write_ok (w : World) (b : Nat) (F : Nat → Prop) (d : Dv) (p : Nat) (v : Value) (zs : List Int) (h : Dev w b F d) (hp : p < d.st.length) (hon : d.off = false) (hS : Sl w v zs) (hzl : zs.length = 256) (hwl : d.ws.length < 1000000) (hdl : d.done < 1000000000) :
    Calls Tryz.prog 82 #[dp b, .int .i64 p, v] w fun e w' => e = .returned (.int .i64 (spendE d)) ∧ Dev w' b (fun k => F k ∨ w.heap.size ≤ k) (spendD { d with ws := d.ws ++ [(p, zs)] }) ∧ Only F w w' := by
  obtain ⟨sb, cap, mb, vw, lf, D, h⟩ := h
  have c0 := h.blk.c0
  have c1 := h.blk.c1
  have c2 := h.blk.c2
  have c3 := h.blk.c3
  have hbl := Blk.lt h.blk
  rw [hon] at c3
  have hpi : (p : Int) < (d.st.length : Int) := by omega
  have HM : Hid (Calls Tryz.prog _ _ w _) := made_any w b _ cap _ c0
  rw [decide_eq_true h.ok.pos] at HM
  have HH := hide (has_yes w b _ cap _ (p : Int) c0 (by omega) hpi)
  have hfew := h.ok.few
  have hza := zeroWriteRun
  have HBW := hide (buildWrite (p : Int))
  have z1 : writeZero.size = (wcA p zeroPage).size := by rw [wcA_size]; exact (wcA_size 0 zeroPage)
  have z2 : (Tryz.prog.info? 88).map (·.size) = some (wcA p zeroPage).size := by rw [wcA_size, zeroPage_ok.1]; exact sizeWrite
  have z3 : (Tryz.prog.info? 88).map (·.size) = some (wc (p, zs)).length := by rw [wc_len, hzl]; exact sizeWrite
  have HZ1 := hide z1
  have HZ2 := hide z2
  have HZ3 := hide (wcA_one p zeroPage)
  have HZ4 := hide z3
  clear z1 z2 z3
  have hbs := hS.bytes
  have HCP := hide (run_copy_write w (p : Int) _ zs hS hzl)
  obtain ⟨ao, cp, rfl⟩ := sl_form' hS
  have HOK := hide (h.ok.more (p := p) (zs := zs) hp ⟨hzl, hbs⟩)
  -- the map
  obtain ⟨w2, hrun, hown2, hg2⟩ := ((h.map.alloc (.cells (wcA p zs) 88)).drew).update keyedInt Tryz.underlying52 (by unfold maxLen; omega) (keyInt p (by omega)) (plainElem_int (H := Unit) Tryz.underlying3 (a := (d.ws.length : Int)) (WalkArith.wf_i64 (by omega)))
  have ho2 : Only (· = mb) w w2 := (((Only.refl (· = mb) w).alloc (.cells (wcA p zs) 88)).drew).grown hg2 (fun k hk _ => (by cases hk; rfl))
  have hsz2 : w.heap.size < w2.heap.size := by
    have := hg2.size
    simp at this
    omega
  have hL2 : Blk w2 w.heap.size 88 (wc (p, zs)) := by
    have := Blk.new w 88 (wc (p, zs))
    exact (hg2.block w.heap.size (by simp) (by have := h.map.lt; intro e; simp at e; omega)).trans this
  have hblk2 := DiskB.only h.blk ho2 (Ne.symm h.mb_ne.1)
  have hws2 := ownsRow_only h.ws ho2 (fun k hk e => h.mb_ne.2.2 (by rw [hk, e]))
  obtain ⟨aw, cw, rfl⟩ := own_form' h.ws
  have hlw := own_len h.ws
  have hS1 : ∀ k, (Value.slice aw d.ws.length cw).ownBlock = some k → k < w.heap.size ∧ k ≠ b ∧ k ≠ sb ∧ k ≠ mb := fun k hk => ⟨(h.ws.lt k hk).2, (h.wb_ne k hk).1, (h.wb_ne k hk).2, fun e => h.mb_ne.2.2 (by rw [hk, e])⟩
  have c1' := hblk2.c1
  -- cells that stay while the waiting row is written
  have HC1 : Hid (∀ wx, Only (fun k => (Value.slice aw d.ws.length cw).ownBlock = some k) w2 wx → wx.cell? ⟨b, 1, none⟩ = some (.slice aw d.ws.length cw)) := fun wx ho => (DiskB.only hblk2 ho (fun hk => (hS1 b hk).2.1 rfl)).c1
  have HF1 : Hid (∀ wx, Only (fun k => (Value.slice aw d.ws.length cw).ownBlock = some k) w2 wx → wx.frozen? ⟨b, 1, none⟩ = false) := fun wx ho => Blk.frozen (DiskB.only hblk2 ho (fun hk => (hS1 b hk).2.1 rfl)) 1
  have HLR : Hid (∀ wx, Only (fun k => (Value.slice aw d.ws.length cw).ownBlock = some k) w2 wx → wx.rangeAt w.heap.size 0 (wc (p, zs))) := fun wx ho => (hL2.only ho (fun hk => by have := (hS1 w.heap.size hk).1; omega)).range 0 _ (fun j _ => by rw [Nat.zero_add])
  have HWS : Hid (∀ wx, Only (fun k => False) w2 wx → wx.ownsRow 0 88 257 (.slice aw d.ws.length cw) d.ws.length (flatW d.ws)) := fun wx ho => ownsRow_only hws2 ho (fun _ _ h => h)
  have HBO : Hid (∀ wx, (Instr.buildSlice 53 1 #[(0, .agg (wcA p zs))]).run Tryz.prog wx = .ok (.slice (some ⟨wx.heap.size, 0, none⟩) 1 1) (wx.alloc (.cells (wc (p, zs)).toArray 88))) := by
    intro wx
    obtain ⟨i1, hi, hz0, hz1, hz2⟩ := info_parts infoWrite
    exact run_build_one wx 53 88 i1 _ (wc (p, zs)) Tryz.underlying53 hi hz0 (by rw [hz1, wc_len, hzl]) (by rw [wc_len]; omega) (by rw [wc_len, hzl]; omega)
  have HAP : Hid (∀ wx g, Only (fun k => False) w2 wx → Blk wx g 88 (wc (p, zs)) → w.heap.size ≤ g → ∃ u wy, (Builtin.append_ #[53, 53] 53 #[.slice aw d.ws.length cw, .slice (some ⟨g, 0, none⟩) 1 1]).run Tryz.prog wx = .ok u wy ∧ Only (fun k => (Value.slice aw d.ws.length cw).ownBlock = some k) wx wy ∧ isA w.heap.size (d.ws.length + 1) ((Value.slice aw d.ws.length cw).ownBlock) (flatW (d.ws ++ [(p, zs)])) u wy) := by
    intro wx g ho hB hg
    obtain ⟨i1, hi, hz0, hz1, hz2⟩ := info_parts infoWrite
    have hown := ownsRow_only hws2 ho (fun _ _ h => h)
    obtain ⟨u, wy, hr, h1, h2, _, h4⟩ := run_append_own_at (P := Tryz.prog) wx 0 53 53 88 i1 _ 257 264 Tryz.underlying53 hi hz0 hz1 hz2 writeCells (by decide) _ _ _ hown ⟨g, 0, none⟩ 1 1 (wc (p, zs)) (by rw [wc_len, hzl]) (fun j v hv => by rw [Addr.add_mid, Nat.zero_add, hB.cell]; exact hv) (wc_one _) (by unfold maxLen; omega) (by omega) (Nat.zero_le _)
    refine ⟨u, wy, hr, (Only.refl _ wx).grown h2 (fun k hk _ => hk), ?_, ?_, fun k hk => ?_⟩
    · exact own_form' h1
    · rw [flatW_snoc]; exact h1
    · rcases h4 with h4 | h4
      · left; rw [← h4]; exact hk
      · right; rw [h4] at hk; cases hk; have := ho.size; omega
  have HX := hide h
  have HO2 := hide ho2
  have HB2 := hide hblk2
  have HMP2 := hide hown2
  have HS1 := hide hS1
  have hdl' := hdl
  clear h hS hblk2 hws2 hown2 hL2 hg2 ho2 hS1
  rw [hzl] at HCP ⊢
  go_enter Tryz.func82, Tryz.ntmps82
  go_wp2_with (first
      | ((with_reducible refine wpList_copy_run rfl (.tmp 31) (.tmp 32) 46 46 rfl _ _ ?_ ?_ _ _ HCP.out ?_); exact rfl; exact rfl; clear HCP HZ1 HZ2 HZ3 HBW)
      | ((with_reducible refine wpList_build1 rfl 88 0 (.tmp 28) rfl (.int .i64 p) (.agg (wcA p zeroPage)) ?_ (HBW.out _) ?_); exact rfl)
      | ((with_reducible refine wpList_store_new rfl 88 (.tmp 7) (.tmp 29) rfl writeZero (wcA p zeroPage) 88 ?_ ?_ HZ1.out HZ2.out HZ3.out ?_); exact rfl; exact rfl)
      | (go_at_call 47; refine HM.out.mono ?_; rintro e w1 ⟨rfl, hw⟩; subst w1; clear HM)
      | (go_at_call 48; refine HH.out.mono ?_; rintro e w1 ⟨rfl, hw⟩; subst w1; clear HH))
  simp only [Act.put, List.setIfInBounds_toArray, List.set_cons_succ, List.set_cons_zero]
  go_region
  clear hrun
  go_wp2_with fail
  refine wp_region_only (fun k => (Value.slice aw d.ws.length cw).ownBlock = some k) [isV (.pointer (some ⟨b, 0, none⟩)), isV (.pointer (some ⟨b, 0, none⟩)), isV (.pointer (some ⟨b, 0, none⟩)), isV (.pointer (some ⟨b, 1, none⟩)), isV (.slice aw d.ws.length cw), isV (.agg (wcA p zs)), isB w.heap.size (wc (p, zs)), isA w.heap.size (d.ws.length + 1) ((Value.slice aw d.ws.length cw).ownBlock) (flatW (d.ws ++ [(p, zs)])), isV (.pointer (some ⟨b, 0, none⟩)), isV (.pointer (some ⟨b, 1, none⟩))] 7 56 10 (by kernel_rfl) (by kernel_rfl) (by kernel_rfl) (by kernel_rfl) rfl ?_ ?_ ?_
  · repeat (first | exact trivial | refine allStL_isV ?_ | refine ⟨stS_isB _ _ _ (fun _ h => h.elim), fun _ => stS_isB _ _ _ (fun k hk => (HS1.out k hk).1), ?_⟩ | refine ⟨stS_isA _ _ _ _, fun h => absurd rfl h, ?_⟩)
  · refine ⟨?_, ?_, ?_, ?_, ?_, ?_, ?_, ?_, ?_, ?_, trivial⟩
    · intro a wx h
      have e0 : a.eval (.tmp 0) = .pointer (some ⟨b, 0, none⟩) := h.old 0 (by kernel_rfl)
      have hrel := h.rel
      clear h
      refine gives_by rfl a.eval rfl ?_
      generalize a.eval = ρ at *
      intro hf hc
      go_simp
      exact ⟨relM_quiet (by decide) (Only.refl _ _), rfl⟩
    · intro a wx h
      have e0 : a.eval (.tmp 0) = .pointer (some ⟨b, 0, none⟩) := h.old 0 (by kernel_rfl)
      have hrel := h.rel
      clear h
      refine gives_by rfl a.eval rfl ?_
      generalize a.eval = ρ at *
      intro hf hc
      go_simp
      exact ⟨relM_quiet (by decide) (Only.refl _ _), rfl⟩
    · intro a wx h
      obtain ⟨v45, e45, f45⟩ := h.val 1 45 (by kernel_rfl)
      obtain rfl : v45 = .pointer (some ⟨b, 0, none⟩) := f45
      have hrel := h.rel
      clear h
      refine gives_by rfl a.eval rfl ?_
      generalize a.eval = ρ at *
      intro hf hc
      go_simp
      exact ⟨relM_quiet (by decide) (Only.refl _ _), rfl⟩
    · intro a wx h
      obtain ⟨v46, e46, f46⟩ := h.val 2 46 (by kernel_rfl)
      obtain rfl : v46 = .pointer (some ⟨b, 0, none⟩) := f46
      have hrel := h.rel
      clear h
      refine gives_by rfl a.eval rfl ?_
      generalize a.eval = ρ at *
      intro hf hc
      go_simp
      exact ⟨relM_quiet (by decide) (Only.refl _ _), rfl⟩
    · intro a wx h
      obtain ⟨v47, e47, f47⟩ := h.val 3 47 (by kernel_rfl)
      obtain rfl : v47 = .pointer (some ⟨b, 1, none⟩) := f47
      have hrel := h.rel
      clear h
      have c1x := HC1.out wx hrel
      refine gives_by rfl a.eval rfl ?_
      generalize a.eval = ρ at *
      intro hf hc
      go_simp
      exact ⟨relM_quiet (by decide) (Only.refl _ _), rfl⟩
    · intro a wx h
      have e7 : a.eval (.tmp 7) = .pointer (some ⟨w.heap.size, 0, none⟩) := h.old 7 (by kernel_rfl)
      have hrel := h.rel
      clear h
      exact gives_of_run rfl (exec_load_mid 88 (.tmp 7) rfl w.heap.size 0 e7 (wc (p, zs)) _ (HLR.out wx hrel) Tryz.underlying88 rfl HZ4.out) ⟨relM_quiet (by decide) (Only.refl _ _), rfl⟩
    · intro a wx h
      obtain ⟨v49, e49, f49⟩ := h.val 5 49 (by kernel_rfl)
      obtain rfl : v49 = .agg (wcA p zs) := f49
      have hrel := h.rel
      clear h
      exact gives_of_run rfl (exec_buildSlice1 53 1 (.tmp 49) rfl _ _ e49 (HBO.out wx)) ⟨relM_quiet (by decide) ((Only.refl _ _).alloc _), ⟨_, rfl, Blk.new wx _ _, by have := hrel.size; omega⟩⟩
    · intro a wx h
      obtain ⟨v48, e48, f48⟩ := h.val 4 48 (by kernel_rfl)
      obtain rfl : v48 = .slice aw d.ws.length cw := f48
      obtain ⟨v50, e50, f50⟩ := h.val 6 50 (by kernel_rfl)
      obtain ⟨g, rfl, hB, hg⟩ := f50
      have hrel := h.rel
      have hq := h.relq rfl
      clear h
      obtain ⟨u, wy, hr, h1, h2⟩ := HAP.out wx g hq hB hg
      exact gives_of_run rfl (exec_append (.tmp 48) (.tmp 50) 53 rfl _ _ e48 e50 u hr) ⟨relM_turn h1, h2⟩
    · intro a wx h
      obtain ⟨v44, e44, f44⟩ := h.val 0 44 (by kernel_rfl)
      obtain rfl : v44 = .pointer (some ⟨b, 0, none⟩) := f44
      have hrel := h.rel
      clear h
      refine gives_by rfl a.eval rfl ?_
      generalize a.eval = ρ at *
      intro hf hc
      go_simp
      exact ⟨relM_quiet (by decide) (Only.refl _ _), rfl⟩
    · intro a wx h
      obtain ⟨v52, e52, f52⟩ := h.val 8 52 (by kernel_rfl)
      obtain rfl : v52 = .pointer (some ⟨b, 0, none⟩) := f52
      have hrel := h.rel
      clear h
      refine gives_by rfl a.eval rfl ?_
      generalize a.eval = ρ at *
      intro hf hc
      go_simp
      exact ⟨relM_quiet (by decide) (Only.refl _ _), rfl⟩
  · intro oL hoL vals w3 ho3 hv
    simp only [List.getElem?_toArray, List.getElem?_cons_succ, List.getElem?_cons_zero, Option.some.injEq] at hoL
    subst hoL
    have hv7 : isA w.heap.size (d.ws.length + 1) ((Value.slice aw d.ws.length cw).ownBlock) (flatW (d.ws ++ [(p, zs)])) (vals 7) w3 := hv 7 51 (by decide) (by kernel_rfl)
    have hv9 : vals 9 = .pointer (some ⟨b, 1, none⟩) := hv 9 53 (by decide) (by kernel_rfl)
    clear hv
    generalize hact : putAll _ vals 0 _ = act
    obtain ⟨⟨au, cu, hu⟩, hown3, hloc⟩ := hv7
    subst hact
    have k1 := HC1.out w3 ho3
    have k2 := HF1.out w3 ho3
    simp only [List.dropLast, putAll, Act.put, List.setIfInBounds_toArray, List.set_cons_zero, List.set_cons_succ, hv9, hu]
    rw [hu] at hown3 hloc
    refine gives_of_skip rfl (w' := w3.setCell ⟨b, 1, none⟩ (.slice au (d.ws.length + 1) cu)) (by go_simp) ?_
    clear hv9 hu k1 k2
    have hX := HX.out
    have hne := HS1.out
    have hnb : ¬ (Value.slice aw d.ws.length cw).ownBlock = some b := fun hk => (hne b hk).2.1 rfl
    have hns : ¬ (Value.slice aw d.ws.length cw).ownBlock = some sb := fun hk => (hne sb hk).2.2.1 rfl
    have hnm : ¬ (Value.slice aw d.ws.length cw).ownBlock = some mb := fun hk => (hne mb hk).2.2.2 rfl
    have hB3 := Blk.set (Blk.only HB2.out ho3 hnb) 1 (.slice au (d.ws.length + 1) cu)
    have hoS : Only (· = b) w3 (w3.setCell ⟨b, 1, none⟩ (.slice au (d.ws.length + 1) cu)) := (Only.refl (· = b) w3).setCell ⟨b, 1, none⟩ _ (fun _ => rfl)
    have hau : ∀ k, (Value.slice au (d.ws.length + 1) cu).ownBlock = some k → k ≠ b ∧ (F k ∨ w.heap.size ≤ k) := by
      intro k hk
      rcases hloc k hk with h | h
      · exact ⟨(hne k h).2.1, .inl (hX.fw k h)⟩
      · exact ⟨by omega, .inr h⟩
    have hD3 : Dev (w3.setCell ⟨b, 1, none⟩ (.slice au (d.ws.length + 1) cu)) b (fun k => F k ∨ w.heap.size ≤ k) { d with ws := d.ws ++ [(p, zs)] } := by
      have hl1 : (d.ws ++ [(p, zs)]).length = d.ws.length + 1 := by simp
      refine ⟨sb, cap, mb, .slice au (d.ws.length + 1) cu, lf, _, HOK.out, hB3, hX.lf, ?_, ?_, ?_, shown_snoc hX.shown hX.map.isMap (p, zs), .inl hX.fb, .inl hX.fs, .inl hX.fm, fun k hk => (hau k hk).2⟩
      · exact ownsRow_only (ownsRow_only (ownsRow_only hX.st HO2.out (fun k hk => by simp [Value.ownBlock] at hk; subst hk; exact Ne.symm hX.mb_ne.2.1)) ho3 (fun k hk => by simp [Value.ownBlock] at hk; subst hk; exact hns)) hoS (fun k hk => by simp [Value.ownBlock] at hk; subst hk; exact hX.sb_ne)
      · show World.ownsRow _ 0 _ 257 _ (d.ws ++ [(p, zs)]).length _
        rw [hl1]
        exact ownsRow_only hown3 hoS (fun k hk => (hau k hk).1)
      · show World.ownsMap _ _ _ _ mb (d.ws ++ [(p, zs)]).length _
        rw [hl1]
        exact ownsMap_only (ownsMap_only HMP2.out ho3 hnm) hoS hX.mb_ne.1
    have hF3 : Only F w (w3.setCell ⟨b, 1, none⟩ (.slice au (d.ws.length + 1) cu)) :=
      ((HO2.out.mono (fun k _ e => by rw [e]; exact hX.fm)).trans ho3 (fun k _ hk => hX.fw k hk)).trans hoS (fun k _ e => by rw [e]; exact hX.fb)
    have HSP := hide (spend_dev _ b _ _ hD3 hdl)
    have hfb := hX.fb
    clear hX hne hnb hns hnm hB3 hoS hau hD3 hown3 hloc HX HS1 HB2 HO2 HMP2 HC1 HF1 HLR HWS HBO HAP HOK ho3
    go_wp2_with (go_at_call 70; refine HSP.out.mono ?_; rintro e w4 ⟨rfl, hd4, ho4⟩; clear HSP)
    go_ret
    exact ⟨rfl, hd4, hF3.trans ho4 (fun k _ e => by rw [e]; exact hfb)⟩

end Go.Proofs.YtoplhehcjgldeaaGreat
