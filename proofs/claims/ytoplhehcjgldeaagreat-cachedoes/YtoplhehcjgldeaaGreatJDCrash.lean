/- Contract: a crash (Crash). -/
import Derived.Test.YtoplhehcjgldeaaGreatJDWrite
namespace Go.Proofs.YtoplhehcjgldeaaGreat
open Go.RowKit
set_option linter.unusedVariables false
set_option maxRecDepth 100000

def mixN (c : Int) : Nat := c.toNat % 5 * 64
def mixS (x r : List Int) (n : Nat) : List Int := x.take n ++ r.drop n
def crashK (st : List (List Int)) (ws : List (Nat × List Int)) (pk : List Int) : Nat → List (List Int)
  | 0 => st
  | k + 1 => (crashK st ws pk k).set (wAt ws k).1 (mixS (wAt ws k).2 (sAt (crashK st ws pk k) (wAt ws k).1) (mixN (pk.getD k 0)))
def crashD (d : Dv) (pk : List Int) : Dv := ⟨crashK d.st d.ws pk d.ws.length, [], false, none, d.done⟩

theorem mixN_le (c : Int) : mixN c ≤ 256 := by unfold mixN; omega
theorem mixS_ok {x r : List Int} {n : Nat} (hx : PageOk x) (hr : PageOk r) (hn : n ≤ 256) : PageOk (mixS x r n) := by
  refine ⟨?_, (hx.2.take n).append' (hr.2.drop n)⟩
  unfold mixS
  rw [List.length_append, List.length_take, List.length_drop, hx.1, hr.1]; omega
theorem crashK_len (st : List (List Int)) (ws : List (Nat × List Int)) (pk : List Int) : ∀ k, (crashK st ws pk k).length = st.length
  | 0 => rfl
  | k + 1 => by rw [crashK, List.length_set, crashK_len st ws pk k]
theorem crashK_ok {st : List (List Int)} {ws : List (Nat × List Int)} (pk : List Int) (h : ∀ r ∈ st, PageOk r) (hw : ∀ x ∈ ws, x.1 < st.length ∧ PageOk x.2) : ∀ k, k ≤ ws.length → ∀ r ∈ crashK st ws pk k, PageOk r
  | 0, _ => h
  | k + 1, hk => by
    have ih := crashK_ok pk h hw k (by omega)
    have hx := hw _ (List.getElem_mem (show k < ws.length by omega))
    rw [← wAt_lt (show k < ws.length by omega)] at hx
    intro r hr
    rw [crashK] at hr
    rcases List.mem_or_eq_of_mem_set hr with h1 | rfl
    · exact ih r h1
    · refine mixS_ok hx.2 ?_ (mixN_le _)
      rw [sAt_lt (by rw [crashK_len]; exact hx.1)]
      exact ih _ (List.getElem_mem _)
theorem set_same (st : List (List Int)) (p : Nat) : st.set p (sAt st p) = st := by
  apply List.ext_getElem?
  intro i
  rw [List.getElem?_set]
  split
  · rename_i h
    subst h
    split
    · rename_i h
      rw [sAt_lt h, List.getElem?_eq_getElem h]
    · rename_i h
      rw [List.getElem?_eq_none (by omega)]
  · rfl
theorem crashK_beyond (st : List (List Int)) (ws : List (Nat × List Int)) (pk : List Int) (k : Nat) (h : pk.length ≤ k) : ∀ j, crashK st ws pk (k + j) = crashK st ws pk k
  | 0 => rfl
  | j + 1 => by
    rw [← Nat.add_assoc, crashK, getD_ge pk (by omega), crashK_beyond st ws pk k h j]
    have e : mixN 0 = 0 := rfl
    rw [e]
    unfold mixS
    rw [List.take_zero, List.drop_zero, List.nil_append, set_same]
theorem crashK_end (st : List (List Int)) (ws : List (Nat × List Int)) (pk : List Int) (m : Nat) (hm : m = min pk.length ws.length) : crashK st ws pk m = crashK st ws pk ws.length := by
  by_cases h : pk.length ≤ ws.length
  · have := crashK_beyond st ws pk m (by omega) (ws.length - m)
    rw [show m + (ws.length - m) = ws.length by omega] at this
    exact this.symm
  · rw [show m = ws.length by omega]
theorem crashD_ok {d : Dv} (h : DvOk d) (pk : List Int) : DvOk (crashD d pk) :=
  ⟨by show 0 < (crashK _ _ _ _).length; rw [crashK_len]; exact h.pos, by show (crashK _ _ _ _).length ≤ 2048; rw [crashK_len]; exact h.few, crashK_ok pk h.st h.ws _ (Nat.le_refl _), (fun x hx => by cases hx), (fun n hn => by cases hn)⟩

theorem sl_of_range {w : World} {g o cap : Nat} {zs : List Int} (h : w.rangeAt g o (pc zs)) (hb : ByteOk zs) (hl : zs.length ≤ cap) (hm : cap ≤ maxLen) : Sl w (.slice (some ⟨g, o, none⟩) zs.length cap) zs :=
  ⟨hb, some ⟨g, o, none⟩, cap, rfl, hl, hm, (fun h => by cases h), fun _ => ⟨g, o, rfl, fun i hi => h i _ (by unfold pc; rw [List.getElem?_map, List.getElem?_eq_getElem hi, getD_lt zs hi]; rfl)⟩⟩
theorem range_take {w : World} {g o : Nat} {zs : List Int} (h : w.rangeAt g o (pc zs)) (n : Nat) : w.rangeAt g o (pc (zs.take n)) := fun j v hj => h j v (by
  unfold pc at hj ⊢
  rw [List.getElem?_map] at hj ⊢
  rw [List.getElem?_take] at hj
  split at hj
  · exact hj
  · simp at hj)

/-- a device, behind its restart -/
theorem restart_dev (w : World) (b : Nat) (F : Nat → Prop) (sb cap mb : Nat) (vw : Value) (on armed : Bool) (lf : Int) (D : DataW Unit) (n : Nat) (d' : Dv) (ok : DvOk d') (hws : d'.ws = []) (hoff : d'.off = false) (hleft : d'.left = none)
    (hB : DiskB w b (.slice (some ⟨sb, 0, none⟩) d'.st.length cap) vw (.map (some mb)) on armed lf d'.done) (hst : w.ownsRow 0 85 256 (.slice (some ⟨sb, 0, none⟩) d'.st.length cap) d'.st.length (flatS d'.st))
    (hm : w.ownsMap Tryz.prog 3 (plainElem Tryz.prog 3) mb n D) (fb : F b) (fs : F sb) (fm : F mb) (hmb : mb ≠ b ∧ mb ≠ sb) (hsb : sb ≠ b) :
    Calls Tryz.prog 73 #[dp b] w fun e w' => e = .returned (.tuple #[]) ∧ Dev w' b F d' ∧ Only (fun k => k = b ∨ k = mb) w w' := by
  obtain ⟨es, clock, hb, hfit, _, _⟩ := hm
  refine (restart_any w b mb _ _ _ _ _ _ es clock hB hb).mono ?_
  rintro e w' ⟨rfl, h1, h2, ho⟩
  refine ⟨rfl, ⟨sb, cap, mb, .slice none 0 0, 0, .map [], ok, ?_, (fun m hm => by rw [hleft] at hm; cases hm), ownsRow_only hst ho (fun k hk => by simp [Value.ownBlock] at hk; subst hk; omega), ?_, ?_, by rw [hws]; exact shown_nil, fb, fs, fm, (fun k hk => by cases hk)⟩, ho⟩
  · rw [hoff, hleft]; exact h1
  · rw [hws]; exact World.ownsRow_nil _ _ _ _
  · rw [hws]
    exact ⟨#[], clock, h2, ⟨by simp, MapKept.stamped_empty clock, by simp⟩, Nat.le_refl _, rfl⟩

theorem wcA_of (x : Nat × List Int) : wcA (x.1 : Int) x.2 = (wc x).toArray := rfl

set_option maxHeartbeats 2000000 in
theorem crash_any (w : World) (b : Nat) (F : Nat → Prop) (d : Dv) (v : Value) (pk : List Int) (h : Dev w b F d) (hS : Sl w v pk) (hv : pk ≠ [] → ∀ k, v.ownBlock = some k → ¬ F k) :
    Calls Tryz.prog 38 #[dp b, v] w fun e w' => e = .returned (.int .i64 0) ∧ Dev w' b F (crashD d pk) ∧ Only F w w' := by
  obtain ⟨sb, cap, mb, vw, lf, D, h⟩ := h
  have c0 := h.blk.c0
  have c1 := h.blk.c1
  have hbl := Blk.lt h.blk
  have HM : Hid (Calls Tryz.prog _ _ w _) := made_any w b _ cap _ c0
  rw [decide_eq_true h.ok.pos] at HM
  obtain ⟨ao, cp, rfl⟩ := sl_form' hS
  have hcp := (sl_cap hS).2
  obtain ⟨aw, cw, rfl⟩ := own_form' h.ws
  have hlw := own_len h.ws
  obtain ⟨m, hm⟩ : ∃ m, m = min pk.length d.ws.length := ⟨_, rfl⟩
  have hmp : m ≤ pk.length := by omega
  have hmw : m ≤ d.ws.length := by omega
  have hmin : ∀ (ts : Array TypeId) (t : TypeId) (wx : World), (Builtin.min_ ts t #[.int .i64 (pk.length : Int), .int .i64 (d.ws.length : Int)]).run Tryz.prog wx = .ok (.int .i64 (m : Int)) wx := by
    intro ts t wx
    rw [run_min_int2]
    congr 2
    split <;> omega
  have hcut : ∀ wx, (Instr.slice 53 (.slice aw d.ws.length cw) none (some (.int .i64 (m : Int))) none).run Tryz.prog wx = .ok (.slice aw m cw) wx := cut_head 53 88 257 Tryz.underlying53 sizeWrite aw d.ws.length cw m (by omega) hlw.2
  have hfew := h.ok.few
  have HE := hide (crashK_end d.st d.ws pk m hm)
  have hsbF := hv
  have HX := hide h
  have HS := hide hS
  have HV := hide hv
  have hmax : maxLen = 9223372036854775807 := rfl
  rw [hmax] at hlw hcp
  clear hm h hS hv hsbF hmax
  go_enter Tryz.func38, Tryz.ntmps38
  go_wp2_with (go_at_call 47; refine HM.out.mono ?_; rintro e w1 ⟨rfl, hw⟩; subst w1; clear HM)
  go_region
  clear hmin hcut c0 c1
  go_wp2
  go_loopg [25] m (fun g i wr => ∃ k : Nat, g + k = m ∧ i = .int .i64 k ∧ Only (fun j => j = sb) w wr ∧ wr.ownsRow 0 85 256 (.slice (some ⟨sb, 0, none⟩) d.st.length cap) d.st.length (flatS (crashK d.st d.ws pk k)))
  case atStart => exact ⟨0, by omega, rfl, (Only.refl _ _).drew, HX.out.st⟩
  case round =>
    obtain ⟨k, hk, rfl, ho, hst⟩ := hrel
    have hX := HX.out
    have hkl : k ≤ m := by omega
    have hBr : DiskB wr b _ _ _ _ _ _ _ := hX.blk.only ho (Ne.symm hX.sb_ne)
    have HBr := hide hBr
    have HO := hide ho
    have HST := hide hst
    cases gk with
    | zero =>
      obtain rfl : k = m := by omega
      have HR := hide (restart_dev wr b F sb cap mb _ _ _ _ D _ (crashD d pk) (crashD_ok hX.ok pk) rfl rfl rfl (by show DiskB wr b (.slice _ (crashK d.st d.ws pk d.ws.length).length cap) _ _ _ _ _ _; rw [crashK_len]; exact hBr)
        (by show wr.ownsRow 0 _ 256 (.slice _ (crashK d.st d.ws pk d.ws.length).length cap) (crashK d.st d.ws pk d.ws.length).length _; rw [crashK_len]; show wr.ownsRow 0 _ 256 _ _ (flatS (crashK d.st d.ws pk d.ws.length)); rw [← HE.out]; exact hst)
        (ownsMap_only hX.map ho hX.mb_ne.2.1) hX.fb hX.fs hX.fm ⟨hX.mb_ne.1, hX.mb_ne.2.1⟩ hX.sb_ne)
      have HF : Hid (Only F w wr) := ho.mono (fun j _ e => by rw [e]; exact hX.fs)
      have HFF : Hid (∀ j, j = b ∨ j = mb → F j) := fun j hj => by rcases hj with rfl | rfl; exact hX.fb; exact hX.fm
      clear hX hBr hst ho
      go_wp2_with (go_at_call 73; refine HR.out.mono ?_; rintro e w4 ⟨rfl, hd4, ho4⟩; clear HR)
      go_ret
      exact ⟨rfl, hd4, HF.out.trans ho4 (fun j _ hj => HFF.out j hj)⟩
    | succ g =>
      have hkm : k < m := by omega
      have hki : (k : Int) < (m : Int) := by omega
      have hkw : k < d.ws.length := by omega
      have hkp : k < pk.length := by omega
      have hkpi : (k : Int) < (pk.length : Int) := by omega
      have hwr := ownsRow_only hX.ws ho (fun j hj => (hX.wb_ne j hj).2)
      have hx := hX.ok.wait hkw
      have hstl := crashK_len d.st d.ws pk k
      have hsok := crashK_ok pk hX.ok.st hX.ok.ws k (by omega)
      have hSr := HS.out.only ho (fun j hj e => HV.out (by intro h; simp [h] at hkp) j hj (by rw [e]; exact hX.fs))
      rcases own_form hX.ws with ⟨_, h0⟩ | ⟨wb, cwb, hvw⟩
      · omega
      simp only [Value.slice.injEq, true_and] at hvw
      obtain ⟨rfl, rfl⟩ := hvw
      have hR1 := own_range hwr (k * 257) (wc (wAt d.ws k)) (flatW_get (fun x hx => (hX.ok.ws x hx).2) hkw)
      have e1 : crashK d.st d.ws pk (k + 1) = (crashK d.st d.ws pk k).set (wAt d.ws k).1 (mixS (wAt d.ws k).2 (sAt (crashK d.st d.ws pk k) (wAt d.ws k).1) (mixN (pk.getD k 0))) := rfl
      obtain ⟨⟨A, X⟩, hAX⟩ : ∃ y, y = wAt d.ws k := ⟨_, rfl⟩
      rw [← hAX] at hx hR1 e1
      obtain ⟨hA, hXok⟩ := hx
      simp only at hA hXok
      have hAi : (A : Int) < (d.st.length : Int) := by omega
      obtain ⟨_, ao', cp', he, _, _, _, h4⟩ := hSr
      simp only [Value.slice.injEq, true_and] at he
      obtain ⟨rfl, rfl⟩ := he
      obtain ⟨pb, po, rfl, hpc⟩ := h4 (by intro h; simp [h] at hkp)
      have cpk := hpc k hkp
      have gpk := HS.out.bytes.get k
      have hplt := World.block_lt_of_cell? wr _ cpk
      obtain ⟨c, hc⟩ : ∃ c, c = pk.getD k 0 := ⟨_, rfl⟩
      rw [← hc] at cpk gpk e1
      obtain ⟨n, hn⟩ : ∃ n, n = mixN c := ⟨_, rfl⟩
      have hnle : n ≤ 256 := by rw [hn]; exact mixN_le c
      have hnI : c % 5 * 64 = (n : Int) := by rw [hn]; unfold mixN; omega
      rw [← hn] at e1
      have hni : (n : Int) ≤ 256 := by omega
      have z3 : (Tryz.prog.info? 88).map (·.size) = some (wc (A, X)).length := by rw [wc_len, hXok.1]; exact sizeWrite
      have z4 : writeZero.size = (wc (A, X)).toArray.size := writeCells.trans (by rw [List.size_toArray, wc_len, hXok.1])
      have HZ3 := hide z3
      have HZ6 : Hid ((Tryz.prog.info? 88).map (·.size) = some (wc (A, X)).toArray.size) := z3
      have HZ4 := hide z4
      have HZ5 := hide (all_oneCell_toArray (wc_one (A, X)))
      have HR1 := hide hR1
      have HE1 := hide e1
      have hza := zeroWriteRun
      have hsl := Blk.lt hBr
      have HC0 : Hid (∀ wx, Only (fun _ => False) (wr.alloc (.cells (wc (A, X)).toArray 88)) wx → wx.cell? ⟨b, 0, none⟩ = some (.slice (some ⟨sb, 0, none⟩) d.st.length cap)) := fun wx hh => (DiskB.only (DiskB.only hBr ((Only.refl (fun _ => False) wr).alloc _) (fun h => h)) hh (fun h => h)).c0
      have HLB : Hid (∀ wx, Only (fun _ => False) (wr.alloc (.cells (wc (A, X)).toArray 88)) wx → Blk wx wr.heap.size 88 (wc (A, X))) := fun wx hh => (Blk.new wr _ _).only hh (fun h => h)
      have HCA : Hid (∀ wx, Only (fun _ => False) (wr.alloc (.cells (wc (A, X)).toArray 88)) wx → wx.cell? ⟨wr.heap.size, 0, none⟩ = some (.int .i64 (A : Int))) := fun wx hh => (HLB.out wx hh).cell 0
      have HOK := hide hsok
      have HXO := hide hXok
      have HSL := hide hstl
      have HSB : Hid (sb < wr.heap.size) := (hst.lt sb rfl).2
      clear hX hwr hAX hpc h4 hc hn z3 z4 hR1 e1 hBr ho hst hsok hXok hstl
      go_wp2_with (first
        | ((with_reducible refine wpList_load_mid rfl 88 (.tmp 28) rfl wb (k * 257) ?_ (wc (A, X)) _ HR1.out Tryz.underlying88 rfl HZ3.out ?_); exact rfl)
        | ((with_reducible refine wpList_store_new rfl 88 (.tmp 6) (.tmp 29) rfl writeZero (wc (A, X)).toArray 88 ?_ ?_ HZ4.out HZ6.out HZ5.out ?_); exact rfl; exact rfl))
      refine wp_region_only (fun _ => False) [isV (.pointer (some ⟨b, 0, none⟩)), isV (.pointer (some ⟨b, 0, none⟩)), isV (.pointer (some ⟨b, 0, none⟩)), isV (.slice (some ⟨sb, 0, none⟩) d.st.length cap), isV (.pointer (some ⟨wr.heap.size, 0, none⟩)), isV (.int .i64 (A : Int)), isV (.pointer (some ⟨sb, A * 256, none⟩)), isV (.int .i64 (n : Int)), isV (.slice (some ⟨sb, A * 256, none⟩) n 256), isV (.pointer (some ⟨wr.heap.size, 1, none⟩)), isV (.int .i64 (n : Int)), isV (.slice (some ⟨wr.heap.size, 1, none⟩) n 256)] 99 53 12 (by kernel_rfl) (by kernel_rfl) (by kernel_rfl) (by kernel_rfl) rfl ?_ ?_ ?_
      · repeat (first | exact trivial | refine allStL_isV ?_)
      · refine ⟨?_, ?_, ?_, ?_, ?_, ?_, ?_, ?_, ?_, ?_, ?_, ?_, trivial⟩
        · intro a wx h
          have e0 : a.eval (.tmp 0) = .pointer (some ⟨b, 0, none⟩) := h.old 0 (by kernel_rfl)
          have hrel := h.rel
          clear h
          refine gives_by rfl a.eval rfl ?_
          generalize a.eval = ρ at *
          intro hf hc
          go_simp
          exact ⟨relM_quiet (by decide) (Only.refl _ _), rfl⟩
        · intro a wx h
          obtain ⟨v37, e37, f37⟩ := h.val 0 37 (by kernel_rfl)
          obtain rfl : v37 = .pointer (some ⟨b, 0, none⟩) := f37
          have hrel := h.rel
          clear h
          refine gives_by rfl a.eval rfl ?_
          generalize a.eval = ρ at *
          intro hf hc
          go_simp
          exact ⟨relM_quiet (by decide) (Only.refl _ _), rfl⟩
        · intro a wx h
          obtain ⟨v38, e38, f38⟩ := h.val 1 38 (by kernel_rfl)
          obtain rfl : v38 = .pointer (some ⟨b, 0, none⟩) := f38
          have hrel := h.rel
          clear h
          refine gives_by rfl a.eval rfl ?_
          generalize a.eval = ρ at *
          intro hf hc
          go_simp
          exact ⟨relM_quiet (by decide) (Only.refl _ _), rfl⟩
        · intro a wx h
          obtain ⟨v39, e39, f39⟩ := h.val 2 39 (by kernel_rfl)
          obtain rfl : v39 = .pointer (some ⟨b, 0, none⟩) := f39
          have hrel := h.rel
          clear h
          have c0x := HC0.out wx hrel
          refine gives_by rfl a.eval rfl ?_
          generalize a.eval = ρ at *
          intro hf hc
          go_simp
          exact ⟨relM_quiet (by decide) (Only.refl _ _), rfl⟩
        · intro a wx h
          have e6 : a.eval (.tmp 6) = .pointer (some ⟨wr.heap.size, 0, none⟩) := h.old 6 (by kernel_rfl)
          have hrel := h.rel
          clear h
          refine gives_by rfl a.eval rfl ?_
          generalize a.eval = ρ at *
          intro hf hc
          go_simp
          exact ⟨relM_quiet (by decide) (Only.refl _ _), rfl⟩
        · intro a wx h
          obtain ⟨v41, e41, f41⟩ := h.val 4 41 (by kernel_rfl)
          obtain rfl : v41 = .pointer (some ⟨wr.heap.size, 0, none⟩) := f41
          have hrel := h.rel
          clear h
          have cax := HCA.out wx hrel
          refine gives_by rfl a.eval rfl ?_
          generalize a.eval = ρ at *
          intro hf hc
          go_simp
          exact ⟨relM_quiet (by decide) (Only.refl _ _), rfl⟩
        · intro a wx h
          obtain ⟨v40, e40, f40⟩ := h.val 3 40 (by kernel_rfl)
          obtain rfl : v40 = .slice (some ⟨sb, 0, none⟩) d.st.length cap := f40
          obtain ⟨v42, e42, f42⟩ := h.val 5 42 (by kernel_rfl)
          obtain rfl : v42 = .int .i64 (A : Int) := f42
          have hrel := h.rel
          clear h
          refine gives_by rfl a.eval rfl ?_
          generalize a.eval = ρ at *
          intro hf hc
          go_simp
          exact ⟨relM_quiet (by decide) (Only.refl _ _), rfl⟩
        · intro a wx h
          have e7 : a.eval (.tmp 7) = .int .i64 (n : Int) := h.old 7 (by kernel_rfl)
          have hrel := h.rel
          clear h
          refine gives_by rfl a.eval rfl ?_
          generalize a.eval = ρ at *
          intro hf hc
          go_simp
          exact ⟨relM_quiet (by decide) (Only.refl _ _), rfl⟩
        · intro a wx h
          obtain ⟨v43, e43, f43⟩ := h.val 6 43 (by kernel_rfl)
          obtain rfl : v43 = .pointer (some ⟨sb, A * 256, none⟩) := f43
          obtain ⟨v44, e44, f44⟩ := h.val 7 44 (by kernel_rfl)
          obtain rfl : v44 = .int .i64 (n : Int) := f44
          have hrel := h.rel
          clear h
          refine gives_by rfl a.eval rfl ?_
          generalize a.eval = ρ at *
          intro hf hc
          go_simp
          exact ⟨relM_quiet (by decide) (Only.refl _ _), rfl⟩
        · intro a wx h
          have e6 : a.eval (.tmp 6) = .pointer (some ⟨wr.heap.size, 0, none⟩) := h.old 6 (by kernel_rfl)
          have hrel := h.rel
          clear h
          refine gives_by rfl a.eval rfl ?_
          generalize a.eval = ρ at *
          intro hf hc
          go_simp
          exact ⟨relM_quiet (by decide) (Only.refl _ _), rfl⟩
        · intro a wx h
          have e7 : a.eval (.tmp 7) = .int .i64 (n : Int) := h.old 7 (by kernel_rfl)
          have hrel := h.rel
          clear h
          refine gives_by rfl a.eval rfl ?_
          generalize a.eval = ρ at *
          intro hf hc
          go_simp
          exact ⟨relM_quiet (by decide) (Only.refl _ _), rfl⟩
        · intro a wx h
          obtain ⟨v46, e46, f46⟩ := h.val 9 46 (by kernel_rfl)
          obtain rfl : v46 = .pointer (some ⟨wr.heap.size, 1, none⟩) := f46
          obtain ⟨v47, e47, f47⟩ := h.val 10 47 (by kernel_rfl)
          obtain rfl : v47 = .int .i64 (n : Int) := f47
          have hrel := h.rel
          clear h
          refine gives_by rfl a.eval rfl ?_
          generalize a.eval = ρ at *
          intro hf hc
          go_simp
          exact ⟨relM_quiet (by decide) (Only.refl _ _), rfl⟩
      · intro oL hoL vals w3 ho3 hv
        simp only [List.getElem?_toArray, List.getElem?_cons_succ, List.getElem?_cons_zero, Option.some.injEq] at hoL
        subst hoL
        have hv8 : vals 8 = .slice (some ⟨sb, A * 256, none⟩) n 256 := hv 8 45 (by decide) (by kernel_rfl)
        have hv11 : vals 11 = .slice (some ⟨wr.heap.size, 1, none⟩) n 256 := hv 11 48 (by decide) (by kernel_rfl)
        clear hv
        generalize hact : putAll _ vals 0 _ = act
        have hLB := HLB.out w3 ho3
        have hXok := HXO.out
        have hXl := hXok.1
        have hnl : (X.take n).length = n := by rw [List.length_take]; omega
        have hrg : w3.rangeAt wr.heap.size 1 (pc X) := hLB.range 1 (pc X) (fun j _ => by rw [Nat.add_comm]; rfl)
        have hsl : Sl w3 (.slice (some ⟨wr.heap.size, 1, none⟩) n 256) (X.take n) := by
          have := sl_of_range (cap := 256) (range_take hrg n) (hXok.2.take n) (by omega) (by unfold maxLen; omega)
          rwa [hnl] at this
        have ho3' : Only (fun _ => False) wr w3 := ((Only.refl _ wr).alloc _).trans ho3 (fun _ _ h => h)
        have hst3 := ownsRow_only HST.out ho3' (fun _ _ h => h)
        have hth := own_there hst3 (A * 256) n (by omega)
        have hrun := run_copy_there (P := Tryz.prog) w3 46 3 5 Tryz.underlying46 sizeU8 sb (A * 256) n 256 (some ⟨wr.heap.size, 1, none⟩) n 256 (X.take n) hsl (by omega) (by rw [hnl]; exact hth)
        have HRUN : Hid ((Builtin.copy_ #[46, 46] 3 #[.slice (some ⟨sb, A * 256, none⟩) n 256, .slice (some ⟨wr.heap.size, 1, none⟩) n 256]).run Tryz.prog w3 = .ok (.int .i64 ((X.take n).length : Nat)) (w3.setCells sb (A * 256) (pc (X.take n)))) := hrun
        have hst4 : (w3.setCells sb (A * 256) (pc (X.take n))).ownsRow 0 85 256 (.slice (some ⟨sb, 0, none⟩) d.st.length cap) d.st.length (flatS (crashK d.st d.ws pk (k + 1))) := by
          have := own_splice hst3 (A * 256) (pc (X.take n)) (by rw [pc_len, hnl]; omega) (fun cs hB hle => Blk.setMany _ _ _ hB hle)
          rw [flatS_part HOK.out (by rw [HSL.out]; exact hA) (X.take n) (by omega), hnl] at this
          rw [HE1.out]
          exact this
        have HST4 := hide hst4
        have ho4 : Only (fun j => j = sb) w (w3.setCells sb (A * 256) (pc (X.take n))) := Only.setCells sb _ _ _ (HO.out.trans ho3' (fun _ _ h => h.elim)) (fun _ => rfl)
        have HO4 := hide ho4
        clear hrun hst4 ho4 hth hst3 ho3' hsl hrg hXok hLB ho3
        subst hact
        simp only [List.dropLast, putAll, Act.put, List.setIfInBounds_toArray, List.set_cons_zero, List.set_cons_succ, hv8, hv11, Nat.zero_add, Nat.reduceAdd]
        refine gives_of_run rfl (exec_copy (.tmp 45) (.tmp 48) 46 46 rfl _ _ rfl rfl _ HRUN.out) ?_
        go_wp2
        go_roundg g
        case measure => omega
        case rel => exact ⟨k + 1, by omega, by go_num, HO4.out, HST4.out⟩

theorem crash_ok (w : World) (b : Nat) (F : Nat → Prop) (d : Dv) (v : Value) (pk : List Int) (h : Dev w b F d) (hS : Sl w v pk) (hv : ∀ k, v.ownBlock = some k → ¬ F k) :
    Calls Tryz.prog 38 #[dp b, v] w fun e w' => e = .returned (.int .i64 0) ∧ Dev w' b F (crashD d pk) ∧ Only F w w' := crash_any w b F d v pk h hS (fun _ => hv)

end Go.Proofs.YtoplhehcjgldeaaGreat
