/- Contract: what waits is made stable (Sync). -/
import Derived.Test.YtoplhehcjgldeaaGreatJDCrash
import Derived.Test.YtoplhehcjgldeaaGreatJDWrite
namespace Go.Proofs.YtoplhehcjgldeaaGreat
open Go.RowKit
set_option linter.unusedVariables false
set_option maxRecDepth 100000

def syncK (st : List (List Int)) (ws : List (Nat × List Int)) : Nat → List (List Int)
  | 0 => st
  | k + 1 => (syncK st ws k).set (wAt ws k).1 (wAt ws k).2
def syncD (d : Dv) : Dv := match d.left with
  | some 0 => { d with off := true }
  | some (n + 1) => ⟨syncK d.st d.ws d.ws.length, [], d.off, some n, d.done + 1⟩
  | none => ⟨syncK d.st d.ws d.ws.length, [], d.off, none, d.done + 1⟩
theorem syncK_len (st : List (List Int)) (ws : List (Nat × List Int)) : ∀ k, (syncK st ws k).length = st.length
  | 0 => rfl
  | k + 1 => by rw [syncK, List.length_set, syncK_len st ws k]
theorem syncK_ok {st : List (List Int)} {ws : List (Nat × List Int)} (h : ∀ r ∈ st, PageOk r) (hw : ∀ x ∈ ws, x.1 < st.length ∧ PageOk x.2) : ∀ k, k ≤ ws.length → ∀ r ∈ syncK st ws k, PageOk r
  | 0, _ => h
  | k + 1, hk => by
    have ih := syncK_ok h hw k (by omega)
    have hx := hw _ (List.getElem_mem (show k < ws.length by omega))
    rw [← wAt_lt (show k < ws.length by omega)] at hx
    intro r hr
    rw [syncK] at hr
    rcases List.mem_or_eq_of_mem_set hr with h1 | rfl
    · exact ih r h1
    · exact hx.2

theorem sync_spend (d : Dv) (hl : d.left ≠ some 0) : syncD d = ⟨syncK d.st d.ws d.ws.length, [], (spendD d).off, (spendD d).left, (spendD d).done⟩ := by
  rcases hd : d.left with _ | (_ | n)
  · simp [syncD, spendD, hd]
  · exact absurd hd hl
  · simp [syncD, spendD, hd]

/-- a device behind 'nothing waits' -/
theorem waits_dev (w : World) (b : Nat) (F : Nat → Prop) (sb cap mb : Nat) (vw : Value) (lf : Int) (D : DataW Unit) (n : Nat) (d' : Dv) (ok : DvOk d') (hws : d'.ws = []) (hlf : ∀ n : Nat, d'.left = some n → lf = n)
    (hB : DiskB w b (.slice (some ⟨sb, 0, none⟩) d'.st.length cap) vw (.map (some mb)) (!d'.off) d'.left.isSome lf d'.done) (hst : w.ownsRow 0 85 256 (.slice (some ⟨sb, 0, none⟩) d'.st.length cap) d'.st.length (flatS d'.st))
    (hm : w.ownsMap Tryz.prog 3 (plainElem Tryz.prog 3) mb n D) (fb : F b) (fs : F sb) (fm : F mb) (hmb : mb ≠ b ∧ mb ≠ sb) (hsb : sb ≠ b) :
    Calls Tryz.prog 71 #[dp b] w fun e w' => e = .returned (.tuple #[]) ∧ Dev w' b F d' ∧ Only (fun k => k = b ∨ k = mb) w w' := by
  obtain ⟨es, clock, hb, hfit, _, _⟩ := hm
  refine (waitForNothing_any w b mb _ _ _ _ _ _ es clock hB hb).mono ?_
  rintro e w' ⟨rfl, h1, h2, ho⟩
  refine ⟨rfl, ⟨sb, cap, mb, .slice none 0 0, lf, .map [], ok, h1, hlf, ownsRow_only hst ho (fun k hk => by simp [Value.ownBlock] at hk; subst hk; omega), ?_, ?_, by rw [hws]; exact shown_nil, fb, fs, fm, (fun k hk => by cases hk)⟩, ho⟩
  · rw [hws]; exact World.ownsRow_nil _ _ _ _
  · rw [hws]
    exact ⟨#[], clock, h2, ⟨by simp, MapKept.stamped_empty clock, by simp⟩, Nat.le_refl _, rfl⟩

theorem powered_dev (w : World) (b : Nat) (F : Nat → Prop) (d : Dv) (h : Dev w b F d) : Calls Tryz.prog 69 #[dp b] w fun e w' => e = .returned (.int .i64 (if d.off then 5 else 0)) ∧ w' = w := by
  obtain ⟨sb, cap, mb, vw, lf, D, h⟩ := h
  have := powered_any w b _ cap _ _ h.blk.c0 h.ok.pos h.blk.c3
  refine this.mono ?_
  rintro e w' ⟨rfl, hw⟩
  exact ⟨by cases d.off <;> rfl, hw⟩

theorem sync_off (w : World) (b : Nat) (F : Nat → Prop) (d : Dv) (h : Dev w b F d) (hoff : d.off = true) : Calls Tryz.prog 33 #[dp b] w fun e w' => e = .returned (.int .i64 5) ∧ w' = w := by
  have HP := powered_dev w b F d h
  rw [hoff] at HP
  have HP := hide HP
  clear h
  go_enter Tryz.func33, Tryz.ntmps33
  go_wp2_with (go_at_call 69; refine HP.out.mono ?_; rintro e w1 ⟨rfl, hw⟩; subst w1; clear HP)
  go_ret
  exact ⟨rfl, rfl⟩

theorem sync_dark (w : World) (b : Nat) (F : Nat → Prop) (d : Dv) (h : Dev w b F d) (hon : d.off = false) (hl : d.left = some 0) (hdl : d.done < 1000000000) :
    Calls Tryz.prog 33 #[dp b] w fun e w' => e = .returned (.int .i64 5) ∧ Dev w' b F (syncD d) ∧ Only F w w' := by
  have HP := powered_dev w b F d h
  rw [hon] at HP
  have HP := hide HP
  have HSP := spend_dev w b F d h hdl
  have e1 : spendE d = 5 := by simp [spendE, hl]
  have e2 : spendD d = syncD d := by simp [spendD, syncD, hl]
  rw [e1, e2] at HSP
  have HSP := hide HSP
  have hfb : F b := by obtain ⟨_, _, _, _, _, _, h⟩ := h; exact h.fb
  clear h
  go_enter Tryz.func33, Tryz.ntmps33
  go_wp2_with (first
    | (go_at_call 69; refine HP.out.mono ?_; rintro e w1 ⟨rfl, hw⟩; subst w1; clear HP)
    | (go_at_call 70; refine HSP.out.mono ?_; rintro e w4 ⟨rfl, hd4, ho4⟩; clear HSP))
  go_ret
  exact ⟨rfl, hd4, ho4.mono (fun k _ e => by rw [e]; exact hfb)⟩

set_option maxHeartbeats 2000000 in
theorem sync_live (w : World) (b : Nat) (F : Nat → Prop) (d : Dv) (h : Dev w b F d) (hon : d.off = false) (hl : d.left ≠ some 0) (hdl : d.done < 1000000000) :
    Calls Tryz.prog 33 #[dp b] w fun e w' => e = .returned (.int .i64 0) ∧ Dev w' b F (syncD d) ∧ Only F w w' := by
  have HP := powered_dev w b F d h
  rw [hon] at HP
  have HP := hide HP
  have HSP := spend_dev w b F d h hdl
  have e1 : spendE d = 0 := by
    unfold spendE
    split
    · rename_i h0; exact absurd h0 hl
    · rfl
  obtain ⟨d1, hd1⟩ : ∃ d1, d1 = spendD d := ⟨_, rfl⟩
  have e3 : d1.st = d.st ∧ d1.ws = d.ws := by
    rw [hd1]
    unfold spendD
    split <;> exact ⟨rfl, rfl⟩
  have e4 : syncD d = ⟨syncK d.st d.ws d.ws.length, [], d1.off, d1.left, d1.done⟩ := by
    rw [hd1]; exact sync_spend d hl
  rw [e1, ← hd1] at HSP
  have HSP := hide HSP
  have hfb : F b := by obtain ⟨_, _, _, _, _, _, h⟩ := h; exact h.fb
  have E3 := hide e3
  have E4 := hide e4
  clear h hd1 e1 e3 e4
  go_enter Tryz.func33, Tryz.ntmps33
  go_wp2_with (first
    | (go_at_call 69; refine HP.out.mono ?_; rintro e w1 ⟨rfl, hw⟩; subst w1; clear HP)
    | (go_at_call 70; refine HSP.out.mono ?_; rintro e w4 ⟨rfl, hd4, ho4⟩; obtain ⟨sb, cap, mb, vw, lf, D, h⟩ := hd4; obtain ⟨aw, cw, rfl⟩ := own_form' h.ws; have c0 := h.blk.c0; have c1 := h.blk.c1; have HX := hide h; have HO4 := hide ho4; clear HSP h ho4))
  have hlw := own_len HX.out.ws
  have hmax : maxLen = 9223372036854775807 := rfl
  rw [hmax] at hlw
  clear hmax c0 c1
  have hfew := HX.out.ok.few
  go_loopg [22] d1.ws.length (fun g i wr => ∃ k : Nat, g + k = d1.ws.length ∧ i = .int .i64 k ∧ Only (fun j => j = sb) w4 wr ∧ wr.ownsRow 0 85 256 (.slice (some ⟨sb, 0, none⟩) d1.st.length cap) d1.st.length (flatS (syncK d1.st d1.ws k)))
  case atStart => exact ⟨0, by omega, rfl, Only.refl _ _, HX.out.st⟩
  case round =>
    obtain ⟨k, hk, rfl, ho, hst⟩ := hrel
    have hX := HX.out
    have hBr : DiskB wr b _ _ _ _ _ _ _ := hX.blk.only ho (Ne.symm hX.sb_ne)
    have HBr := hide hBr
    have HO := hide ho
    have HST := hide hst
    cases gk with
    | zero =>
      obtain rfl : k = d1.ws.length := by omega
      have hok : DvOk (syncD d) := by
        rw [E4.out]
        refine ⟨?_, ?_, ?_, (fun x hx => by cases hx), hX.ok.left⟩
        · show 0 < (syncK d.st d.ws d.ws.length).length; rw [syncK_len, ← E3.out.1]; exact hX.ok.pos
        · show (syncK d.st d.ws d.ws.length).length ≤ 2048; rw [syncK_len, ← E3.out.1]; exact hX.ok.few
        · rw [← E3.out.1, ← E3.out.2]; exact syncK_ok hX.ok.st hX.ok.ws _ (Nat.le_refl _)
      have HR := hide (waits_dev wr b F sb cap mb _ lf D _ (syncD d) hok (by rw [E4.out]) (by rw [E4.out]; exact hX.lf)
        (by rw [E4.out]; show DiskB wr b (.slice _ (syncK d.st d.ws d.ws.length).length cap) _ _ _ _ _ _; rw [syncK_len, ← E3.out.1]; exact hBr)
        (by rw [E4.out]; show wr.ownsRow 0 _ 256 (.slice _ (syncK d.st d.ws d.ws.length).length cap) (syncK d.st d.ws d.ws.length).length (flatS (syncK d.st d.ws d.ws.length)); rw [syncK_len, ← E3.out.1, ← E3.out.2]; exact hst)
        (ownsMap_only hX.map ho hX.mb_ne.2.1) hX.fb hX.fs hX.fm ⟨hX.mb_ne.1, hX.mb_ne.2.1⟩ hX.sb_ne)
      have HF : Hid (Only F w wr) := (HO4.out.mono (fun j _ e => by rw [e]; exact hX.fb)).trans ho (fun j _ e => by rw [e]; exact hX.fs)
      have HFF : Hid (∀ j, j = b ∨ j = mb → F j) := fun j hj => by rcases hj with rfl | rfl; exact hX.fb; exact hX.fm
      clear hX hBr hst ho hok
      go_wp2_with (go_at_call 71; refine HR.out.mono ?_; rintro e w5 ⟨rfl, hd5, ho5⟩; clear HR)
      go_ret
      exact ⟨rfl, hd5, HF.out.trans ho5 (fun j _ hj => HFF.out j hj)⟩
    | succ g =>
      have hkw : k < d1.ws.length := by omega
      have hki : (k : Int) < (d1.ws.length : Int) := by omega
      have hwr := ownsRow_only hX.ws ho (fun j hj => (hX.wb_ne j hj).2)
      have hx := hX.ok.wait hkw
      have hstl := syncK_len d1.st d1.ws k
      have hsok := syncK_ok hX.ok.st hX.ok.ws k (by omega)
      rcases own_form hX.ws with ⟨_, h0⟩ | ⟨wb, cwb, hvw⟩
      · omega
      simp only [Value.slice.injEq, true_and] at hvw
      obtain ⟨rfl, rfl⟩ := hvw
      have hR1 := own_range hwr (k * 257) (wc (wAt d1.ws k)) (flatW_get (fun x hx => (hX.ok.ws x hx).2) hkw)
      have e1 : syncK d1.st d1.ws (k + 1) = (syncK d1.st d1.ws k).set (wAt d1.ws k).1 (wAt d1.ws k).2 := rfl
      obtain ⟨⟨A, X⟩, hAX⟩ : ∃ y, y = wAt d1.ws k := ⟨_, rfl⟩
      rw [← hAX] at hx hR1 e1
      obtain ⟨hA, hXok⟩ := hx
      simp only at hA hXok
      have hAi : (A : Int) < (d1.st.length : Int) := by omega
      have z3 : (Tryz.prog.info? 88).map (·.size) = some (wc (A, X)).length := by rw [wc_len, hXok.1]; exact sizeWrite
      have z4 : writeZero.size = (wc (A, X)).toArray.size := writeCells.trans (by rw [List.size_toArray, wc_len, hXok.1])
      have HZ3 := hide z3
      have HZ6 : Hid ((Tryz.prog.info? 88).map (·.size) = some (wc (A, X)).toArray.size) := z3
      have HZ4 := hide z4
      have HZ5 := hide (all_oneCell_toArray (wc_one (A, X)))
      have HR1 := hide hR1
      have HE1 := hide e1
      have HPG := hide (page_facts hXok)
      have hza := zeroWriteRun
      have hsl := Blk.lt hBr
      have HC0 : Hid (∀ wx, Only (fun _ => False) (wr.alloc (.cells (wc (A, X)).toArray 88)) wx → wx.cell? ⟨b, 0, none⟩ = some (.slice (some ⟨sb, 0, none⟩) d1.st.length cap)) := fun wx hh => (DiskB.only (DiskB.only hBr ((Only.refl (fun _ => False) wr).alloc _) (fun h => h)) hh (fun h => h)).c0
      have HLB : Hid (∀ wx, Only (fun _ => False) (wr.alloc (.cells (wc (A, X)).toArray 88)) wx → Blk wx wr.heap.size 88 (wc (A, X))) := fun wx hh => (Blk.new wr _ _).only hh (fun h => h)
      have HCA : Hid (∀ wx, Only (fun _ => False) (wr.alloc (.cells (wc (A, X)).toArray 88)) wx → wx.cell? ⟨wr.heap.size, 0, none⟩ = some (.int .i64 (A : Int))) := fun wx hh => (HLB.out wx hh).cell 0
      have HRG : Hid (∀ wx, Only (fun _ => False) (wr.alloc (.cells (wc (A, X)).toArray 88)) wx → wx.rangeAt wr.heap.size 1 (pc X)) := fun wx hh => (HLB.out wx hh).range 1 (pc X) (fun j _ => by rw [Nat.add_comm]; rfl)
      have HOK := hide hsok
      have HXO := hide hXok
      have HSL := hide hstl
      clear hX hwr hAX z3 z4 hR1 e1 hBr ho hst hsok hXok hstl
      go_wp2_with (first
        | ((with_reducible refine wpList_load_mid rfl 88 (.tmp 24) rfl wb (k * 257) ?_ (wc (A, X)) _ HR1.out Tryz.underlying88 rfl HZ3.out ?_); exact rfl)
        | ((with_reducible refine wpList_store_new rfl 88 (.tmp 6) (.tmp 25) rfl writeZero (wc (A, X)).toArray 88 ?_ ?_ HZ4.out HZ6.out HZ5.out ?_); exact rfl; exact rfl))
      refine wp_region_only (fun _ => False) [isV (.pointer (some ⟨b, 0, none⟩)), isV (.pointer (some ⟨b, 0, none⟩)), isV (.pointer (some ⟨b, 0, none⟩)), isV (.slice (some ⟨sb, 0, none⟩) d1.st.length cap), isV (.pointer (some ⟨wr.heap.size, 0, none⟩)), isV (.int .i64 (A : Int)), isV (.pointer (some ⟨wr.heap.size, 1, none⟩)), isV (.agg (pc X).toArray), isV (.pointer (some ⟨sb, A * 256, none⟩))] 99 38 9 (by kernel_rfl) (by kernel_rfl) (by kernel_rfl) (by kernel_rfl) rfl ?_ ?_ ?_
      · repeat (first | exact trivial | refine allStL_isV ?_)
      · refine ⟨?_, ?_, ?_, ?_, ?_, ?_, ?_, ?_, ?_, trivial⟩
        · intro a wx h
          have e0 : a.eval (.tmp 0) = .pointer (some ⟨b, 0, none⟩) := h.old 0 (by kernel_rfl)
          have hrel := h.rel
          clear h
          refine gives_by rfl a.eval rfl ?_
          generalize a.eval = ρ at *
          intro hf hc
          go_simp
          exact ⟨relM_quiet (by decide) (Only.refl _ _), rfl⟩
        · intro a wx h
          obtain ⟨v26, e26, f26⟩ := h.val 0 26 (by kernel_rfl)
          obtain rfl : v26 = .pointer (some ⟨b, 0, none⟩) := f26
          have hrel := h.rel
          clear h
          refine gives_by rfl a.eval rfl ?_
          generalize a.eval = ρ at *
          intro hf hc
          go_simp
          exact ⟨relM_quiet (by decide) (Only.refl _ _), rfl⟩
        · intro a wx h
          obtain ⟨v27, e27, f27⟩ := h.val 1 27 (by kernel_rfl)
          obtain rfl : v27 = .pointer (some ⟨b, 0, none⟩) := f27
          have hrel := h.rel
          clear h
          refine gives_by rfl a.eval rfl ?_
          generalize a.eval = ρ at *
          intro hf hc
          go_simp
          exact ⟨relM_quiet (by decide) (Only.refl _ _), rfl⟩
        · intro a wx h
          obtain ⟨v28, e28, f28⟩ := h.val 2 28 (by kernel_rfl)
          obtain rfl : v28 = .pointer (some ⟨b, 0, none⟩) := f28
          have hrel := h.rel
          clear h
          have c0x := HC0.out wx hrel
          refine gives_by rfl a.eval rfl ?_
          generalize a.eval = ρ at *
          intro hf hc
          go_simp
          exact ⟨relM_quiet (by decide) (Only.refl _ _), rfl⟩
        · intro a wx h
          have e6 : a.eval (.tmp 6) = .pointer (some ⟨wr.heap.size, 0, none⟩) := h.old 6 (by kernel_rfl)
          have hrel := h.rel
          clear h
          refine gives_by rfl a.eval rfl ?_
          generalize a.eval = ρ at *
          intro hf hc
          go_simp
          exact ⟨relM_quiet (by decide) (Only.refl _ _), rfl⟩
        · intro a wx h
          obtain ⟨v30, e30, f30⟩ := h.val 4 30 (by kernel_rfl)
          obtain rfl : v30 = .pointer (some ⟨wr.heap.size, 0, none⟩) := f30
          have hrel := h.rel
          clear h
          have cax := HCA.out wx hrel
          refine gives_by rfl a.eval rfl ?_
          generalize a.eval = ρ at *
          intro hf hc
          go_simp
          exact ⟨relM_quiet (by decide) (Only.refl _ _), rfl⟩
        · intro a wx h
          have e6 : a.eval (.tmp 6) = .pointer (some ⟨wr.heap.size, 0, none⟩) := h.old 6 (by kernel_rfl)
          have hrel := h.rel
          clear h
          refine gives_by rfl a.eval rfl ?_
          generalize a.eval = ρ at *
          intro hf hc
          go_simp
          exact ⟨relM_quiet (by decide) (Only.refl _ _), rfl⟩
        · intro a wx h
          obtain ⟨v32, e32, f32⟩ := h.val 6 32 (by kernel_rfl)
          obtain rfl : v32 = .pointer (some ⟨wr.heap.size, 1, none⟩) := f32
          have hrel := h.rel
          clear h
          exact gives_of_run rfl (exec_load_mid 85 (.tmp 32) rfl wr.heap.size 1 e32 (pc X) _ (HRG.out wx hrel) Tryz.underlying85 rfl HPG.out.1) ⟨relM_quiet (by decide) (Only.refl _ _), rfl⟩
        · intro a wx h
          obtain ⟨v29, e29, f29⟩ := h.val 3 29 (by kernel_rfl)
          obtain rfl : v29 = .slice (some ⟨sb, 0, none⟩) d1.st.length cap := f29
          obtain ⟨v31, e31, f31⟩ := h.val 5 31 (by kernel_rfl)
          obtain rfl : v31 = .int .i64 (A : Int) := f31
          have hrel := h.rel
          clear h
          refine gives_by rfl a.eval rfl ?_
          generalize a.eval = ρ at *
          intro hf hc
          go_simp
          exact ⟨relM_quiet (by decide) (Only.refl _ _), rfl⟩
      · intro oL hoL vals w3 ho3 hv
        simp only [List.getElem?_toArray, List.getElem?_cons_succ, List.getElem?_cons_zero, Option.some.injEq] at hoL
        subst hoL
        have hv7 : vals 7 = .agg (pc X).toArray := hv 7 33 (by decide) (by kernel_rfl)
        have hv8 : vals 8 = .pointer (some ⟨sb, A * 256, none⟩) := hv 8 34 (by decide) (by kernel_rfl)
        clear hv
        generalize hact : putAll _ vals 0 _ = act
        have hXl := HXO.out.1
        have ho3' : Only (fun _ => False) wr w3 := ((Only.refl _ wr).alloc _).trans ho3 (fun _ _ h => h)
        have hst3 := ownsRow_only HST.out ho3' (fun _ _ h => h)
        have hth := own_there hst3 (A * 256) 256 (by omega)
        have hst4 : (w3.setCells sb (A * 256) (pc X)).ownsRow 0 85 256 (.slice (some ⟨sb, 0, none⟩) d1.st.length cap) d1.st.length (flatS (syncK d1.st d1.ws (k + 1))) := by
          have := own_splice hst3 (A * 256) (pc X) (by rw [pc_len, hXl]; omega) (fun cs hB hle => Blk.setMany _ _ _ hB hle)
          rw [← flatS_set HOK.out (by rw [HSL.out]; exact hA) X hXl] at this
          rw [HE1.out]
          exact this
        have HST4 := hide hst4
        have ho4 : Only (fun j => j = sb) w4 (w3.setCells sb (A * 256) (pc X)) := Only.setCells sb _ _ _ (HO.out.trans ho3' (fun _ _ h => h.elim)) (fun _ => rfl)
        have HOW := hide ho4
        have HTH : Hid (w3.there sb (A * 256) (pc X).toArray.size) := by show w3.there _ _ _; rw [List.size_toArray, pc_len, hXl]; exact hth
        clear hst4 ho4 hth hst3 ho3' ho3
        subst hact
        simp only [List.dropLast, putAll, Act.put, List.setIfInBounds_toArray, List.set_cons_zero, List.set_cons_succ, hv7, hv8, Nat.zero_add, Nat.reduceAdd]
        refine gives_of_skip rfl (exec_store_mid 85 (.tmp 34) (.tmp 33) rfl sb (A * 256) (pc X).toArray rfl rfl HTH.out HPG.out.2.1 HPG.out.2.2.2) ?_
        go_wp2
        go_roundg g
        case measure => omega
        case rel => exact ⟨k + 1, by omega, by go_num, HOW.out, HST4.out⟩

end Go.Proofs.YtoplhehcjgldeaaGreat
/- Contracts: what a device tells: Image, Waits, Pages, Ops, On; what is refused; Arm, Calm. -/
namespace Go.Proofs.YtoplhehcjgldeaaGreat
open Go.RowKit
set_option linter.unusedVariables false

theorem made_dev (w : World) (b : Nat) (F : Nat → Prop) (d : Dv) (h : Dev w b F d) : Calls Tryz.prog 47 #[dp b] w fun e w' => e = .returned (.bool true) ∧ w' = w := by
  obtain ⟨sb, cap, mb, vw, lf, D, h⟩ := h
  have := made_any w b _ cap _ h.blk.c0
  rw [decide_eq_true h.ok.pos] at this
  exact this
theorem has_dev_yes (w : World) (b : Nat) (F : Nat → Prop) (d : Dv) (h : Dev w b F d) (p : Int) (hp : 0 ≤ p ∧ p < d.st.length) : Calls Tryz.prog 48 #[dp b, .int .i64 p] w fun e w' => e = .returned (.bool true) ∧ w' = w := by
  obtain ⟨sb, cap, mb, vw, lf, D, h⟩ := h
  exact has_yes w b _ cap _ p h.blk.c0 hp.1 hp.2
theorem has_dev_no (w : World) (b : Nat) (F : Nat → Prop) (d : Dv) (h : Dev w b F d) (p : Int) (hp : ¬ (0 ≤ p ∧ p < d.st.length)) : Calls Tryz.prog 48 #[dp b, .int .i64 p] w fun e w' => e = .returned (.bool false) ∧ w' = w := by
  obtain ⟨sb, cap, mb, vw, lf, D, h⟩ := h
  exact has_no w b _ cap _ p h.blk.c0 hp

theorem waits_any (w : World) (b : Nat) (F : Nat → Prop) (d : Dv) (h : Dev w b F d) : Calls Tryz.prog 12 #[dp b] w fun e w' => e = .returned (.int .i64 d.ws.length) ∧ w' = w := by
  have HM := hide (made_dev w b F d h)
  obtain ⟨sb, cap, mb, vw, lf, D, h⟩ := h
  obtain ⟨aw, cw, rfl⟩ := own_form' h.ws
  have c1 := h.blk.c1
  clear h
  go_enter Tryz.func12, Tryz.ntmps12
  go_wp2_with (go_at_call 47; refine HM.out.mono ?_; rintro e w1 ⟨rfl, hw⟩; subst w1; clear HM)
  go_ret
  exact ⟨rfl, rfl⟩
theorem pages_any (w : World) (b : Nat) (F : Nat → Prop) (d : Dv) (h : Dev w b F d) : Calls Tryz.prog 21 #[dp b] w fun e w' => e = .returned (.int .i64 d.st.length) ∧ w' = w := by
  have HM := hide (made_dev w b F d h)
  obtain ⟨sb, cap, mb, vw, lf, D, h⟩ := h
  have c0 := h.blk.c0
  clear h
  go_enter Tryz.func21, Tryz.ntmps21
  go_wp2_with (go_at_call 47; refine HM.out.mono ?_; rintro e w1 ⟨rfl, hw⟩; subst w1; clear HM)
  go_ret
  exact ⟨rfl, rfl⟩
theorem ops_any (w : World) (b : Nat) (F : Nat → Prop) (d : Dv) (h : Dev w b F d) : Calls Tryz.prog 11 #[dp b] w fun e w' => e = .returned (.int .i64 d.done) ∧ w' = w := by
  have HM := hide (made_dev w b F d h)
  obtain ⟨sb, cap, mb, vw, lf, D, h⟩ := h
  have c6 := h.blk.c6
  clear h
  go_enter Tryz.func11, Tryz.ntmps11
  go_wp2_with (go_at_call 47; refine HM.out.mono ?_; rintro e w1 ⟨rfl, hw⟩; subst w1; clear HM)
  go_ret
  exact ⟨rfl, rfl⟩
theorem read_arg (w : World) (b : Nat) (F : Nat → Prop) (d : Dv) (p : Int) (h : Dev w b F d) (hp : ¬ (0 ≤ p ∧ p < d.st.length)) :
    Calls Tryz.prog 13 #[dp b, .int .i64 p] w fun e w' => e = .returned (.tuple #[.slice none 0 0, .int .i64 1]) ∧ w' = w := by
  have HM := hide (made_dev w b F d h)
  have HH := hide (has_dev_no w b F d h p hp)
  clear h hp
  go_enter Tryz.func13, Tryz.ntmps13
  go_wp2_with (first
    | (go_at_call 47; refine HM.out.mono ?_; rintro e w1 ⟨rfl, hw⟩; subst w1; clear HM)
    | (go_at_call 48; refine HH.out.mono ?_; rintro e w1 ⟨rfl, hw⟩; subst w1; clear HH))
  go_ret2
  exact ⟨rfl, rfl⟩
theorem read_off (w : World) (b : Nat) (F : Nat → Prop) (d : Dv) (p : Int) (h : Dev w b F d) (hp : 0 ≤ p ∧ p < d.st.length) (hoff : d.off = true) :
    Calls Tryz.prog 13 #[dp b, .int .i64 p] w fun e w' => e = .returned (.tuple #[.slice none 0 0, .int .i64 5]) ∧ w' = w := by
  have HM := hide (made_dev w b F d h)
  have HH := hide (has_dev_yes w b F d h p hp)
  obtain ⟨sb, cap, mb, vw, lf, D, h⟩ := h
  have c3 := h.blk.c3
  rw [hoff] at c3
  clear h hp
  go_enter Tryz.func13, Tryz.ntmps13
  go_wp2_with (first
    | (go_at_call 47; refine HM.out.mono ?_; rintro e w1 ⟨rfl, hw⟩; subst w1; clear HM)
    | (go_at_call 48; refine HH.out.mono ?_; rintro e w1 ⟨rfl, hw⟩; subst w1; clear HH))
  go_ret2
  exact ⟨rfl, rfl⟩
theorem write_arg (w : World) (b : Nat) (F : Nat → Prop) (d : Dv) (p : Int) (v : Value) (zs : List Int) (h : Dev w b F d) (hS : Sl w v zs) (hp : ¬ ((0 ≤ p ∧ p < d.st.length) ∧ zs.length = 256)) :
    Calls Tryz.prog 82 #[dp b, .int .i64 p, v] w fun e w' => e = .returned (.int .i64 1) ∧ w' = w := by
  have HM := hide (made_dev w b F d h)
  obtain ⟨ao, cp, rfl⟩ := sl_form' hS
  by_cases h1 : 0 ≤ p ∧ p < d.st.length
  · have HH := hide (has_dev_yes w b F d h p h1)
    have hne : ((zs.length : Int) == 256) = false := by
      have : ¬ zs.length = 256 := fun e => hp ⟨h1, e⟩
      simp; omega
    clear h hp h1 hS
    go_enter Tryz.func82, Tryz.ntmps82
    go_wp2_with (first
      | (go_at_call 47; refine HM.out.mono ?_; rintro e w1 ⟨rfl, hw⟩; subst w1; clear HM)
      | (go_at_call 48; refine HH.out.mono ?_; rintro e w1 ⟨rfl, hw⟩; subst w1; clear HH))
    go_ret
    exact ⟨rfl, rfl⟩
  · have HH := hide (has_dev_no w b F d h p h1)
    clear h hp h1 hS
    go_enter Tryz.func82, Tryz.ntmps82
    go_wp2_with (first
      | (go_at_call 47; refine HM.out.mono ?_; rintro e w1 ⟨rfl, hw⟩; subst w1; clear HM)
      | (go_at_call 48; refine HH.out.mono ?_; rintro e w1 ⟨rfl, hw⟩; subst w1; clear HH))
    go_ret
    exact ⟨rfl, rfl⟩
theorem write_off (w : World) (b : Nat) (F : Nat → Prop) (d : Dv) (p : Int) (v : Value) (zs : List Int) (h : Dev w b F d) (hS : Sl w v zs) (hp : 0 ≤ p ∧ p < d.st.length) (hzl : zs.length = 256) (hoff : d.off = true) :
    Calls Tryz.prog 82 #[dp b, .int .i64 p, v] w fun e w' => e = .returned (.int .i64 5) ∧ w' = w := by
  have HM := hide (made_dev w b F d h)
  obtain ⟨ao, cp, rfl⟩ := sl_form' hS
  have HH := hide (has_dev_yes w b F d h p hp)
  obtain ⟨sb, cap, mb, vw, lf, D, h⟩ := h
  have c3 := h.blk.c3
  rw [hoff] at c3
  rw [hzl]
  clear h hp hS
  go_enter Tryz.func82, Tryz.ntmps82
  go_wp2_with (first
    | (go_at_call 47; refine HM.out.mono ?_; rintro e w1 ⟨rfl, hw⟩; subst w1; clear HM)
    | (go_at_call 48; refine HH.out.mono ?_; rintro e w1 ⟨rfl, hw⟩; subst w1; clear HH))
  go_ret
  exact ⟨rfl, rfl⟩

def imgS (st : List (List Int)) : List Int := st.flatten
theorem imgS_len {st : List (List Int)} (h : ∀ r ∈ st, PageOk r) : (imgS st).length = st.length * 256 := flat_len st (fun r hr => (h r hr).1)
theorem imgS_ok {st : List (List Int)} (h : ∀ r ∈ st, PageOk r) : ByteOk (imgS st) := fun z hz => by
  obtain ⟨r, hr, hz⟩ := List.mem_flatten.1 hz
  exact (h r hr).2 z hz
theorem imgS_take (st : List (List Int)) {k : Nat} (h : k < st.length) : imgS (st.take (k + 1)) = imgS (st.take k) ++ sAt st k := by
  unfold imgS
  rw [List.take_succ_eq_append_getElem h, List.flatten_append, sAt_lt h]
  simp

/-- Arm: so many are left -/
theorem arm_bad (w : World) (b : Nat) (F : Nat → Prop) (d : Dv) (n : Int) (h : Dev w b F d) (hn : n < 0) :
    Calls Tryz.prog 35 #[dp b, .int .i64 n] w fun e w' => e = .returned (.int .i64 1) ∧ w' = w := by
  have HM := hide (made_dev w b F d h)
  clear h
  go_enter Tryz.func35, Tryz.ntmps35
  go_wp2_with (go_at_call 47; refine HM.out.mono ?_; rintro e w1 ⟨rfl, hw⟩; subst w1; clear HM)
  go_ret
  exact ⟨rfl, rfl⟩
theorem arm_off (w : World) (b : Nat) (F : Nat → Prop) (d : Dv) (n : Int) (h : Dev w b F d) (hn : ¬ n < 0) (hoff : d.off = true) :
    Calls Tryz.prog 35 #[dp b, .int .i64 n] w fun e w' => e = .returned (.int .i64 5) ∧ w' = w := by
  have HM := hide (made_dev w b F d h)
  obtain ⟨sb, cap, mb, vw, lf, D, h⟩ := h
  have c3 := h.blk.c3
  rw [hoff] at c3
  clear h
  go_enter Tryz.func35, Tryz.ntmps35
  go_wp2_with (go_at_call 47; refine HM.out.mono ?_; rintro e w1 ⟨rfl, hw⟩; subst w1; clear HM)
  go_ret
  exact ⟨rfl, rfl⟩
theorem DevAt.struct {w w' : World} {b : Nat} {F : Nat → Prop} {d d' : Dv} {sb cap mb : Nat} {vw : Value} {lf lf' : Int} {D : DataW Unit} (h : DevAt w b F d sb cap mb vw lf D) (e1 : d'.st = d.st) (e2 : d'.ws = d.ws) (ok : DvOk d')
    (hB : DiskB w' b (.slice (some ⟨sb, 0, none⟩) d.st.length cap) vw (.map (some mb)) (!d'.off) d'.left.isSome lf' d'.done) (hlf : ∀ n : Nat, d'.left = some n → lf' = n) (ho : Only (· = b) w w') : Dev w' b F d' := by
  refine ⟨sb, cap, mb, vw, lf', D, ok, by rw [e1]; exact hB, hlf, ?_, ?_, ?_, by rw [e2]; exact h.shown, h.fb, h.fs, h.fm, h.fw⟩
  · rw [e1]; exact ownsRow_only h.st ho (fun k hk => by simp [Value.ownBlock] at hk; subst hk; exact h.sb_ne)
  · rw [e2]; exact ownsRow_only h.ws ho (fun k hk => (h.wb_ne k hk).1)
  · rw [e2]; exact ownsMap_only h.map ho h.mb_ne.1
theorem arm_ok (w : World) (b : Nat) (F : Nat → Prop) (d : Dv) (n : Nat) (h : Dev w b F d) (hn : n ≤ 9223372036854775807) (hon : d.off = false) :
    Calls Tryz.prog 35 #[dp b, .int .i64 n] w fun e w' => e = .returned (.int .i64 0) ∧ Dev w' b F { d with left := some n } ∧ Only F w w' := by
  have HM := hide (made_dev w b F d h)
  obtain ⟨sb, cap, mb, vw, lf, D, h⟩ := h
  have c3 := h.blk.c3
  have c4 := h.blk.c4
  have c5 := h.blk.c5
  have f4 := Blk.frozen h.blk 4
  have f5 := Blk.frozen h.blk 5
  rw [hon] at c3
  have hni : ¬ (n : Int) < 0 := by omega
  have HX := hide h
  clear h
  go_enter Tryz.func35, Tryz.ntmps35
  go_wp2_with (go_at_call 47; refine HM.out.mono ?_; rintro e w1 ⟨rfl, hw⟩; subst w1; clear HM)
  go_ret
  have ho := only_set2 w b 4 5 (.bool true) (.int .i64 n)
  have hX := HX.out
  refine ⟨rfl, hX.struct (d' := { d with left := some n }) (lf' := n) rfl rfl ⟨hX.ok.pos, hX.ok.few, hX.ok.st, hX.ok.ws, fun m hm => by simp at hm; omega⟩ ((Blk.set hX.blk 4 _).set 5 _) (fun m hm => by simp at hm; omega) ho, ho.mono (fun k _ e => by rw [e]; exact hX.fb)⟩
end Go.Proofs.YtoplhehcjgldeaaGreat
