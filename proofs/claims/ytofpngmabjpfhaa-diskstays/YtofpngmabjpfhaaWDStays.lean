/- The walk of the statement DiskStays. -/
import Derived.Test.YtofpngmabjpfhaaDStay
import Derived.OpenShut
namespace Go.Proofs.Ytofpngmabjpfhaa
open Go.RowKit Go.ChangeShapes Go.WideShapes
set_option linter.unusedVariables false

set_option maxHeartbeats 1000000 in
set_option maxRecDepth 20000 in
theorem diskStays_refused (w : World) (v0 v1 v2 : Value) (os0 os1 : List OpA) (pk : List Int) (h0 : Script w v0 os0) (h1 : Script w v1 os1) (h2 : Sl w v2 pk) (hno : ¬ (fewB os0 = true ∧ fewB os1 = true ∧ pk.length ≤ 200)) :
    Calls Try.prog 4 #[v0, v1, v2] w fun e w' => e = .returned (.bool true) ∧ Below w.heap.size w w' := by
  have HF1 := hide (few_any w v0 os0 h0)
  have HF2 : Hid (∀ wx, Below w.heap.size w wx → Calls Try.prog _ _ _ _) := fun wx hb => few_any wx v1 os1 (h1.below hb)
  have HLive : Hid (∀ wx : World, Calls Try.prog 9 #[] wx fun e w' => e = .returned (.bool true) ∧ Below wx.heap.size wx w') := fun wx => live_any wx
  have HLive2 := HLive
  have HNew : Hid (∀ wx : World, Calls Try.prog _ _ _ _) := fun wx => new_ok wx 9 (by omega) (by omega)
  obtain ⟨ao, cp, rfl⟩ := sl_form' h2
  have hcases : (fewB os0 = false) ∨ (fewB os0 = true ∧ fewB os1 = false) ∨ (fewB os0 = true ∧ fewB os1 = true ∧ (200 : Int) < (pk.length : Int)) := by
    cases e0 : fewB os0
    · exact .inl rfl
    · cases e1 : fewB os1
      · exact .inr (.inl ⟨rfl, rfl⟩)
      · refine .inr (.inr ⟨rfl, rfl, ?_⟩)
        have : ¬ pk.length ≤ 200 := fun h => hno ⟨e0, e1, h⟩
        omega
  clear h0 h1 h2 hno
  rcases hcases with e0 | ⟨e0, e1⟩ | ⟨e0, e1, hpk⟩
  all_goals
    go_enter Try.func4, Try.ntmps4
    go_wp2_with (first
      | (go_at_call 8; refine HF1.out.mono ?_; rintro e w1 ⟨⟨u, rfl, _, _⟩, hb1⟩; have HB1 := hide hb1; clear HF1 hb1)
      | (go_at_call 8; refine (HF2.out w1 HB1.out).mono ?_; rintro e w2 ⟨⟨u', rfl, _, _⟩, hb2⟩; have HB2 := hide hb2; clear HF2 hb2)
      | (go_at_call 10; refine (HNew.out w2).mono ?_; rintro e w3 ⟨b, rfl, hd2, hb3⟩; have HB3 := hide hb3; clear HNew hd2 hb3)
      | (go_at_call 9; refine (HLive.out w3).mono ?_; rintro e w4 ⟨rfl, hb4⟩; have HB4 := hide hb4; clear HLive hb4)
      | (go_at_call 9; refine (HLive2.out w4).mono ?_; rintro e w5 ⟨rfl, hb5⟩; have HB5 := hide hb5; clear HLive2 hb5))
    go_ret
    exact ⟨rfl, below_then (below_then (below_then (below_then HB1.out HB2.out (Nat.le_refl _)) HB3.out (Nat.le_refl _)) HB4.out (Nat.le_refl _)) HB5.out (Nat.le_refl _)⟩

set_option maxHeartbeats 2000000 in
set_option maxRecDepth 20000 in
theorem diskStays_walk (w : World) (v0 : Value) (os0 : List OpA) (v1 : Value) (os1 : List OpA) (v2 : Value) (pk : List Int) (h0 : Script w v0 os0) (h1 : Script w v1 os1) (h2 : Sl w v2 pk) :
    Calls Try.prog 4 #[v0, v1, v2] w fun e w' => e = .returned (.bool true) ∧ Below w.heap.size w w' := by
  by_cases hyes : fewB os0 = true ∧ fewB os1 = true ∧ pk.length ≤ 200
  case neg => exact diskStays_refused w v0 v1 v2 os0 os1 pk h0 h1 h2 hyes
  obtain ⟨e0, e1, hpk⟩ := hyes
  have hF1 := few_any w v0 os0 h0
  rw [e0] at hF1
  have HF1 := hide hF1
  clear hF1
  have HF2 : Hid (∀ wx, Below w.heap.size w wx → Calls Try.prog 8 #[v1] wx fun e w' => (∃ u, e = .returned (.tuple #[u, .bool true]) ∧ Script w u (os1.take 50)) ∧ Below wx.heap.size wx w') := fun wx hb => by
    refine (few_at wx v1 os1 (h1.below hb)).mono ?_
    rintro e w' ⟨⟨u, rfl, hu, _⟩, hbb⟩
    rw [e1] at hu ⊢
    exact ⟨⟨u, rfl, hu rfl w h1⟩, hbb⟩
  have HLive : Hid (∀ wx : World, Calls Try.prog 9 #[] wx fun e w' => e = .returned (.bool true) ∧ Below wx.heap.size wx w') := fun wx => live_any wx
  have HNew : Hid (∀ wx : World, Calls Try.prog _ _ _ _) := fun wx => new_ok wx 9 (by omega) (by omega)
  obtain ⟨T, hT⟩ : ∃ T, T = os0.take 50 := ⟨_, rfl⟩
  have hTl : T.length ≤ 50 := by rw [hT]; simp; omega
  obtain ⟨T1, hT1⟩ : ∃ T, T = os1.take 50 := ⟨_, rfl⟩
  have hTl1 : T1.length ≤ 50 := by rw [hT1]; simp; omega
  rw [← hT] at HF1
  rw [← hT1] at HF2
  have HC0 := hide (calm_playK (calm_new 9) T T.length)
  have HP0 : Hid (∀ w3 b u, DevL w w3 b (newD 9) → Script w u T → Calls Try.prog 21 #[dp b, u, .int .i64 9] w3 fun e w' => e = .returned (.bool true) ∧ DevL w w' b (playK 9 (newD 9) T T.length)) := fun w3 b u h1 h2 => plays_any w w3 b (newD 9) u T 9 0 h1 h2 (calm_new 9) (by omega) (by omega)
  obtain ⟨D0, hD0⟩ : ∃ D0, D0 = playK 9 (newD 9) T T.length := ⟨_, rfl⟩
  rw [← hD0] at HC0 HP0
  obtain ⟨D1, hD1⟩ : ∃ D1, D1 = syncD D0 := ⟨_, rfl⟩
  have HC1 : Hid (Calm 9 51 D1) := by show Calm 9 51 D1; rw [hD1]; exact (calm_sync HC0.out).mono (by omega)
  have HD1w : Hid (D1.ws = []) := by show D1.ws = []; rw [hD1]; unfold syncD; rw [HC0.out.left]
  have HSy : Hid (∀ w5 b, DevL w w5 b D0 → Calls Try.prog 22 #[dp b] w5 fun e w' => e = .returned (.int .i64 0) ∧ DevL w w' b D1) := fun w5 b h => by rw [hD1]; exact h.sync HC0.out.off HC0.out.left (by have := HC0.out.done; omega)
  have HPkS := hide h2
  obtain ⟨aop, cpp, rfl⟩ := sl_form' h2
  have hpki : ¬ (200 : Int) < (pk.length : Int) := by omega
  have HPlt : Hid (∀ k, (Value.slice aop pk.length cpp).ownBlock = some k → k < w.heap.size ∨ pk = []) := by
    intro k hk
    by_cases hz : pk = []
    · exact .inr hz
    · left
      obtain ⟨_, ao', cap', he, _, _, _, h4⟩ := h2
      obtain ⟨rfl, _⟩ : aop = ao' ∧ cpp = cap' := by simpa using he
      obtain ⟨gb, go, rfl, hc⟩ := h4 hz
      simp [Value.ownBlock] at hk
      subst hk
      exact World.block_lt_of_cell? w _ (hc 0 (List.length_pos_iff.2 hz))
  obtain ⟨iB, hiB, hzB0, hzB1, hzB2⟩ := info_parts infoBool
  have HIB := hide hiB
  have HIB0 := hide hzB0
  have HIB1 := hide hzB1
  have HIB2 := hide hzB2
  clear hT hT1 hD0 hD1 h0 h1 h2 e0 e1 hiB hzB0 hzB1 hzB2
  go_enter Try.func4, Try.ntmps4
  go_wp2_with (first
    | (go_at_call 8; refine HF1.out.mono ?_; rintro e w1 ⟨⟨u, rfl, hu, _⟩, hb1⟩; have HU := hide (hu rfl); have HB1 := hide hb1; clear HF1 hu hb1)
    | (go_at_call 8; refine (HF2.out w1 HB1.out).mono ?_; rintro e w2 ⟨⟨u', rfl, hu'⟩, hb2⟩; have HU1 := hide hu'; have HB2 := hide (below_then HB1.out hb2 (Nat.le_refl _)); clear HF2 hb2 hu' HB1)
    | (go_at_call 10; refine (HNew.out w2).mono ?_; rintro e w3 ⟨b, rfl, hd3, hb3⟩; have HD3 : Hid (DevL w w3 b (newD 9)) := ⟨hd3.mono (fun k _ hk => Nat.le_trans HB2.out.size hk), below_then HB2.out hb3 (Nat.le_refl _)⟩; clear HNew hd3 hb3 HB2)
    | (go_at_call 9; refine (HLive.out w3).mono ?_; rintro e w4 ⟨rfl, hb4⟩; have HD4 := hide (HD3.out.below hb4); clear HLive hb4 HD3)
    | (go_at_call 21; refine (HP0.out w4 b u HD4.out HU.out).mono ?_; rintro e w5 ⟨rfl, hd5⟩; have HD5 := hide hd5; clear HD4 hd5 HP0 HU)
    | (go_at_call 22; refine (HSy.out w5 b HD5.out).mono ?_; rintro e w6 ⟨rfl, hd6⟩; have HD6 := hide hd6; clear HD5 hd6 HSy)
    | (at_make; refine wpList_make_full _ rfl _ _ 48 rfl w6.heap.size 4 iB (.bool false) 1 Try.underlying48 HIB.out HIB0.out HIB1.out _ _ _ _ 9 rfl rfl rfl rfl (by rw [HIB2.out]; omega) (by unfold maxLen; omega) (Nat.le_refl _) ?_; intro w7 hown hg; have HO7 := hide hown; have HG7 := hide hg; clear hown hg))
  have hs67 := HG7.out.size
  have hw06 := HD6.out.bel.size
  have hlt7 : w6.heap.size < w7.heap.size := (HO7.out.lt w6.heap.size rfl).2
  have HB67 : Hid (Below w6.heap.size w6 w7) := (Below.refl _ w6).grown HG7.out (Nat.le_refl _) (fun k hk => by cases hk)
  have HDv7 : Hid (Dev w7 b (fun k => w.heap.size ≤ k ∧ k < w6.heap.size) D1) := HD6.out.dev.bound.below HB67.out
  have HBW : Hid (Blk w7 w6.heap.size 4 (bc (List.replicate 9 false))) := by
    have := own_heap HO7.out
    rw [show (madeCells (Value.bool false).cells (9 * 1)).toList = List.replicate 9 (Value.bool false) from toList_madeCells_one (.bool false) 9] at this
    show w7.heap[w6.heap.size]? = _
    rw [bc_rep]
    exact this
  have HW7 : Hid (Below w.heap.size w w7) := HD6.out.bel.trans (HB67.out.mono hw06)
  have HOK1 := hide HD6.out.dev.ok
  have HSt1 : Hid (D1.st.length = 9) := HC1.out.st
  have HShow : Hid (∀ p, showsD D1 p = sAt D1.st p) := fun p => by unfold showsD; rw [HD1w.out]; rfl
  clear HD6 HO7 HG7
  go_loopg [13, 71] 9 (fun g im i wr => ∃ k : Nat, g + k = 9 ∧ i = .int .i64 k ∧ Below w7.heap.size w7 wr ∧ WasRow w7.heap.size wr im (D1.st.take k))
  case atStart => exact ⟨0, rfl, rfl, Below.refl _ _, WasRow.nil _ _⟩
  case round =>
    obtain ⟨k, hk, rfl, hb, hwas⟩ := hrel
    have HB := hide hb
    have HWas := hide hwas
    have hbs := hb.size
    cases gk with
    | succ g =>
      have hk9 : k < 9 := by omega
      have hki : (k : Int) < 9 := by omega
      have hRd := read_ok wr b _ D1 k (HDv7.out.below hb) (by rw [HSt1.out]; exact hk9) HC1.out.off
      rw [HShow.out k] at hRd
      have HRd := hide hRd
      have hlk : (D1.st.take k).length = k := by rw [List.length_take, HSt1.out]; omega
      obtain ⟨ai, ci, rfl, _, _⟩ := hwas.form
      have HAP : Hid (∀ w1, Below wr.heap.size wr w1 → Blk w1 wr.heap.size 73 (pc (sAt D1.st k)) → ∃ v1 w2, (Builtin.append_ #[47, 47] 47 #[.slice ai k ci, .slice (some ⟨w1.heap.size, 0, none⟩) 1 1]).run Try.prog (w1.alloc (.cells #[.slice (some ⟨wr.heap.size, 0, none⟩) 256 256] 33)) = .ok v1 w2 ∧ WasRow w7.heap.size w2 v1 (D1.st.take (k + 1)) ∧ Below w7.heap.size w7 w2) := by
        intro w1 hb1 hB1
        obtain ⟨v1, w2, hr, hw2, ho2⟩ := (hwas.below hb1).snoc (sAt D1.st k) wr.heap.size hB1 hbs (by omega) (Nat.le_trans hbs hb1.size)
        rw [hlk] at hr
        refine ⟨v1, w2, hr, ?_, ?_⟩
        · have e : D1.st.take (k + 1) = D1.st.take k ++ [sAt D1.st k] := by
            rw [List.take_succ_eq_append_getElem (by rw [HSt1.out]; exact hk9), sAt_lt (by rw [HSt1.out]; exact hk9)]
          rw [e]; exact hw2
        · have hb17 : Below w7.heap.size w7 w1 := below_then hb hb1 (Nat.le_refl _)
          obtain ⟨vs, ho, _⟩ := hwas
          exact hb17.trans (ho2.below hb17.size (fun j hj hk' => by have := (ho.lt j hk').1; omega))
      clear hRd hwas hb
      rw [hlk]
      go_wp2_with (first
        | (go_at_call 23; refine HRd.out.mono ?_; rintro e w1 ⟨rfl, hB1, hb1⟩; obtain ⟨v1, w2, hr, hw2, hb2⟩ := HAP.out w1 hb1 hB1; have HR := hide hr; have HW2 := hide hw2; have HB2 := hide hb2; clear HRd HAP hr hw2 hb2 hB1 hb1)
        | (at_builtin; refine wpList_append_run _ rfl (.tmp 82) (.tmp 84) 47 rfl _ _ rfl rfl _ _ HR.out ?_))
      go_roundg g
      case measure => omega
      case rel => exact ⟨k + 1, by omega, by go_num, HB2.out, HW2.out⟩
    | zero =>
      obtain rfl : k = 9 := by omega
      rw [List.take_of_length_le (by rw [HSt1.out]; omega)] at hwas
      obtain ⟨w8, rfl⟩ : ∃ x, x = wr := ⟨_, rfl⟩
      have HWas8 := hide hwas
      have HDv8 : Hid (Dev w8 b (fun k => (w.heap.size ≤ k ∧ k < w6.heap.size) ∨ w8.heap.size ≤ k) D1) := (HDv7.out.below hb).mono (fun k _ hk => .inl hk)
      have HBW8 : Hid (Blk w8 w6.heap.size 4 (bc (List.replicate 9 false))) := HBW.out.below hb hlt7
      have HW8 : Hid (Below w.heap.size w w8) := below_then HW7.out hb (Nat.le_refl _)
      have hs08 := HW8.out.size
      obtain ⟨ac, cc, rfl, _, hcc⟩ := HU1.out.form
      obtain ⟨ai, ci, rfl, hci, hci2⟩ := hwas.form
      have hza := zeroOpRun
      have hTc : T1.length ≤ cc := by assumption
      clear hwas hb HWas HB HDv7 HBW HW7 HB67
      go_wp2
      go_loopg [89] T1.length (fun g i wr => ∃ (k : Nat) (bl : List Bool), g + k = T1.length ∧ i = .int .i64 k ∧ Only (fun j => ((w.heap.size ≤ j ∧ j < w6.heap.size) ∨ w8.heap.size ≤ j) ∨ j = w6.heap.size) w8 wr ∧ Dev wr b (fun j => (w.heap.size ≤ j ∧ j < w6.heap.size) ∨ w8.heap.size ≤ j) (wrK D1 T1 k) ∧ Blk wr w6.heap.size 4 (bc bl) ∧ Wrote bl (wrK D1 T1 k))
      case atStart =>
        refine ⟨0, List.replicate 9 false, by omega, rfl, Only.refl _ _, HDv8.out, HBW8.out, by simp, fun p hp _ x hx => ?_⟩
        rw [show (wrK D1 T1 0).ws = D1.ws from rfl, HD1w.out] at hx
        cases hx
      case round =>
        obtain ⟨k, bl, hk, rfl, ho, hd, hB, hWr⟩ := hrel
        have HO := hide ho
        have HD := hide hd
        have HBl := hide hB
        have HWr := hide hWr
        have hsr := ho.size
        have HWw : Hid (Below w.heap.size w wr) := HW8.out.trans (ho.below hs08 (fun j hj h => by omega))
        cases gk with
        | zero =>
          obtain rfl : k = T1.length := by omega
          obtain ⟨w9, rfl⟩ : ∃ x, x = wr := ⟨_, rfl⟩
          have hcal := calm_wrK HC1.out T1 T1.length
          have hst2 := wrK_st HC1.out T1 T1.length
          obtain ⟨D2, hD2⟩ : ∃ D2, D2 = wrK D1 T1 T1.length := ⟨_, rfl⟩
          rw [← hD2] at hd hWr hcal hst2
          have HCr : Hid (Calls Try.prog 17 #[dp b, .slice aop pk.length cpp] w9 _) := crash_any w9 b _ D2 _ pk hd (HPkS.out.below HWw.out) (fun hne j hj hf => by
            rcases HPlt.out j hj with h | h
            · omega
            · exact hne h)
          have HWt : Hid (∀ wx, Dev wx b (fun j => (w.heap.size ≤ j ∧ j < w6.heap.size) ∨ w8.heap.size ≤ j) (crashD D2 pk) → Calls Try.prog 24 #[dp b] wx fun e w' => e = .returned (.int .i64 0) ∧ w' = wx) := fun wx h => waits_any wx b _ _ h
          have HKeep : Hid (∀ p, p < 9 → bl.getD p false = false → showsD (crashD D2 pk) p = sAt D1.st p) := fun p hp hb => by
            show sAt (crashK D2.st D2.ws pk D2.ws.length) p = _
            rw [crash_other pk p (fun x hx => ⟨(hd.ok.ws x hx).1, hWr.2 p hp hb x hx⟩) _ (Nat.le_refl _), hst2]
          have HOK3 : Hid (DvOk (crashD D2 pk)) := crashD_ok hd.ok pk
          have HSt3 : Hid ((crashD D2 pk).st.length = 9) := by show (crashK _ _ _ _).length = 9; rw [crashK_len]; exact hcal.st
          have HOff3 : Hid ((crashD D2 pk).off = false) := rfl
          obtain ⟨D3, hD3⟩ : ∃ D3, D3 = crashD D2 pk := ⟨_, rfl⟩
          rw [← hD3] at HCr HWt HKeep HOK3 HSt3 HOff3
          have hbl9 := hWr.1
          clear hD3 hD2 hd hB hWr hcal hst2 ho
          go_wp2_with (first
            | (go_at_call 17; refine HCr.out.mono ?_; rintro e w10 ⟨rfl, hd10, ho10⟩; have HD10 := hide hd10; have HO10 := hide ho10; clear HCr hd10 ho10)
            | (go_at_call 24; refine (HWt.out w10 HD10.out).mono ?_; rintro e w11 ⟨rfl, hww⟩; obtain rfl := hww.symm; clear HWt))
          have HO11 : Hid (Only (fun j => ((w.heap.size ≤ j ∧ j < w6.heap.size) ∨ w8.heap.size ≤ j) ∨ j = w6.heap.size) w8 w10) := HO.out.trans HO10.out (fun j _ hj => .inl hj)
          have HB11 : Hid (Blk w10 w6.heap.size 4 (bc bl)) := HBl.out.only HO10.out (fun h => by omega)
          have HWas11 : Hid (WasRow w7.heap.size w10 (.slice ai D1.st.length ci) D1.st) := HWas8.out.only HO11.out (fun j hj h => by omega)
          have HW11 : Hid (Below w.heap.size w w10) := HW8.out.trans (HO11.out.below hs08 (fun j hj h => by omega))
          clear HO HO10 HBl HWr HWas8 HD HWw HO11
          go_loopg [128] 9 (fun g i wr => ∃ k : Nat, g + k = 9 ∧ i = .int .i64 k ∧ Below w10.heap.size w10 wr)
          case atStart => exact ⟨0, rfl, rfl, Below.refl _ _⟩
          case round =>
            obtain ⟨k, hk, rfl, hb⟩ := hrel
            have HB := hide hb
            cases gk with
            | zero =>
              obtain rfl : k = 9 := by omega
              clear hb
              go_wp2
              go_ret
              exact ⟨rfl, below_then HW11.out HB.out (Nat.le_refl _)⟩
            | succ g =>
              have hk9 : k < 9 := by omega
              have hki : (k : Int) < 9 := by omega
              have hRd := read_ok wr b _ D3 k (HD10.out.below hb) (by rw [HSt3.out]; exact hk9) HOff3.out
              have HRd := hide hRd
              have HBr := hide (HB11.out.below hb HB11.out.lt)
              have HOK : Hid (PageOk (showsD D3 k)) := HOK3.out.shows (by rw [HSt3.out]; exact hk9)
              have hkd : (k : Int) < (D1.st.length : Int) := by rw [HSt1.out]; exact hki
              have hOKr : PageOk (sAt D1.st k) := HOK1.out.row (by rw [HSt1.out]; exact hk9)
              obtain ⟨gw, u, rfl, hcw, hslw⟩ := (HWas11.out.below hb).at (i := k) (by rw [HSt1.out]; exact hk9) hOKr
              have HCw := hide hcw
              have HSlw := hide hslw
              clear hRd hb hcw hslw
              cases hbk : bl.getD k false with
              | true =>
                go_wp2_with (first
                  | (go_at_call 23; refine HRd.out.mono ?_; rintro e w1 ⟨rfl, hB1, hb1⟩; have HB1 := hide hb1; have hc1 : w1.cell? ⟨w6.heap.size, k, none⟩ = some (.bool true) := ((HBr.out.below hb1 HBr.out.lt).cell k).trans ((bc_at bl k (by omega)).trans (by rw [hbk])); clear HRd hb1 hB1 hbk))
                go_roundg g
                case measure => omega
                case rel => exact ⟨k + 1, by omega, by go_num, below_then HB.out HB1.out (Nat.le_refl _)⟩
              | false =>
                have HE := hide (HKeep.out k hk9 hbk)
                go_wp2_with (first
                  | (go_at_call 23; refine HRd.out.mono ?_; rintro e w1 ⟨rfl, hB1, hb1⟩; have HB1 := hide hb1; have hc1 : w1.cell? ⟨w6.heap.size, k, none⟩ = some (.bool false) := ((HBr.out.below hb1 HBr.out.lt).cell k).trans ((bc_at bl k (by omega)).trans (by rw [hbk])); have hc2 : w1.cell? ⟨gw, k, none⟩ = some (.slice (some ⟨u, 0, none⟩) 256 256) := by { rw [hb1.cell (World.block_lt_of_cell? wr _ HCw.out)]; exact HCw.out }; have HSm : Hid (Calls Try.prog 18 #[.slice (some ⟨wr.heap.size, 0, none⟩) 256 256, .slice (some ⟨u, 0, none⟩) 256 256] w1 fun e w' => e = .returned (.bool true) ∧ Below w1.heap.size w1 w') := (by { have h := refSame_any w1 _ _ _ _ (sl_page hB1 HOK.out) (HSlw.out.below hb1); rw [HE.out, decide_eq_true rfl] at h; exact h }); clear HRd hb1 hB1 hbk)
                  | (go_at_call 18; refine HSm.out.mono ?_; rintro e w2 ⟨rfl, hb2⟩; have HB2 := hide hb2; clear HSm hb2))
                go_roundg g
                case measure => omega
                case rel => exact ⟨k + 1, by omega, by go_num, below_then (below_then HB.out HB1.out (Nat.le_refl _)) HB2.out (Nat.le_refl _)⟩
        | succ g =>
          have hkl : k < T1.length := by omega
          have hki : (k : Int) < (T1.length : Int) := by omega
          have hSr := HU1.out.below HWw.out
          have hop := hSr.op hkl
          have hS0 := (HU1.out.op hkl).sb
          have hcal := calm_wrK HC1.out T1 k
          have e1 : wrK D1 T1 (k + 1) = wr1 (wrK D1 T1 k) (opAt T1 k) := rfl
          obtain ⟨_, ao', cap', he, _, _, h4⟩ := hSr
          simp only [Value.slice.injEq, true_and] at he
          obtain ⟨rfl, rfl⟩ := he
          obtain ⟨gb, off, rfl, hgb, hrg⟩ := h4 (by intro h; simp [h] at hkl)
          have hR := hrg k hkl
          obtain ⟨o, hoo⟩ : ∃ o, o = opAt T1 k := ⟨_, rfl⟩
          rw [← hoo] at hop hR e1 hS0
          obtain ⟨dk, hdk⟩ : ∃ dk, dk = wrK D1 T1 k := ⟨_, rfl⟩
          rw [← hdk] at hd hcal e1 hWr
          obtain ⟨z1, z2, z3, z4⟩ := op_facts hop
          have HR := hide hR
          have HZ1 := hide z1
          have HZ2 := hide z2
          have HZ3 := hide z3
          have HZ4 := hide z4
          have HE1 := hide e1
          have HCal := hide hcal
          have HDk := hide hd
          have HWk := hide hWr
          have hc1 := hcal.ws
          have hc2 := hcal.done
          have hN := Blk.new wr 35 (opc o)
          have HN := hide hN
          have q0 : (wr.alloc (.cells (opc o).toArray 35)).cell? ⟨wr.heap.size, 0, none⟩ = some (.int .i64 o.dO) := Blk.cell hN 0
          have q1 : (wr.alloc (.cells (opc o).toArray 35)).cell? ⟨wr.heap.size, 1, none⟩ = some (.int .i64 o.p) := Blk.cell hN 1
          have HDA := hide (hd.below ((Below.refl _ wr).alloc (Nat.le_refl _) (.cells (opc o).toArray 35)))
          have HOA : Hid (Only (fun j => ((w.heap.size ≤ j ∧ j < w6.heap.size) ∨ w8.heap.size ≤ j) ∨ j = w6.heap.size) w8 (wr.alloc (.cells (opc o).toArray 35))) := ho.alloc _
          have HBA := hide (hB.alloc (.cells (opc o).toArray 35))
          clear z1 z2 z3 z4 hR hrg h4 hoo hdk hN e1 hop hcal hWr ho hd hB HD HWr
          by_cases hw : o.dO ≠ 2 ∧ 0 ≤ o.p ∧ o.p < 9
          · obtain ⟨hw2, hp0, hp9⟩ := hw
            have HE : Hid (wrK D1 T1 (k + 1) = writeD dk o.p.toNat (pageS o.b)) := by show _ = _; rw [HE1.out]; unfold wr1; rw [if_pos ⟨hw2, hp0, hp9⟩]
            obtain ⟨P, hP⟩ : ∃ P : Nat, P = o.p.toNat := ⟨_, rfl⟩
            have hpP : o.p = (P : Int) := by omega
            rw [← hP] at HE
            rw [hpP] at q1 hp9 hp0
            have hP9 : P < 9 := by omega
            have h2b : (o.dO == 2) = false := by simpa using hw2
            have hbll := HWk.out.1
            have hPl : P < (bc bl).length := by rw [bc_len]; omega
            have hgw : w6.heap.size < wr.heap.size := HBl.out.lt
            have cw := Blk.cell HBA.out P
            rw [List.getElem?_eq_getElem hPl] at cw
            generalize (bc bl)[P] = oldb at cw
            have fw := Blk.frozen HBA.out P
            -- the world behind the mark
            have hszA : (wr.setCell ⟨w6.heap.size, P, none⟩ (.bool true)).heap.size = wr.heap.size := by simp
            have HOB : Hid (Only (fun j => ((w.heap.size ≤ j ∧ j < w6.heap.size) ∨ w8.heap.size ≤ j) ∨ j = w6.heap.size) w8 ((wr.setCell ⟨w6.heap.size, P, none⟩ (.bool true)).alloc (.cells (opc o).toArray 35))) := (HO.out.setCell ⟨w6.heap.size, P, none⟩ _ (fun _ => .inr rfl)).alloc _
            have HBB : Hid (Blk ((wr.setCell ⟨w6.heap.size, P, none⟩ (.bool true)).alloc (.cells (opc o).toArray 35)) w6.heap.size 4 (bc (bl.set P true))) := by
              have := (Blk.set HBl.out P (.bool true)).alloc (.cells (opc o).toArray 35)
              rw [bc_set]; exact this
            have HDS : Hid (Dev ((wr.setCell ⟨w6.heap.size, P, none⟩ (.bool true)).alloc (.cells (opc o).toArray 35)) b (fun k => ((w.heap.size ≤ k ∧ k < w6.heap.size) ∨ w8.heap.size ≤ k) ∧ k < wr.heap.size) dk) := by
              have h1 : Dev (wr.setCell ⟨w6.heap.size, P, none⟩ (.bool true)) b (fun k => ((w.heap.size ≤ k ∧ k < w6.heap.size) ∨ w8.heap.size ≤ k) ∧ k < wr.heap.size) dk := (HDk.out.bound).keep (S := fun k => k = w6.heap.size) ((Only.refl (fun k => k = w6.heap.size) _).setCell ⟨w6.heap.size, P, none⟩ _ (fun _ => rfl)) (fun k hk e => by omega)
              exact h1.below ((Below.refl _ _).alloc (by rw [hszA]; exact Nat.le_refl _) _)
            have HNB : Hid (Blk ((wr.setCell ⟨w6.heap.size, P, none⟩ (.bool true)).alloc (.cells (opc o).toArray 35)) wr.heap.size 35 (opc o)) := by
              have := Blk.new (wr.setCell ⟨w6.heap.size, P, none⟩ (.bool true)) 35 (opc o)
              rw [hszA] at this
              exact this
            have HSZ : Hid (((wr.setCell ⟨w6.heap.size, P, none⟩ (.bool true)).alloc (.cells (opc o).toArray 35)).heap.size = wr.heap.size + 1) := by show _ = _; simp
            have HBE : Hid (∀ wx, Only (fun k => ((w.heap.size ≤ k ∧ k < w6.heap.size) ∨ w8.heap.size ≤ k) ∧ k < wr.heap.size) ((wr.setCell ⟨w6.heap.size, P, none⟩ (.bool true)).alloc (.cells (opc o).toArray 35)) wx → Only (fun j => ((w.heap.size ≤ j ∧ j < w6.heap.size) ∨ w8.heap.size ≤ j) ∨ j = w6.heap.size) w8 wx ∧ Below w.heap.size w wx) := fun wx hh => by
              have h1 := HOB.out.trans hh (fun j _ hj => .inl hj.1)
              exact ⟨h1, HW8.out.trans (h1.below hs08 (fun j hj h => by omega))⟩
            have HSL : Hid (∀ wx, Only (fun k => ((w.heap.size ≤ k ∧ k < w6.heap.size) ∨ w8.heap.size ≤ k) ∧ k < wr.heap.size) ((wr.setCell ⟨w6.heap.size, P, none⟩ (.bool true)).alloc (.cells (opc o).toArray 35)) wx → Sl wx o.bv o.b) := fun wx hh => hS0.below (HBE.out wx hh).2
            have HPO : Hid (PageOk (pageS o.b)) := pageS_ok hS0.bytes
            have HCC : Hid (∀ wx, Only (fun k => ((w.heap.size ≤ k ∧ k < w6.heap.size) ∨ w8.heap.size ≤ k) ∧ k < wr.heap.size) ((wr.setCell ⟨w6.heap.size, P, none⟩ (.bool true)).alloc (.cells (opc o).toArray 35)) wx → wx.cell? ⟨wr.heap.size, 1, none⟩ = some (.int .i64 (P : Int)) ∧ wx.cell? ⟨wr.heap.size, 3, none⟩ = some o.bv) := fun wx hh => ⟨((HNB.out.only hh (fun h => by omega)).cell 1).trans (by rw [← hpP]; rfl), (HNB.out.only hh (fun h => by omega)).cell 3⟩
            have HPn : Hid (P < dk.st.length) := by show _ < _; rw [HCal.out.st]; exact hP9
            have hw3 : (o.dO != 2) = true := by simpa using hw2
            clear hP hpP hszA hS0
            go_wp2_with (first
              | ((with_reducible refine wpList_load_mid rfl 35 (.tmp 91) rfl gb (off + k * 5) ?_ (opc o) _ HR.out Try.underlying35 rfl HZ1.out ?_); exact rfl)
              | ((with_reducible refine wpList_store_new rfl 35 (.tmp 19) (.tmp 92) rfl opZero (opc o).toArray 35 ?_ ?_ HZ3.out HZ2.out HZ4.out ?_); exact rfl; exact rfl))
            refine wp_region_only (fun k => ((w.heap.size ≤ k ∧ k < w6.heap.size) ∨ w8.heap.size ≤ k) ∧ k < wr.heap.size) [isV (.pointer (some ⟨b, 0, none⟩)), isV (.pointer (some ⟨wr.heap.size, 1, none⟩)), isV (.int .i64 (P : Int)), isV (.pointer (some ⟨wr.heap.size, 3, none⟩)), isV (o.bv), isPg (wr.heap.size + 1) (pageS o.b), isWrQ (fun wz => Dev wz b (fun k => (w.heap.size ≤ k ∧ k < w6.heap.size) ∨ w8.heap.size ≤ k) (writeD dk P (pageS o.b)) ∧ Only (fun j => ((w.heap.size ≤ j ∧ j < w6.heap.size) ∨ w8.heap.size ≤ j) ∨ j = w6.heap.size) w8 wz ∧ Blk wz w6.heap.size 4 (bc (bl.set P true)))] 6 156 7 (by kernel_rfl) (by kernel_rfl) (by kernel_rfl) (by kernel_rfl) rfl ?_ ?_ ?_
            · repeat (first | exact trivial | refine allStL_isV ?_ | refine ⟨stS_isPg _ _ _ (fun _ h => h.elim), fun _ => stS_isPg _ _ _ (fun k hk => by omega), ?_⟩ | refine ⟨stS_isWrQ (fun wy wz hh hq => ⟨hq.1.below (hh.below (Nat.le_refl _) (fun _ _ h => h)), hq.2.1.trans hh (fun _ _ h => h.elim), hq.2.2.only hh (fun h => h)⟩), fun h => absurd rfl h, ?_⟩)
            · refine ⟨?_, ?_, ?_, ?_, ?_, ?_, ?_, trivial⟩
              · intro a wx h
                have e11 : a.eval (.tmp 11) = .pointer (some ⟨b, 0, none⟩) := h.old 11 (by kernel_rfl)
                have hrel := h.rel
                clear h
                refine gives_by rfl a.eval rfl ?_
                generalize a.eval = ρ at *
                intro hf hc
                go_simp
                exact ⟨relM_quiet (by decide) (Only.refl _ _), rfl⟩
              · intro a wx h
                have e19 : a.eval (.tmp 19) = .pointer (some ⟨wr.heap.size, 0, none⟩) := h.old 19 (by kernel_rfl)
                have hrel := h.rel
                clear h
                refine gives_by rfl a.eval rfl ?_
                generalize a.eval = ρ at *
                intro hf hc
                go_simp
                exact ⟨relM_quiet (by decide) (Only.refl _ _), rfl⟩
              · intro a wx h
                obtain ⟨v111, e111, f111⟩ := h.val 1 111 (by kernel_rfl)
                obtain rfl : v111 = .pointer (some ⟨wr.heap.size, 1, none⟩) := f111
                have hrel := h.rel
                clear h
                have c1x := (HCC.out wx hrel).1
                refine gives_by rfl a.eval rfl ?_
                generalize a.eval = ρ at *
                intro hf hc
                go_simp
                exact ⟨relM_quiet (by decide) (Only.refl _ _), rfl⟩
              · intro a wx h
                have e19 : a.eval (.tmp 19) = .pointer (some ⟨wr.heap.size, 0, none⟩) := h.old 19 (by kernel_rfl)
                have hrel := h.rel
                clear h
                refine gives_by rfl a.eval rfl ?_
                generalize a.eval = ρ at *
                intro hf hc
                go_simp
                exact ⟨relM_quiet (by decide) (Only.refl _ _), rfl⟩
              · intro a wx h
                obtain ⟨v113, e113, f113⟩ := h.val 3 113 (by kernel_rfl)
                obtain rfl : v113 = .pointer (some ⟨wr.heap.size, 3, none⟩) := f113
                have hrel := h.rel
                clear h
                have c3x := (HCC.out wx hrel).2
                refine gives_by rfl a.eval rfl ?_
                generalize a.eval = ρ at *
                intro hf hc
                go_simp
                exact ⟨relM_quiet (by decide) (Only.refl _ _), rfl⟩
              · intro a wx h
                obtain ⟨v114, e114, f114⟩ := h.val 4 114 (by kernel_rfl)
                obtain rfl : v114 = o.bv := f114
                have hrel := h.rel
                clear h
                refine gives_by rfl a.eval rfl ?_
                generalize a.eval = ρ at *
                intro hf hc
                go_simp
                refine (page_any wx o.bv o.b (HSL.out wx hrel)).mono ?_
                rintro e wy ⟨rfl, hp, hb⟩
                have hsz := hrel.size
                rw [HSZ.out] at hsz
                exact ⟨_, rfl, relM_quiet (by decide) (Only.of_below _ hb), ⟨_, rfl, hp, hsz⟩⟩
              · intro a wx h
                obtain ⟨v110, e110, f110⟩ := h.val 0 110 (by kernel_rfl)
                obtain rfl : v110 = .pointer (some ⟨b, 0, none⟩) := f110
                obtain ⟨v112, e112, f112⟩ := h.val 2 112 (by kernel_rfl)
                obtain rfl : v112 = .int .i64 (P : Int) := f112
                obtain ⟨v115, e115, f115⟩ := h.val 5 115 (by kernel_rfl)
                obtain ⟨g, rfl, hB, hg⟩ := f115
                have hrel := h.rel
                have hq := h.relq rfl
                clear h
                refine gives_by rfl a.eval rfl ?_
                generalize a.eval = ρ at *
                intro hf hc
                go_simp
                refine (write_ok wx b _ dk P _ (pageS o.b) (HDS.out.keep hq (fun _ _ h => h)) HPn.out HCal.out.off (sl_page hB HPO.out) HPO.out.1 (by omega) (by omega)).mono ?_
                rintro e wy ⟨rfl, hd, ho⟩
                have hsz := hrel.size
                rw [HSZ.out] at hsz
                have hB6 := (HBB.out.only hrel (fun h => by omega)).only ho (fun h => by omega)
                refine ⟨_, rfl, relM_turn ho, by rw [calm_spendE HCal.out.left], hd.mono (fun k _ hk => ?_), (HBE.out wx hrel).1.trans ho (fun j _ hj => .inl hj.1), hB6⟩
                rcases hk with hk | hk
                · exact hk.1
                · right; omega
            · intro oL hoL vals w3 ho3 hv
              simp only [List.getElem?_toArray, List.getElem?_cons_succ, List.getElem?_cons_zero, Option.some.injEq] at hoL
              subst hoL
              have hv6 : isWrQ (fun wz => Dev wz b (fun k => (w.heap.size ≤ k ∧ k < w6.heap.size) ∨ w8.heap.size ≤ k) (writeD dk P (pageS o.b)) ∧ Only (fun j => ((w.heap.size ≤ j ∧ j < w6.heap.size) ∨ w8.heap.size ≤ j) ∨ j = w6.heap.size) w8 wz ∧ Blk wz w6.heap.size 4 (bc (bl.set P true))) (vals 6) w3 := hv 6 116 (by decide) (by kernel_rfl)
              clear hv
              generalize hact : putAll _ vals 0 _ = act
              obtain ⟨hv6, hd6, ho6, hb6⟩ := hv6
              have HD6 := hide hd6
              have HO6 := hide ho6
              have HB6 := hide hb6
              clear hd6 ho6 hb6 ho3
              subst hact
              simp only [List.dropLast, putAll, Act.put, List.setIfInBounds_toArray, List.set_cons_zero, List.set_cons_succ, hv6, Nat.zero_add, Nat.reduceAdd]
              refine gives_of_run (v := .bool false) (w' := w3) rfl (by go_simp) ?_
              go_wp2
              go_roundg g
              case measure => omega
              case rel => exact ⟨k + 1, bl.set P true, by omega, by go_num, HO6.out, by rw [HE.out]; exact HD6.out, HB6.out, by rw [HE.out]; exact HWk.out.set HCal.out.left P hP9 _⟩
          · have HE : Hid (wrK D1 T1 (k + 1) = dk) := by show _ = _; rw [HE1.out]; unfold wr1; rw [if_neg hw]
            have hcs : (o.dO = 2) ∨ ((o.dO == 2) = false ∧ o.p < 0) ∨ ((o.dO == 2) = false ∧ 0 ≤ o.p ∧ ¬ o.p < 9) := by
              by_cases h2 : o.dO = 2
              · exact .inl h2
              · by_cases hp : 0 ≤ o.p
                · exact .inr (.inr ⟨by simpa using h2, hp, fun h9 => hw ⟨h2, hp, h9⟩⟩)
                · exact .inr (.inl ⟨by simpa using h2, by omega⟩)
            clear hw
            rcases hcs with h2 | ⟨h2, hp⟩ | ⟨h2, hp, hp9⟩
            · rw [h2] at q0
              clear h2
              go_wp2_with (first
                | ((with_reducible refine wpList_load_mid rfl 35 (.tmp 91) rfl gb (off + k * 5) ?_ (opc o) _ HR.out Try.underlying35 rfl HZ1.out ?_); exact rfl)
                | ((with_reducible refine wpList_store_new rfl 35 (.tmp 19) (.tmp 92) rfl opZero (opc o).toArray 35 ?_ ?_ HZ3.out HZ2.out HZ4.out ?_); exact rfl; exact rfl))
              go_roundg g
              case measure => omega
              case rel => exact ⟨k + 1, bl, by omega, by go_num, HOA.out, by rw [HE.out]; exact HDA.out, HBA.out, by rw [HE.out]; exact HWk.out⟩
            · go_wp2_with (first
                | ((with_reducible refine wpList_load_mid rfl 35 (.tmp 91) rfl gb (off + k * 5) ?_ (opc o) _ HR.out Try.underlying35 rfl HZ1.out ?_); exact rfl)
                | ((with_reducible refine wpList_store_new rfl 35 (.tmp 19) (.tmp 92) rfl opZero (opc o).toArray 35 ?_ ?_ HZ3.out HZ2.out HZ4.out ?_); exact rfl; exact rfl))
              all_goals
                go_roundg g
                case measure => omega
                case rel => exact ⟨k + 1, bl, by omega, by go_num, HOA.out, by rw [HE.out]; exact HDA.out, HBA.out, by rw [HE.out]; exact HWk.out⟩
            · go_wp2_with (first
                | ((with_reducible refine wpList_load_mid rfl 35 (.tmp 91) rfl gb (off + k * 5) ?_ (opc o) _ HR.out Try.underlying35 rfl HZ1.out ?_); exact rfl)
                | ((with_reducible refine wpList_store_new rfl 35 (.tmp 19) (.tmp 92) rfl opZero (opc o).toArray 35 ?_ ?_ HZ3.out HZ2.out HZ4.out ?_); exact rfl; exact rfl))
              all_goals
                go_roundg g
                case measure => omega
                case rel => exact ⟨k + 1, bl, by omega, by go_num, HOA.out, by rw [HE.out]; exact HDA.out, HBA.out, by rw [HE.out]; exact HWk.out⟩

end Go.Proofs.Ytofpngmabjpfhaa
