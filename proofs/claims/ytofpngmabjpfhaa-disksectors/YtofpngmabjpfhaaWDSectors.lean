/- The walk of the statement DiskSectors. -/
import Derived.Test.YtofpngmabjpfhaaDSect
import Derived.OpenShut
import Derived.BigQuiet
namespace Go.Proofs.Ytofpngmabjpfhaa
open Go.RowKit Go.ChangeShapes Go.WideShapes
set_option linter.unusedVariables false

set_option maxHeartbeats 1000000 in
set_option maxRecDepth 20000 in
theorem diskSectors_refused (w : World) (v0 v1 : Value) (os0 : List OpA) (pk : List Int) (h0 : Script w v0 os0) (h2 : Sl w v1 pk) (hno : ¬ (fewB os0 = true ∧ pk.length ≤ 200)) :
    Calls Try.prog 5 #[v0, v1] w fun e w' => e = .returned (.bool true) ∧ Below w.heap.size w w' := by
  have HF1 := hide (few_any w v0 os0 h0)
  have HLive : Hid (∀ wx : World, Calls Try.prog 9 #[] wx fun e w' => e = .returned (.bool true) ∧ Below wx.heap.size wx w') := fun wx => live_any wx
  have HLive2 := HLive
  have HNew : Hid (∀ wx : World, Calls Try.prog _ _ _ _) := fun wx => new_ok wx 8 (by omega) (by omega)
  obtain ⟨ao, cp, rfl⟩ := sl_form' h2
  have hcases : (fewB os0 = false) ∨ (fewB os0 = true ∧ (200 : Int) < (pk.length : Int)) := by
    cases e0 : fewB os0
    · exact .inl rfl
    · refine .inr ⟨rfl, ?_⟩
      have : ¬ pk.length ≤ 200 := fun h => hno ⟨e0, h⟩
      omega
  clear h0 h2 hno
  rcases hcases with e0 | ⟨e0, hpk⟩
  all_goals
    go_enter Try.func5, Try.ntmps5
    go_wp2_with (first
      | (go_at_call 8; refine HF1.out.mono ?_; rintro e w1 ⟨⟨u, rfl, _, _⟩, hb1⟩; have HB1 := hide hb1; clear HF1 hb1)
      | (go_at_call 10; refine (HNew.out w1).mono ?_; rintro e w3 ⟨b, rfl, hd2, hb3⟩; have HB3 := hide hb3; clear HNew hd2 hb3)
      | (go_at_call 9; refine (HLive.out w3).mono ?_; rintro e w4 ⟨rfl, hb4⟩; have HB4 := hide hb4; clear HLive hb4)
      | (go_at_call 9; refine (HLive2.out w4).mono ?_; rintro e w5 ⟨rfl, hb5⟩; have HB5 := hide hb5; clear HLive2 hb5))
    go_ret
    exact ⟨rfl, below_then (below_then (below_then HB1.out HB3.out (Nat.le_refl _)) HB4.out (Nat.le_refl _)) HB5.out (Nat.le_refl _)⟩

set_option maxHeartbeats 2000000 in
set_option maxRecDepth 20000 in
theorem diskSectors_walk (w : World) (v0 : Value) (os0 : List OpA) (v1 : Value) (pk : List Int) (h0 : Script w v0 os0) (h2 : Sl w v1 pk) :
    Calls Try.prog 5 #[v0, v1] w fun e w' => e = .returned (.bool true) ∧ Below w.heap.size w w' := by
  by_cases hyes : fewB os0 = true ∧ pk.length ≤ 200
  case neg => exact diskSectors_refused w v0 v1 os0 pk h0 h2 hyes
  obtain ⟨e0, hpk⟩ := hyes
  have hF1 := few_any w v0 os0 h0
  rw [e0] at hF1
  have HF1 := hide hF1
  clear hF1
  have HLive : Hid (∀ wx : World, Calls Try.prog 9 #[] wx fun e w' => e = .returned (.bool true) ∧ Below wx.heap.size wx w') := fun wx => live_any wx
  have HNew : Hid (∀ wx : World, Calls Try.prog _ _ _ _) := fun wx => new_ok wx 8 (by omega) (by omega)
  obtain ⟨T, hT⟩ : ∃ T, T = os0.take 50 := ⟨_, rfl⟩
  have hTl : T.length ≤ 50 := by rw [hT]; simp; omega
  rw [← hT] at HF1
  have HPkS := hide h2
  obtain ⟨aop, cpp, rfl⟩ := sl_form' h2
  have hpki : ¬ (200 : Int) < (pk.length : Int) := by omega
  have HPlt : Hid (∀ k, (Value.slice aop pk.length cpp).ownBlock = some k → k < w.heap.size ∨ pk = []) := by
    intro k hk
    by_cases hz : pk = []
    · exact .inr hz
    · left
      obtain ⟨_, ao', cap', he, _, _, _, h4⟩ := h2
      obtain ⟨rfl, _⟩ : aop = ao' ∧ cpp = cap' := by simpa using he
      obtain ⟨gb, go, rfl, hc⟩ := h4 hz
      simp [Value.ownBlock] at hk
      subst hk
      exact World.block_lt_of_cell? w _ (hc 0 (List.length_pos_iff.2 hz))
  have hzm := zeroMayRun
  clear hT h0 h2 e0
  go_enter Try.func5, Try.ntmps5
  go_wp2_with (first
    | (go_at_call 8; refine HF1.out.mono ?_; rintro e w1 ⟨⟨u, rfl, hu, _⟩, hb1⟩; have HU := hide (hu rfl); have HB1 := hide hb1; clear HF1 hu hb1)
    | (go_at_call 10; refine (HNew.out w1).mono ?_; rintro e w3 ⟨b, rfl, hd3, hb3⟩; have HD3 : Hid (DevL w w3 b (newD 8)) := ⟨hd3.mono (fun k _ hk => Nat.le_trans HB1.out.size hk), below_then HB1.out hb3 (Nat.le_refl _)⟩; clear HNew hd3 hb3 HB1)
    | (go_at_call 9; refine (HLive.out w3).mono ?_; rintro e w4 ⟨rfl, hb4⟩; have HD4 := hide (HD3.out.below hb4); clear HLive hb4 HD3))
  have hs04 := HD4.out.bel.size
  have HM0 : Hid (MayR (w4.alloc (.cells mayZero 54)) w4.heap.size (fun k => w.heap.size ≤ k ∧ k < w4.heap.size) w4.heap.size (firstR (0 * 4))) := mayR_new w4 _ (by omega) _
  go_loopg [53] 8 (fun g i wr => ∃ k : Nat, g + k = 8 ∧ i = .int .i64 k ∧ Below w4.heap.size w4 wr ∧ MayR wr w4.heap.size (fun k => w.heap.size ≤ k ∧ k < w4.heap.size) w4.heap.size (firstR (k * 4)))
  case atStart => exact ⟨0, rfl, rfl, (Below.refl _ _).alloc (Nat.le_refl _) _, HM0.out⟩
  case round =>
    obtain ⟨k, hk, rfl, hb, hM⟩ := hrel
    have HB := hide hb
    have HM := hide hM
    clear hb hM HM0
    cases gk with
    | zero =>
      obtain rfl : k = 8 := by omega
      obtain ⟨w5, rfl⟩ : ∃ x, x = wr := ⟨_, rfl⟩
      have HD5 : Hid (Dev w5 b (fun k => w.heap.size ≤ k ∧ k < w4.heap.size) (newD 8)) := (HD4.out.dev.bound).keep (Only.of_below (fun j => w4.heap.size ≤ j) (HB.out.mono (Nat.le_refl _))) (fun k hk h => by omega)
      have HW5 : Hid (Below w.heap.size w w5) := below_then HD4.out.bel HB.out (Nat.le_refl _)
      have hs45 := HB.out.size
      have hw45 : w4.heap.size < w5.heap.size := HM.out.lt
      obtain ⟨ac, cc, rfl, hcc0, hcc⟩ := HU.out.form
      have hza := zeroOpRun
      clear HB HD4
      go_wp2
      go_loopg [68] T.length (fun g i wr => ∃ (k : Nat) (F : Nat → Prop) (R : Nat → List Int) (d : Dv), g + k = T.length ∧ i = .int .i64 k ∧ Dev wr b F d ∧ MayR wr w4.heap.size F w4.heap.size R ∧ (∀ j, F j → w.heap.size ≤ j ∧ j < wr.heap.size) ∧ Below w.heap.size w wr ∧ w5.heap.size ≤ wr.heap.size ∧ Calm 8 k d ∧ d.st = (newD 8).st ∧ MayOk R d.ws ∧ ∀ i, (R i).length ≤ k + 1)
      case atStart => exact ⟨0, _, _, _, by omega, rfl, HD5.out, HM.out, (fun j hj => by omega), HW5.out, Nat.le_refl _, calm_new 8, rfl, mayOk_first rfl, (fun i => by unfold firstR; split <;> simp)⟩
      case round =>
        obtain ⟨k, F, R, d, hk, rfl, hd, hM, hFb, hW, h5r, hcal, hst, hmo, hRl⟩ := hrel
        have HD := hide hd
        have HMr := hide hM
        have HFb := hide hFb
        have HW := hide hW
        have HCal := hide hcal
        have HSt := hide hst
        have HMo := hide hmo
        have HRl := hide hRl
        cases gk with
        | zero =>
          obtain rfl : k = T.length := by omega
          obtain ⟨w8, rfl⟩ : ∃ x, x = wr := ⟨_, rfl⟩
          have HCr : Hid (Calls Try.prog 17 #[dp b, .slice aop pk.length cpp] w8 _) := crash_any w8 b _ d _ pk hd (HPkS.out.below hW) (fun hne j hj hf => by
            have := hFb j hf
            rcases HPlt.out j hj with h | h
            · omega
            · exact hne h)
          have hsec := crash_sec pk hst hd.ok.ws hmo d.ws.length (Nat.le_refl _)
          have hok3 := crashD_ok hd.ok pk
          have hst3 : (crashD d pk).st.length = 8 := by show (crashK _ _ _ _).length = 8; rw [crashK_len]; exact hcal.st
          obtain ⟨IMG, hIMG⟩ : ∃ I, I = imgS (crashD d pk).st := ⟨_, rfl⟩
          have HSec : Hid (∀ p, p < 8 → ∀ s, s < 4 → ∃ c, c ∈ R (p * 4 + s) ∧ ∀ i, i < 64 → IMG.getD (p * 256 + s * 64 + i) 0 = c) := fun p hp s hs => by
            obtain ⟨c, hc, hse⟩ := hsec p hp s hs
            refine ⟨c, hc, fun i hi => ?_⟩
            have h1 := imgS_get hok3.st (p := p) (by omega) (s * 64 + i) (by omega)
            have h2 := hse i hi
            rw [hIMG, List.getD_eq_getElem?_getD, Nat.add_assoc, h1]
            show Option.getD ((sAt (crashK d.st d.ws pk d.ws.length) p)[s * 64 + i]?) 0 = c
            rw [h2]; rfl
          have hIl : IMG.length = 2048 := by rw [hIMG, imgS_len hok3.st, hst3]
          have HIm : Hid (∀ w9, Dev w9 b F (crashD d pk) → Calls Try.prog 19 #[dp b] w9 fun e w' => (∃ ga ci, e = .returned (.slice (some ⟨ga, 0, none⟩) 2048 ci) ∧ 2048 ≤ ci ∧ ci ≤ 9223372036854775807 ∧ ∀ j, j < 2048 → w'.cell? ⟨ga, j, none⟩ = some (.int .u8 (IMG.getD j 0))) ∧ Below w9.heap.size w9 w') := fun w9 h9 => by
            refine (image_any w9 b F _ h9).mono ?_
            rintro e w' ⟨u, rfl, ho, hb⟩
            rw [hst3, ← hIMG] at ho
            rcases own_form ho with ⟨_, h0⟩ | ⟨ga, ci, rfl⟩
            · omega
            refine ⟨⟨ga, ci, rfl, (own_len ho).1, (own_len ho).2, fun j hj => ?_⟩, hb⟩
            have := ho.cells (g := ga) rfl j (.int .u8 (IMG.getD j 0)) (by unfold pc; rw [List.getElem?_map, List.getElem?_eq_getElem (by omega), List.getD_eq_getElem?_getD, List.getElem?_eq_getElem (by omega)]; rfl)
            rwa [Addr.add_mid, Nat.zero_add] at this
          clear hd hM hFb hW hcal hst hmo hRl HD HCal HSt HMo HRl hsec hok3 hst3 hIMG
          go_wp2_with (first
            | (go_at_call 17; refine HCr.out.mono ?_; rintro e w9 ⟨rfl, hd9, ho9⟩; have HD9 := hide hd9; have HO9 := hide ho9; clear HCr hd9 ho9)
            | (go_at_call 19; refine (HIm.out w9 HD9.out).mono ?_; rintro e w10 ⟨⟨ga, ci, rfl, hci1, hci2, hca⟩, hb10⟩; have HCA := hide hca; have HB10 := hide hb10; clear HIm hca hb10))
          have HM10 : Hid (MayR w10 w4.heap.size F w4.heap.size R) := (HMr.out.only HO9.out (fun _ _ h => h)).below HB10.out
          have HW10 : Hid (Below w.heap.size w w10) := by
            have h1 := HW.out.trans (HO9.out.below HW.out.size (fun j hj h => by have := HFb.out j h; omega))
            exact below_then h1 HB10.out (Nat.le_refl _)
          clear HMr HO9 HB10 HD9 HW HFb
          go_loopg [121] 8 (fun g i wr => ∃ k : Nat, g + k = 8 ∧ i = .int .i64 k ∧ Below w10.heap.size w10 wr)
          case atStart => exact ⟨0, rfl, rfl, Below.refl _ _⟩
          case round =>
            obtain ⟨p, hk, rfl, hb5⟩ := hrel
            have HB5 := hide hb5
            clear hb5
            cases gk with
            | zero =>
              obtain rfl : p = 8 := by omega
              go_wp2
              go_ret
              exact ⟨rfl, below_then HW10.out HB5.out (Nat.le_refl _)⟩
            | succ g =>
              have hp8 : p < 8 := by omega
              have hpi : (p : Int) < 8 := by omega
              go_wp2
              go_loopg [124] 4 (fun g i wr => ∃ k : Nat, g + k = 4 ∧ i = .int .i64 k ∧ Below w10.heap.size w10 wr)
              case atStart => exact ⟨0, rfl, rfl, HB5.out⟩
              case round =>
                obtain ⟨s, hs, rfl, hb6⟩ := hrel
                have HB6 := hide hb6
                clear HB5
                cases gk with
                | zero =>
                  obtain rfl : s = 4 := by omega
                  go_wp2
                  go_roundg g
                  case measure => omega
                  case rel => exact ⟨p + 1, by omega, by go_num, HB6.out⟩
                | succ g2 =>
                  have hs4 : s < 4 := by omega
                  have hsi : (s : Int) < 4 := by omega
                  obtain ⟨c, hc, hse⟩ := HSec.out p hp8 s hs4
                  obtain ⟨ar, cr, hcr, hcr1, hcr2, hrow⟩ := (HM10.out.below hb6).row (i := p * 4 + s) (by omega)
                  obtain ⟨row, hrw⟩ : ∃ r, r = R (p * 4 + s) := ⟨_, rfl⟩
                  rw [← hrw] at hc hcr hcr1 hrow
                  obtain ⟨A, hA⟩ : ∃ A, A = p * 256 := ⟨_, rfl⟩
                  obtain ⟨K, hK⟩ : ∃ K, K = s * 64 := ⟨_, rfl⟩
                  obtain ⟨N, hN⟩ : ∃ N, N = A + K := ⟨_, rfl⟩
                  have hAi : (p : Int) * 256 = (A : Int) := by omega
                  have hKi : (s : Int) * 64 = (K : Int) := by omega
                  have hNi : (A : Int) + (K : Int) = (N : Int) := by omega
                  have hAw : IntKind.i64.wrap (A : Int) = (A : Int) := IntWalk.i64_in _ (by omega)
                  have hKw : IntKind.i64.wrap (K : Int) = (K : Int) := IntWalk.i64_in _ (by omega)
                  have hNw : IntKind.i64.wrap (N : Int) = (N : Int) := IntWalk.i64_in _ (by omega)
                  have hN2 : N + 64 ≤ 2048 := by omega
                  have hNi2 : (N : Int) < 2048 := by omega
                  have HSe : Hid (∀ wx, Below w10.heap.size w10 wx → ∀ i, i < 64 → wx.cell? ⟨ga, N + i, none⟩ = some (.int .u8 c)) := fun wx hx i hi => by
                    rw [hx.cell (World.block_lt_of_cell? w10 _ (HCA.out (N + i) (by omega))), HCA.out (N + i) (by omega), hN, hA, hK, hse i hi]
                  have HRow : Hid (∀ wx, Below w10.heap.size w10 wx → ∀ j, j < row.length → ∃ g, ar = some ⟨g, 0, none⟩ ∧ wx.cell? ⟨g, j, none⟩ = some (.int .u8 (row.getD j 0))) := fun wx hx j hj => by
                    obtain ⟨ar', cr', hcr', _, _, hrow'⟩ := (HM10.out.below hx).row (i := p * 4 + s) (by omega)
                    rw [← hrw] at hcr' hrow'
                    have h1 : wx.cell? ⟨w4.heap.size, p * 4 + s, none⟩ = wr.cell? ⟨w4.heap.size, p * 4 + s, none⟩ := (hx.cell HM10.out.lt).trans (hb6.cell HM10.out.lt).symm
                    rw [h1, hcr] at hcr'
                    obtain ⟨rfl, _⟩ : ar = ar' ∧ cr = cr' := by simpa using hcr'
                    exact hrow' j hj
                  have hcr3 : cr ≤ 9223372036854775807 := hcr2
                  have HC := hide hc
                  clear hse hrw hA hK hN hc hrow hcr2 hb6
                  go_wp2
                  go_loopg [20, 138] row.length (fun g is i wr => ∃ j : Nat, g + j = row.length ∧ i = .int .i64 j ∧ is = .bool (decide (c ∈ row.take j)) ∧ Below w10.heap.size w10 wr)
                  case atStart => exact ⟨0, by omega, rfl, by simp, HB6.out⟩
                  case round =>
                    obtain ⟨j, hj, rfl, rfl, hb7⟩ := hrel
                    have HB7 := hide hb7
                    clear hcr
                    cases gk with
                    | zero =>
                      obtain rfl : j = row.length := by omega
                      rw [List.take_length, decide_eq_true HC.out]
                      go_wp2
                      go_loopg [152] 64 (fun g i wr => ∃ k : Nat, g + k = 64 ∧ i = .int .i64 k ∧ Below w10.heap.size w10 wr)
                      case atStart => exact ⟨0, rfl, rfl, HB7.out⟩
                      case round =>
                        obtain ⟨i, hi, rfl, hb8⟩ := hrel
                        have HB8 := hide hb8
                        clear hb7
                        cases gk with
                        | zero =>
                          obtain rfl : i = 64 := by omega
                          go_wp2
                          go_roundg g2
                          case measure => omega
                          case rel => exact ⟨s + 1, by omega, by go_num, HB8.out⟩
                        | succ g3 =>
                          have hi64 : i < 64 := by omega
                          have hii : (i : Int) < 64 := by omega
                          obtain ⟨E, hE⟩ : ∃ E, E = N + i := ⟨_, rfl⟩
                          have hEi : (N : Int) + (i : Int) = (E : Int) := by omega
                          have hEw : IntKind.i64.wrap (E : Int) = (E : Int) := IntWalk.i64_in _ (by omega)
                          have hE2 : (E : Int) < 2048 := by omega
                          have hcE := HSe.out wr hb8 i hi64
                          have hc0 : wr.cell? ⟨ga, N, none⟩ = some (.int .u8 c) := HSe.out wr hb8 0 (by omega)
                          rw [← hE] at hcE
                          clear hE hb8
                          go_wp2
                          go_quiet (fail)
                          go_wp2
                          go_roundg g3
                          case measure => omega
                          case rel => exact ⟨i + 1, by omega, by go_num, below_drewN HB8.out _⟩
                    | succ g3 =>
                      have hjl : j < row.length := by omega
                      have hji : (j : Int) < (row.length : Int) := by omega
                      obtain ⟨gr, rfl, hcj⟩ := HRow.out wr hb7 j hjl
                      have hc0 : wr.cell? ⟨ga, N, none⟩ = some (.int .u8 c) := HSe.out wr hb7 0 (by omega)
                      obtain ⟨rj, hrj⟩ : ∃ r, r = row.getD j 0 := ⟨_, rfl⟩
                      have HNx : Hid (decide (c ∈ row.take (j + 1)) = (decide (c ∈ row.take j) || decide (rj = c))) := by
                        show _ = _
                        rw [hrj]; exact mem_take_succ row c j hjl
                      rw [← hrj] at hcj
                      clear hrj hb7
                      cases hd : decide (c ∈ row.take j) with
                      | true =>
                        rw [hd] at HNx
                        go_wp2
                        go_roundg g3
                        case measure => omega
                        case rel => exact ⟨j + 1, by omega, by go_num, by rw [HNx.out]; rfl, HB7.out⟩
                      | false =>
                        rw [hd] at HNx
                        go_wp2
                        go_roundg g3
                        case measure => omega
                        case rel => exact ⟨j + 1, by omega, by go_num, by rw [HNx.out]; rfl, HB7.out⟩
        | succ g =>
          have hkl : k < T.length := by omega
          have hki : (k : Int) < (T.length : Int) := by omega
          have hSr := HU.out.below hW
          have hop := hSr.op hkl
          have hS0 := (HU.out.op hkl).sb
          obtain ⟨_, ao', cap', he, _, _, h4⟩ := hSr
          simp only [Value.slice.injEq, true_and] at he
          obtain ⟨rfl, rfl⟩ := he
          obtain ⟨gb, off, rfl, hgb, hrg⟩ := h4 (by intro h; simp [h] at hkl)
          have hR := hrg k hkl
          obtain ⟨o, hoo⟩ : ∃ o, o = opAt T k := ⟨_, rfl⟩
          rw [← hoo] at hop hR hS0
          obtain ⟨z1, z2, z3, z4⟩ := op_facts hop
          have HR := hide hR
          have HZ1 := hide z1
          have HZ2 := hide z2
          have HZ3 := hide z3
          have HZ4 := hide z4
          have hN := Blk.new wr 35 (opc o)
          have HN := hide hN
          have q1 : (wr.alloc (.cells (opc o).toArray 35)).cell? ⟨wr.heap.size, 1, none⟩ = some (.int .i64 o.p) := Blk.cell hN 1
          have q3 : (wr.alloc (.cells (opc o).toArray 35)).cell? ⟨wr.heap.size, 3, none⟩ = some o.bv := Blk.cell hN 3
          have hbA : Below wr.heap.size wr (wr.alloc (.cells (opc o).toArray 35)) := (Below.refl _ wr).alloc (Nat.le_refl _) _
          have HbA := hide hbA
          have HDA := hide (hd.below hbA)
          have HMA := hide (hM.below hbA)
          have HWA : Hid (Below w.heap.size w (wr.alloc (.cells (opc o).toArray 35))) := below_then hW hbA (Nat.le_refl _)
          have hw0r := hW.size
          clear z1 z2 z3 z4 hR hrg h4 hoo hN hop hbA hd hM hFb hW hcal hst hmo hRl HD
          by_cases hp : 0 ≤ o.p ∧ o.p < 8
          · obtain ⟨hp0, hp8⟩ := hp
            obtain ⟨P, hP⟩ : ∃ P : Nat, P = o.p.toNat := ⟨_, rfl⟩
            have hpP : o.p = (P : Int) := by omega
            rw [hpP] at q1 hp0 hp8
            have hP8 : P < 8 := by omega
            have hP7 : ¬ (7 : Int) < (P : Int) := by omega
            have HPg : Hid (Calls Try.prog 16 #[o.bv] (wr.alloc (.cells (opc o).toArray 35)) _) := page_any _ o.bv o.b (hS0.below HWA.out)
            have HPO : Hid (PageOk (pageS o.b)) := pageS_ok hS0.bytes
            have HPn : Hid (P < d.st.length) := by show _ < _; rw [HCal.out.st]; exact hP8
            have hc1 := HCal.out.ws
            have hc2 := HCal.out.done
            have HoP := hide hpP
            have HQ6 : Hid (∀ w6, Below (wr.alloc (.cells (opc o).toArray 35)).heap.size (wr.alloc (.cells (opc o).toArray 35)) w6 → w6.cell? ⟨wr.heap.size, 1, none⟩ = some (.int .i64 (P : Int))) := fun w6 hb6 => (hb6.cell (by simp)).trans q1
            have HWrt : Hid (∀ w6, Below (wr.alloc (.cells (opc o).toArray 35)).heap.size (wr.alloc (.cells (opc o).toArray 35)) w6 → Blk w6 (wr.heap.size + 1) 5 (pc (pageS o.b)) → Calls Try.prog 15 #[dp b, .int .i64 (P : Int), .slice (some ⟨wr.heap.size + 1, 0, none⟩) 256 256] w6 fun e w' => e = .returned (.int .i64 0) ∧ Dev w' b (fun k => F k ∨ w6.heap.size ≤ k) (writeD d P (pageS o.b)) ∧ Only F w6 w') := fun w6 hb6 hpg => by
              have := write_ok w6 b _ d P _ (pageS o.b) (HDA.out.below hb6) HPn.out HCal.out.off (sl_page hpg HPO.out) HPO.out.1 (by omega) (by omega)
              rw [calm_spendE HCal.out.left] at this
              exact this
            clear hP hpP hS0
            go_wp2_with (first
          | ((with_reducible refine wpList_load_mid rfl 35 (.tmp 70) rfl gb (off + k * 5) ?_ (opc o) _ HR.out Try.underlying35 rfl HZ1.out ?_); exact rfl)
          | ((with_reducible refine wpList_store_new rfl 35 (.tmp 13) (.tmp 71) rfl opZero (opc o).toArray 35 ?_ ?_ HZ3.out HZ2.out HZ4.out ?_); exact rfl; exact rfl)
              | (go_at_call 16; refine HPg.out.mono ?_; rintro e w6 ⟨rfl, hpg6, hb6⟩; rw [World.size_alloc] at hpg6; have HPg6 := hide hpg6; have HB6 := hide hb6; have q16 := HQ6.out w6 hb6; clear HPg hpg6 hb6)
              | (go_at_call 15; refine (HWrt.out w6 HB6.out HPg6.out).mono ?_; rintro e w7 ⟨rfl, hd7, ho7⟩; have HD7 := hide hd7; have HO7 := hide ho7; clear hd7 ho7))
            obtain ⟨wl, rfl⟩ : ∃ x, x = wr := ⟨_, rfl⟩
            have hs6 := HB6.out.size
            rw [World.size_alloc] at hs6
            have hs7 := HO7.out.size
            obtain ⟨F3, hF3⟩ : ∃ F3 : Nat → Prop, F3 = fun j => (F j ∨ wl.heap.size ≤ j) ∧ j < w7.heap.size := ⟨_, rfl⟩
            have HD8 : Hid (Dev w7 b F3 (writeD d P (pageS o.b))) := by
              show Dev _ _ _ _
              rw [hF3]
              exact HD7.out.mono (fun j hj h => ⟨h.elim .inl (fun h => .inr (by omega)), hj⟩)
            have HM8 : Hid (MayR w7 w4.heap.size F3 w4.heap.size (rowsU R P (pageS o.b) 0)) := by
              show MayR _ _ _ _ _
              rw [hF3, rowsU_zero]
              have h1 : MayR wl w4.heap.size (fun j => F j ∨ wl.heap.size ≤ j) w4.heap.size R := HMr.out.mono (fun j hj h => h.elim id (fun h => by omega))
              exact (((h1.below HbA.out).below HB6.out).only HO7.out (fun j _ h => .inl h)).mono (fun j _ h => h.1)
            have HF3 : Hid (∀ j, F3 j → w.heap.size ≤ j ∧ j < w7.heap.size) := fun j hj => by
              rw [hF3] at hj
              refine ⟨?_, hj.2⟩
              rcases hj.1 with h | h
              · exact (HFb.out j h).1
              · omega
            have HG0 : Hid (F3 (wl.heap.size + 1)) := by show F3 _; rw [hF3]; have := HPg6.out.lt; exact ⟨.inr (by omega), by omega⟩
            have hnF : ∀ j, wl.heap.size ≤ j → ¬ F j := fun j hj h => by have := (HFb.out j h).2; omega
            have HPg8 : Hid (Blk w7 (wl.heap.size + 1) 5 (pc (pageS o.b))) := HPg6.out.only HO7.out (hnF _ (by omega))
            have HN8 : Hid (Blk w7 wl.heap.size 35 (opc o)) := (HN.out.below HB6.out (by simp)).only HO7.out (hnF _ (Nat.le_refl _))
            have HW8 : Hid (Below w.heap.size w w7) := by
              have h1 := below_then HWA.out HB6.out (Nat.le_refl _)
              exact h1.trans (HO7.out.below h1.size (fun j hj h => by have := (HFb.out j h).1; omega))
            have HMo8 := hide (HMo.out.write P o.b)
            have hWd := writeD_st HCal.out.left P (pageS o.b)
            have HRl8 : Hid (∀ s i, (rowsU R P (pageS o.b) s i).length ≤ k + 2) := fun s i => rowsU_len R P _ s i _ (HRl.out i)
            have HCal8 := hide (calm_write HCal.out P (pageS o.b))
            rw [← hWd.2] at HMo8
            have HSt8 : Hid ((writeD d P (pageS o.b)).st = (newD 8).st) := hWd.1.trans HSt.out
            obtain ⟨dw, hdw⟩ : ∃ dw, dw = writeD d P (pageS o.b) := ⟨_, rfl⟩
            rw [← hdw] at HD8 HMo8 HCal8 HSt8
            obtain ⟨x, hx⟩ : ∃ x, x = pageS o.b := ⟨_, rfl⟩
            rw [← hx] at HM8 HMo8 HPg8 HPO HRl8
            clear HQ6 HWrt hWd hdw hx hF3 HD7 HO7 HPg6 HB6 HDA HMA HbA HWA HN q1 q3 q16 HPn HMr HMo HRl HCal HSt hnF HFb
            go_loopg [89] 4 (fun g i wr => ∃ s : Nat, g + s = 4 ∧ i = .int .i64 s ∧ Dev wr b F3 dw ∧ MayR wr w4.heap.size F3 w4.heap.size (rowsU R P x s) ∧ Blk wr (wl.heap.size + 1) 5 (pc x) ∧ Blk wr wl.heap.size 35 (opc o) ∧ Below w.heap.size w wr ∧ w7.heap.size ≤ wr.heap.size)
            case atStart => exact ⟨0, rfl, rfl, HD8.out, HM8.out, HPg8.out, HN8.out, HW8.out, Nat.le_refl _⟩
            case round =>
              obtain ⟨s, hs, rfl, hd, hM, hpg, hN, hW, h7z⟩ := hrel
              clear HD8 HM8 HPg8 HN8 HW8
              cases gk with
              | zero =>
                obtain rfl : s = 4 := by omega
                have HD := hide hd
                have HM9 := hide hM
                have HW9 := hide hW
                clear hd hM hpg hN hW
                go_wp2
                go_roundg g
                case measure => omega
                case rel => exact ⟨k + 1, F3, _, dw, by omega, by go_num, HD.out, HM9.out, (fun j hj => by have := HF3.out j hj; omega), HW9.out, by omega, HCal8.out, HSt8.out, HMo8.out, HRl8.out 4⟩
              | succ g2 =>
                have hs4 : s < 4 := by omega
                have hsi : (s : Int) < 4 := by omega
                have hPi : (P : Int) < 8 := by omega
                obtain ⟨wz, rfl⟩ : ∃ x, x = wr := ⟨_, rfl⟩
                have hR1 : (rowsU R P x s (P * 4 + s)).length ≤ 1000 := by have := HRl8.out s (P * 4 + s); omega
                have hsucc := rowsU_succ R P x s
                obtain ⟨K, hK⟩ : ∃ K, K = s * 64 := ⟨_, rfl⟩
                rw [← hK] at hsucc
                have hKi : (s : Int) * 64 = (K : Int) := by omega
                have hK256 : (K : Int) < 256 := by omega
                have hK2 : K < 256 := by omega
                have hKw : IntKind.i64.wrap (K : Int) = (K : Int) := IntWalk.i64_in _ (by omega)
                obtain ⟨hMn, vs, hBM, hA⟩ := hM
                have hvl := hA.len
                obtain ⟨vq, hvq⟩ : ∃ v, vs[P * 4 + s]? = some v := ⟨_, List.getElem?_eq_getElem (by omega)⟩
                obtain ⟨ar, cr, hvf⟩ := own_form' (hA.own _ _ hvq)
                obtain ⟨ln, hln⟩ : ∃ ln, ln = (rowsU R P x s (P * 4 + s)).length := ⟨_, rfl⟩
                rw [← hln] at hvf
                subst hvf
                have hM4 : w4.heap.size < wz.heap.size := hBM.lt
                have hx256 := HPO.out.1
                have HLt : Hid (∀ k, (Value.slice ar ln cr).ownBlock = some k → k < wz.heap.size) := fun k hk => (hA.lt hvq hk).2
                have hnM : ¬ (Value.slice ar ln cr).ownBlock = some w4.heap.size := fun hk => hA.ne hBM (by decide) hvq hk rfl
                have hnq : ¬ (Value.slice ar ln cr).ownBlock = some wl.heap.size := fun hk => hA.ne hN (by decide) hvq hk rfl
                have hng : ¬ (Value.slice ar ln cr).ownBlock = some (wl.heap.size + 1) := fun hk => hA.out _ _ _ hvq hk HG0.out
                have HCC : Hid (∀ wx, Only (fun k => (Value.slice ar ln cr).ownBlock = some k) wz wx → wx.cell? ⟨wl.heap.size, 1, none⟩ = some (.int .i64 (P : Int)) ∧ wx.cell? ⟨w4.heap.size, P * 4 + s, none⟩ = some (.slice ar ln cr) ∧ wx.cell? ⟨wl.heap.size + 1, K, none⟩ = some (.int .u8 (x.getD K 0))) := fun wx hh => by
                  refine ⟨((hN.only hh hnq).cell 1).trans (by rw [← HoP.out]; rfl), ((hBM.only hh hnM).cell _).trans hvq, ((hpg.only hh hng).cell _).trans ?_⟩
                  have hl : K < x.length := by omega
                  unfold pc
                  rw [List.getElem?_map, List.getElem?_eq_getElem hl, List.getD_eq_getElem?_getD, List.getElem?_eq_getElem hl]; rfl
                have HAP : Hid (∀ wx g, Only (fun _ => False) wz wx → Blk wx g 5 [.int .u8 (x.getD K 0)] → ∃ u wy, (Builtin.append_ #[33, 33] 33 #[.slice ar ln cr, .slice (some ⟨g, 0, none⟩) 1 1]).run Try.prog wx = .ok u wy ∧ isAp F3 w4.heap.size (rowsU R P x (s + 1)) vs (P * 4 + s) u wy ∧ Only (fun k => (Value.slice ar ln cr).ownBlock = some k) wx wy) := fun wx g hh hBg => by
                  have hsz := hh.size
                  obtain ⟨u, wy, h1, h2, h3⟩ := (hA.quiet hh).append (P * 4 + s) _ hvq (x.getD K 0) g (hBg.cell 0) hR1 (by omega) (fun h => by have := (HF3.out _ h).2; omega)
                  rw [hsucc] at h2
                  exact ⟨u, wy, h1, h2, h3⟩
                have HMs : Hid (∀ wx u, Only (fun k => (Value.slice ar ln cr).ownBlock = some k) wz wx → isAp F3 w4.heap.size (rowsU R P x (s + 1)) vs (P * 4 + s) u wx → MayR (wx.setCell ⟨w4.heap.size, P * 4 + s, none⟩ u) w4.heap.size F3 w4.heap.size (rowsU R P x (s + 1)) ∧ Dev (wx.setCell ⟨w4.heap.size, P * 4 + s, none⟩ u) b F3 dw ∧ Blk (wx.setCell ⟨w4.heap.size, P * 4 + s, none⟩ u) (wl.heap.size + 1) 5 (pc x) ∧ Blk (wx.setCell ⟨w4.heap.size, P * 4 + s, none⟩ u) wl.heap.size 35 (opc o) ∧ Below w.heap.size w (wx.setCell ⟨w4.heap.size, P * 4 + s, none⟩ u) ∧ w7.heap.size ≤ (wx.setCell ⟨w4.heap.size, P * 4 + s, none⟩ u).heap.size) := fun wx u hh hu => by
                  have hsz := hh.size
                  have hoS : Only (fun k => k = w4.heap.size) wx (wx.setCell ⟨w4.heap.size, P * 4 + s, none⟩ u) := (Only.refl _ wx).setCell ⟨w4.heap.size, P * 4 + s, none⟩ u (fun _ => rfl)
                  have hBx := hBM.only hh hnM
                  refine ⟨MayR.of_set hMn hBx hu, (hd.keep hh (fun j hj hk => hA.out _ _ _ hvq hk hj)).keep hoS (fun j hj e => hMn (by rw [← e]; exact hj)), (hpg.only hh hng).only hoS (fun e => ?_), (hN.only hh hnq).only hoS (fun e => ?_), ?_, by simp; omega⟩
                  · omega
                  · omega
                  · have h1 := hW.trans (hh.below hW.size (fun j hj hk => by have := (hA.lt hvq hk).1; omega))
                    exact h1.setCell (by show _ ≤ w4.heap.size; omega) u
                have HFz : Hid (∀ wx, Only (fun k => (Value.slice ar ln cr).ownBlock = some k) wz wx → wx.frozen? ⟨w4.heap.size, P * 4 + s, none⟩ = false) := fun wx hh => (hBM.only hh hnM).frozen _
                have hq32 : P * 4 + s < vs.length := by omega
                clear hK hd hpg hN hW hBM hA hMn hvq hnM hnq hng hsucc hR1 hln hx256
                go_wp2
                refine wp_region_only (fun k => (Value.slice ar ln cr).ownBlock = some k) [isV (.pointer (some ⟨wl.heap.size, 1, none⟩)), isV (.int .i64 (P : Int)), isV (.int .i64 (s : Int)), isV (.pointer (some ⟨wl.heap.size, 1, none⟩)), isV (.int .i64 (P : Int)), isV (.int .i64 (s : Int)), isV (.pointer (some ⟨w4.heap.size, P * 4, none⟩)), isV (.pointer (some ⟨w4.heap.size, P * 4 + s, none⟩)), isV (.slice ar ln cr), isV (.slice (some ⟨wl.heap.size + 1, 0, none⟩) 256 256), isV (.int .i64 (s : Int)), isV (.int .i64 (K : Int)), isV (.pointer (some ⟨wl.heap.size + 1, K, none⟩)), isV (.int .u8 (x.getD K 0)), isB8 wz.heap.size (x.getD K 0), isAp F3 w4.heap.size (rowsU R P x (s + 1)) vs (P * 4 + s), isV (.pointer (some ⟨w4.heap.size, P * 4, none⟩)), isV (.pointer (some ⟨w4.heap.size, P * 4 + s, none⟩))] 15 173 18 (by kernel_rfl) (by kernel_rfl) (by kernel_rfl) (by kernel_rfl) rfl ?_ ?_ ?_
                · repeat (first | exact trivial | refine allStL_isV ?_ | refine ⟨stS_isB8 _ _ _ (fun _ h => h.elim), fun _ => stS_isB8 _ _ _ (fun k hk => HLt.out k hk), ?_⟩ | refine ⟨stS_isAp _ _ _ _ _, fun h => absurd rfl h, ?_⟩)
                · refine ⟨?_, ?_, ?_, ?_, ?_, ?_, ?_, ?_, ?_, ?_, ?_, ?_, ?_, ?_, ?_, ?_, ?_, ?_, trivial⟩
                  · intro a wx h
                    have e13 : a.eval (.tmp 13) = .pointer (some ⟨wl.heap.size, 0, none⟩) := h.old 13 (by kernel_rfl)
                    have hrel := h.rel
                    clear h
                    refine gives_by rfl a.eval rfl ?_
                    generalize a.eval = ρ at *
                    intro hf hc
                    go_simp
                    exact ⟨relM_quiet (by decide) (Only.refl _ _), rfl⟩
                  · intro a wx h
                    obtain ⟨v92, e92, f92⟩ := h.val 0 92 (by kernel_rfl)
                    obtain rfl : v92 = .pointer (some ⟨wl.heap.size, 1, none⟩) := f92
                    have hrel := h.rel
                    clear h
                    have c1x := (HCC.out wx hrel).1
                    refine gives_by rfl a.eval rfl ?_
                    generalize a.eval = ρ at *
                    intro hf hc
                    go_simp
                    exact ⟨relM_quiet (by decide) (Only.refl _ _), rfl⟩
                  · intro a wx h
                    have e15 : a.eval (.tmp 15) = .int .i64 (s : Int) := h.old 15 (by kernel_rfl)
                    have hrel := h.rel
                    clear h
                    refine gives_by rfl a.eval rfl ?_
                    generalize a.eval = ρ at *
                    intro hf hc
                    go_simp
                    exact ⟨relM_quiet (by decide) (Only.refl _ _), rfl⟩
                  · intro a wx h
                    have e13 : a.eval (.tmp 13) = .pointer (some ⟨wl.heap.size, 0, none⟩) := h.old 13 (by kernel_rfl)
                    have hrel := h.rel
                    clear h
                    refine gives_by rfl a.eval rfl ?_
                    generalize a.eval = ρ at *
                    intro hf hc
                    go_simp
                    exact ⟨relM_quiet (by decide) (Only.refl _ _), rfl⟩
                  · intro a wx h
                    obtain ⟨v95, e95, f95⟩ := h.val 3 95 (by kernel_rfl)
                    obtain rfl : v95 = .pointer (some ⟨wl.heap.size, 1, none⟩) := f95
                    have hrel := h.rel
                    clear h
                    have c1x := (HCC.out wx hrel).1
                    refine gives_by rfl a.eval rfl ?_
                    generalize a.eval = ρ at *
                    intro hf hc
                    go_simp
                    exact ⟨relM_quiet (by decide) (Only.refl _ _), rfl⟩
                  · intro a wx h
                    have e15 : a.eval (.tmp 15) = .int .i64 (s : Int) := h.old 15 (by kernel_rfl)
                    have hrel := h.rel
                    clear h
                    refine gives_by rfl a.eval rfl ?_
                    generalize a.eval = ρ at *
                    intro hf hc
                    go_simp
                    exact ⟨relM_quiet (by decide) (Only.refl _ _), rfl⟩
                  · intro a wx h
                    have e9 : a.eval (.tmp 9) = .pointer (some ⟨w4.heap.size, 0, none⟩) := h.old 9 (by kernel_rfl)
                    obtain ⟨v96, e96, f96⟩ := h.val 4 96 (by kernel_rfl)
                    obtain rfl : v96 = .int .i64 (P : Int) := f96
                    have hrel := h.rel
                    clear h
                    refine gives_by rfl a.eval rfl ?_
                    generalize a.eval = ρ at *
                    intro hf hc
                    go_simp
                    exact ⟨relM_quiet (by decide) (Only.refl _ _), rfl⟩
                  · intro a wx h
                    obtain ⟨v98, e98, f98⟩ := h.val 6 98 (by kernel_rfl)
                    obtain rfl : v98 = .pointer (some ⟨w4.heap.size, P * 4, none⟩) := f98
                    obtain ⟨v97, e97, f97⟩ := h.val 5 97 (by kernel_rfl)
                    obtain rfl : v97 = .int .i64 (s : Int) := f97
                    have hrel := h.rel
                    clear h
                    refine gives_by rfl a.eval rfl ?_
                    generalize a.eval = ρ at *
                    intro hf hc
                    go_simp
                    exact ⟨relM_quiet (by decide) (Only.refl _ _), rfl⟩
                  · intro a wx h
                    obtain ⟨v99, e99, f99⟩ := h.val 7 99 (by kernel_rfl)
                    obtain rfl : v99 = .pointer (some ⟨w4.heap.size, P * 4 + s, none⟩) := f99
                    have hrel := h.rel
                    clear h
                    have c8x := (HCC.out wx hrel).2.1
                    refine gives_by rfl a.eval rfl ?_
                    generalize a.eval = ρ at *
                    intro hf hc
                    go_simp
                    exact ⟨relM_quiet (by decide) (Only.refl _ _), rfl⟩
                  · intro a wx h
                    have e14 : a.eval (.tmp 14) = .slice (some ⟨wl.heap.size + 1, 0, none⟩) 256 256 := h.old 14 (by kernel_rfl)
                    have hrel := h.rel
                    clear h
                    refine gives_by rfl a.eval rfl ?_
                    generalize a.eval = ρ at *
                    intro hf hc
                    go_simp
                    exact ⟨relM_quiet (by decide) (Only.refl _ _), rfl⟩
                  · intro a wx h
                    have e15 : a.eval (.tmp 15) = .int .i64 (s : Int) := h.old 15 (by kernel_rfl)
                    have hrel := h.rel
                    clear h
                    refine gives_by rfl a.eval rfl ?_
                    generalize a.eval = ρ at *
                    intro hf hc
                    go_simp
                    exact ⟨relM_quiet (by decide) (Only.refl _ _), rfl⟩
                  · intro a wx h
                    obtain ⟨v102, e102, f102⟩ := h.val 10 102 (by kernel_rfl)
                    obtain rfl : v102 = .int .i64 (s : Int) := f102
                    have hrel := h.rel
                    clear h
                    refine gives_by rfl a.eval rfl ?_
                    generalize a.eval = ρ at *
                    intro hf hc
                    go_simp
                    refine ⟨relM_quiet (by decide) (Only.refl _ _), ?_⟩
                    first | rfl | exact congrArg (Value.int .i64) hKw
                  · intro a wx h
                    obtain ⟨v101, e101, f101⟩ := h.val 9 101 (by kernel_rfl)
                    obtain rfl : v101 = .slice (some ⟨wl.heap.size + 1, 0, none⟩) 256 256 := f101
                    obtain ⟨v103, e103, f103⟩ := h.val 11 103 (by kernel_rfl)
                    obtain rfl : v103 = .int .i64 (K : Int) := f103
                    have hrel := h.rel
                    clear h
                    refine gives_by rfl a.eval rfl ?_
                    generalize a.eval = ρ at *
                    intro hf hc
                    go_simp
                    exact ⟨relM_quiet (by decide) (Only.refl _ _), rfl⟩
                  · intro a wx h
                    obtain ⟨v104, e104, f104⟩ := h.val 12 104 (by kernel_rfl)
                    obtain rfl : v104 = .pointer (some ⟨wl.heap.size + 1, K, none⟩) := f104
                    have hrel := h.rel
                    clear h
                    have c13x := (HCC.out wx hrel).2.2
                    refine gives_by rfl a.eval rfl ?_
                    generalize a.eval = ρ at *
                    intro hf hc
                    go_simp
                    exact ⟨relM_quiet (by decide) (Only.refl _ _), rfl⟩
                  · intro a wx h
                    obtain ⟨v105, e105, f105⟩ := h.val 13 105 (by kernel_rfl)
                    obtain rfl : v105 = .int .u8 (x.getD K 0) := f105
                    have hrel := h.rel
                    clear h
                    exact gives_of_run rfl (exec_buildSlice1 33 1 (.tmp 105) rfl _ _ e105 (buildU8 _ wx)) ⟨relM_quiet (by decide) ((Only.refl _ _).alloc _), ⟨_, rfl, Blk.new wx _ _, hrel.size⟩⟩
                  · intro a wx h
                    obtain ⟨v100, e100, f100⟩ := h.val 8 100 (by kernel_rfl)
                    obtain rfl : v100 = .slice ar ln cr := f100
                    obtain ⟨v106, e106, f106⟩ := h.val 14 106 (by kernel_rfl)
                    obtain ⟨g, rfl, hB, hg⟩ := f106
                    have hrel := h.rel
                    have hq := h.relq rfl
                    clear h
                    obtain ⟨u, wy, hr, h1, h2⟩ := HAP.out wx g hq hB
                    exact gives_of_run rfl (exec_append (.tmp 100) (.tmp 106) 33 rfl _ _ e100 e106 u hr) ⟨relM_turn h2, h1⟩
                  · intro a wx h
                    have e9 : a.eval (.tmp 9) = .pointer (some ⟨w4.heap.size, 0, none⟩) := h.old 9 (by kernel_rfl)
                    obtain ⟨v93, e93, f93⟩ := h.val 1 93 (by kernel_rfl)
                    obtain rfl : v93 = .int .i64 (P : Int) := f93
                    have hrel := h.rel
                    clear h
                    refine gives_by rfl a.eval rfl ?_
                    generalize a.eval = ρ at *
                    intro hf hc
                    go_simp
                    exact ⟨relM_quiet (by decide) (Only.refl _ _), rfl⟩
                  · intro a wx h
                    obtain ⟨v108, e108, f108⟩ := h.val 16 108 (by kernel_rfl)
                    obtain rfl : v108 = .pointer (some ⟨w4.heap.size, P * 4, none⟩) := f108
                    obtain ⟨v94, e94, f94⟩ := h.val 2 94 (by kernel_rfl)
                    obtain rfl : v94 = .int .i64 (s : Int) := f94
                    have hrel := h.rel
                    clear h
                    refine gives_by rfl a.eval rfl ?_
                    generalize a.eval = ρ at *
                    intro hf hc
                    go_simp
                    exact ⟨relM_quiet (by decide) (Only.refl _ _), rfl⟩
                · intro oL hoL vals w3 ho3 hv
                  simp only [List.getElem?_toArray, List.getElem?_cons_succ, List.getElem?_cons_zero, Option.some.injEq] at hoL
                  subst hoL
                  have hv15 : isAp F3 w4.heap.size (rowsU R P x (s + 1)) vs (P * 4 + s) (vals 15) w3 := hv 15 107 (by decide) (by kernel_rfl)
                  have hv17 : vals 17 = .pointer (some ⟨w4.heap.size, P * 4 + s, none⟩) := hv 17 109 (by decide) (by kernel_rfl)
                  clear hv
                  generalize hact : putAll _ vals 0 _ = act
                  obtain ⟨au, cu, hu⟩ := isAp_form hv15 hq32
                  have k1 := (HCC.out w3 ho3).2.1
                  have k2 := HFz.out w3 ho3
                  have HK := HMs.out w3 (vals 15) ho3 hv15
                  rw [hu] at HK
                  have HKK := hide HK
                  clear HK hv15 ho3
                  generalize (rowsU R P x (s + 1) (P * 4 + s)).length = ln2 at hu HKK
                  subst hact
                  simp only [List.dropLast, putAll, Act.put, List.setIfInBounds_toArray, List.set_cons_zero, List.set_cons_succ, hv17, hu]
                  refine gives_of_skip rfl (w' := w3.setCell ⟨w4.heap.size, P * 4 + s, none⟩ (.slice au ln2 cu)) (by go_simp) ?_
                  clear hv17 hu k1 k2
                  go_wp2
                  go_roundg g2
                  case measure => omega
                  case rel => exact ⟨s + 1, by omega, by go_num, HKK.out.2.1, HKK.out.1, HKK.out.2.2.1, HKK.out.2.2.2.1, HKK.out.2.2.2.2.1, HKK.out.2.2.2.2.2⟩
          · have hcs : o.p < 0 ∨ (¬ o.p < 0 ∧ (7 : Int) < o.p) := by omega
            clear hp
            rcases hcs with hp | ⟨hp, hp7⟩
            all_goals
              go_wp2_with (first
          | ((with_reducible refine wpList_load_mid rfl 35 (.tmp 70) rfl gb (off + k * 5) ?_ (opc o) _ HR.out Try.underlying35 rfl HZ1.out ?_); exact rfl)
          | ((with_reducible refine wpList_store_new rfl 35 (.tmp 13) (.tmp 71) rfl opZero (opc o).toArray 35 ?_ ?_ HZ3.out HZ2.out HZ4.out ?_); exact rfl; exact rfl))
              go_roundg g
              case measure => omega
              case rel => exact ⟨k + 1, F, R, d, by omega, by go_num, HDA.out, HMA.out, (fun j hj => by have := HFb.out j hj; simp; omega), HWA.out, by simp; omega, HCal.out.mono (by omega), HSt.out, HMo.out, fun i => by have := HRl.out i; omega⟩
    | succ g =>
      have hk8 : k < 8 := by omega
      have hki : (k : Int) < 8 := by omega
      obtain ⟨w5, rfl⟩ : ∃ x, x = wr := ⟨_, rfl⟩
      go_wp2
      go_loopg [56] 4 (fun g i wr => ∃ s : Nat, g + s = 4 ∧ i = .int .i64 s ∧ Below w4.heap.size w4 wr ∧ MayR wr w4.heap.size (fun k => w.heap.size ≤ k ∧ k < w4.heap.size) w4.heap.size (firstR (k * 4 + s)))
      case atStart => exact ⟨0, rfl, rfl, HB.out, HM.out⟩
      case round =>
        obtain ⟨s, hs, rfl, hb, hM⟩ := hrel
        have HB2 := hide hb
        have HM2 := hide hM
        have hbs := hb.size
        cases gk with
        | zero =>
          obtain rfl : s = 4 := by omega
          clear hb hM
          go_wp2
          go_roundg g
          case measure => omega
          case rel => exact ⟨k + 1, by omega, by go_num, HB2.out, by rw [show (k + 1) * 4 = k * 4 + 4 by omega]; exact HM2.out⟩
        | succ g2 =>
          have hs4 : s < 4 := by omega
          have hsi : (s : Int) < 4 := by omega
          obtain ⟨ar, cr, hcr, _⟩ := hM.row (i := k * 4 + s) (by omega)
          generalize (firstR (k * 4 + s) (k * 4 + s)).length = ln at hcr
          have hfr := hM.frozen (k * 4 + s)
          have hlt := hM.lt
          have HMF := hide (hM.first' (by omega) hbs)
          have HBF : Hid (Below w4.heap.size w4 ((wr.setCell ⟨w4.heap.size, k * 4 + s, none⟩ (.slice (some ⟨wr.heap.size, 0, none⟩) 1 1)).alloc (.cells #[.int .u8 0] 5))) := (hb.setCell (Nat.le_refl _) _).alloc (by simp; omega) _
          clear hb hM
          go_wp2
          go_roundg g2
          case measure => omega
          case rel => exact ⟨s + 1, by omega, by go_num, HBF.out, HMF.out⟩

end Go.Proofs.Ytofpngmabjpfhaa
