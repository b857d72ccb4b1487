/- Contract: the first rune of bytes, by the document (incipitref13.first). -/
import Derived.Test.YtimmfnjkknbofaaDoorJFU8
namespace Go.Proofs.YtimmfnjkknbofaaDoor
set_option maxRecDepth 20000
open Go.RowKit
set_option linter.unusedVariables false
set_option linter.unusedSimpArgs false
set_option maxRecDepth 100000

theorem below_drewF {B : Nat} {a w : World} (h : Below B a w) (n : Nat) : Below B a (w.drewN n) := ⟨h.os, h.tape, h.output, h.size, h.block⟩
theorem Sl.atF {w : World} {ao : Option Addr} {n cap : Nat} {zs : List Int} (h : Sl w (.slice ao n cap) zs) (k : Nat) (hk : k < n) : ∃ b off, ao = some ⟨b, off, none⟩ ∧ w.cell? ⟨b, off + k, none⟩ = some (.int .u8 (zs.getD k 0)) := by
  obtain ⟨_, ao', cap', he, _, _, _, hc⟩ := h
  obtain ⟨rfl, rfl, _⟩ : ao = ao' ∧ n = zs.length ∧ cap = cap' := by simpa using he
  obtain ⟨b, off, rfl, hcc⟩ := hc (by intro h; simp [h] at hk)
  exact ⟨b, off, rfl, hcc k hk⟩
theorem Sl.lenF {w : World} {ao : Option Addr} {n cap : Nat} {zs : List Int} (h : Sl w (.slice ao n cap) zs) : n = zs.length ∧ n ≤ 9223372036854775807 := by
  obtain ⟨_, ao', cap', he, h1, h2, _⟩ := h
  have : maxLen ≤ 9223372036854775807 := by decide
  simp at he
  exact ⟨he.2.1, by omega⟩
theorem byteF {b : List Int} (hb : ByteOk b) (k : Nat) : 0 ≤ b.getD k 0 ∧ b.getD k 0 ≤ 255 := by
  by_cases hk : k < b.length
  · rw [getD_lt b hk]; exact hb _ (List.getElem_mem hk)
  · simp [List.getD, hk]
theorem take_next {a b : List Int} {i : Nat} (ha : i < a.length) (hb : i < b.length) : a.take (i + 1) = b.take (i + 1) ↔ a.take i = b.take i ∧ a.getD i 0 = b.getD i 0 := by
  rw [List.take_succ_eq_append_getElem ha, List.take_succ_eq_append_getElem hb, getD_lt a ha, getD_lt b hb]
  constructor
  · intro h
    have := List.append_inj h (by simp; omega)
    simpa using this
  · rintro ⟨h1, h2⟩
    rw [h1, h2]

set_option maxHeartbeats 6000000 in
theorem refFirst_any (w : World) (v : Value) (b : List Int) (h : Sl w v b) (hne : b ≠ []) : Calls Tryd.prog 84 #[v] w fun e w' => e = .returned (.tuple #[.int .i32 ((decN b).1 : Int), .int .i64 ((decN b).2 : Int)]) ∧ Below w.heap.size w w' := by
  have hok := h.1
  obtain ⟨ao, L, cap, rfl⟩ := sl_form h
  obtain ⟨hL, hmx⟩ := h.lenF
  have hpos : 0 < L := by rw [hL]; exact List.length_pos_iff.2 hne
  have HS := hide h
  have HL := hide hL
  have HOK := hide hok
  have HNE := hide hne
  have HFD := hide (fun n hn hf => fits_dec (b := b) hok (n := n) hn hf)
  have HNO := hide (fits_no hok hne)
  have HVR := hide (vN_range hok)
  have HFO : Hid (∀ (W : World) (n : Nat), Calls Tryd.prog 107 #[.int .i32 (vN b n)] W fun e w' => ∃ u, e = .returned u ∧ Sl w' u (formL (vN b n)) ∧ Below W.heap.size W w') := fun W n => form_any W (vN b n) (by have := HVR.out n; exact ⟨by omega, by omega⟩)
  clear h hok hne hL
  go_enter Tryd.func84, Tryd.ntmps84
  go_wp2
  go_loopg [4] 5 (fun k t wr => ∃ n : Nat, k + n = 6 ∧ 1 ≤ n ∧ t = .int .i64 (n : Int) ∧ (∀ m, 1 ≤ m → m < n → ¬ fits b m) ∧ Below w.heap.size w wr)
  case atStart => exact ⟨1, rfl, Nat.le_refl _, rfl, fun m h1 h2 => by omega, Below.refl _ w⟩
  case round =>
    obtain ⟨GO, rfl⟩ : ∃ GO, GO = gk := ⟨gk, rfl⟩
    obtain ⟨n, hk, hn1, rfl, hno, hbw⟩ := hrel
    have hn6 : n ≤ 6 := by omega
    have HN := hide hno
    have HBW := hide hbw
    clear hno hbw
    by_cases hx : 5 ≤ n ∨ L < n
    · have HR : Hid (decN b = (65533, 1)) := HNO.out (fun m h1 h2 hf => by
        by_cases hm : m < n
        · exact HN.out m h1 hm hf
        · have := hf.1
          have := HL.out
          omega)
      by_cases h5 : n = 5
      · subst h5
        go_wp2
        go_ret2
        exact ⟨by rw [HR.out]; rfl, HBW.out⟩
      · have h6 : n ≤ 4 ∨ 5 < n := by omega
        rcases h6 with h6 | h6
        · have h5i : (n : Int) ≤ 4 := by omega
          have hx : L < n := by omega
          have hxi : ¬ (n : Int) ≤ (L : Int) := by omega
          go_wp2
          go_ret2
          exact ⟨by rw [HR.out]; rfl, HBW.out⟩
        · obtain rfl : n = 6 := by omega
          go_wp2
          go_ret2
          exact ⟨by rw [HR.out]; rfl, HBW.out⟩
    · have hnL : n ≤ L := by omega
      have hn4 : n ≤ 4 := by omega
      obtain ⟨gb, go, hao, _⟩ := (HS.out.below HBW.out).atF 0 hpos
      subst hao
      have HC : Hid (∀ W, Below w.heap.size w W → ∀ k, k < L → W.cell? ⟨gb, go + k, none⟩ = some (.int .u8 (b.getD k 0))) := fun W hb k hk => by
        obtain ⟨g', o', e, hc⟩ := (HS.out.below hb).atF k hk
        simp only [Option.some.injEq, Addr.mk.injEq] at e
        obtain ⟨rfl, rfl, _⟩ := e
        exact hc
      obtain ⟨V, hV⟩ : ∃ V, vN b n = V := ⟨_, rfl⟩
      have hVr := HVR.out n
      have HF := hide (fun W => HFO.out W n)
      rw [hV] at HF hVr
      have HV := hide hV
      obtain ⟨hV1, hV2⟩ := hVr
      have hVw : IntKind.i32.wrap V = V := IntWalk.i32_in V ⟨by omega, by omega⟩
      have hk' := hide hk
      clear hk
      have hcs : n = 1 ∨ n = 2 ∨ n = 3 ∨ n = 4 := by omega
      rcases hcs with hn | hn | hn | hn
      · subst hn
        have c0 := HC.out wr HBW.out 0 (by omega)
        have y0 := byteF HOK.out 0
        have hl0 : (0 : Int) < (L : Int) := by omega
        obtain ⟨z0, hz0⟩ : ∃ z, b.getD 0 0 = z := ⟨_, rfl⟩
        rw [hz0] at c0 y0
        rw [Nat.add_zero] at c0
        have hVe : V = z0 := by rw [← hV, vN, ← hz0]; rfl
        subst hVe
        obtain ⟨m, hm⟩ : ∃ m, (formL V).length = m := ⟨_, rfl⟩
        have HM := hide hm
        clear hm
        by_cases hmn : m = 1
        · subst hmn
          go_wp2_with (go_at_call 107; refine (HF.out _).mono ?_; rintro e w2 ⟨u, rfl, hs, hb⟩; obtain ⟨ua, ul, uc, rfl⟩ := sl_form hs; have hul := hs.lenF.1; rw [HM.out] at hul; subst hul; have HU := hide hs; have HW2 := hide (HBW.out.trans (hb.mono HBW.out.size)); clear HF hs hb)
          go_loopg [7, 8] 1 (fun kk s t wr2 => ∃ i : Nat, kk + i = 1 ∧ t = .int .i64 (i : Int) ∧ s = .bool (decide ((formL V).take i = b.take i)) ∧ Below w2.heap.size w2 wr2)
          case atStart => exact ⟨0, by omega, rfl, by simp, Below.refl _ _⟩
          case round =>
            obtain ⟨i, hki, rfl, rfl, hb3⟩ := hrel
            have HB3 := hide hb3
            have HBZ := hide (HW2.out.trans (hb3.mono HW2.out.size))
            clear hb3
            obtain ⟨S, hS⟩ : ∃ S, decide ((formL V).take i = b.take i) = S := ⟨_, rfl⟩
            rw [hS]
            have HSV := hide hS
            clear hS
            cases gk with
            | zero =>
              obtain rfl : i = 1 := by omega
              cases S with
              | true =>
                obtain ⟨r, hr1, hr2⟩ := HFD.out 1 ⟨by omega, by omega⟩ ⟨by rw [← HL.out]; exact hnL, by rw [HV.out]; have := of_decide_eq_true HSV.out; rwa [List.take_of_length_le (Nat.le_of_eq HM.out)] at this⟩
                rw [HV.out] at hr1
                have HR2 := hide hr2
                have HR1 := hide hr1
                clear hr1 hr2
                go_wp2
                go_ret2
                exact ⟨by rw [HR2.out]; simp only [← HR1.out]; rfl, HBZ.out⟩
              | false =>
                have HNF : Hid (∀ m, 1 ≤ m → m < 1 + 1 → ¬ fits b m) := fun m h1 h2 hf => by
                  by_cases hm2 : m < 1
                  · exact HN.out m h1 hm2 hf
                  · obtain rfl : m = 1 := by omega
                    have h3 := hf.2
                    rw [HV.out] at h3
                    have h4 := of_decide_eq_false HSV.out
                    exact h4 (by rw [List.take_of_length_le (Nat.le_of_eq HM.out)]; exact h3)
                go_wp2
                go_roundg (GO - 1)
                case measure => have := hk'.out; omega
                case rel => have := hk'.out; exact ⟨1 + 1, by omega, by omega, by first | rfl | go_num, HNF.out, HBZ.out⟩
            | succ kk =>
              have hiN : (i : Int) < 1 := by omega
              have hiL : (i : Int) < (L : Int) := by omega
              obtain ⟨ub, uo, hua, cx⟩ := (HU.out.below HB3.out).atF i (by omega)
              subst hua
              have cy := HC.out wr HBZ.out i (by omega)
              obtain ⟨X, hX⟩ : ∃ X, (formL V).getD i 0 = X := ⟨_, rfl⟩
              obtain ⟨Y, hY⟩ : ∃ Y, b.getD i 0 = Y := ⟨_, rfl⟩
              rw [hX] at cx
              rw [hY] at cy
              have HX := hide hX
              have HY := hide hY
              have HTN := hide (take_next (a := formL V) (b := b) (i := i) (by rw [HM.out]; omega) (by rw [← HL.out]; omega))
              clear hX hY
              cases S with
              | false =>
                have HS2 : Hid (decide ((formL V).take (i + 1) = b.take (i + 1)) = false) := decide_eq_false (fun e => of_decide_eq_false HSV.out (HTN.out.1 e).1)
                go_wp2
                go_quiet (fail)
                go_wp2
                go_roundg kk
                case measure => omega
                case rel => exact ⟨i + 1, by omega, by go_num, by rw [HS2.out], below_drewF HB3.out _⟩
              | true =>
                by_cases hxy : X = Y
                · have HS2 : Hid (decide ((formL V).take (i + 1) = b.take (i + 1)) = true) := decide_eq_true (HTN.out.2 ⟨of_decide_eq_true HSV.out, by rw [HX.out, HY.out]; exact hxy⟩)
                  go_wp2
                  go_quiet (fail)
                  go_wp2
                  go_roundg kk
                  case measure => omega
                  case rel => exact ⟨i + 1, by omega, by go_num, by rw [HS2.out], below_drewF HB3.out _⟩
                · have HS2 : Hid (decide ((formL V).take (i + 1) = b.take (i + 1)) = false) := decide_eq_false (fun e => hxy (by have := (HTN.out.1 e).2; rwa [HX.out, HY.out] at this))
                  have hxy2 : decide (X = Y) = false := decide_eq_false hxy
                  have HXY : Hid ((X == Y) = false) := beq_false_of_ne hxy
                  go_wp2
                  go_quiet (fail)
                  go_wp2
                  go_roundg kk
                  case measure => omega
                  case rel => exact ⟨i + 1, by omega, by go_num, by first | (rw [HS2.out]; done) | (rw [HS2.out, HXY.out]), below_drewF HB3.out _⟩
        · have HNF : Hid (∀ m, 1 ≤ m → m < 2 → ¬ fits b m) := fun m h1 h2 hf => by
            by_cases hm2 : m < 1
            · exact HN.out m h1 hm2 hf
            · obtain rfl : m = 1 := by omega
              have h3 := hf.2
              rw [HV.out] at h3
              have h4 := congrArg List.length h3
              rw [HM.out, List.length_take] at h4
              have h5 := hf.1
              omega
          have hmi : ¬ (m : Int) = 1 := by omega
          go_wp2_with (go_at_call 107; refine (HF.out _).mono ?_; rintro e w2 ⟨u, rfl, hs, hb⟩; obtain ⟨ua, ul, uc, rfl⟩ := sl_form hs; have hul := hs.lenF.1; rw [HM.out] at hul; subst hul; have HU := hide hs; have HW2 := hide (HBW.out.trans (hb.mono HBW.out.size)); clear HF hs hb)
          go_roundg (GO - 1)
          case measure => have := hk'.out; omega
          case rel => have := hk'.out; exact ⟨2, by omega, by omega, by first | rfl | go_num, HNF.out, HW2.out⟩
      · subst hn
        have c0 := HC.out wr HBW.out 0 (by omega)
        have y0 := byteF HOK.out 0
        have hl0 : (0 : Int) < (L : Int) := by omega
        obtain ⟨z0, hz0⟩ : ∃ z, b.getD 0 0 = z := ⟨_, rfl⟩
        rw [hz0] at c0 y0
        rw [Nat.add_zero] at c0
        have c1 := HC.out wr HBW.out 1 (by omega)
        have y1 := byteF HOK.out 1
        have hl1 : (1 : Int) < (L : Int) := by omega
        obtain ⟨z1, hz1⟩ : ∃ z, b.getD 1 0 = z := ⟨_, rfl⟩
        rw [hz1] at c1 y1
        have e0 : Int.tmod z0 32 = z0 % 32 := Int.tmod_eq_emod_of_nonneg y0.1
        obtain ⟨p0, hp0⟩ : ∃ p, z0 % 32 = p := ⟨_, rfl⟩
        rw [hp0] at e0
        have r0 : 0 ≤ p0 ∧ p0 ≤ 31 := by omega
        have e1 : Int.tmod z1 64 = z1 % 64 := Int.tmod_eq_emod_of_nonneg y1.1
        obtain ⟨p1, hp1⟩ : ∃ p, z1 % 64 = p := ⟨_, rfl⟩
        rw [hp1] at e1
        have r1 : 0 ≤ p1 ∧ p1 ≤ 63 := by omega
        have hVe : V = p0 * 64 + p1 := by rw [← hV, vN]; simp only [hz0, hz1, hp0, hp1]; rfl
        subst hVe
        obtain ⟨m, hm⟩ : ∃ m, (formL (p0 * 64 + p1)).length = m := ⟨_, rfl⟩
        have HM := hide hm
        clear hm
        by_cases hmn : m = 2
        · subst hmn
          go_wp2
          go_quiet (fail)
          go_wp2_with (go_at_call 107; refine (HF.out _).mono ?_; rintro e w2 ⟨u, rfl, hs, hb⟩; obtain ⟨ua, ul, uc, rfl⟩ := sl_form hs; have hul := hs.lenF.1; rw [HM.out] at hul; subst hul; have HU := hide hs; have HW2 := hide ((below_drewF HBW.out _).trans (hb.mono HBW.out.size)); clear HF hs hb)
          go_loopg [7, 8] 2 (fun kk s t wr2 => ∃ i : Nat, kk + i = 2 ∧ t = .int .i64 (i : Int) ∧ s = .bool (decide ((formL (p0 * 64 + p1)).take i = b.take i)) ∧ Below w2.heap.size w2 wr2)
          case atStart => exact ⟨0, by omega, rfl, by simp, Below.refl _ _⟩
          case round =>
            obtain ⟨i, hki, rfl, rfl, hb3⟩ := hrel
            have HB3 := hide hb3
            have HBZ := hide (HW2.out.trans (hb3.mono HW2.out.size))
            clear hb3
            obtain ⟨S, hS⟩ : ∃ S, decide ((formL (p0 * 64 + p1)).take i = b.take i) = S := ⟨_, rfl⟩
            rw [hS]
            have HSV := hide hS
            clear hS
            cases gk with
            | zero =>
              obtain rfl : i = 2 := by omega
              cases S with
              | true =>
                obtain ⟨r, hr1, hr2⟩ := HFD.out 2 ⟨by omega, by omega⟩ ⟨by rw [← HL.out]; exact hnL, by rw [HV.out]; have := of_decide_eq_true HSV.out; rwa [List.take_of_length_le (Nat.le_of_eq HM.out)] at this⟩
                rw [HV.out] at hr1
                have HR2 := hide hr2
                have HR1 := hide hr1
                clear hr1 hr2
                go_wp2
                go_ret2
                exact ⟨by rw [HR2.out]; simp only [← HR1.out]; rfl, HBZ.out⟩
              | false =>
                have HNF : Hid (∀ m, 1 ≤ m → m < 2 + 1 → ¬ fits b m) := fun m h1 h2 hf => by
                  by_cases hm2 : m < 2
                  · exact HN.out m h1 hm2 hf
                  · obtain rfl : m = 2 := by omega
                    have h3 := hf.2
                    rw [HV.out] at h3
                    have h4 := of_decide_eq_false HSV.out
                    exact h4 (by rw [List.take_of_length_le (Nat.le_of_eq HM.out)]; exact h3)
                go_wp2
                go_roundg (GO - 1)
                case measure => have := hk'.out; omega
                case rel => have := hk'.out; exact ⟨2 + 1, by omega, by omega, by first | rfl | go_num, HNF.out, HBZ.out⟩
            | succ kk =>
              have hiN : (i : Int) < 2 := by omega
              have hiL : (i : Int) < (L : Int) := by omega
              obtain ⟨ub, uo, hua, cx⟩ := (HU.out.below HB3.out).atF i (by omega)
              subst hua
              have cy := HC.out wr HBZ.out i (by omega)
              obtain ⟨X, hX⟩ : ∃ X, (formL (p0 * 64 + p1)).getD i 0 = X := ⟨_, rfl⟩
              obtain ⟨Y, hY⟩ : ∃ Y, b.getD i 0 = Y := ⟨_, rfl⟩
              rw [hX] at cx
              rw [hY] at cy
              have HX := hide hX
              have HY := hide hY
              have HTN := hide (take_next (a := formL (p0 * 64 + p1)) (b := b) (i := i) (by rw [HM.out]; omega) (by rw [← HL.out]; omega))
              clear hX hY
              cases S with
              | false =>
                have HS2 : Hid (decide ((formL (p0 * 64 + p1)).take (i + 1) = b.take (i + 1)) = false) := decide_eq_false (fun e => of_decide_eq_false HSV.out (HTN.out.1 e).1)
                go_wp2
                go_quiet (fail)
                go_wp2
                go_roundg kk
                case measure => omega
                case rel => exact ⟨i + 1, by omega, by go_num, by rw [HS2.out], below_drewF HB3.out _⟩
              | true =>
                by_cases hxy : X = Y
                · have HS2 : Hid (decide ((formL (p0 * 64 + p1)).take (i + 1) = b.take (i + 1)) = true) := decide_eq_true (HTN.out.2 ⟨of_decide_eq_true HSV.out, by rw [HX.out, HY.out]; exact hxy⟩)
                  go_wp2
                  go_quiet (fail)
                  go_wp2
                  go_roundg kk
                  case measure => omega
                  case rel => exact ⟨i + 1, by omega, by go_num, by rw [HS2.out], below_drewF HB3.out _⟩
                · have HS2 : Hid (decide ((formL (p0 * 64 + p1)).take (i + 1) = b.take (i + 1)) = false) := decide_eq_false (fun e => hxy (by have := (HTN.out.1 e).2; rwa [HX.out, HY.out] at this))
                  have hxy2 : decide (X = Y) = false := decide_eq_false hxy
                  have HXY : Hid ((X == Y) = false) := beq_false_of_ne hxy
                  go_wp2
                  go_quiet (fail)
                  go_wp2
                  go_roundg kk
                  case measure => omega
                  case rel => exact ⟨i + 1, by omega, by go_num, by first | (rw [HS2.out]; done) | (rw [HS2.out, HXY.out]), below_drewF HB3.out _⟩
        · have HNF : Hid (∀ m, 1 ≤ m → m < 3 → ¬ fits b m) := fun m h1 h2 hf => by
            by_cases hm2 : m < 2
            · exact HN.out m h1 hm2 hf
            · obtain rfl : m = 2 := by omega
              have h3 := hf.2
              rw [HV.out] at h3
              have h4 := congrArg List.length h3
              rw [HM.out, List.length_take] at h4
              have h5 := hf.1
              omega
          have hmi : ¬ (m : Int) = 2 := by omega
          go_wp2
          go_quiet (fail)
          go_wp2_with (go_at_call 107; refine (HF.out _).mono ?_; rintro e w2 ⟨u, rfl, hs, hb⟩; obtain ⟨ua, ul, uc, rfl⟩ := sl_form hs; have hul := hs.lenF.1; rw [HM.out] at hul; subst hul; have HU := hide hs; have HW2 := hide ((below_drewF HBW.out _).trans (hb.mono HBW.out.size)); clear HF hs hb)
          go_roundg (GO - 1)
          case measure => have := hk'.out; omega
          case rel => have := hk'.out; exact ⟨3, by omega, by omega, by first | rfl | go_num, HNF.out, HW2.out⟩
      · subst hn
        have c0 := HC.out wr HBW.out 0 (by omega)
        have y0 := byteF HOK.out 0
        have hl0 : (0 : Int) < (L : Int) := by omega
        obtain ⟨z0, hz0⟩ : ∃ z, b.getD 0 0 = z := ⟨_, rfl⟩
        rw [hz0] at c0 y0
        rw [Nat.add_zero] at c0
        have c1 := HC.out wr HBW.out 1 (by omega)
        have y1 := byteF HOK.out 1
        have hl1 : (1 : Int) < (L : Int) := by omega
        obtain ⟨z1, hz1⟩ : ∃ z, b.getD 1 0 = z := ⟨_, rfl⟩
        rw [hz1] at c1 y1
        have c2 := HC.out wr HBW.out 2 (by omega)
        have y2 := byteF HOK.out 2
        have hl2 : (2 : Int) < (L : Int) := by omega
        obtain ⟨z2, hz2⟩ : ∃ z, b.getD 2 0 = z := ⟨_, rfl⟩
        rw [hz2] at c2 y2
        have e0 : Int.tmod z0 16 = z0 % 16 := Int.tmod_eq_emod_of_nonneg y0.1
        obtain ⟨p0, hp0⟩ : ∃ p, z0 % 16 = p := ⟨_, rfl⟩
        rw [hp0] at e0
        have r0 : 0 ≤ p0 ∧ p0 ≤ 15 := by omega
        have e1 : Int.tmod z1 64 = z1 % 64 := Int.tmod_eq_emod_of_nonneg y1.1
        obtain ⟨p1, hp1⟩ : ∃ p, z1 % 64 = p := ⟨_, rfl⟩
        rw [hp1] at e1
        have r1 : 0 ≤ p1 ∧ p1 ≤ 63 := by omega
        have e2 : Int.tmod z2 64 = z2 % 64 := Int.tmod_eq_emod_of_nonneg y2.1
        obtain ⟨p2, hp2⟩ : ∃ p, z2 % 64 = p := ⟨_, rfl⟩
        rw [hp2] at e2
        have r2 : 0 ≤ p2 ∧ p2 ≤ 63 := by omega
        have hVe : V = p0 * 4096 + p1 * 64 + p2 := by rw [← hV, vN]; simp only [hz0, hz1, hz2, hp0, hp1, hp2]; rfl
        subst hVe
        obtain ⟨m, hm⟩ : ∃ m, (formL (p0 * 4096 + p1 * 64 + p2)).length = m := ⟨_, rfl⟩
        have HM := hide hm
        clear hm
        by_cases hmn : m = 3
        · subst hmn
          go_wp2
          go_quiet (fail)
          go_wp2_with (go_at_call 107; refine (HF.out _).mono ?_; rintro e w2 ⟨u, rfl, hs, hb⟩; obtain ⟨ua, ul, uc, rfl⟩ := sl_form hs; have hul := hs.lenF.1; rw [HM.out] at hul; subst hul; have HU := hide hs; have HW2 := hide ((below_drewF HBW.out _).trans (hb.mono HBW.out.size)); clear HF hs hb)
          go_loopg [7, 8] 3 (fun kk s t wr2 => ∃ i : Nat, kk + i = 3 ∧ t = .int .i64 (i : Int) ∧ s = .bool (decide ((formL (p0 * 4096 + p1 * 64 + p2)).take i = b.take i)) ∧ Below w2.heap.size w2 wr2)
          case atStart => exact ⟨0, by omega, rfl, by simp, Below.refl _ _⟩
          case round =>
            obtain ⟨i, hki, rfl, rfl, hb3⟩ := hrel
            have HB3 := hide hb3
            have HBZ := hide (HW2.out.trans (hb3.mono HW2.out.size))
            clear hb3
            obtain ⟨S, hS⟩ : ∃ S, decide ((formL (p0 * 4096 + p1 * 64 + p2)).take i = b.take i) = S := ⟨_, rfl⟩
            rw [hS]
            have HSV := hide hS
            clear hS
            cases gk with
            | zero =>
              obtain rfl : i = 3 := by omega
              cases S with
              | true =>
                obtain ⟨r, hr1, hr2⟩ := HFD.out 3 ⟨by omega, by omega⟩ ⟨by rw [← HL.out]; exact hnL, by rw [HV.out]; have := of_decide_eq_true HSV.out; rwa [List.take_of_length_le (Nat.le_of_eq HM.out)] at this⟩
                rw [HV.out] at hr1
                have HR2 := hide hr2
                have HR1 := hide hr1
                clear hr1 hr2
                go_wp2
                go_ret2
                exact ⟨by rw [HR2.out]; simp only [← HR1.out]; rfl, HBZ.out⟩
              | false =>
                have HNF : Hid (∀ m, 1 ≤ m → m < 3 + 1 → ¬ fits b m) := fun m h1 h2 hf => by
                  by_cases hm2 : m < 3
                  · exact HN.out m h1 hm2 hf
                  · obtain rfl : m = 3 := by omega
                    have h3 := hf.2
                    rw [HV.out] at h3
                    have h4 := of_decide_eq_false HSV.out
                    exact h4 (by rw [List.take_of_length_le (Nat.le_of_eq HM.out)]; exact h3)
                go_wp2
                go_roundg (GO - 1)
                case measure => have := hk'.out; omega
                case rel => have := hk'.out; exact ⟨3 + 1, by omega, by omega, by first | rfl | go_num, HNF.out, HBZ.out⟩
            | succ kk =>
              have hiN : (i : Int) < 3 := by omega
              have hiL : (i : Int) < (L : Int) := by omega
              obtain ⟨ub, uo, hua, cx⟩ := (HU.out.below HB3.out).atF i (by omega)
              subst hua
              have cy := HC.out wr HBZ.out i (by omega)
              obtain ⟨X, hX⟩ : ∃ X, (formL (p0 * 4096 + p1 * 64 + p2)).getD i 0 = X := ⟨_, rfl⟩
              obtain ⟨Y, hY⟩ : ∃ Y, b.getD i 0 = Y := ⟨_, rfl⟩
              rw [hX] at cx
              rw [hY] at cy
              have HX := hide hX
              have HY := hide hY
              have HTN := hide (take_next (a := formL (p0 * 4096 + p1 * 64 + p2)) (b := b) (i := i) (by rw [HM.out]; omega) (by rw [← HL.out]; omega))
              clear hX hY
              cases S with
              | false =>
                have HS2 : Hid (decide ((formL (p0 * 4096 + p1 * 64 + p2)).take (i + 1) = b.take (i + 1)) = false) := decide_eq_false (fun e => of_decide_eq_false HSV.out (HTN.out.1 e).1)
                go_wp2
                go_quiet (fail)
                go_wp2
                go_roundg kk
                case measure => omega
                case rel => exact ⟨i + 1, by omega, by go_num, by rw [HS2.out], below_drewF HB3.out _⟩
              | true =>
                by_cases hxy : X = Y
                · have HS2 : Hid (decide ((formL (p0 * 4096 + p1 * 64 + p2)).take (i + 1) = b.take (i + 1)) = true) := decide_eq_true (HTN.out.2 ⟨of_decide_eq_true HSV.out, by rw [HX.out, HY.out]; exact hxy⟩)
                  go_wp2
                  go_quiet (fail)
                  go_wp2
                  go_roundg kk
                  case measure => omega
                  case rel => exact ⟨i + 1, by omega, by go_num, by rw [HS2.out], below_drewF HB3.out _⟩
                · have HS2 : Hid (decide ((formL (p0 * 4096 + p1 * 64 + p2)).take (i + 1) = b.take (i + 1)) = false) := decide_eq_false (fun e => hxy (by have := (HTN.out.1 e).2; rwa [HX.out, HY.out] at this))
                  have hxy2 : decide (X = Y) = false := decide_eq_false hxy
                  have HXY : Hid ((X == Y) = false) := beq_false_of_ne hxy
                  go_wp2
                  go_quiet (fail)
                  go_wp2
                  go_roundg kk
                  case measure => omega
                  case rel => exact ⟨i + 1, by omega, by go_num, by first | (rw [HS2.out]; done) | (rw [HS2.out, HXY.out]), below_drewF HB3.out _⟩
        · have HNF : Hid (∀ m, 1 ≤ m → m < 4 → ¬ fits b m) := fun m h1 h2 hf => by
            by_cases hm2 : m < 3
            · exact HN.out m h1 hm2 hf
            · obtain rfl : m = 3 := by omega
              have h3 := hf.2
              rw [HV.out] at h3
              have h4 := congrArg List.length h3
              rw [HM.out, List.length_take] at h4
              have h5 := hf.1
              omega
          have hmi : ¬ (m : Int) = 3 := by omega
          go_wp2
          go_quiet (fail)
          go_wp2_with (go_at_call 107; refine (HF.out _).mono ?_; rintro e w2 ⟨u, rfl, hs, hb⟩; obtain ⟨ua, ul, uc, rfl⟩ := sl_form hs; have hul := hs.lenF.1; rw [HM.out] at hul; subst hul; have HU := hide hs; have HW2 := hide ((below_drewF HBW.out _).trans (hb.mono HBW.out.size)); clear HF hs hb)
          go_roundg (GO - 1)
          case measure => have := hk'.out; omega
          case rel => have := hk'.out; exact ⟨4, by omega, by omega, by first | rfl | go_num, HNF.out, HW2.out⟩
      · subst hn
        have c0 := HC.out wr HBW.out 0 (by omega)
        have y0 := byteF HOK.out 0
        have hl0 : (0 : Int) < (L : Int) := by omega
        obtain ⟨z0, hz0⟩ : ∃ z, b.getD 0 0 = z := ⟨_, rfl⟩
        rw [hz0] at c0 y0
        rw [Nat.add_zero] at c0
        have c1 := HC.out wr HBW.out 1 (by omega)
        have y1 := byteF HOK.out 1
        have hl1 : (1 : Int) < (L : Int) := by omega
        obtain ⟨z1, hz1⟩ : ∃ z, b.getD 1 0 = z := ⟨_, rfl⟩
        rw [hz1] at c1 y1
        have c2 := HC.out wr HBW.out 2 (by omega)
        have y2 := byteF HOK.out 2
        have hl2 : (2 : Int) < (L : Int) := by omega
        obtain ⟨z2, hz2⟩ : ∃ z, b.getD 2 0 = z := ⟨_, rfl⟩
        rw [hz2] at c2 y2
        have c3 := HC.out wr HBW.out 3 (by omega)
        have y3 := byteF HOK.out 3
        have hl3 : (3 : Int) < (L : Int) := by omega
        obtain ⟨z3, hz3⟩ : ∃ z, b.getD 3 0 = z := ⟨_, rfl⟩
        rw [hz3] at c3 y3
        have e0 : Int.tmod z0 8 = z0 % 8 := Int.tmod_eq_emod_of_nonneg y0.1
        obtain ⟨p0, hp0⟩ : ∃ p, z0 % 8 = p := ⟨_, rfl⟩
        rw [hp0] at e0
        have r0 : 0 ≤ p0 ∧ p0 ≤ 7 := by omega
        have e1 : Int.tmod z1 64 = z1 % 64 := Int.tmod_eq_emod_of_nonneg y1.1
        obtain ⟨p1, hp1⟩ : ∃ p, z1 % 64 = p := ⟨_, rfl⟩
        rw [hp1] at e1
        have r1 : 0 ≤ p1 ∧ p1 ≤ 63 := by omega
        have e2 : Int.tmod z2 64 = z2 % 64 := Int.tmod_eq_emod_of_nonneg y2.1
        obtain ⟨p2, hp2⟩ : ∃ p, z2 % 64 = p := ⟨_, rfl⟩
        rw [hp2] at e2
        have r2 : 0 ≤ p2 ∧ p2 ≤ 63 := by omega
        have e3 : Int.tmod z3 64 = z3 % 64 := Int.tmod_eq_emod_of_nonneg y3.1
        obtain ⟨p3, hp3⟩ : ∃ p, z3 % 64 = p := ⟨_, rfl⟩
        rw [hp3] at e3
        have r3 : 0 ≤ p3 ∧ p3 ≤ 63 := by omega
        have hVe : V = p0 * 262144 + p1 * 4096 + p2 * 64 + p3 := by rw [← hV, vN]; simp only [hz0, hz1, hz2, hz3, hp0, hp1, hp2, hp3]; rfl
        subst hVe
        obtain ⟨m, hm⟩ : ∃ m, (formL (p0 * 262144 + p1 * 4096 + p2 * 64 + p3)).length = m := ⟨_, rfl⟩
        have HM := hide hm
        clear hm
        by_cases hmn : m = 4
        · subst hmn
          go_wp2
          go_quiet (fail)
          go_wp2_with (go_at_call 107; refine (HF.out _).mono ?_; rintro e w2 ⟨u, rfl, hs, hb⟩; obtain ⟨ua, ul, uc, rfl⟩ := sl_form hs; have hul := hs.lenF.1; rw [HM.out] at hul; subst hul; have HU := hide hs; have HW2 := hide ((below_drewF HBW.out _).trans (hb.mono HBW.out.size)); clear HF hs hb)
          go_loopg [7, 8] 4 (fun kk s t wr2 => ∃ i : Nat, kk + i = 4 ∧ t = .int .i64 (i : Int) ∧ s = .bool (decide ((formL (p0 * 262144 + p1 * 4096 + p2 * 64 + p3)).take i = b.take i)) ∧ Below w2.heap.size w2 wr2)
          case atStart => exact ⟨0, by omega, rfl, by simp, Below.refl _ _⟩
          case round =>
            obtain ⟨i, hki, rfl, rfl, hb3⟩ := hrel
            have HB3 := hide hb3
            have HBZ := hide (HW2.out.trans (hb3.mono HW2.out.size))
            clear hb3
            obtain ⟨S, hS⟩ : ∃ S, decide ((formL (p0 * 262144 + p1 * 4096 + p2 * 64 + p3)).take i = b.take i) = S := ⟨_, rfl⟩
            rw [hS]
            have HSV := hide hS
            clear hS
            cases gk with
            | zero =>
              obtain rfl : i = 4 := by omega
              cases S with
              | true =>
                obtain ⟨r, hr1, hr2⟩ := HFD.out 4 ⟨by omega, by omega⟩ ⟨by rw [← HL.out]; exact hnL, by rw [HV.out]; have := of_decide_eq_true HSV.out; rwa [List.take_of_length_le (Nat.le_of_eq HM.out)] at this⟩
                rw [HV.out] at hr1
                have HR2 := hide hr2
                have HR1 := hide hr1
                clear hr1 hr2
                go_wp2
                go_ret2
                exact ⟨by rw [HR2.out]; simp only [← HR1.out]; rfl, HBZ.out⟩
              | false =>
                have HNF : Hid (∀ m, 1 ≤ m → m < 4 + 1 → ¬ fits b m) := fun m h1 h2 hf => by
                  by_cases hm2 : m < 4
                  · exact HN.out m h1 hm2 hf
                  · obtain rfl : m = 4 := by omega
                    have h3 := hf.2
                    rw [HV.out] at h3
                    have h4 := of_decide_eq_false HSV.out
                    exact h4 (by rw [List.take_of_length_le (Nat.le_of_eq HM.out)]; exact h3)
                go_wp2
                go_roundg (GO - 1)
                case measure => have := hk'.out; omega
                case rel => have := hk'.out; exact ⟨4 + 1, by omega, by omega, by first | rfl | go_num, HNF.out, HBZ.out⟩
            | succ kk =>
              have hiN : (i : Int) < 4 := by omega
              have hiL : (i : Int) < (L : Int) := by omega
              obtain ⟨ub, uo, hua, cx⟩ := (HU.out.below HB3.out).atF i (by omega)
              subst hua
              have cy := HC.out wr HBZ.out i (by omega)
              obtain ⟨X, hX⟩ : ∃ X, (formL (p0 * 262144 + p1 * 4096 + p2 * 64 + p3)).getD i 0 = X := ⟨_, rfl⟩
              obtain ⟨Y, hY⟩ : ∃ Y, b.getD i 0 = Y := ⟨_, rfl⟩
              rw [hX] at cx
              rw [hY] at cy
              have HX := hide hX
              have HY := hide hY
              have HTN := hide (take_next (a := formL (p0 * 262144 + p1 * 4096 + p2 * 64 + p3)) (b := b) (i := i) (by rw [HM.out]; omega) (by rw [← HL.out]; omega))
              clear hX hY
              cases S with
              | false =>
                have HS2 : Hid (decide ((formL (p0 * 262144 + p1 * 4096 + p2 * 64 + p3)).take (i + 1) = b.take (i + 1)) = false) := decide_eq_false (fun e => of_decide_eq_false HSV.out (HTN.out.1 e).1)
                go_wp2
                go_quiet (fail)
                go_wp2
                go_roundg kk
                case measure => omega
                case rel => exact ⟨i + 1, by omega, by go_num, by rw [HS2.out], below_drewF HB3.out _⟩
              | true =>
                by_cases hxy : X = Y
                · have HS2 : Hid (decide ((formL (p0 * 262144 + p1 * 4096 + p2 * 64 + p3)).take (i + 1) = b.take (i + 1)) = true) := decide_eq_true (HTN.out.2 ⟨of_decide_eq_true HSV.out, by rw [HX.out, HY.out]; exact hxy⟩)
                  go_wp2
                  go_quiet (fail)
                  go_wp2
                  go_roundg kk
                  case measure => omega
                  case rel => exact ⟨i + 1, by omega, by go_num, by rw [HS2.out], below_drewF HB3.out _⟩
                · have HS2 : Hid (decide ((formL (p0 * 262144 + p1 * 4096 + p2 * 64 + p3)).take (i + 1) = b.take (i + 1)) = false) := decide_eq_false (fun e => hxy (by have := (HTN.out.1 e).2; rwa [HX.out, HY.out] at this))
                  have hxy2 : decide (X = Y) = false := decide_eq_false hxy
                  have HXY : Hid ((X == Y) = false) := beq_false_of_ne hxy
                  go_wp2
                  go_quiet (fail)
                  go_wp2
                  go_roundg kk
                  case measure => omega
                  case rel => exact ⟨i + 1, by omega, by go_num, by first | (rw [HS2.out]; done) | (rw [HS2.out, HXY.out]), below_drewF HB3.out _⟩
        · have HNF : Hid (∀ m, 1 ≤ m → m < 5 → ¬ fits b m) := fun m h1 h2 hf => by
            by_cases hm2 : m < 4
            · exact HN.out m h1 hm2 hf
            · obtain rfl : m = 4 := by omega
              have h3 := hf.2
              rw [HV.out] at h3
              have h4 := congrArg List.length h3
              rw [HM.out, List.length_take] at h4
              have h5 := hf.1
              omega
          have hmi : ¬ (m : Int) = 4 := by omega
          go_wp2
          go_quiet (fail)
          go_wp2_with (go_at_call 107; refine (HF.out _).mono ?_; rintro e w2 ⟨u, rfl, hs, hb⟩; obtain ⟨ua, ul, uc, rfl⟩ := sl_form hs; have hul := hs.lenF.1; rw [HM.out] at hul; subst hul; have HU := hide hs; have HW2 := hide ((below_drewF HBW.out _).trans (hb.mono HBW.out.size)); clear HF hs hb)
          go_roundg (GO - 1)
          case measure => have := hk'.out; omega
          case rel => have := hk'.out; exact ⟨5, by omega, by omega, by first | rfl | go_num, HNF.out, HW2.out⟩

end Go.Proofs.YtimmfnjkknbofaaDoor
