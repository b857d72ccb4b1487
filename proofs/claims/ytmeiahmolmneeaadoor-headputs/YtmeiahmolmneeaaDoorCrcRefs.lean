/- Contracts: bytes sealed and opened, by the document's answer. -/
import Derived.Test.YtmeiahmolmneeaaDoorCrcRef
namespace Go.Proofs.YtmeiahmolmneeaaDoor
set_option maxRecDepth 20000
open Go.RowKit

theorem ownsRow_le {w : World} {base base' n : Nat} {e : TypeId} {v : Value} {xs : List Value} (h : w.ownsRow base e 1 v n xs) (hb : base' ≤ base) : w.ownsRow base' e 1 v n xs :=
  ⟨h.1, h.2.elim .inl (fun ⟨g, cap, cur, hv, hg, r⟩ => .inr ⟨g, cap, cur, hv, Nat.le_trans hb hg, r⟩)⟩

set_option maxHeartbeats 1000000 in
theorem refSeal_any (w : World) (v : Value) (zs : List Int) (h : Sl w v zs) (hl : zs.length ≤ 100000) :
    Calls Tryd.prog 55 #[v] w fun e w' => ∃ u, e = .returned u ∧ w'.ownsRow w.heap.size 5 1 u (4 + zs.length) ((sealS zs).map (Value.int .u8)) ∧ Below w.heap.size w w' := by
  obtain ⟨i0, hi, hz0, hz1, hz2⟩ := info_parts infoU8
  have HO := refOne_any w v zs h
  have hs := ofS_lt h.bytes
  have HS : Hid (sealS zs = be4 (ofS zs) ++ zs) := rfl
  obtain ⟨s, hss⟩ : ∃ s, s = ofS zs := ⟨_, rfl⟩
  rw [← hss] at HO hs HS
  have HOO := hide HO
  have HSL := hide h
  clear hss HO
  obtain ⟨ao, cap, rfl⟩ := sl_form' h
  clear h
  have d0 : (s : Int) / 16777216 = ((s / 16777216 % 256 : Nat) : Int) := by omega
  have d1 : (s : Int) / 65536 % 256 = ((s / 65536 % 256 : Nat) : Int) := by omega
  have d2 : (s : Int) / 256 % 256 = ((s / 256 % 256 : Nat) : Int) := by omega
  have d3 : (s : Int) % 256 = ((s % 256 : Nat) : Int) := by omega
  have HB4 : Hid (be4 s = [((s / 16777216 % 256 : Nat) : Int), ((s / 65536 % 256 : Nat) : Int), ((s / 256 % 256 : Nat) : Int), ((s % 256 : Nat) : Int)]) := rfl
  have hq0 : s / 16777216 % 256 < 256 := by omega
  obtain ⟨q0, h0⟩ : ∃ q, q = s / 16777216 % 256 := ⟨_, rfl⟩
  obtain ⟨q1, h1⟩ : ∃ q, q = s / 65536 % 256 := ⟨_, rfl⟩
  obtain ⟨q2, h2⟩ : ∃ q, q = s / 256 % 256 := ⟨_, rfl⟩
  obtain ⟨q3, h3⟩ : ∃ q, q = s % 256 := ⟨_, rfl⟩
  rw [← h0] at d0 HB4 hq0
  rw [← h1] at d1 HB4
  rw [← h2] at d2 HB4
  rw [← h3] at d3 HB4
  have d0' : (q0 : Int) % 256 = (q0 : Int) := by omega
  clear h0 h1 h2 h3
  have HA : Hid (∀ w1, Below w.heap.size w w1 → ∃ v1 w2, (Builtin.append_ #[24, 24] 24 #[.slice (some ⟨w1.heap.size, 0, none⟩) 4 4, .slice ao zs.length cap]).run Tryd.prog (w1.alloc (.cells #[.int .u8 q0, .int .u8 q1, .int .u8 q2, .int .u8 q3] 5)) = .ok v1 w2 ∧
      w2.ownsRow w.heap.size 5 1 v1 (4 + zs.length) ((sealS zs).map (Value.int .u8)) ∧ Below w.heap.size w w2) := by
    intro w1 hb
    have ho := ownsRow_le (World.ownsRow_lit (size := 1) (e := 5) w1 #[.int .u8 q0, .int .u8 q1, .int .u8 q2, .int .u8 q3] 4 (Nat.le_refl _) (by simp [maxLen]) (by simp)) hb.size
    have hb1 := hb.alloc hb.size (.cells #[.int .u8 q0, .int .u8 q1, .int .u8 q2, .int .u8 q3] 5)
    obtain ⟨v1, w2, hr1, ho1, hg1, _⟩ := run_append_sl (P := Tryd.prog) _ w.heap.size 24 24 5 i0 Tryd.underlying24 hi hz0 hz1 hz2 _ 4 _ ho ao zs.length cap zs (HSL.out.below hb1) (by omega) hb1.size
    refine ⟨v1, w2, hr1, ?_, hb1.grown hg1 hb1.size (by intro j hj; cases hj; exact hb.size)⟩
    rw [HS.out, HB4.out, List.map_append]
    exact ho1
  go_enter Tryd.func55, Tryd.ntmps55
  go_wp2_with (first
    | (go_at_call 71; refine HOO.out.mono ?_; rintro e w1 ⟨rfl, hb1⟩; obtain ⟨v1, w2, hr, ho1, hb2⟩ := HA.out w1 hb1; have HR := hide hr; clear HOO hr HA)
    | (at_builtin; refine wpList_append_run _ rfl (.tmp 17) (.tmp 18) 24 rfl _ _ rfl rfl _ _ HR.out ?_))
  go_ret
  exact ⟨_, rfl, ho1, hb2⟩

set_option maxHeartbeats 1000000 in
theorem refOpen_any (w : World) (v : Value) (zs : List Int) (h : Sl w v zs) (hl : zs.length ≤ 100000) :
    Calls Tryd.prog 78 #[v] w fun e w' => ∃ u, e = .returned (.tuple #[u, .bool (sealB zs)]) ∧ w'.ownsRow w.heap.size 5 1 u (openB zs).length ((openB zs).map (Value.int .u8)) ∧ Below w.heap.size w w' := by
  obtain ⟨i0, hi, hz0, hz1, hz2⟩ := info_parts infoU8
  obtain ⟨ao, cap, rfl⟩ := sl_form' h
  have hcap := (sl_cap h).2
  unfold maxLen at hcap
  by_cases h4 : zs.length < 4
  · have hno : ¬ isSeal zs := fun hh => by have := hh.1; omega
    have h4i : (zs.length : Int) < 4 := by omega
    have ho : openB zs = [] := by exact openB_no hno
    have hd : sealB zs = false := sealB_no hno
    have HO := hide ho
    have HD := hide hd
    clear h ho hd hno
    go_enter Tryd.func78, Tryd.ntmps78
    go_wp2
    go_ret2
    exact ⟨.slice none 0 0, by rw [HD.out]; rfl, by rw [HO.out]; exact own_nil _ _ _, Below.refl _ _⟩
  · have h4i : ¬ (zs.length : Int) < 4 := by omega
    obtain ⟨x2, c2, r2, s2⟩ := cut_l w ao zs cap 4 h (by omega)
    have S2 := s2 w h
    have r2' : ∀ wx, (Instr.slice 24 (.slice ao zs.length cap) (some (.int .i64 4)) none none).run Tryd.prog wx = .ok (.slice x2 (zs.drop 4).length c2) wx := r2
    have HIF := hide (isSeal_iff zs)
    have HOB : Hid ((isSeal zs → openB zs = zs.drop 4) ∧ (¬ isSeal zs → openB zs = [])) := ⟨openB_yes, openB_no⟩
    have hyl : (zs.drop 4).length ≤ 100000 := by simp; omega
    obtain ⟨Y, hY⟩ : ∃ Y, Y = zs.drop 4 := ⟨_, rfl⟩
    rw [← hY] at r2' S2 HIF HOB hyl
    have HSe := hide (refSeal_any w _ Y S2 hyl)
    have okS := sealS_ok S2.bytes
    have okz := h.bytes
    have HS2 := hide S2
    have HZ := hide h
    have HEQ := hide (strOfNums_inj okS okz)
    have HAP : Hid (∀ w1, Below w.heap.size w w1 → ∃ v1 w2, (Builtin.append_ #[24, 24] 24 #[.slice none 0 0, .slice x2 Y.length c2]).run Tryd.prog w1 = .ok v1 w2 ∧ w2.ownsRow w.heap.size 5 1 v1 Y.length (Y.map (Value.int .u8)) ∧ Below w.heap.size w w2) := by
      intro w1 hb
      obtain ⟨v1, w2, hr1, ho1, hg1, _⟩ := run_append_sl (P := Tryd.prog) w1 w.heap.size 24 24 5 i0 Tryd.underlying24 hi hz0 hz1 hz2 _ 0 _ (own_nil _ _ _) x2 Y.length c2 Y (HS2.out.below hb) (by omega) hb.size
      rw [Nat.zero_add, List.nil_append] at ho1
      exact ⟨v1, w2, hr1, ho1, hb.grown hg1 hb.size (by intro j hj; cases hj)⟩
    have HCZ : Hid (∀ w1, Below w.heap.size w w1 → (convert 24 9 (.slice ao zs.length cap)).run Tryd.prog w1 = .ok (.string (strOfNums zs)) w1) := fun w1 hb => run_convert_sl w1 24 5 9 Tryd.underlying24 Tryd.underlying5 Tryd.underlying9 _ zs (HZ.out.below hb)
    have HCS : Hid (∀ w1 u, Sl w1 u (sealS Y) → (convert 24 9 u).run Tryd.prog w1 = .ok (.string (strOfNums (sealS Y))) w1) := fun w1 u hu => run_convert_sl w1 24 5 9 Tryd.underlying24 Tryd.underlying5 Tryd.underlying9 u _ hu
    obtain ⟨sz, hsz⟩ : ∃ s, s = strOfNums zs := ⟨_, rfl⟩
    obtain ⟨ss, hss⟩ : ∃ s, s = strOfNums (sealS Y) := ⟨_, rfl⟩
    rw [← hsz] at HCZ HEQ
    rw [← hss] at HCS HEQ
    have HOK := hide okS
    have HLS := hide (sealS_len Y)
    clear r2 s2 S2 hY h hsz hss okS okz
    by_cases hyes : isSeal zs
    · have hse : ss = sz := HEQ.out.2 (HIF.out.2 hyes)
      have ho : openB zs = Y := HOB.out.1 hyes
      have hd : sealB zs = true := sealB_yes hyes
      have HO := hide ho
      have HD := hide hd
      subst hse
      clear ho hd hyes
      go_enter Tryd.func78, Tryd.ntmps78
      go_wp2_with (first
        | (go_at_call 55; refine HSe.out.mono ?_; rintro e w1 ⟨u, rfl, ho1, hb1⟩; have k1 := HCS.out w1 u (sl_of_own ho1 HOK.out rfl |> fun h => h); have k2 := HCZ.out w1 hb1; obtain ⟨v1, w2, hr, ho2, hb2⟩ := HAP.out w1 hb1; have HR := hide hr; clear HSe HCS HCZ HAP ho1 hr)
        | (at_builtin; refine wpList_append_run _ rfl (.const (.slice none 0 0)) (.tmp 17) 24 rfl _ _ rfl rfl _ _ HR.out ?_))
      go_ret2
      refine ⟨v1, by rw [HD.out]; rfl, ?_, hb2⟩
      rw [HO.out]
      exact ho2
    · have hne : ¬ ss = sz := fun e => hyes (HIF.out.1 (HEQ.out.1 e))
      have hne' : (ss.toList == sz.toList) = false := by
        rw [Bool.eq_false_iff]; intro hh; exact hne ((toList_same _ _).1 (by simpa using hh))
      have ho : openB zs = [] := HOB.out.2 hyes
      have hd : sealB zs = false := sealB_no hyes
      have HO := hide ho
      have HD := hide hd
      clear ho hd hyes
      go_enter Tryd.func78, Tryd.ntmps78
      go_wp2_with (first
        | (go_at_call 55; refine HSe.out.mono ?_; rintro e w1 ⟨u, rfl, ho1, hb1⟩; have k1 := HCS.out w1 u (sl_of_own ho1 HOK.out rfl |> fun h => h); have k2 := HCZ.out w1 hb1; clear HSe HCS HCZ HAP ho1))
      go_ret2
      exact ⟨.slice none 0 0, by rw [HD.out]; rfl, by rw [HO.out]; exact own_nil _ _ _, hb1⟩

end Go.Proofs.YtmeiahmolmneeaaDoor
