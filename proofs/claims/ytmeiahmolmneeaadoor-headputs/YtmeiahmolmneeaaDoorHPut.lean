/- Contract: what a head's page bears (head.Put). -/
import Derived.Test.YtmeiahmolmneeaaDoorHSame
import Derived.Test.YtmeiahmolmneeaaDoorHNum
import Derived.Deep.OwnRows
namespace Go.Proofs.YtmeiahmolmneeaaDoor
set_option maxRecDepth 20000
open Go.RowKit
set_option linter.unusedVariables false

theorem hput_bad (w : World) (e : Nat) (p : Int) (ma ua : Option Addr) (mc un uc : Nat) (ms : List Int) (hm : Is w (.slice ma ms.length mc) ms) (h : mayB p ms un = false) :
    Calls Tryd.prog 11 #[hdV e p ma ms.length mc ua un uc] w fun r w' => r = .returned (.tuple #[.slice none 0 0, .int .i64 60]) ∧ Below w.heap.size w w' := by
  unfold hdV
  obtain ⟨W, hW⟩ : ∃ W, W = w.alloc (.cells #[.int .u64 e, .int .i64 p, .slice ma ms.length mc, .slice ua un uc] 26) := ⟨_, rfl⟩
  have HB : Hid (Below w.heap.size w W) := by show Below _ _ _; rw [hW]; exact (Below.refl _ w).alloc (Nat.le_refl _) _
  have HC := hide (hcheck_any W e p ma ua mc un uc ms (hm.below HB.out))
  have es : hcheckS p ms un = 60 := by unfold hcheckS; rw [h]; rfl
  rw [es] at HC
  have HW := hide hW
  rw [hW] at HC
  clear hm hW es
  go_enter Tryd.func11, Tryd.ntmps11
  go_wp2_with (go_at_call 15; refine HC.out.mono ?_; rintro e1 w1 ⟨rfl, hb1⟩; rw [← HW.out] at hb1; have HB1 := hide hb1; clear HC hb1)
  go_ret2
  exact ⟨rfl, HB.out.trans (HB1.out.mono HB.out.size)⟩

/-- bytes of the call's own -/
def isOwn (B : Nat) (zs : List Int) : Value → World → Prop := fun v w => ∃ a n c, v = .slice a n c ∧ w.ownsRow B 5 1 (.slice a n c) zs.length (zs.map (Value.int .u8))
theorem stable_isOwn (B : Nat) (zs : List Int) : Stable (isOwn B zs) := fun _ _ _ hb ⟨a, n, c, h1, h2⟩ => ⟨a, n, c, h1, own_keep h2 hb⟩

theorem full_call {w : World} {f : FuncId} {args : Array Value} {wx : World} {B : Nat} {zs : List Int} (hB : B ≤ wx.heap.size) (h : Calls Tryd.prog f args wx fun e w' => ∃ u, e = .returned u ∧ Below wx.heap.size wx w' ∧ isFull wx.heap.size zs u w') :
    Calls Tryd.prog f args wx fun e w' => ∃ v, e = .returned v ∧ Below wx.heap.size wx w' ∧ isFull B zs v w' := by
  refine h.mono ?_
  rintro e w' ⟨u, rfl, hb, g, h1, h2, h3⟩
  exact ⟨u, rfl, hb, g, h1, Nat.le_trans hB h2, h3⟩

theorem full_sl {w : World} {g : Nat} {zs : List Int} (h : Blk w g 5 (pc zs)) (hz : ByteOk zs) (hl : zs.length ≤ 100000) : Sl w (.slice (some ⟨g, 0, none⟩) zs.length zs.length) zs := sl_blk h hz rfl (by unfold maxLen; omega)

theorem made_blk (w : World) (n : Nat) : Blk (w.alloc (.cells (madeCells #[Value.int .u8 0] n) 5)) w.heap.size 5 (pc (List.replicate n 0)) := by
  have h := Blk.new w 5 (madeCells #[Value.int .u8 0] n).toList
  rw [Array.toArray_toList, show (madeCells #[Value.int .u8 0] n).toList = List.replicate n (Value.int .u8 0) from toList_madeCells_one _ _] at h
  unfold pc
  rw [List.map_replicate]
  exact h
theorem make_bytes (n : Nat) (hn : n ≤ 100000) (wx : World) : (Instr.makeSlice 24 (.int .i64 (n : Int)) (.int .i64 (n : Int))).run Tryd.prog wx = .ok (.slice (some ⟨wx.heap.size, 0, none⟩) n n) (wx.alloc (.cells (madeCells #[Value.int .u8 0] n) 5)) :=
  run_make_row' (P := Tryd.prog) 24 5 (.int .u8 0) 1 Tryd.underlying24 infoU8 rfl .i64 .i64 n (by omega) (by omega) wx

/-- what is to be put, to be copied into as many noughts -/
theorem run_copy_pad (w : World) (g : Nat) (a : Option Addr) (n c : Nat) (zs : List Int) (hg : Blk w g 5 (pc (List.replicate 240 0))) (S : Sl w (.slice a n c) zs) (hz : zs.length ≤ 240) :
    ∃ w', (Builtin.copy_ #[24, 24] 3 #[.slice (some ⟨g, 0, none⟩) 240 240, .slice a n c]).run Tryd.prog w = .ok (.int .i64 (zs.length : Int)) w' ∧ Blk w' g 5 (pc (padTo 240 zs)) ∧ w.grownBy w' (some g) := by
  obtain ⟨w', h1, h2, h3⟩ := run_copy_sl (P := Tryd.prog) w 24 24 3 5 Tryd.underlying24 sizeU8 (some ⟨g, 0, none⟩) 240 240 g 0 (pc (List.replicate 240 0)) hg a n c zs S (fun _ => rfl) hz (by rw [pc_len, List.length_replicate]; omega)
  refine ⟨w', h1, ?_, h3⟩
  rw [show zs.map (Value.int .u8) = pc zs from rfl, splice_load zs 240 hz] at h2
  exact h2

theorem own_slice {w : World} {B n : Nat} {u : Value} {xs : List Value} {e : TypeId} (h : w.ownsRow B e 1 u n xs) : ∃ a c, u = .slice a n c := by
  rcases h.2 with ⟨h1, h2⟩ | ⟨g, cap, cur, h1, _⟩
  · subst h2; exact ⟨_, _, h1⟩
  · exact ⟨_, _, h1⟩

set_option maxHeartbeats 4000000 in
theorem hput_ok (w : World) (v : Value) (h : Hd) (hv : HdV w v h) (hmay : mayB h.p h.ms h.us.length = true) :
    Calls Tryd.prog 11 #[v] w fun r w' => ∃ g, r = .returned (.tuple #[.slice (some ⟨g, 0, none⟩) 240 240, .int .i64 0]) ∧ w.heap.size ≤ g ∧ Blk w' g 5 (pc (bearS h.p h.ms h.us)) ∧ Below w.heap.size w w' := by
  obtain ⟨ma, mc, ua, uc, rfl, hm, hu, he⟩ := hv
  obtain ⟨e, p, ms, us⟩ := h
  simp only at hm hu he hmay ⊢
  unfold hdV
  obtain ⟨M, hM⟩ : ∃ M, M = ms.length := ⟨_, rfl⟩
  have HC0 := fun wx hmx => hcheck_any wx e p ma ua mc us.length uc ms hmx
  rw [← hM] at hm HC0 ⊢
  obtain ⟨W, hW⟩ : ∃ W, W = w.alloc (.cells #[.int .u64 e, .int .i64 p, .slice ma M mc, .slice ua us.length uc] 26) := ⟨_, rfl⟩
  have hbW : Below w.heap.size w W := by rw [hW]; exact (Below.refl _ w).alloc (Nat.le_refl _) _
  have hbx : Blk W w.heap.size 26 [.int .u64 e, .int .i64 p, .slice ma M mc, .slice ua us.length uc] := by rw [hW]; exact Blk.new w _ _
  have HC := hide (HC0 W (hm.below hbW))
  rw [hcheckS_zero.2 hmay] at HC
  have hml := may_len hmay
  have hp8 := (mayB_iff.1 hmay).1
  have hul := (mayB_iff.1 hmay).2.2
  have HE := hide (may_each hmay)
  have HRL := hide (may_raw hmay)
  obtain ⟨P, rfl⟩ : ∃ P : Nat, p = P := ⟨p.toNat, by omega⟩
  have HM := hide (hm.below hbW)
  have HU := hide (hu.below hbW)
  have HMW := HM
  have HUW := HU
  have HB := hide hbW
  have HBX := hide hbx
  have HW := hide hW
  rw [hW] at HC
  have HR : Hid (rawS (P : Int) ms us = (numBytes P 2 ++ [(M : Int)]) ++ numsS ms ++ txt us) := by show rawS _ _ _ = _; rw [hM]; rfl
  have HBE : Hid (bearS (P : Int) ms us = padTo 240 (rawS (P : Int) ms us)) := rfl
  have okU : ByteOk us := hu.bytes
  rw [← hM] at hml
  have hcap := HM.out.cap.2
  unfold maxLen at hcap
  have HMM := hide hM
  have HW16 : Hid (IntKind.u16.wrap (P : Int) = (P : Int)) := by show (P : Int) % 65536 = (P : Int); omega
  have HW8 : Hid (IntKind.u8.wrap (M : Int) = (M : Int)) := by show (M : Int) % 256 = (M : Int); omega
  clear HC0 hm hu he hmay hbW hbx hW hM
  go_enter Tryd.func11, Tryd.ntmps11
  go_wp2_with (go_at_call 15; refine HC.out.mono ?_; rintro e1 w1 ⟨rfl, hb1⟩; rw [← HW.out] at hb1; have HB1 := hide hb1; have HX1 := hide (HBX.out.below hb1 HBX.out.lt); have HM1 := hide (HM.out.below hb1); have HU1 := hide (HU.out.below hb1); have hsz1 : w.heap.size < w1.heap.size := Nat.lt_of_lt_of_le HBX.out.lt hb1.size; clear HC HBX HM HU hb1)
  refine wp_region_facts (FL [isV (.pointer (some ⟨w.heap.size, 1, none⟩)), isV (.int .i64 (P : Int)), isV (.int .u16 (P : Int)), isFull w1.heap.size (numBytes P 2), isV (.pointer (some ⟨w.heap.size, 2, none⟩)), isV (.slice ma M mc), isV (.int .i64 (M : Int)), isV (.int .u8 (M : Int)), isFull w1.heap.size [(M : Int)], isOwn w1.heap.size (numBytes P 2 ++ [(M : Int)]), isOwn w1.heap.size (numBytes P 2 ++ [(M : Int)])]) 52 (by kernel_rfl) (by kernel_rfl) (by kernel_rfl) rfl (FL_stable _ (by repeat (first | exact trivial | refine ⟨stable_isV _, ?_⟩ | refine ⟨stable_isFull _ _, ?_⟩ | refine ⟨stable_isOwn _ _, ?_⟩))) ?_ ?_
  · refine ⟨?_, ?_, ?_, ?_, ?_, ?_, ?_, ?_, ?_, ?_, ?_, trivial⟩
    · intro act wx h
      have e1 : act.eval (.tmp 1) = .pointer (some ⟨w.heap.size, 0, none⟩) := h.old 1 (by kernel_rfl)
      have hbel := h.below
      clear h
      refine gives_by rfl act.eval rfl ?_
      generalize act.eval = ρ at *
      intro hf hc
      go_simp
      exact ⟨Below.refl _ _, rfl⟩
    · intro act wx h
      obtain ⟨v15, e15, f15⟩ := h.val 0 15 (by kernel_rfl)
      obtain rfl : v15 = .pointer (some ⟨w.heap.size, 1, none⟩) := f15
      have hbel := h.below
      clear h
      obtain ⟨x0, x1, x2, x3⟩ := box_cells (HX1.out.below hbel HX1.out.lt)
      refine gives_by rfl act.eval rfl ?_
      generalize act.eval = ρ at *
      intro hf hc
      go_simp
      exact ⟨Below.refl _ _, rfl⟩
    · intro act wx h
      obtain ⟨v16, e16, f16⟩ := h.val 1 16 (by kernel_rfl)
      obtain rfl : v16 = .int .i64 (P : Int) := f16
      have hbel := h.below
      clear h
      refine gives_by rfl act.eval rfl ?_
      generalize act.eval = ρ at *
      intro hf hc
      go_simp
      rw [HW16.out]
      exact ⟨Below.refl _ _, rfl⟩
    · intro act wx h
      obtain ⟨v17, e17, f17⟩ := h.val 2 17 (by kernel_rfl)
      obtain rfl : v17 = .int .u16 (P : Int) := f17
      have hbel := h.below
      clear h
      refine gives_by rfl act.eval rfl ?_
      generalize act.eval = ρ at *
      intro hf hc
      go_simp
      have hu := packU16_full wx (.slice none 0 0) [] P (Sl.nil wx) (by simp) (by omega)
      rw [List.nil_append] at hu
      exact full_call (w := wx) hbel.size hu
    · intro act wx h
      have e1 : act.eval (.tmp 1) = .pointer (some ⟨w.heap.size, 0, none⟩) := h.old 1 (by kernel_rfl)
      have hbel := h.below
      clear h
      refine gives_by rfl act.eval rfl ?_
      generalize act.eval = ρ at *
      intro hf hc
      go_simp
      exact ⟨Below.refl _ _, rfl⟩
    · intro act wx h
      obtain ⟨v19, e19, f19⟩ := h.val 4 19 (by kernel_rfl)
      obtain rfl : v19 = .pointer (some ⟨w.heap.size, 2, none⟩) := f19
      have hbel := h.below
      clear h
      obtain ⟨x0, x1, x2, x3⟩ := box_cells (HX1.out.below hbel HX1.out.lt)
      refine gives_by rfl act.eval rfl ?_
      generalize act.eval = ρ at *
      intro hf hc
      go_simp
      exact ⟨Below.refl _ _, rfl⟩
    · intro act wx h
      obtain ⟨v20, e20, f20⟩ := h.val 5 20 (by kernel_rfl)
      obtain rfl : v20 = .slice ma M mc := f20
      have hbel := h.below
      clear h
      refine gives_by rfl act.eval rfl ?_
      generalize act.eval = ρ at *
      intro hf hc
      go_simp
      exact ⟨Below.refl _ _, rfl⟩
    · intro act wx h
      obtain ⟨v21, e21, f21⟩ := h.val 6 21 (by kernel_rfl)
      obtain rfl : v21 = .int .i64 (M : Int) := f21
      have hbel := h.below
      clear h
      refine gives_by rfl act.eval rfl ?_
      generalize act.eval = ρ at *
      intro hf hc
      go_simp
      rw [HW8.out]
      exact ⟨Below.refl _ _, rfl⟩
    · intro act wx h
      obtain ⟨v22, e22, f22⟩ := h.val 7 22 (by kernel_rfl)
      obtain rfl : v22 = .int .u8 (M : Int) := f22
      have hbel := h.below
      clear h
      refine gives_by rfl act.eval rfl ?_
      generalize act.eval = ρ at *
      intro hf hc
      go_simp
      exact ⟨(Below.refl _ wx).alloc (Nat.le_refl _) _, wx.heap.size, rfl, hbel.size, Blk.new wx _ [.int .u8 (M : Int)]⟩
    · intro act wx h
      obtain ⟨v18, e18, f18⟩ := h.val 3 18 (by kernel_rfl)
      obtain ⟨g18, rfl, hg18, hk18⟩ := f18
      obtain ⟨v23, e23, f23⟩ := h.val 8 23 (by kernel_rfl)
      obtain ⟨g23, rfl, hg23, hk23⟩ := f23
      have hbel := h.below
      clear h
      obtain ⟨v', w', r9, o9, b9⟩ := run_append_full wx (numBytes P 2) [(M : Int)] g18 hk18 _ _ _ (full_sl hk23 (by intro z hz; simp at hz; omega) (by simp)) (by simp) (by rw [numBytes_len]; simp)
      refine gives_of_run rfl (exec_append (.tmp 18) (.tmp 23) 24 rfl _ _ e18 e23 v' r9) ⟨b9, ?_⟩
      obtain ⟨a, n, c, rfl⟩ : ∃ a n c, v' = .slice a n c := by rcases o9.2 with ⟨h, _⟩ | ⟨g, cap, cur, h, _⟩ <;> exact ⟨_, _, _, h⟩
      exact ⟨a, n, c, rfl, own_of_le o9 hbel.size⟩
    · intro act wx h
      obtain ⟨v24, e24, f24⟩ := h.val 9 24 (by kernel_rfl)
      obtain ⟨a24, n24, c24, rfl, O24⟩ := f24
      have hbel := h.below
      clear h
      refine gives_by rfl act.eval rfl ?_
      generalize act.eval = ρ at *
      intro hf hc
      go_simp
      exact ⟨Below.refl _ _, ⟨a24, n24, c24, rfl, O24⟩⟩
  · intro vals w2 hb2 hv
    obtain ⟨a2, n2, l2, hv10, O2⟩ : isOwn w1.heap.size (numBytes P 2 ++ [(M : Int)]) (vals 10) w2 := hv 10 5 (by kernel_rfl)
    clear hv
    generalize hact : putAll _ vals 0 _ = act
    have HB2 := hide hb2
    have HX2 := hide (HX1.out.below hb2 HX1.out.lt)
    have HM2 := hide (HM1.out.below hb2)
    have HU2 := hide (HU1.out.below hb2)
    have HO2 := hide O2
    obtain ⟨c0, c1, c2, c3⟩ := box_cells HX2.out
    clear hb2 O2 HX1 HM1 HU1
    subst hact
    simp only [putAll, Act.put, List.setIfInBounds_toArray, List.set_cons_zero, List.set_cons_succ, hv10, Nat.zero_add, Nat.reduceAdd]
    clear hv10
    go_wp2
    go_loopg [5, 28] M (fun g b i wr => ∃ (j : Nat) (a' : Option Addr) (n' c' : Nat), g + j = M ∧ i = .int .i64 j ∧ b = .slice a' n' c' ∧ wr.ownsRow w1.heap.size 5 1 (.slice a' n' c') ((numBytes P 2 ++ [(M : Int)]) ++ numsS (ms.take j)).length (((numBytes P 2 ++ [(M : Int)]) ++ numsS (ms.take j)).map (Value.int .u8)) ∧ Below w1.heap.size w1 wr)
    case atStart => exact ⟨0, _, _, _, by omega, rfl, rfl, by simpa [numsS] using HO2.out, HB2.out⟩
    case round =>
      obtain ⟨j, a', n', c', hj, rfl, rfl, hown, hbr⟩ := hrel
      have HBR := hide hbr
      have hokr : ByteOk ((numBytes P 2 ++ [(M : Int)]) ++ numsS (ms.take j)) := ((numBytes_ok 2 P).append' (by intro z hz; simp at hz; omega)).append' (numsS_ok _)
      have hlr : ((numBytes P 2 ++ [(M : Int)]) ++ numsS (ms.take j)).length ≤ 100 := by
        rw [List.length_append, List.length_append, numBytes_len, numsS_len, List.length_take]
        simp only [List.length_cons, List.length_nil]
        omega
      have HS := hide (sl_of_own_len hown hokr)
      have hXr : Blk wr w.heap.size 26 [.int .u64 e, .int .i64 (P : Int), .slice ma M mc, .slice ua us.length uc] := by
        have h1 := HX2.out
        unfold Blk at h1 ⊢
        rw [hbr.block w.heap.size hsz1, ← HB2.out.block w.heap.size hsz1]
        exact h1
      have hMr : Is wr (.slice ma M mc) ms := HMW.out.below (HB1.out.trans (hbr.mono HB1.out.size))
      have hUr : Sl wr (.slice ua us.length uc) us := HUW.out.below (HB1.out.trans (hbr.mono HB1.out.size))
      clear c0 c1 c2 c3 hown
      obtain ⟨c0, c1, c2, c3⟩ := box_cells hXr
      have HXR := hide hXr
      have HUR := hide hUr
      have HMR := hide hMr
      clear hbr hXr hUr hMr
      cases gk with
      | zero =>
        obtain rfl : j = M := by omega
        have hall : ms.take j = ms := List.take_of_length_le (by have := HMM.out; omega)
        rw [hall] at hokr hlr HS
        obtain ⟨Z, hZ⟩ : ∃ Z, Z = (numBytes P 2 ++ [(j : Int)]) ++ numsS ms := ⟨_, rfl⟩
        rw [← hZ] at HS hokr hlr HR
        have HT := hide (packText_ok wr _ _ Z us HS.out HUR.out (by omega) (by omega))
        have hrl : (Z ++ txt us).length ≤ 40 := by
          have := HRL.out
          rwa [HR.out] at this
        have hrok : ByteOk (Z ++ txt us) := hokr.append' (txt_ok okU (by omega))
        have HPD : Hid (∀ (w3 : World) (a3 : Option Addr) (n3 c3 : Nat), w3.ownsRow wr.heap.size 5 1 (.slice a3 n3 c3) (Z ++ txt us).length ((Z ++ txt us).map (Value.int .u8)) → Below wr.heap.size wr w3 →
            ∃ w4, (Builtin.copy_ #[24, 24] 3 #[.slice (some ⟨w3.heap.size, 0, none⟩) 240 240, .slice a3 n3 c3]).run Tryd.prog (w3.alloc (.cells (madeCells #[Value.int .u8 0] 240) 5)) = .ok (.int .i64 ((Z ++ txt us).length : Int)) w4 ∧
              w.heap.size ≤ w3.heap.size ∧ Blk w4 w3.heap.size 5 (pc (bearS (P : Int) ms us)) ∧ Below w.heap.size w w4) := by
          intro w3 a3 n3 c3 h3 hb3
          have hbx3 : Below w.heap.size w w3 := HB.out.trans ((HB1.out.mono HB.out.size).trans ((HBR.out.mono (by have := HB.out.size; have := HB1.out.size; omega)).trans (hb3.mono (by have := HB.out.size; have := HB1.out.size; have := HBR.out.size; omega))))
          have S3 := sl_of_own_len h3 hrok
          obtain ⟨w4, r4, k4, g4⟩ := run_copy_pad (w3.alloc (.cells (madeCells #[Value.int .u8 0] 240) 5)) w3.heap.size a3 n3 c3 (Z ++ txt us) (made_blk w3 240) (S3.alloc _) (by omega)
          refine ⟨w4, r4, hbx3.size, ?_, ?_⟩
          · rw [HBE.out, HR.out]; exact k4
          · exact (hbx3.alloc hbx3.size _).grown g4 (by have := hbx3.size; simp; omega) (by intro k hk; cases hk; exact hbx3.size)
        clear hZ hokr hlr HR HBE HS hrl hrok
        have hmk : ∀ wx, (Instr.makeSlice 24 (.int .i64 240) (.int .i64 240)).run Tryd.prog wx = .ok (.slice (some ⟨wx.heap.size, 0, none⟩) 240 240) (wx.alloc (.cells (madeCells #[Value.int .u8 0] 240) 5)) := fun wx => make_bytes 240 (by omega) wx
        go_wp2_with (first
          | (go_at_call 31; refine HT.out.mono ?_; rintro e1 w3 ⟨u3, rfl, O3, hb3, _⟩; obtain ⟨a3, n3, l3, rfl⟩ : ∃ a n c, u3 = .slice a n c := (by rcases O3.2 with ⟨h, _⟩ | ⟨g, cap, cur, h, _⟩ <;> exact ⟨_, _, _, h⟩); obtain ⟨w4, r4, sz4, k4, hb4⟩ := HPD.out w3 a3 n3 l3 O3 hb3; have HR4 := hide r4; have HK4 := hide k4; have HB4 := hide hb4; clear HT HPD O3 hb3 r4 k4 hb4))
        rw [HR4.out]
        simp only [Result.andThen]
        rw [Oper.upon_value]
        go_wp2
        go_ret2
        exact ⟨_, rfl, sz4, HK4.out, HB4.out⟩
      | succ gl =>
        have hjl : j < ms.length := by have := HMM.out; omega
        have hji : (j : Int) < (M : Int) := by omega
        obtain ⟨b, off, rfl, cj⟩ := HMR.out.at j hjl
        have hxr := HE.out (ms.getD j 0) (by rw [getD_lt ms hjl]; exact List.getElem_mem hjl)
        have htk : numsS (ms.take (j + 1)) = numsS (ms.take j) ++ numBytes (ms.getD j 0).toNat 2 := by rw [take_getD ms hjl, numsS_snoc]
        obtain ⟨X, hX⟩ : ∃ X : Nat, ms.getD j 0 = (X : Int) := ⟨(ms.getD j 0).toNat, by omega⟩
        rw [hX] at cj htk hxr
        rw [show ((X : Int)).toNat = X by omega] at htk
        have HU16 := hide (packU16_any wr _ ((numBytes P 2 ++ [(M : Int)]) ++ numsS (ms.take j)) X HS.out (by omega) (by omega))
        have cutX : (X : Int) % 65536 = (X : Int) := by omega
        rw [List.append_assoc _ (numsS (ms.take j)), ← htk] at HU16
        clear hX htk
        go_wp2_with (go_at_call 30; refine HU16.out.mono ?_; rintro e1 w3 ⟨u3, rfl, O3, hb3, _⟩; obtain ⟨a3, n3, l3, rfl⟩ : ∃ a n c, u3 = .slice a n c := (by rcases O3.2 with ⟨h, _⟩ | ⟨g, cap, cur, h, _⟩ <;> exact ⟨_, _, _, h⟩); have HO3 := hide (own_of_le O3 HBR.out.size); have HB3 := hide (HBR.out.trans (hb3.mono HBR.out.size)); clear HU16 O3 hb3)
        go_roundg gl
        case measure => omega
        case rel => exact ⟨j + 1, a3, n3, l3, by omega, by go_num, rfl, HO3.out, HB3.out⟩

end Go.Proofs.YtmeiahmolmneeaaDoor
