/- Contract: package node's innerBytes. -/
import Derived.Test.YtoamdbjailpgdaaNPut
import Derived.Test.YtoamdbjailpgdaaRegionL
namespace Go.Proofs.Ytoamdbjailpgdaa
set_option maxRecDepth 20000
open Go.RowKit
set_option linter.unusedVariables false
set_option linter.unusedSimpArgs false
set_option maxRecDepth 100000

theorem ownB_keep {w w' : World} {base n size : Nat} {e : TypeId} {v : Value} {xs : List Value} (h : w.ownsRow base e size v n xs) (hb : Below w.heap.size w w') : w'.ownsRow base e size v n xs := ownsRow_only h (Only.of_below (fun _ => False) hb) (fun _ _ h => h)
/-- bytes of the call's own, as a fact of an operation -/
def isB (B : Nat) (zs : List Int) : Value → World → Prop := fun v w => ∃ a c, v = .slice a zs.length c ∧ ownsB w B (.slice a zs.length c) zs
theorem stable_isB (B : Nat) (zs : List Int) : Stable (isB B zs) := fun _ _ _ hb ⟨a, c, h1, h2⟩ => ⟨a, c, h1, ownB_keep h2 hb⟩
theorem isB_call {f : FuncId} {args : Array Value} {wx : World} {B : Nat} {zs : List Int} (hB : B ≤ wx.heap.size) (h : Calls Try.prog f args wx fun e w' => ∃ u, e = .returned u ∧ ownsB w' wx.heap.size u zs ∧ Below wx.heap.size wx w') :
    Calls Try.prog f args wx fun e w' => ∃ v, e = .returned v ∧ Below wx.heap.size wx w' ∧ isB B zs v w' := by
  refine h.mono ?_
  rintro e w' ⟨u, rfl, ho, hb⟩
  obtain ⟨a, c, rfl⟩ := own_form' ho
  exact ⟨_, rfl, hb, a, c, rfl, own_le' ho hB⟩
theorem call_gives {P : Program} {f : FuncId} {args : Array Value} {wx : World} {v : Value} {F : Value → World → Prop} (h : Calls P f args wx fun r w' => r = .returned v ∧ Below wx.heap.size wx w') (hF : ∀ w', F v w') :
    Calls P f args wx fun r w' => ∃ u, r = .returned u ∧ Below wx.heap.size wx w' ∧ F u w' := by
  refine h.mono ?_
  rintro r w' ⟨rfl, hb⟩
  exact ⟨v, rfl, hb, hF _⟩

set_option maxHeartbeats 4000000 in
theorem innerBytes_any (w : World) (v : Value) (n : Nd) (h : NdV w v n) (hm : innerB n = true) :
    Calls Try.prog 57 #[v] w fun e w' => ∃ u, e = .returned u ∧ ownsB w' w.heap.size u (innT n.ks n.cs n.ks.length) ∧ Below w.heap.size w w' := by
  obtain ⟨_, m2, m3, m4, m5, m6⟩ := innerB_ps hm
  obtain ⟨pa, pc, ka, kc, ca, cc, xs, ys, rfl, hp1, hk1, hc1, hp2, hk2, hc2, hP, hK, hC⟩ := h.open
  obtain ⟨lf, ps, ks, cs⟩ := n
  simp only at hp1 hk1 hc1 hp2 hk2 hc2 hP hK hC m2 m3 m4 m5 m6 ⊢
  have hle : ∀ k ∈ ks, k.length ≤ 25 := fun k hk => (keyB_len (riseK_keys _ _ m5 _ hk)).2
  have hok := innT_ok ks cs m3 (fun p hp => by
    obtain ⟨i, hi, rfl⟩ := List.getElem_of_mem hp
    obtain ⟨_, _, _, _, h1⟩ := hK.at i hi
    have hpe : ks.getD i [] = ks[i] := by simp [List.getD, hi]
    rw [hpe] at h1
    exact ⟨h1.bytes, by have := hle _ (List.getElem_mem hi); omega⟩)
  have hlen : ∀ k, k ≤ ks.length → (innT ks cs k).length ≤ 20000 := fun k hk => by
    rw [innT_len ks cs k hk]
    have := sum_take_le (ks.map partK) 28 (fun x hx => by obtain ⟨p, hp, rfl⟩ := List.mem_map.1 hx; have := hle p hp; unfold partK; omega) k
    omega
  have hkid : ∀ i, i < cs.length → kidB (cs.getD i 0) = true := fun i hi => m6 _ (by simp only [List.getD, List.getElem?_eq_getElem hi]; exact List.getElem_mem hi)
  have HK := hide hK
  have HC := hide hC
  have HOK := hide hok
  have HLN := hide hlen
  have HLE := hide hle
  have HKI := hide hkid
  obtain ⟨cb, coff, rfl, -⟩ := hC.at 0 (by omega)
  clear hP hK hC h hok hlen hle hkid hm m5 m6
  unfold ndv
  obtain ⟨nk, hnk⟩ : ∃ m, ks.length = m := ⟨_, rfl⟩
  have HNK := hide hnk
  obtain ⟨nc, hnc⟩ : ∃ m, cs.length = m := ⟨_, rfl⟩
  have HNC := hide hnc
  rw [hnk] at hk1 HK m2 m3 m4 HLN ⊢
  rw [hnc] at hc1 HC m4 HKI ⊢
  have HCC : Hid (∀ (w' : World) (i : Nat), Below w.heap.size w w' → i < nc → w'.cell? ⟨cb, coff + i, none⟩ = some (.int .i64 (cs.getD i 0))) := fun w' i hb hi => by
    obtain ⟨b', off', he, hc⟩ := (HC.out.below hb).at i (by rw [HNC.out]; exact hi)
    obtain ⟨rfl, rfl⟩ : cb = b' ∧ coff = off' := by simpa using he
    exact hc
  have HL0 : Hid (innT ks cs 0 = [(nk : Int)] ++ numBytes (cs.getD 0 0).toNat 2) := by show innT ks cs 0 = _; rw [innT, hnk]
  obtain ⟨L0, hL0⟩ : ∃ L0, L0 = [(nk : Int)] ++ numBytes (cs.getD 0 0).toNat 2 := ⟨_, rfl⟩
  have HLL0 := hide hL0
  generalize ps.length = np at *
  have HW8 : Hid (IntKind.u8.wrap (nk : Int) = (nk : Int)) := by show (nk : Int) % 256 = (nk : Int); omega
  obtain ⟨w1, hw1, HB1, HBB, z0, z1, z2, z3⟩ := nd_box w lf (.slice pa np pc) (.slice ka nk kc) (.slice (some ⟨cb, coff, none⟩) nc cc)
  have hsz1 : w.heap.size < w1.heap.size := HBB.out.lt
  have hcn : nk < nc := by omega
  clear hnk hnc HC m4 hL0
  go_enter Try.func57, Try.ntmps57
  go_wp2
  refine wp_region_facts (FL [isV (.pointer (some ⟨w.heap.size, 2, none⟩)), isV (.slice ka nk kc), isV (.int .i64 (nk : Int)), isV (.int .u8 (nk : Int)), isB w1.heap.size [(nk : Int)], isV (.pointer (some ⟨w.heap.size, 3, none⟩)), isV (.slice (some ⟨cb, coff, none⟩) nc cc), isV (.pointer (some ⟨cb, coff, none⟩)), isV (.int .i64 (cs.getD 0 0)), isB w1.heap.size L0, isB w1.heap.size L0]) 36 (by kernel_rfl) (by kernel_rfl) (by kernel_rfl) rfl (FL_stable _ (by repeat (first | exact trivial | refine ⟨stable_isV _, ?_⟩ | refine ⟨stable_isB _ _, ?_⟩))) ?_ ?_
  · refine ⟨?_, ?_, ?_, ?_, ?_, ?_, ?_, ?_, ?_, ?_, ?_, trivial⟩
    · intro act wx h
      have e1 : act.eval (.tmp 1) = .pointer (some ⟨w.heap.size, 0, none⟩) := h.old 1 (by kernel_rfl)
      have hbel := h.below
      clear h
      refine gives_by rfl act.eval rfl ?_
      generalize act.eval = ρ at *
      intro hf hc
      go_simp
      exact ⟨Below.refl _ _, rfl⟩
    · intro act wx h
      obtain ⟨v6, e6, f6⟩ := h.val 0 6 (by kernel_rfl)
      obtain rfl : v6 = .pointer (some ⟨w.heap.size, 2, none⟩) := f6
      have hbel := h.below
      clear h
      obtain ⟨x0, x1, x2, x3⟩ := box_ndc (HBB.out.below hbel HBB.out.lt)
      refine gives_by rfl act.eval rfl ?_
      generalize act.eval = ρ at *
      intro hf hc
      go_simp
      exact ⟨Below.refl _ _, rfl⟩
    · intro act wx h
      obtain ⟨v7, e7, f7⟩ := h.val 1 7 (by kernel_rfl)
      obtain rfl : v7 = .slice ka nk kc := f7
      have hbel := h.below
      clear h
      refine gives_by rfl act.eval rfl ?_
      generalize act.eval = ρ at *
      intro hf hc
      go_simp
      exact ⟨Below.refl _ _, rfl⟩
    · intro act wx h
      obtain ⟨v8, e8, f8⟩ := h.val 2 8 (by kernel_rfl)
      obtain rfl : v8 = .int .i64 (nk : Int) := f8
      have hbel := h.below
      clear h
      refine gives_by rfl act.eval rfl ?_
      generalize act.eval = ρ at *
      intro hf hc
      go_simp
      rw [HW8.out]
      exact ⟨Below.refl _ _, rfl⟩
    · intro act wx h
      obtain ⟨v9, e9, f9⟩ := h.val 3 9 (by kernel_rfl)
      obtain rfl : v9 = .int .u8 (nk : Int) := f9
      have hbel := h.below
      clear h
      refine gives_by rfl act.eval rfl ?_
      generalize act.eval = ρ at *
      intro hf hc
      go_simp
      exact ⟨(Below.refl _ wx).alloc (Nat.le_refl _) _, _, 1, rfl, World.ownsRow_lit (size := 1) (e := 5) wx [.int .u8 (nk : Int)].toArray 1 hbel.size (by simp [maxLen]) (by simp)⟩
    · intro act wx h
      have e1 : act.eval (.tmp 1) = .pointer (some ⟨w.heap.size, 0, none⟩) := h.old 1 (by kernel_rfl)
      have hbel := h.below
      clear h
      refine gives_by rfl act.eval rfl ?_
      generalize act.eval = ρ at *
      intro hf hc
      go_simp
      exact ⟨Below.refl _ _, rfl⟩
    · intro act wx h
      obtain ⟨v11, e11, f11⟩ := h.val 5 11 (by kernel_rfl)
      obtain rfl : v11 = .pointer (some ⟨w.heap.size, 3, none⟩) := f11
      have hbel := h.below
      clear h
      obtain ⟨x0, x1, x2, x3⟩ := box_ndc (HBB.out.below hbel HBB.out.lt)
      refine gives_by rfl act.eval rfl ?_
      generalize act.eval = ρ at *
      intro hf hc
      go_simp
      exact ⟨Below.refl _ _, rfl⟩
    · intro act wx h
      obtain ⟨v12, e12, f12⟩ := h.val 6 12 (by kernel_rfl)
      obtain rfl : v12 = .slice (some ⟨cb, coff, none⟩) nc cc := f12
      have hbel := h.below
      clear h
      have hlt : 0 < nc := by omega
      refine gives_by rfl act.eval rfl ?_
      generalize act.eval = ρ at *
      intro hf hc
      go_simp
      exact ⟨Below.refl _ _, rfl⟩
    · intro act wx h
      obtain ⟨v13, e13, f13⟩ := h.val 7 13 (by kernel_rfl)
      obtain rfl : v13 = .pointer (some ⟨cb, coff, none⟩) := f13
      have hbel := h.below
      clear h
      have cx := HCC.out wx 0 (HB1.out.trans (hbel.mono HB1.out.size)) (by omega)
      rw [Nat.add_zero] at cx
      refine gives_by rfl act.eval rfl ?_
      generalize act.eval = ρ at *
      intro hf hc
      go_simp
      exact ⟨Below.refl _ _, rfl⟩
    · intro act wx h
      obtain ⟨v10, e10, f10⟩ := h.val 4 10 (by kernel_rfl)
      obtain ⟨a10, c10, rfl, O10⟩ := f10
      obtain ⟨v14, e14, f14⟩ := h.val 8 14 (by kernel_rfl)
      obtain rfl : v14 = .int .i64 (cs.getD 0 0) := f14
      have hbel := h.below
      clear h
      refine gives_by rfl act.eval rfl ?_
      generalize act.eval = ρ at *
      intro hf hc
      go_simp
      rw [HLL0.out]
      exact isB_call hbel.size (putChild_any wx _ [(nk : Int)] (cs.getD 0 0) (sl_of_own_len O10 (by intro z hz; simp at hz; omega)) (by simp) (HKI.out 0 (by omega)))
    · intro act wx h
      obtain ⟨v15, e15, f15⟩ := h.val 9 15 (by kernel_rfl)
      obtain ⟨a15, c15, rfl, O15⟩ := f15
      have hbel := h.below
      clear h
      refine gives_by rfl act.eval rfl ?_
      generalize act.eval = ρ at *
      intro hf hc
      go_simp
      exact ⟨Below.refl _ _, ⟨a15, c15, rfl, O15⟩⟩
  · intro vals w2 hb2 hv
    obtain ⟨a2, c2, hv10, O2⟩ : isB w1.heap.size (innT ks cs 0) (vals 10) w2 := by rw [HL0.out, ← HLL0.out]; exact hv 10 3 (by kernel_rfl)
    clear hv
    generalize hact : putAll _ vals 0 _ = act
    have HB2 := hide hb2
    have HO2 := hide O2
    obtain ⟨y0, y1, y2, y3⟩ := box_ndc (HBB.out.below hb2 HBB.out.lt)
    clear hb2 O2
    subst hact
    simp only [putAll, Act.put, List.setIfInBounds_toArray, List.set_cons_zero, List.set_cons_succ, hv10, Nat.zero_add, Nat.reduceAdd]
    clear hv10 z0 z1 z2 z3
    go_wp2
    go_loopg [3, 19] nk (fun g b i wr => ∃ (j : Nat) (a' : Option Addr) (c' : Nat), g + j = nk ∧ i = .int .i64 j ∧ b = .slice a' (innT ks cs j).length c' ∧ ownsB wr w1.heap.size (.slice a' (innT ks cs j).length c') (innT ks cs j) ∧ Below w1.heap.size w1 wr)
    case atStart => exact ⟨0, _, _, by omega, rfl, rfl, HO2.out, HB2.out⟩
    case round =>
      obtain ⟨j, a', c', hj, rfl, rfl, hown, hbr⟩ := hrel
      have hjn : j ≤ nk := by omega
      have hlr := HLN.out j hjn
      have hokr := HOK.out j
      have HS := hide (sl_of_own_len hown hokr)
      have HBR := hide hbr
      have HOR := hide hown
      have HBX := hide (HBB.out.below hbr hsz1)
      obtain ⟨x0, x1, x2, x3⟩ := box_ndc HBX.out
      have HBW := hide (HB1.out.trans (hbr.mono HB1.out.size))
      generalize hLJ : innT ks cs j = LJ at *
      have HLJ := hide hLJ
      clear y0 y1 y2 y3 hown hbr hLJ
      by_cases hjk : j < nk
      · have hji : (j : Int) < (nk : Int) := by omega
        obtain ⟨b, off, rfl, q, hs⟩ := (HK.out.below HBW.out).at j (by rw [HNK.out]; exact hjk)
        have hlk := HLE.out (ks.getD j []) (by have := HNK.out; simp only [List.getD, List.getElem?_eq_getElem (show j < ks.length by omega)]; exact List.getElem_mem _)
        have HLS : Hid (innT ks cs (j + 1) = LJ ++ txt (ks.getD j []) ++ numBytes (cs.getD (j + 1) 0).toNat 2) := by show innT ks cs (j + 1) = _; rw [innT, HLJ.out]
        have HKJ := hide (HKI.out (j + 1) (by omega))
        have HCJ : Hid (∀ w', Below wr.heap.size wr w' → w'.cell? ⟨cb, coff + (j + 1), none⟩ = some (.int .i64 (cs.getD (j + 1) 0))) := fun w' hb => HCC.out w' (j + 1) (HBW.out.trans (hb.mono HBW.out.size)) (by omega)
        generalize ys.getD j nilS = u at *
        generalize ks.getD j [] = q1 at *
        generalize cs.getD (j + 1) 0 = C at *
        obtain ⟨a1, c1, rfl⟩ := sl_form' hs
        have HQ := hide hs
        clear hs
        obtain ⟨M1, hM1⟩ : ∃ M1, M1 = LJ ++ txt q1 := ⟨_, rfl⟩
        obtain ⟨M2, hM2⟩ : ∃ M2, M2 = M1 ++ numBytes C.toNat 2 := ⟨_, rfl⟩
        have HM1 := hide hM1
        have HM2 := hide hM2
        have HLM : Hid (innT ks cs (j + 1) = M2) := by show innT ks cs (j + 1) = M2; rw [HLS.out, hM2, hM1]
        have HOM : Hid (ByteOk M1 ∧ M1.length ≤ 50000) := by
          show ByteOk M1 ∧ M1.length ≤ 50000
          rw [hM1]
          exact ⟨hokr.append' (txt_ok HQ.out.bytes (by omega)), by rw [List.length_append, txt_len]; omega⟩
        clear hM1 hM2
        have hwj : IntKind.i64.wrap ((j : Int) + 1) = (j : Int) + 1 := IntWalk.i64_in _ (by omega)
        have hj1 : (j : Int) + 1 < (nc : Int) := by omega
        go_wp2
        refine wp_region_facts (FL [isV (.slice a' LJ.length c'), isV (.slice a1 q1.length c1), isB wr.heap.size M1, isV (.pointer (some ⟨w.heap.size, 3, none⟩)), isV (.slice (some ⟨cb, coff, none⟩) nc cc), isV (.int .i64 (j : Int)), isV (.int .i64 ((j : Int) + 1)), isV (.pointer (some ⟨cb, coff + (j + 1), none⟩)), isV (.int .i64 C), isB wr.heap.size M2, isB wr.heap.size M2]) 36 (by kernel_rfl) (by kernel_rfl) (by kernel_rfl) rfl (FL_stable _ (by repeat (first | exact trivial | refine ⟨stable_isV _, ?_⟩ | refine ⟨stable_isB _ _, ?_⟩))) ?_ ?_
        · refine ⟨?_, ?_, ?_, ?_, ?_, ?_, ?_, ?_, ?_, ?_, ?_, trivial⟩
          · intro act wx h
            have e3 : act.eval (.tmp 3) = .slice a' LJ.length c' := h.old 3 (by kernel_rfl)
            have hbel := h.below
            clear h
            refine gives_by rfl act.eval rfl ?_
            generalize act.eval = ρ at *
            intro hf hc
            go_simp
            exact ⟨Below.refl _ _, rfl⟩
          · intro act wx h
            have e5 : act.eval (.tmp 5) = .slice a1 q1.length c1 := h.old 5 (by kernel_rfl)
            have hbel := h.below
            clear h
            refine gives_by rfl act.eval rfl ?_
            generalize act.eval = ρ at *
            intro hf hc
            go_simp
            exact ⟨Below.refl _ _, rfl⟩
          · intro act wx h
            obtain ⟨v24, e24, f24⟩ := h.val 0 24 (by kernel_rfl)
            obtain rfl : v24 = .slice a' LJ.length c' := f24
            obtain ⟨v25, e25, f25⟩ := h.val 1 25 (by kernel_rfl)
            obtain rfl : v25 = .slice a1 q1.length c1 := f25
            have hbel := h.below
            clear h
            refine gives_by rfl act.eval rfl ?_
            generalize act.eval = ρ at *
            intro hf hc
            go_simp
            rw [HM1.out]
            exact isB_call hbel.size (putText_any wx _ _ LJ q1 (HS.out.below hbel) (HQ.out.below hbel) (by omega) (by omega))
          · intro act wx h
            have e1 : act.eval (.tmp 1) = .pointer (some ⟨w.heap.size, 0, none⟩) := h.old 1 (by kernel_rfl)
            have hbel := h.below
            clear h
            refine gives_by rfl act.eval rfl ?_
            generalize act.eval = ρ at *
            intro hf hc
            go_simp
            exact ⟨Below.refl _ _, rfl⟩
          · intro act wx h
            obtain ⟨v27, e27, f27⟩ := h.val 3 27 (by kernel_rfl)
            obtain rfl : v27 = .pointer (some ⟨w.heap.size, 3, none⟩) := f27
            have hbel := h.below
            clear h
            obtain ⟨x0, x1, x2, x3⟩ := box_ndc (HBX.out.below hbel HBX.out.lt)
            refine gives_by rfl act.eval rfl ?_
            generalize act.eval = ρ at *
            intro hf hc
            go_simp
            exact ⟨Below.refl _ _, rfl⟩
          · intro act wx h
            have e4 : act.eval (.tmp 4) = .int .i64 (j : Int) := h.old 4 (by kernel_rfl)
            have hbel := h.below
            clear h
            refine gives_by rfl act.eval rfl ?_
            generalize act.eval = ρ at *
            intro hf hc
            go_simp
            exact ⟨Below.refl _ _, rfl⟩
          · intro act wx h
            obtain ⟨v29, e29, f29⟩ := h.val 5 29 (by kernel_rfl)
            obtain rfl : v29 = .int .i64 (j : Int) := f29
            have hbel := h.below
            clear h
            refine gives_by rfl act.eval rfl ?_
            generalize act.eval = ρ at *
            intro hf hc
            go_simp
            exact ⟨Below.refl _ _, rfl⟩
          · intro act wx h
            obtain ⟨v28, e28, f28⟩ := h.val 4 28 (by kernel_rfl)
            obtain rfl : v28 = .slice (some ⟨cb, coff, none⟩) nc cc := f28
            obtain ⟨v30, e30, f30⟩ := h.val 6 30 (by kernel_rfl)
            obtain rfl : v30 = .int .i64 ((j : Int) + 1) := f30
            have hbel := h.below
            clear h
            have ha : ((j : Int) + 1).toNat = j + 1 := by omega
            have hn0 : ¬ (j : Int) + 1 < 0 := by omega
            refine gives_by rfl act.eval rfl ?_
            generalize act.eval = ρ at *
            intro hf hc
            go_simp
            exact ⟨Below.refl _ _, rfl⟩
          · intro act wx h
            obtain ⟨v31, e31, f31⟩ := h.val 7 31 (by kernel_rfl)
            obtain rfl : v31 = .pointer (some ⟨cb, coff + (j + 1), none⟩) := f31
            have hbel := h.below
            clear h
            have cx := HCJ.out wx hbel
            refine gives_by rfl act.eval rfl ?_
            generalize act.eval = ρ at *
            intro hf hc
            go_simp
            exact ⟨Below.refl _ _, rfl⟩
          · intro act wx h
            obtain ⟨v26, e26, f26⟩ := h.val 2 26 (by kernel_rfl)
            obtain ⟨a26, c26, rfl, O26⟩ := f26
            obtain ⟨v32, e32, f32⟩ := h.val 8 32 (by kernel_rfl)
            obtain rfl : v32 = .int .i64 C := f32
            have hbel := h.below
            clear h
            refine gives_by rfl act.eval rfl ?_
            generalize act.eval = ρ at *
            intro hf hc
            go_simp
            rw [HM2.out]
            exact isB_call hbel.size (putChild_any wx _ M1 C (sl_of_own_len O26 HOM.out.1) HOM.out.2 HKJ.out)
          · intro act wx h
            obtain ⟨v33, e33, f33⟩ := h.val 9 33 (by kernel_rfl)
            obtain ⟨a33, c33, rfl, O33⟩ := f33
            have hbel := h.below
            clear h
            refine gives_by rfl act.eval rfl ?_
            generalize act.eval = ρ at *
            intro hf hc
            go_simp
            exact ⟨Below.refl _ _, ⟨a33, c33, rfl, O33⟩⟩
        · intro vals w2 hb2 hv
          obtain ⟨a2, c2, hv10, O2⟩ : isB wr.heap.size M2 (vals 10) w2 := hv 10 3 (by kernel_rfl)
          clear hv
          generalize hact : putAll _ vals 0 _ = act
          have HB2 := hide hb2
          rw [← HLM.out] at O2 hv10
          have HO2 := hide O2
          clear hb2 O2
          subst hact
          simp only [putAll, Act.put, List.setIfInBounds_toArray, List.set_cons_zero, List.set_cons_succ, hv10, Nat.zero_add, Nat.reduceAdd]
          clear hv10
          go_wp2
          go_roundg (gk - 1)
          case measure => omega
          case rel => exact ⟨j + 1, a2, c2, by omega, by go_num, rfl, own_le' HO2.out HBR.out.size, HBR.out.trans (HB2.out.mono HBR.out.size)⟩
      · obtain rfl : j = nk := by omega
        go_wp2
        go_ret
        exact ⟨_, rfl, by rw [HLJ.out]; exact own_le' HOR.out HB1.out.size, HBW.out⟩

end Go.Proofs.Ytoamdbjailpgdaa
