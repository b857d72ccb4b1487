/- Contract: the document's bytes of a node (incipitref10.lay), an inner node's; its Size and Check. -/
import Derived.Test.YtoamdbjailpgdaaNRefL
namespace Go.Proofs.Ytoamdbjailpgdaa
set_option maxRecDepth 20000
open Go.RowKit Go.Shelf
set_option linter.unusedVariables false
set_option linter.unusedSimpArgs false
set_option maxRecDepth 100000
attribute [local go_sem] Oper.semAt_some

theorem two_bytes (x : Nat) (hx : x < 65536) : numBytes x 2 = [((x / 256 : Nat) : Int), ((x % 256 : Nat) : Int)] := by
  simp only [numBytes, List.nil_append, List.cons_append, List.cons.injEq, and_true]
  omega
/-- a child's number, as bytes -/
theorem kid_bytes (c : Int) (h : kidB c = true) : ∃ X p0 p1 : Nat, c = (X : Int) ∧ numBytes c.toNat 2 = [(p0 : Int), (p1 : Int)] ∧ p0 < 256 ∧ p1 < 256 ∧ (X : Int) / 256 = (p0 : Int) ∧ (X : Int) % 256 = (p1 : Int) ∧ X < 65536 := by
  simp only [kidB, Bool.and_eq_true, decide_eq_true_iff] at h
  refine ⟨c.toNat, c.toNat / 256, c.toNat % 256, by omega, two_bytes _ (by omega), by omega, by omega, by omega, by omega, by omega⟩

set_option maxHeartbeats 8000000 in
theorem refLay_inner (w : World) (v : Value) (n : Nd) (h : NdV w v n) (hlf : n.lf = false) (hm : innerB n = true) :
    Calls Try.prog 51 #[v] w fun e w' => ∃ u, e = .returned u ∧ ownsB w' w.heap.size u (innT n.ks n.cs n.ks.length) ∧ Below w.heap.size w w' := by
  obtain ⟨_, m2, m3, m4, m5, m6⟩ := innerB_ps hm
  obtain ⟨pa, pc, ka, kc, ca, cc, xs, ys, rfl, hp1, hk1, hc1, hp2, hk2, hc2, hP, hK, hC⟩ := h.open
  obtain ⟨lf, ps, ks, cs⟩ := n
  simp only at hlf hp1 hk1 hc1 hp2 hk2 hc2 hP hK hC m2 m3 m4 m5 m6 ⊢
  subst hlf
  have hle : ∀ k ∈ ks, k.length ≤ 25 := fun k hk => (keyB_len (riseK_keys _ _ m5 _ hk)).2
  have hlen : ∀ k, k ≤ ks.length → (innT ks cs k).length ≤ 20000 := fun k hk => by
    rw [innT_len ks cs k hk]
    have := sum_take_le (ks.map partK) 28 (fun x hx => by obtain ⟨p, hp, rfl⟩ := List.mem_map.1 hx; have := hle p hp; unfold partK; omega) k
    omega
  have hkid : ∀ i, i < cs.length → kidB (cs.getD i 0) = true := fun i hi => m6 _ (by simp only [List.getD, List.getElem?_eq_getElem hi]; exact List.getElem_mem hi)
  have HK := hide hK
  have HC := hide hC
  have HLN := hide hlen
  have HLE := hide hle
  have HKI := hide hkid
  obtain ⟨cb, coff, rfl, -⟩ := hC.at 0 (by omega)
  obtain ⟨kb, koff, rfl, -, -⟩ := hK.at 0 (by omega)
  clear hP hK hC h hlen hle hkid hm m5 m6
  unfold ndv
  obtain ⟨nk, hnk⟩ : ∃ m, ks.length = m := ⟨_, rfl⟩
  have HNK := hide hnk
  obtain ⟨nc, hnc⟩ : ∃ m, cs.length = m := ⟨_, rfl⟩
  have HNC := hide hnc
  rw [hnk] at hk1 HK m2 m3 m4 HLN ⊢
  rw [hnc] at hc1 HC m4 HKI ⊢
  have HCC : Hid (∀ (w' : World) (i : Nat), Below w.heap.size w w' → i < nc → w'.cell? ⟨cb, coff + i, none⟩ = some (.int .i64 (cs.getD i 0))) := fun w' i hb hi => by
    obtain ⟨b', off', he, hc⟩ := (HC.out.below hb).at i (by rw [HNC.out]; exact hi)
    obtain ⟨rfl, rfl⟩ : cb = b' ∧ coff = off' := by simpa using he
    exact hc
  have HKC : Hid (∀ (w' : World) (i : Nat), Below w.heap.size w w' → i < nk → w'.cell? ⟨kb, koff + i, none⟩ = some (ys.getD i nilS) ∧ Sl w' (ys.getD i nilS) (ks.getD i [])) := fun w' i hb hi => by
    obtain ⟨b', off', he, hc, hs⟩ := (HK.out.below hb).at i (by rw [HNK.out]; exact hi)
    obtain ⟨rfl, rfl⟩ : kb = b' ∧ koff = off' := by simpa using he
    exact ⟨hc, hs⟩
  generalize ps.length = np at *
  have HW8 : Hid (IntKind.u8.wrap (nk : Int) = (nk : Int)) := by show (nk : Int) % 256 = (nk : Int); omega
  obtain ⟨w1, hw1, HB1, HBB, z0, z1, z2, z3⟩ := nd_box w false (.slice pa np pc) (.slice (some ⟨kb, koff, none⟩) nk kc) (.slice (some ⟨cb, coff, none⟩) nc cc)
  have hsz1 : w.heap.size < w1.heap.size := HBB.out.lt
  have HSZ : Hid (w1.heap.size ≤ w1.heap.size) := Nat.le_refl _
  have hcn : nk < nc := by omega
  have hnc0 : 0 < nc := by omega
  obtain ⟨X, p0, p1, hX, hnb, b0, b1, d0, d1, hX6⟩ := kid_bytes _ (HKI.out 0 (by omega))
  have HL0 : Hid (innT ks cs 0 = [(nk : Int), (p0 : Int), (p1 : Int)]) := by show innT ks cs 0 = _; rw [innT, hnk, hnb]; rfl
  have HC0 : Hid (∀ w', Below w1.heap.size w1 w' → w'.cell? ⟨cb, coff, none⟩ = some (.int .i64 (X : Int))) := fun w' hb => by have := HCC.out w' 0 (HB1.out.trans (hb.mono HB1.out.size)) (by omega); rwa [Nat.add_zero, hX] at this
  have HP0 : Hid (IntKind.u8.wrap (p0 : Int) = (p0 : Int)) := by show (p0 : Int) % 256 = (p0 : Int); omega
  have HP1 : Hid (IntKind.u8.wrap (p1 : Int) = (p1 : Int)) := by show (p1 : Int) % 256 = (p1 : Int); omega
  clear hnk hnc HC m4 hX hnb
  go_enter Try.func51, Try.ntmps51
  go_wp2
  refine wp_region_kn w1.heap.size 0 ([(nk : Int), (p0 : Int), (p1 : Int)]) [isV (.pointer (some ⟨w.heap.size, 2, none⟩)), isV (.slice (some ⟨kb, koff, none⟩) nk kc), isV (.int .i64 (nk : Int)), isV (.int .u8 (nk : Int)), isV (.pointer (some ⟨w.heap.size, 3, none⟩)), isV (.slice (some ⟨cb, coff, none⟩) nc cc), isV (.pointer (some ⟨cb, coff, none⟩)), isV (.int .i64 (X : Int)), isV (.int .i64 (p0 : Int)), isV (.int .u8 (p0 : Int)), isV (.pointer (some ⟨w.heap.size, 3, none⟩)), isV (.slice (some ⟨cb, coff, none⟩) nc cc), isV (.pointer (some ⟨cb, coff, none⟩)), isV (.int .i64 (X : Int)), isV (.int .i64 (p1 : Int)), isV (.int .u8 (p1 : Int)), isRn w1.heap.size [(nk : Int), (p0 : Int), (p1 : Int)]] 108 17 (by kernel_rfl) (by kernel_rfl) (by kernel_rfl) (by kernel_rfl) rfl ?_ ?_ ?_
  · exact allKn_isV (allKn_isV (allKn_isV (allKn_isV (allKn_isV (allKn_isV (allKn_isV (allKn_isV (allKn_isV (allKn_isV (allKn_isV (allKn_isV (allKn_isV (allKn_isV (allKn_isV (allKn_isV (allKn_isRn (.inr (List.prefix_refl _)) (trivial)))))))))))))))))
  · refine ⟨?_, ?_, ?_, ?_, ?_, ?_, ?_, ?_, ?_, ?_, ?_, ?_, ?_, ?_, ?_, ?_, ?_, trivial⟩
    · intro act wx h
      have e1 : act.eval (.tmp 1) = .pointer (some ⟨w.heap.size, 0, none⟩) := h.old 1 (by kernel_rfl)
      have hrel := h.rel
      clear h
      refine gives_by rfl act.eval rfl ?_
      generalize act.eval = ρ at *
      intro hf hc
      go_simp
      exact ⟨Kn.refl _ _ _ _, rfl⟩
    · intro act wx h
      obtain ⟨v48, e48, f48⟩ := h.val 0 48 (by kernel_rfl)
      obtain rfl : v48 = .pointer (some ⟨w.heap.size, 2, none⟩) := f48
      have hrel := h.rel
      clear h
      have hbw : Below w1.heap.size w1 wx := hrel.only.below HSZ.out (fun k hk h => by omega)
      obtain ⟨xx0, xx1, xx2, xx3⟩ := box_ndc (HBB.out.below hbw HBB.out.lt)
      refine gives_by rfl act.eval rfl ?_
      generalize act.eval = ρ at *
      intro hf hc
      go_simp
      exact ⟨Kn.refl _ _ _ _, rfl⟩
    · intro act wx h
      obtain ⟨v49, e49, f49⟩ := h.val 1 49 (by kernel_rfl)
      obtain rfl : v49 = .slice (some ⟨kb, koff, none⟩) nk kc := f49
      have hrel := h.rel
      clear h
      refine gives_by rfl act.eval rfl ?_
      generalize act.eval = ρ at *
      intro hf hc
      go_simp
      exact ⟨Kn.refl _ _ _ _, rfl⟩
    · intro act wx h
      obtain ⟨v50, e50, f50⟩ := h.val 2 50 (by kernel_rfl)
      obtain rfl : v50 = .int .i64 (nk : Int) := f50
      have hrel := h.rel
      clear h
      refine gives_by rfl act.eval rfl ?_
      generalize act.eval = ρ at *
      intro hf hc
      go_simp
      rw [HW8.out]
      exact ⟨Kn.refl _ _ _ _, rfl⟩
    · intro act wx h
      have e1 : act.eval (.tmp 1) = .pointer (some ⟨w.heap.size, 0, none⟩) := h.old 1 (by kernel_rfl)
      have hrel := h.rel
      clear h
      refine gives_by rfl act.eval rfl ?_
      generalize act.eval = ρ at *
      intro hf hc
      go_simp
      exact ⟨Kn.refl _ _ _ _, rfl⟩
    · intro act wx h
      obtain ⟨v52, e52, f52⟩ := h.val 4 52 (by kernel_rfl)
      obtain rfl : v52 = .pointer (some ⟨w.heap.size, 3, none⟩) := f52
      have hrel := h.rel
      clear h
      have hbw : Below w1.heap.size w1 wx := hrel.only.below HSZ.out (fun k hk h => by omega)
      obtain ⟨xx0, xx1, xx2, xx3⟩ := box_ndc (HBB.out.below hbw HBB.out.lt)
      refine gives_by rfl act.eval rfl ?_
      generalize act.eval = ρ at *
      intro hf hc
      go_simp
      exact ⟨Kn.refl _ _ _ _, rfl⟩
    · intro act wx h
      obtain ⟨v53, e53, f53⟩ := h.val 5 53 (by kernel_rfl)
      obtain rfl : v53 = .slice (some ⟨cb, coff, none⟩) nc cc := f53
      have hrel := h.rel
      clear h
      refine gives_by rfl act.eval rfl ?_
      generalize act.eval = ρ at *
      intro hf hc
      go_simp
      exact ⟨Kn.refl _ _ _ _, rfl⟩
    · intro act wx h
      obtain ⟨v54, e54, f54⟩ := h.val 6 54 (by kernel_rfl)
      obtain rfl : v54 = .pointer (some ⟨cb, coff, none⟩) := f54
      have hrel := h.rel
      clear h
      have cx := HC0.out wx (hrel.only.below HSZ.out (fun k hk h => by omega))
      refine gives_by rfl act.eval rfl ?_
      generalize act.eval = ρ at *
      intro hf hc
      go_simp
      exact ⟨Kn.refl _ _ _ _, rfl⟩
    · intro act wx h
      obtain ⟨v55, e55, f55⟩ := h.val 7 55 (by kernel_rfl)
      obtain rfl : v55 = .int .i64 (X : Int) := f55
      have hrel := h.rel
      clear h
      refine gives_by rfl act.eval rfl ?_
      generalize act.eval = ρ at *
      intro hf hc
      go_simp
      rw [show IntKind.i64.wrap (p0 : Int) = (p0 : Int) from IntWalk.i64_in _ (by omega)]
      exact ⟨Kn.refl _ _ _ _, rfl⟩
    · intro act wx h
      obtain ⟨v56, e56, f56⟩ := h.val 8 56 (by kernel_rfl)
      obtain rfl : v56 = .int .i64 (p0 : Int) := f56
      have hrel := h.rel
      clear h
      refine gives_by rfl act.eval rfl ?_
      generalize act.eval = ρ at *
      intro hf hc
      go_simp
      rw [HP0.out]
      exact ⟨Kn.refl _ _ _ _, rfl⟩
    · intro act wx h
      have e1 : act.eval (.tmp 1) = .pointer (some ⟨w.heap.size, 0, none⟩) := h.old 1 (by kernel_rfl)
      have hrel := h.rel
      clear h
      refine gives_by rfl act.eval rfl ?_
      generalize act.eval = ρ at *
      intro hf hc
      go_simp
      exact ⟨Kn.refl _ _ _ _, rfl⟩
    · intro act wx h
      obtain ⟨v58, e58, f58⟩ := h.val 10 58 (by kernel_rfl)
      obtain rfl : v58 = .pointer (some ⟨w.heap.size, 3, none⟩) := f58
      have hrel := h.rel
      clear h
      have hbw : Below w1.heap.size w1 wx := hrel.only.below HSZ.out (fun k hk h => by omega)
      obtain ⟨xx0, xx1, xx2, xx3⟩ := box_ndc (HBB.out.below hbw HBB.out.lt)
      refine gives_by rfl act.eval rfl ?_
      generalize act.eval = ρ at *
      intro hf hc
      go_simp
      exact ⟨Kn.refl _ _ _ _, rfl⟩
    · intro act wx h
      obtain ⟨v59, e59, f59⟩ := h.val 11 59 (by kernel_rfl)
      obtain rfl : v59 = .slice (some ⟨cb, coff, none⟩) nc cc := f59
      have hrel := h.rel
      clear h
      refine gives_by rfl act.eval rfl ?_
      generalize act.eval = ρ at *
      intro hf hc
      go_simp
      exact ⟨Kn.refl _ _ _ _, rfl⟩
    · intro act wx h
      obtain ⟨v60, e60, f60⟩ := h.val 12 60 (by kernel_rfl)
      obtain rfl : v60 = .pointer (some ⟨cb, coff, none⟩) := f60
      have hrel := h.rel
      clear h
      have cx := HC0.out wx (hrel.only.below HSZ.out (fun k hk h => by omega))
      refine gives_by rfl act.eval rfl ?_
      generalize act.eval = ρ at *
      intro hf hc
      go_simp
      exact ⟨Kn.refl _ _ _ _, rfl⟩
    · intro act wx h
      obtain ⟨v61, e61, f61⟩ := h.val 13 61 (by kernel_rfl)
      obtain rfl : v61 = .int .i64 (X : Int) := f61
      have hrel := h.rel
      clear h
      refine gives_by rfl act.eval rfl ?_
      generalize act.eval = ρ at *
      intro hf hc
      go_simp
      rw [show (X : Int).tmod 256 = (p1 : Int) by rw [Int.tmod_eq_emod_of_nonneg (by omega)]; exact d1]
      exact ⟨Kn.refl _ _ _ _, rfl⟩
    · intro act wx h
      obtain ⟨v62, e62, f62⟩ := h.val 14 62 (by kernel_rfl)
      obtain rfl : v62 = .int .i64 (p1 : Int) := f62
      have hrel := h.rel
      clear h
      refine gives_by rfl act.eval rfl ?_
      generalize act.eval = ρ at *
      intro hf hc
      go_simp
      rw [HP1.out]
      exact ⟨Kn.refl _ _ _ _, rfl⟩
    · intro act wx h
      obtain ⟨v51, e51, f51⟩ := h.val 3 51 (by kernel_rfl)
      obtain rfl : v51 = .int .u8 (nk : Int) := f51
      obtain ⟨v57, e57, f57⟩ := h.val 9 57 (by kernel_rfl)
      obtain rfl : v57 = .int .u8 (p0 : Int) := f57
      obtain ⟨v63, e63, f63⟩ := h.val 15 63 (by kernel_rfl)
      obtain rfl : v63 = .int .u8 (p1 : Int) := f63
      have hrel := h.rel
      clear h
      refine gives_by rfl act.eval rfl ?_
      generalize act.eval = ρ at *
      intro hf hc
      go_simp
      exact ⟨Kn.of_below ((Below.refl _ wx).alloc (Nat.le_refl _) _), _, _, _, rfl, lit_rowN wx w1.heap.size [(nk : Int), (p0 : Int), (p1 : Int)] (by have := hrel.only.size; have := HSZ.out; omega) (by simp)⟩
  · intro oL hoL vals w2 hkn2 hv
    simp only [List.getElem?_toArray, List.getElem?_cons_succ, List.getElem?_cons_zero, Option.some.injEq] at hoL
    subst hoL
    generalize hact : putAll _ vals 0 _ = act
    obtain ⟨a2, n2, c2, hv8, O2⟩ : isRn w1.heap.size [(nk : Int), (p0 : Int), (p1 : Int)] (vals 16) w2 := hv 16 64 (by decide) (by kernel_rfl)
    clear hv
    rw [← HL0.out] at O2
    obtain rfl : n2 = (innT ks cs 0).length := by obtain ⟨_, _, hh⟩ := own_sliceN O2; simp only [Value.slice.injEq] at hh; exact hh.2.1
    have HB2 : Hid (Below w1.heap.size w1 w2) := hkn2.only.below HSZ.out (fun k hk h => by omega)
    have HO2 := hide O2
    obtain ⟨y0, y1, y2, y3⟩ := box_ndc (HBB.out.below HB2.out HBB.out.lt)
    clear O2 hkn2 HSZ HP0 HP1 HC0 d0 d1 b0 b1 hX6 z0 z1 z2 z3
    subst hact
    simp only [List.dropLast, putAll, Act.put, List.setIfInBounds_toArray, List.set_cons_zero, List.set_cons_succ, hv8, Nat.zero_add, Nat.reduceAdd]
    clear hv8
    refine gives_by rfl _ rfl ?_
    intro hf hc
    go_simp
    simp only [gUpon]
    generalize hL0 : (innT ks cs 0).length = l0 at *
    go_wp2
    go_loopg [6, 7] nk (fun g b i wr => ∃ (j : Nat) (a' : Option Addr) (c' : Nat), g + j = nk ∧ i = .int .i64 j ∧ b = .slice a' (innT ks cs j).length c' ∧ ownsB wr w1.heap.size (.slice a' (innT ks cs j).length c') (innT ks cs j) ∧ Below w1.heap.size w1 wr)
    case atStart => exact ⟨0, a2, c2, by omega, rfl, by rw [hL0], by rw [hL0]; exact HO2.out, HB2.out⟩
    case round =>
      obtain ⟨j, b', c', hgj, rfl, rfl, hown, hbr⟩ := hrel
      obtain ⟨W, rfl⟩ : ∃ x, x = wr := ⟨_, rfl⟩
      have hjn : j ≤ nk := by omega
      have hlr := HLN.out j hjn
      have HBR := hide hbr
      have HO7 := hide hown
      have HBX := hide (HBB.out.below hbr hsz1)
      have HBW := hide (HB1.out.trans (hbr.mono HB1.out.size))
      have HSZ : Hid (w1.heap.size ≤ W.heap.size) := hbr.size
      obtain ⟨x0, x1, x2, x3⟩ := box_ndc HBX.out
      generalize hLJ : innT ks cs j = LJ at *
      have HLJ := hide hLJ
      have hL3 : 3 ≤ LJ.length := by rw [← hLJ, innT_len ks cs j (by rw [HNK.out]; exact hjn)]; omega
      clear y0 y1 y2 y3 hown hbr hLJ HO2 HB2 hL0
      by_cases hj : j < nk
      · have hji : (j : Int) < (nk : Int) := by omega
        have hjc : (j : Int) + 1 < (nc : Int) := by omega
        have hjl : j < ks.length := by rw [HNK.out]; exact hj
        have hq := HLE.out (ks.getD j []) (by simp only [List.getD, List.getElem?_eq_getElem hjl]; exact List.getElem_mem hjl)
        have HLS : Hid (innT ks cs (j + 1) = LJ ++ txt (ks.getD j []) ++ numBytes (cs.getD (j + 1) 0).toNat 2) := by show innT ks cs (j + 1) = _; rw [innT, HLJ.out]
        obtain ⟨X, p0, p1, hX, hnb, b0, b1, d0, d1, hX6⟩ := kid_bytes _ (HKI.out (j + 1) (by omega))
        have HCJ : Hid (∀ w', Below w.heap.size w w' → w'.cell? ⟨cb, coff + (j + 1), none⟩ = some (.int .i64 (X : Int))) := fun w' hb => by have := HCC.out w' (j + 1) hb (by omega); rwa [hX] at this
        have HKJ : Hid (∀ w', Below w.heap.size w w' → w'.cell? ⟨kb, koff + j, none⟩ = some (ys.getD j nilS) ∧ Sl w' (ys.getD j nilS) (ks.getD j [])) := fun w' hb => HKC.out w' j hb hj
        rw [hnb] at HLS
        generalize ys.getD j nilS = u1 at *
        generalize ks.getD j [] = q1 at *
        obtain ⟨g0, g1⟩ := HKJ.out W HBW.out
        obtain ⟨a1, d1', rfl⟩ := sl_form' g1
        have HP0 : Hid (IntKind.u8.wrap (p0 : Int) = (p0 : Int)) := by show (p0 : Int) % 256 = (p0 : Int); omega
        have HP1 : Hid (IntKind.u8.wrap (p1 : Int) = (p1 : Int)) := by show (p1 : Int) % 256 = (p1 : Int); omega
        have HWq1 : Hid (IntKind.u8.wrap (q1.length : Int) = (q1.length : Int)) := by show (q1.length : Int) % 256 = _; omega
        clear hX hnb g0 g1
        go_wp2
        refine wp_region_kn w1.heap.size 1 (LJ ++ [(q1.length : Int)] ++ q1) [isV (.slice b' LJ.length c'), isV (.pointer (some ⟨w.heap.size, 2, none⟩)), isV (.slice (some ⟨kb, koff, none⟩) nk kc), isV (.int .i64 (j : Int)), isV (.pointer (some ⟨kb, koff + j, none⟩)), isV (.slice a1 q1.length d1'), isV (.int .i64 (q1.length : Int)), isV (.int .u8 (q1.length : Int)), isRn w1.heap.size [(q1.length : Int)], isRn w1.heap.size (LJ ++ [(q1.length : Int)]), isV (.pointer (some ⟨w.heap.size, 2, none⟩)), isV (.slice (some ⟨kb, koff, none⟩) nk kc), isV (.int .i64 (j : Int)), isV (.pointer (some ⟨kb, koff + j, none⟩)), isV (.slice a1 q1.length d1'), isRn w1.heap.size (LJ ++ [(q1.length : Int)] ++ q1)] 108 16 (by kernel_rfl) (by kernel_rfl) (by kernel_rfl) (by kernel_rfl) rfl ?_ ?_ ?_
        · exact allKn_isV (allKn_isV (allKn_isV (allKn_isV (allKn_isV (allKn_isV (allKn_isV (allKn_isV (allKn_isRn (.inl (by simp)) (allKn_isRn (.inr (List.prefix_append _ _)) (allKn_isV (allKn_isV (allKn_isV (allKn_isV (allKn_isV (allKn_isRn (.inr (List.prefix_refl _)) (trivial))))))))))))))))
        · refine ⟨?_, ?_, ?_, ?_, ?_, ?_, ?_, ?_, ?_, ?_, ?_, ?_, ?_, ?_, ?_, ?_, trivial⟩
          · intro act wx h
            have e6 : act.eval (.tmp 6) = .slice b' LJ.length c' := h.old 6 (by kernel_rfl)
            have hrel := h.rel
            clear h
            refine gives_by rfl act.eval rfl ?_
            generalize act.eval = ρ at *
            intro hf hc
            go_simp
            exact ⟨Kn.refl _ _ _ _, rfl⟩
          · intro act wx h
            have e1 : act.eval (.tmp 1) = .pointer (some ⟨w.heap.size, 0, none⟩) := h.old 1 (by kernel_rfl)
            have hrel := h.rel
            clear h
            refine gives_by rfl act.eval rfl ?_
            generalize act.eval = ρ at *
            intro hf hc
            go_simp
            exact ⟨Kn.refl _ _ _ _, rfl⟩
          · intro act wx h
            obtain ⟨v73, e73, f73⟩ := h.val 1 73 (by kernel_rfl)
            obtain rfl : v73 = .pointer (some ⟨w.heap.size, 2, none⟩) := f73
            have hrel := h.rel
            clear h
            have hbw : Below w1.heap.size w1 wx := HBR.out.trans (hrel.only.below HSZ.out (fun k hk h => by omega))
            obtain ⟨xx0, xx1, xx2, xx3⟩ := box_ndc (HBB.out.below hbw HBB.out.lt)
            refine gives_by rfl act.eval rfl ?_
            generalize act.eval = ρ at *
            intro hf hc
            go_simp
            exact ⟨Kn.refl _ _ _ _, rfl⟩
          · intro act wx h
            have e7 : act.eval (.tmp 7) = .int .i64 (j : Int) := h.old 7 (by kernel_rfl)
            have hrel := h.rel
            clear h
            refine gives_by rfl act.eval rfl ?_
            generalize act.eval = ρ at *
            intro hf hc
            go_simp
            exact ⟨Kn.refl _ _ _ _, rfl⟩
          · intro act wx h
            obtain ⟨v74, e74, f74⟩ := h.val 2 74 (by kernel_rfl)
            obtain rfl : v74 = .slice (some ⟨kb, koff, none⟩) nk kc := f74
            obtain ⟨v75, e75, f75⟩ := h.val 3 75 (by kernel_rfl)
            obtain rfl : v75 = .int .i64 (j : Int) := f75
            have hrel := h.rel
            clear h
            refine gives_by rfl act.eval rfl ?_
            generalize act.eval = ρ at *
            intro hf hc
            go_simp
            exact ⟨Kn.refl _ _ _ _, rfl⟩
          · intro act wx h
            obtain ⟨v76, e76, f76⟩ := h.val 4 76 (by kernel_rfl)
            obtain rfl : v76 = .pointer (some ⟨kb, koff + j, none⟩) := f76
            have hrel := h.rel
            clear h
            have cx := (HKJ.out wx (HB1.out.trans ((HBR.out.trans (hrel.only.below HSZ.out (fun k hk h => by omega))).mono HB1.out.size))).1
            refine gives_by rfl act.eval rfl ?_
            generalize act.eval = ρ at *
            intro hf hc
            go_simp
            exact ⟨Kn.refl _ _ _ _, rfl⟩
          · intro act wx h
            obtain ⟨v77, e77, f77⟩ := h.val 5 77 (by kernel_rfl)
            obtain rfl : v77 = .slice a1 q1.length d1' := f77
            have hrel := h.rel
            clear h
            refine gives_by rfl act.eval rfl ?_
            generalize act.eval = ρ at *
            intro hf hc
            go_simp
            exact ⟨Kn.refl _ _ _ _, rfl⟩
          · intro act wx h
            obtain ⟨v78, e78, f78⟩ := h.val 6 78 (by kernel_rfl)
            obtain rfl : v78 = .int .i64 (q1.length : Int) := f78
            have hrel := h.rel
            clear h
            refine gives_by rfl act.eval rfl ?_
            generalize act.eval = ρ at *
            intro hf hc
            go_simp
            rw [HWq1.out]
            exact ⟨Kn.refl _ _ _ _, rfl⟩
          · intro act wx h
            obtain ⟨v79, e79, f79⟩ := h.val 7 79 (by kernel_rfl)
            obtain rfl : v79 = .int .u8 (q1.length : Int) := f79
            have hrel := h.rel
            clear h
            refine gives_by rfl act.eval rfl ?_
            generalize act.eval = ρ at *
            intro hf hc
            go_simp
            exact ⟨Kn.of_below ((Below.refl _ wx).alloc (Nat.le_refl _) _), _, _, _, rfl, lit_rowN wx w1.heap.size [(q1.length : Int)] (by have := hrel.only.size; have := HSZ.out; omega) (by simp)⟩
          · intro act wx h
            obtain ⟨v72, e72, f72⟩ := h.val 0 72 (by kernel_rfl)
            obtain rfl : v72 = .slice b' LJ.length c' := f72
            obtain ⟨v80, e80, f80⟩ := h.val 8 80 (by kernel_rfl)
            obtain ⟨a80, n80, c80, rfl, O80⟩ := f80
            have hrel := h.rel
            clear h
            obtain ⟨a2', n2', c2', wy, r9, o9, k9⟩ := append_kn wx w1.heap.size 1 (LJ ++ [(q1.length : Int)] ++ q1) b' LJ.length c' LJ [(q1.length : Int)] (hrel.keep _ _ (.inr ⟨[(q1.length : Int)] ++ q1, by rw [List.append_assoc]⟩) HO7.out) (by omega) (List.prefix_append _ _) a80 n80 c80 (sl_of_own_len O80 (by intro z hz; simp at hz; omega)) (by simp only [List.length_append, List.length_cons, List.length_nil]; omega) (by have := hrel.only.size; have := HSZ.out; omega)
            exact gives_of_run rfl (exec_append (.tmp 72) (.tmp 80) 34 rfl _ _ e72 e80 _ r9) ⟨k9, a2', n2', c2', rfl, o9⟩
          · intro act wx h
            have e1 : act.eval (.tmp 1) = .pointer (some ⟨w.heap.size, 0, none⟩) := h.old 1 (by kernel_rfl)
            have hrel := h.rel
            clear h
            refine gives_by rfl act.eval rfl ?_
            generalize act.eval = ρ at *
            intro hf hc
            go_simp
            exact ⟨Kn.refl _ _ _ _, rfl⟩
          · intro act wx h
            obtain ⟨v82, e82, f82⟩ := h.val 10 82 (by kernel_rfl)
            obtain rfl : v82 = .pointer (some ⟨w.heap.size, 2, none⟩) := f82
            have hrel := h.rel
            clear h
            have hbw : Below w1.heap.size w1 wx := HBR.out.trans (hrel.only.below HSZ.out (fun k hk h => by omega))
            obtain ⟨xx0, xx1, xx2, xx3⟩ := box_ndc (HBB.out.below hbw HBB.out.lt)
            refine gives_by rfl act.eval rfl ?_
            generalize act.eval = ρ at *
            intro hf hc
            go_simp
            exact ⟨Kn.refl _ _ _ _, rfl⟩
          · intro act wx h
            have e7 : act.eval (.tmp 7) = .int .i64 (j : Int) := h.old 7 (by kernel_rfl)
            have hrel := h.rel
            clear h
            refine gives_by rfl act.eval rfl ?_
            generalize act.eval = ρ at *
            intro hf hc
            go_simp
            exact ⟨Kn.refl _ _ _ _, rfl⟩
          · intro act wx h
            obtain ⟨v83, e83, f83⟩ := h.val 11 83 (by kernel_rfl)
            obtain rfl : v83 = .slice (some ⟨kb, koff, none⟩) nk kc := f83
            obtain ⟨v84, e84, f84⟩ := h.val 12 84 (by kernel_rfl)
            obtain rfl : v84 = .int .i64 (j : Int) := f84
            have hrel := h.rel
            clear h
            refine gives_by rfl act.eval rfl ?_
            generalize act.eval = ρ at *
            intro hf hc
            go_simp
            exact ⟨Kn.refl _ _ _ _, rfl⟩
          · intro act wx h
            obtain ⟨v85, e85, f85⟩ := h.val 13 85 (by kernel_rfl)
            obtain rfl : v85 = .pointer (some ⟨kb, koff + j, none⟩) := f85
            have hrel := h.rel
            clear h
            have cx := (HKJ.out wx (HB1.out.trans ((HBR.out.trans (hrel.only.below HSZ.out (fun k hk h => by omega))).mono HB1.out.size))).1
            refine gives_by rfl act.eval rfl ?_
            generalize act.eval = ρ at *
            intro hf hc
            go_simp
            exact ⟨Kn.refl _ _ _ _, rfl⟩
          · intro act wx h
            obtain ⟨v81, e81, f81⟩ := h.val 9 81 (by kernel_rfl)
            obtain ⟨a81, n81, c81, rfl, O81⟩ := f81
            obtain ⟨v86, e86, f86⟩ := h.val 14 86 (by kernel_rfl)
            obtain rfl : v86 = .slice a1 q1.length d1' := f86
            have hrel := h.rel
            clear h
            obtain ⟨a2', n2', c2', wy, r9, o9, k9⟩ := append_kn wx w1.heap.size 1 (LJ ++ [(q1.length : Int)] ++ q1) a81 n81 c81 (LJ ++ [(q1.length : Int)]) q1 O81 (by rw [List.length_append]; simp only [List.length_cons, List.length_nil]; omega) (List.prefix_refl _) a1 q1.length d1' (HKJ.out wx (HB1.out.trans ((HBR.out.trans (hrel.only.below HSZ.out (fun k hk h => by omega))).mono HB1.out.size))).2 (by simp only [List.length_append, List.length_cons, List.length_nil]; omega) (by have := hrel.only.size; have := HSZ.out; omega)
            exact gives_of_run rfl (exec_append (.tmp 81) (.tmp 86) 34 rfl _ _ e81 e86 _ r9) ⟨k9, a2', n2', c2', rfl, o9⟩
        · intro oL hoL vals w3 hkn3 hv
          simp only [List.getElem?_toArray, List.getElem?_cons_succ, List.getElem?_cons_zero, Option.some.injEq] at hoL
          subst hoL
          generalize hact : putAll _ vals 0 _ = act
          obtain ⟨b2', n2, e2', hv8, O2⟩ : isRn w1.heap.size (LJ ++ [(q1.length : Int)] ++ q1) (vals 15) w3 := hv 15 87 (by decide) (by kernel_rfl)
          clear hv
          obtain ⟨MJ, hMJ⟩ : ∃ MJ, MJ = LJ ++ [(q1.length : Int)] ++ q1 := ⟨_, rfl⟩
          rw [← hMJ] at O2
          have hlm : 2 ≤ MJ.length ∧ MJ.length ≤ 20100 := by rw [hMJ]; simp only [List.length_append, List.length_cons, List.length_nil]; omega
          obtain ⟨hlm1, hlm2⟩ := hlm
          have HMJ := hide hMJ
          obtain rfl : n2 = MJ.length := by obtain ⟨_, _, hh⟩ := own_sliceN O2; simp only [Value.slice.injEq] at hh; exact hh.2.1
          have HB8 : Hid (Below w1.heap.size w1 w3) := HBR.out.trans (hkn3.only.below HSZ.out (fun k hk h => by omega))
          have HO8 := hide O2
          have HX8 := hide (HBB.out.below HB8.out hsz1)
          clear HSZ hMJ x0 x1 x2 x3
          obtain ⟨x0, x1, x2, x3⟩ := box_ndc HX8.out
          have HSZ : Hid (w1.heap.size ≤ w3.heap.size) := HB8.out.size
          clear O2 hkn3
          subst hact
          simp only [List.dropLast, putAll, Act.put, List.setIfInBounds_toArray, List.set_cons_zero, List.set_cons_succ, hv8, Nat.zero_add, Nat.reduceAdd]
          clear hv8
          refine gives_by rfl _ rfl ?_
          intro hf hc
          go_simp
          simp only [gUpon]
          go_wp2
          refine wp_region_kn w1.heap.size 2 (MJ ++ [(p0 : Int), (p1 : Int)]) [isV (.slice b2' MJ.length e2'), isV (.pointer (some ⟨w.heap.size, 3, none⟩)), isV (.slice (some ⟨cb, coff, none⟩) nc cc), isV (.int .i64 (j : Int)), isV (.int .i64 ((j : Int) + 1)), isV (.pointer (some ⟨cb, coff + (j + 1), none⟩)), isV (.int .i64 (X : Int)), isV (.int .i64 (p0 : Int)), isV (.int .u8 (p0 : Int)), isV (.pointer (some ⟨w.heap.size, 3, none⟩)), isV (.slice (some ⟨cb, coff, none⟩) nc cc), isV (.int .i64 (j : Int)), isV (.int .i64 ((j : Int) + 1)), isV (.pointer (some ⟨cb, coff + (j + 1), none⟩)), isV (.int .i64 (X : Int)), isV (.int .i64 (p1 : Int)), isV (.int .u8 (p1 : Int)), isRn w1.heap.size [(p0 : Int), (p1 : Int)], isRn w1.heap.size (MJ ++ [(p0 : Int), (p1 : Int)])] 108 19 (by kernel_rfl) (by kernel_rfl) (by kernel_rfl) (by kernel_rfl) rfl ?_ ?_ ?_
          · exact allKn_isV (allKn_isV (allKn_isV (allKn_isV (allKn_isV (allKn_isV (allKn_isV (allKn_isV (allKn_isV (allKn_isV (allKn_isV (allKn_isV (allKn_isV (allKn_isV (allKn_isV (allKn_isV (allKn_isV (allKn_isRn (.inl (by simp)) (allKn_isRn (.inr (List.prefix_refl _)) (trivial)))))))))))))))))))
          · refine ⟨?_, ?_, ?_, ?_, ?_, ?_, ?_, ?_, ?_, ?_, ?_, ?_, ?_, ?_, ?_, ?_, ?_, ?_, ?_, trivial⟩
            · intro act wx h
              have e6 : act.eval (.tmp 6) = .slice b2' MJ.length e2' := h.old 6 (by kernel_rfl)
              have hrel := h.rel
              clear h
              refine gives_by rfl act.eval rfl ?_
              generalize act.eval = ρ at *
              intro hf hc
              go_simp
              exact ⟨Kn.refl _ _ _ _, rfl⟩
            · intro act wx h
              have e1 : act.eval (.tmp 1) = .pointer (some ⟨w.heap.size, 0, none⟩) := h.old 1 (by kernel_rfl)
              have hrel := h.rel
              clear h
              refine gives_by rfl act.eval rfl ?_
              generalize act.eval = ρ at *
              intro hf hc
              go_simp
              exact ⟨Kn.refl _ _ _ _, rfl⟩
            · intro act wx h
              obtain ⟨v89, e89, f89⟩ := h.val 1 89 (by kernel_rfl)
              obtain rfl : v89 = .pointer (some ⟨w.heap.size, 3, none⟩) := f89
              have hrel := h.rel
              clear h
              have hbw : Below w1.heap.size w1 wx := HB8.out.trans (hrel.only.below HSZ.out (fun k hk h => by omega))
              obtain ⟨xx0, xx1, xx2, xx3⟩ := box_ndc (HBB.out.below hbw HBB.out.lt)
              refine gives_by rfl act.eval rfl ?_
              generalize act.eval = ρ at *
              intro hf hc
              go_simp
              exact ⟨Kn.refl _ _ _ _, rfl⟩
            · intro act wx h
              have e7 : act.eval (.tmp 7) = .int .i64 (j : Int) := h.old 7 (by kernel_rfl)
              have hrel := h.rel
              clear h
              refine gives_by rfl act.eval rfl ?_
              generalize act.eval = ρ at *
              intro hf hc
              go_simp
              exact ⟨Kn.refl _ _ _ _, rfl⟩
            · intro act wx h
              obtain ⟨v91, e91, f91⟩ := h.val 3 91 (by kernel_rfl)
              obtain rfl : v91 = .int .i64 (j : Int) := f91
              have hrel := h.rel
              clear h
              refine gives_by rfl act.eval rfl ?_
              generalize act.eval = ρ at *
              intro hf hc
              go_simp
              rw [show IntKind.i64.wrap ((j : Int) + 1) = (j : Int) + 1 from IntWalk.i64_in _ (by omega)]
              exact ⟨Kn.refl _ _ _ _, rfl⟩
            · intro act wx h
              obtain ⟨v90, e90, f90⟩ := h.val 2 90 (by kernel_rfl)
              obtain rfl : v90 = .slice (some ⟨cb, coff, none⟩) nc cc := f90
              obtain ⟨v92, e92, f92⟩ := h.val 4 92 (by kernel_rfl)
              obtain rfl : v92 = .int .i64 ((j : Int) + 1) := f92
              have hrel := h.rel
              clear h
              have ha : ((j : Int) + 1).toNat = j + 1 := by omega
              have hn0 : ¬ (j : Int) + 1 < 0 := by omega
              refine gives_by rfl act.eval rfl ?_
              generalize act.eval = ρ at *
              intro hf hc
              go_simp
              exact ⟨Kn.refl _ _ _ _, rfl⟩
            · intro act wx h
              obtain ⟨v93, e93, f93⟩ := h.val 5 93 (by kernel_rfl)
              obtain rfl : v93 = .pointer (some ⟨cb, coff + (j + 1), none⟩) := f93
              have hrel := h.rel
              clear h
              have cx := HCJ.out wx (HB1.out.trans ((HB8.out.trans (hrel.only.below HSZ.out (fun k hk h => by omega))).mono HB1.out.size))
              refine gives_by rfl act.eval rfl ?_
              generalize act.eval = ρ at *
              intro hf hc
              go_simp
              exact ⟨Kn.refl _ _ _ _, rfl⟩
            · intro act wx h
              obtain ⟨v94, e94, f94⟩ := h.val 6 94 (by kernel_rfl)
              obtain rfl : v94 = .int .i64 (X : Int) := f94
              have hrel := h.rel
              clear h
              refine gives_by rfl act.eval rfl ?_
              generalize act.eval = ρ at *
              intro hf hc
              go_simp
              rw [show IntKind.i64.wrap (p0 : Int) = (p0 : Int) from IntWalk.i64_in _ (by omega)]
              exact ⟨Kn.refl _ _ _ _, rfl⟩
            · intro act wx h
              obtain ⟨v95, e95, f95⟩ := h.val 7 95 (by kernel_rfl)
              obtain rfl : v95 = .int .i64 (p0 : Int) := f95
              have hrel := h.rel
              clear h
              refine gives_by rfl act.eval rfl ?_
              generalize act.eval = ρ at *
              intro hf hc
              go_simp
              rw [HP0.out]
              exact ⟨Kn.refl _ _ _ _, rfl⟩
            · intro act wx h
              have e1 : act.eval (.tmp 1) = .pointer (some ⟨w.heap.size, 0, none⟩) := h.old 1 (by kernel_rfl)
              have hrel := h.rel
              clear h
              refine gives_by rfl act.eval rfl ?_
              generalize act.eval = ρ at *
              intro hf hc
              go_simp
              exact ⟨Kn.refl _ _ _ _, rfl⟩
            · intro act wx h
              obtain ⟨v97, e97, f97⟩ := h.val 9 97 (by kernel_rfl)
              obtain rfl : v97 = .pointer (some ⟨w.heap.size, 3, none⟩) := f97
              have hrel := h.rel
              clear h
              have hbw : Below w1.heap.size w1 wx := HB8.out.trans (hrel.only.below HSZ.out (fun k hk h => by omega))
              obtain ⟨xx0, xx1, xx2, xx3⟩ := box_ndc (HBB.out.below hbw HBB.out.lt)
              refine gives_by rfl act.eval rfl ?_
              generalize act.eval = ρ at *
              intro hf hc
              go_simp
              exact ⟨Kn.refl _ _ _ _, rfl⟩
            · intro act wx h
              have e7 : act.eval (.tmp 7) = .int .i64 (j : Int) := h.old 7 (by kernel_rfl)
              have hrel := h.rel
              clear h
              refine gives_by rfl act.eval rfl ?_
              generalize act.eval = ρ at *
              intro hf hc
              go_simp
              exact ⟨Kn.refl _ _ _ _, rfl⟩
            · intro act wx h
              obtain ⟨v99, e99, f99⟩ := h.val 11 99 (by kernel_rfl)
              obtain rfl : v99 = .int .i64 (j : Int) := f99
              have hrel := h.rel
              clear h
              refine gives_by rfl act.eval rfl ?_
              generalize act.eval = ρ at *
              intro hf hc
              go_simp
              rw [show IntKind.i64.wrap ((j : Int) + 1) = (j : Int) + 1 from IntWalk.i64_in _ (by omega)]
              exact ⟨Kn.refl _ _ _ _, rfl⟩
            · intro act wx h
              obtain ⟨v98, e98, f98⟩ := h.val 10 98 (by kernel_rfl)
              obtain rfl : v98 = .slice (some ⟨cb, coff, none⟩) nc cc := f98
              obtain ⟨v100, e100, f100⟩ := h.val 12 100 (by kernel_rfl)
              obtain rfl : v100 = .int .i64 ((j : Int) + 1) := f100
              have hrel := h.rel
              clear h
              have ha : ((j : Int) + 1).toNat = j + 1 := by omega
              have hn0 : ¬ (j : Int) + 1 < 0 := by omega
              refine gives_by rfl act.eval rfl ?_
              generalize act.eval = ρ at *
              intro hf hc
              go_simp
              exact ⟨Kn.refl _ _ _ _, rfl⟩
            · intro act wx h
              obtain ⟨v101, e101, f101⟩ := h.val 13 101 (by kernel_rfl)
              obtain rfl : v101 = .pointer (some ⟨cb, coff + (j + 1), none⟩) := f101
              have hrel := h.rel
              clear h
              have cx := HCJ.out wx (HB1.out.trans ((HB8.out.trans (hrel.only.below HSZ.out (fun k hk h => by omega))).mono HB1.out.size))
              refine gives_by rfl act.eval rfl ?_
              generalize act.eval = ρ at *
              intro hf hc
              go_simp
              exact ⟨Kn.refl _ _ _ _, rfl⟩
            · intro act wx h
              obtain ⟨v102, e102, f102⟩ := h.val 14 102 (by kernel_rfl)
              obtain rfl : v102 = .int .i64 (X : Int) := f102
              have hrel := h.rel
              clear h
              refine gives_by rfl act.eval rfl ?_
              generalize act.eval = ρ at *
              intro hf hc
              go_simp
              rw [show (X : Int).tmod 256 = (p1 : Int) by rw [Int.tmod_eq_emod_of_nonneg (by omega)]; exact d1]
              exact ⟨Kn.refl _ _ _ _, rfl⟩
            · intro act wx h
              obtain ⟨v103, e103, f103⟩ := h.val 15 103 (by kernel_rfl)
              obtain rfl : v103 = .int .i64 (p1 : Int) := f103
              have hrel := h.rel
              clear h
              refine gives_by rfl act.eval rfl ?_
              generalize act.eval = ρ at *
              intro hf hc
              go_simp
              rw [HP1.out]
              exact ⟨Kn.refl _ _ _ _, rfl⟩
            · intro act wx h
              obtain ⟨v96, e96, f96⟩ := h.val 8 96 (by kernel_rfl)
              obtain rfl : v96 = .int .u8 (p0 : Int) := f96
              obtain ⟨v104, e104, f104⟩ := h.val 16 104 (by kernel_rfl)
              obtain rfl : v104 = .int .u8 (p1 : Int) := f104
              have hrel := h.rel
              clear h
              refine gives_by rfl act.eval rfl ?_
              generalize act.eval = ρ at *
              intro hf hc
              go_simp
              exact ⟨Kn.of_below ((Below.refl _ wx).alloc (Nat.le_refl _) _), _, _, _, rfl, lit_rowN wx w1.heap.size [(p0 : Int), (p1 : Int)] (by have := hrel.only.size; have := HSZ.out; omega) (by simp)⟩
            · intro act wx h
              obtain ⟨v88, e88, f88⟩ := h.val 0 88 (by kernel_rfl)
              obtain rfl : v88 = .slice b2' MJ.length e2' := f88
              obtain ⟨v105, e105, f105⟩ := h.val 17 105 (by kernel_rfl)
              obtain ⟨a105, n105, c105, rfl, O105⟩ := f105
              have hrel := h.rel
              clear h
              obtain ⟨a2', n2', c2', wy, r9, o9, k9⟩ := append_kn wx w1.heap.size 2 (MJ ++ [(p0 : Int), (p1 : Int)]) b2' MJ.length e2' MJ [(p0 : Int), (p1 : Int)] (hrel.keep _ _ (.inr (List.prefix_append _ _)) HO8.out) (by omega) (List.prefix_refl _) a105 n105 c105 (sl_of_own_len O105 (by intro z hz; simp at hz; omega)) (by simp only [List.length_append, List.length_cons, List.length_nil]; omega) (by have := hrel.only.size; have := HSZ.out; omega)
              exact gives_of_run rfl (exec_append (.tmp 88) (.tmp 105) 34 rfl _ _ e88 e105 _ r9) ⟨k9, a2', n2', c2', rfl, o9⟩
          · intro oL hoL vals8 w4 hkn4 hv
            simp only [List.getElem?_toArray, List.getElem?_cons_succ, List.getElem?_cons_zero, Option.some.injEq] at hoL
            subst hoL
            generalize hact : putAll _ vals8 0 _ = act
            obtain ⟨b3, n3, e3, hv9, O3⟩ : isRn w1.heap.size (MJ ++ [(p0 : Int), (p1 : Int)]) (vals8 18) w4 := hv 18 106 (by decide) (by kernel_rfl)
            clear hv
            obtain ⟨NJ, hNJ⟩ : ∃ NJ, NJ = MJ ++ [(p0 : Int), (p1 : Int)] := ⟨_, rfl⟩
            rw [← hNJ] at O3
            have HNJ : Hid (innT ks cs (j + 1) = NJ) := by show _ = _; rw [HLS.out, hNJ, HMJ.out]; simp [txt]
            obtain rfl : n3 = NJ.length := by obtain ⟨_, _, hh⟩ := own_sliceN O3; simp only [Value.slice.injEq] at hh; exact hh.2.1
            have HO9 := hide O3
            have HB9 : Hid (Below w1.heap.size w1 w4) := HB8.out.trans (hkn4.only.below HSZ.out (fun k hk h => by omega))
            clear O3 hkn4 hNJ
            subst hact
            simp only [List.dropLast, putAll, Act.put, List.setIfInBounds_toArray, List.set_cons_zero, List.set_cons_succ, hv9, Nat.zero_add, Nat.reduceAdd]
            clear hv9
            refine gives_by rfl _ rfl ?_
            intro hf hc
            go_simp
            simp only [gUpon]
            go_wp2
            go_roundg (gk - 1)
            case measure => omega
            case rel => exact ⟨j + 1, b3, e3, by omega, by go_num, by rw [HNJ.out], by rw [HNJ.out]; exact HO9.out, HB9.out⟩
      · have hjj : j = nk := by omega
        go_wp2
        go_ret
        refine ⟨_, rfl, ?_, HBW.out⟩
        rw [← hjj, HLJ.out]
        exact own_le' HO7.out (by omega)

end Go.Proofs.Ytoamdbjailpgdaa
