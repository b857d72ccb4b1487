/- The walk of the statement CrcPieces. -/
import Derived.Test.YtaahmpoldpdbjaaDoorCrcPair
import Derived.Test.YtaahmpoldpdbjaaDoorCut
import Derived.Test.YtaahmpoldpdbjaaDoorRegion
import Derived.OpenShut
namespace Go.Proofs.YtaahmpoldpdbjaaDoor
open Go.RowKit

/-- contracts over a world that grew out of a first one -/
theorem live_on (w : World) (hT : Tab w) (wx : World) (hb : Below w.heap.size w wx) :
    Calls Tryd.prog 9 #[] wx fun e w' => e = .returned (.bool true) ∧ Below w.heap.size w w' :=
  (live_any wx (hT.below hb)).mono fun _ _ ⟨h1, h2⟩ => ⟨h1, below_then hb h2 (Nat.le_refl _)⟩

theorem ofOne_on (w : World) (hT : Tab w) (v : Value) (zs : List Int) (hS : Sl w v zs) (wx : World) (hb : Below w.heap.size w wx) :
    Calls Tryd.prog 11 #[.slice (some ⟨wx.heap.size, 0, none⟩) 1 1] (wx.alloc (.cells #[v] 35)) fun e w' => e = .returned (.int .u32 (ofS zs : Nat)) ∧ Below w.heap.size w w' := by
  have h := crcOf_any _ _ _ _ ((hT.below hb).alloc (.cells #[v] 35)) (parts_one (hS.below hb))
  rw [show [zs].flatten = zs by simp] at h
  refine h.mono fun e w' ⟨h1, h2⟩ => ⟨h1, ?_⟩
  subst h2
  exact hb.alloc hb.size _

theorem ofThree_on (w : World) (hT : Tab w) (v1 v2 v3 : Value) (z1 z2 z3 : List Int) (h1 : Sl w v1 z1) (h2 : Sl w v2 z2) (h3 : Sl w v3 z3) (wx : World) (hb : Below w.heap.size w wx) :
    Calls Tryd.prog 11 #[.slice (some ⟨wx.heap.size, 0, none⟩) 3 3] (wx.alloc (.cells #[v1, v2, v3] 35)) fun e w' => e = .returned (.int .u32 (ofS (z1 ++ z2 ++ z3) : Nat)) ∧ Below w.heap.size w w' := by
  have h := crcOf_any _ _ _ _ ((hT.below hb).alloc (.cells #[v1, v2, v3] 35)) (parts_three (h1.below hb) (h2.below hb) (h3.below hb))
  rw [show [z1, z2, z3].flatten = z1 ++ z2 ++ z3 by simp] at h
  refine h.mono fun e w' ⟨h1, h2⟩ => ⟨h1, ?_⟩
  subst h2
  exact hb.alloc hb.size _

theorem addOne_on (w : World) (hT : Tab w) (s : Nat) (hs : s < 4294967296) (v : Value) (zs : List Int) (hS : Sl w v zs) (wx : World) (hb : Below w.heap.size w wx) :
    Calls Tryd.prog 13 #[.int .u32 s, .slice (some ⟨wx.heap.size, 0, none⟩) 1 1] (wx.alloc (.cells #[v] 35)) fun e w' => e = .returned (.int .u32 (addS s zs : Nat)) ∧ Below w.heap.size w w' := by
  have h := crcAdd_any _ s _ _ _ hs ((hT.below hb).alloc (.cells #[v] 35)) (parts_one (hS.below hb))
  rw [show [zs].flatten = zs by simp] at h
  refine h.mono fun e w' ⟨h1, h2⟩ => ⟨h1, ?_⟩
  subst h2
  exact hb.alloc hb.size _

theorem two_on (w : World) (a b n : Nat) (ha : a < 4294967296) (hb : b < 4294967296) (hn : n < 1000000000) (wx : World) (hB : Below w.heap.size w wx) :
    Calls Tryd.prog 15 #[.int .u32 a, .int .u32 b, .int .i64 n] wx fun e w' => e = .returned (.int .u32 (stpN (8 * n) a ^^^ b : Nat)) ∧ Below w.heap.size w w' :=
  (crcTwo_any wx a b n ha hb hn).mono fun e w' ⟨h1, h2⟩ => ⟨h1, by subst h2; exact hB⟩

/-- slices laid into a new slice -/
def isP (n : Nat) (vs : List Value) (pss : List (List Int)) : Value → World → Prop := fun v w => ∃ g, v = .slice (some ⟨g, 0, none⟩) n n ∧ Parts w v vs pss
theorem stable_isP (n : Nat) (vs : List Value) (pss : List (List Int)) : Stable (isP n vs pss) := fun _ _ _ hb ⟨g, h1, h2⟩ => ⟨g, h1, Parts.below h2 hb⟩

theorem of_gives (w : World) (v : Value) (vs : List Value) (pss : List (List Int)) (A : Nat) (hT : Tab w) (hp : Parts w v vs pss) (hA : ofS pss.flatten = A) :
    Calls Tryd.prog 11 #[v] w fun e w'' => ∃ u, e = .returned u ∧ Below w.heap.size w w'' ∧ u = .int .u32 (A : Int) :=
  (crcOf_any w v vs pss hT hp).mono fun e w'' ⟨h1, h2⟩ => ⟨_, h1, by rw [h2]; exact Below.refl _ _, by rw [hA]⟩
theorem add_gives (w : World) (s : Nat) (v : Value) (vs : List Value) (pss : List (List Int)) (A : Nat) (hs : s < 4294967296) (hT : Tab w) (hp : Parts w v vs pss) (hA : addS s pss.flatten = A) :
    Calls Tryd.prog 13 #[.int .u32 s, v] w fun e w'' => ∃ u, e = .returned u ∧ Below w.heap.size w w'' ∧ u = .int .u32 (A : Int) :=
  (crcAdd_any w s v vs pss hs hT hp).mono fun e w'' ⟨h1, h2⟩ => ⟨_, h1, by rw [h2]; exact Below.refl _ _, by rw [hA]⟩
theorem two_gives (w : World) (a b n A : Nat) (ha : a < 4294967296) (hb : b < 4294967296) (hn : n < 1000000000) (hA : stpN (8 * n) a ^^^ b = A) :
    Calls Tryd.prog 15 #[.int .u32 a, .int .u32 b, .int .i64 n] w fun e w'' => ∃ u, e = .returned u ∧ Below w.heap.size w w'' ∧ u = .int .u32 (A : Int) :=
  (crcTwo_any w a b n ha hb hn).mono fun e w'' ⟨h1, h2⟩ => ⟨_, h1, by rw [h2]; exact Below.refl _ _, by rw [hA]⟩

set_option maxRecDepth 20000 in
set_option maxHeartbeats 4000000 in
theorem crcPieces_walk (w : World) (v : Value) (zs : List Int) (a1 a2 : Int) (hS : Sl w v zs) (w1 : (Lit.int .u16 a1).wf = true) (w2 : (Lit.int .u16 a2).wf = true) (hT : Tab w) :
    Calls Tryd.prog 6 #[v, .int .u16 a1, .int .u16 a2] w fun e w' => e = .returned (.bool true) ∧ Below w.heap.size w w' := by
  have b1 := bounds_u16 w1
  have b2 := bounds_u16 w2
  obtain ⟨P, rfl⟩ := Int.eq_ofNat_of_zero_le b1.1
  obtain ⟨Q, rfl⟩ := Int.eq_ofNat_of_zero_le b2.1
  clear w1 w2
  have hb0 : Below w.heap.size w w := Below.refl _ w
  have HL1 := hide (fun wx hb => live_on w hT wx hb)
  obtain ⟨ao, cap, rfl⟩ := sl_form' hS
  have hcap := (sl_cap hS).2
  unfold maxLen at hcap
  by_cases hbig : zs.length ≤ 3000
  · have hbi : ¬ (3000 : Int) < (zs.length : Int) := by omega
    obtain ⟨K, hK⟩ : ∃ K, K = P % (zs.length + 1) := ⟨_, rfl⟩
    have hKle : K ≤ zs.length := by have := Nat.mod_lt P (show 0 < zs.length + 1 by omega); omega
    obtain ⟨M, hM⟩ : ∃ M, M = K + Q % (zs.length - K + 1) := ⟨_, rfl⟩
    have hMle : M ≤ zs.length ∧ K ≤ M := by have := Nat.mod_lt Q (show 0 < zs.length - K + 1 by omega); omega
    have hy := hS.bytes
    have e1 : zs.take K ++ zs.drop K = zs := List.take_append_drop K zs
    have e2 : zs.take K ++ (zs.take M).drop K = zs.take M := by
      rw [show zs.take K = (zs.take M).take K by rw [List.take_take, Nat.min_eq_left hMle.2]]
      exact List.take_append_drop K _
    have e3 : zs.take M ++ zs.drop M = zs := List.take_append_drop M zs
    obtain ⟨x1, c1, r1, s1⟩ := cut_h w ao zs cap K hS hKle
    obtain ⟨x2, c2, r2, s2⟩ := cut_lh w ao zs cap K M hS hMle.2 hMle.1
    obtain ⟨x3, c3, r3, s3⟩ := cut_l w ao zs cap M hS hMle.1
    obtain ⟨x4, c4, r4, s4⟩ := cut_l w ao zs cap K hS hKle
    have S1 := s1 w hS
    have S2 := s2 w hS
    have S3 := s3 w hS
    have S4 := s4 w hS
    have HO := fun wx hb => ofOne_on w hT _ _ hS wx hb
    have hd : (zs.drop K).length = zs.length - K := by simp
    have et := ofS_two (zs.take K) (zs.drop K)
    rw [e1, hd] at et
    have q123' : ofS [zs.take K, (zs.take M).drop K, zs.drop M].flatten = ofS zs := by
      rw [show [zs.take K, (zs.take M).drop K, zs.drop M].flatten = zs.take K ++ (zs.take M).drop K ++ zs.drop M by simp, e2, e3]
    have p14' : addS (ofS (zs.take K)) [zs.drop K].flatten = ofS zs := by rw [show [zs.drop K].flatten = zs.drop K by simp, ofS_append, e1]
    have p12' : addS (ofS (zs.take K)) [(zs.take M).drop K].flatten = ofS (zs.take M) := by rw [show [(zs.take M).drop K].flatten = (zs.take M).drop K by simp, ofS_append, e2]
    have p23' : addS (ofS (zs.take M)) [zs.drop M].flatten = ofS zs := by rw [show [zs.drop M].flatten = zs.drop M by simp, ofS_append, e3]
    have q1' : ofS [zs.take K].flatten = ofS (zs.take K) := by rw [show [zs.take K].flatten = zs.take K by simp]
    have q4' : ofS [zs.drop K].flatten = ofS (zs.drop K) := by rw [show [zs.drop K].flatten = zs.drop K by simp]
    have lA1' : ofS (zs.take K) < 4294967296 := ofS_lt (hy.take K)
    have lA2' : ofS (zs.take M) < 4294967296 := ofS_lt (hy.take M)
    have lA4' : ofS (zs.drop K) < 4294967296 := ofS_lt (hy.drop K)
    obtain ⟨D, hD⟩ : ∃ D, D = zs.length - K := ⟨_, rfl⟩
    obtain ⟨n1, hn1⟩ : ∃ n, n = (zs.take K).length := ⟨_, rfl⟩
    obtain ⟨n2, hn2⟩ : ∃ n, n = ((zs.take M).drop K).length := ⟨_, rfl⟩
    obtain ⟨n3, hn3⟩ : ∃ n, n = (zs.drop M).length := ⟨_, rfl⟩
    obtain ⟨n4, hn4⟩ : ∃ n, n = (zs.drop K).length := ⟨_, rfl⟩
    rw [← hn1] at r1 S1
    rw [← hn2] at r2 S2
    rw [← hn3] at r3 S3
    rw [← hn4] at r4 S4
    rw [← hD] at et
    obtain ⟨Y1, hY1⟩ : ∃ Y, Y = zs.take K := ⟨_, rfl⟩
    obtain ⟨Y2, hY2⟩ : ∃ Y, Y = (zs.take M).drop K := ⟨_, rfl⟩
    obtain ⟨Y3, hY3⟩ : ∃ Y, Y = zs.drop M := ⟨_, rfl⟩
    obtain ⟨Y4, hY4⟩ : ∃ Y, Y = zs.drop K := ⟨_, rfl⟩
    obtain ⟨ALL, hALL⟩ : ∃ n, n = ofS zs := ⟨_, rfl⟩
    obtain ⟨A2, hA2⟩ : ∃ n, n = ofS (zs.take M) := ⟨_, rfl⟩
    rw [← hA2] at p12' p23' lA2'
    rw [← hALL] at q123' p14' p23' et HO
    rw [← hY1] at q123' p14' p12' q1' lA1' et S1
    rw [← hY2] at q123' p12' S2
    rw [← hY3] at q123' p23' S3
    rw [← hY4] at p14' q4' lA4' et S4
    obtain ⟨A1, hA1⟩ : ∃ n, n = ofS Y1 := ⟨_, rfl⟩
    obtain ⟨A4, hA4⟩ : ∃ n, n = ofS Y4 := ⟨_, rfl⟩
    rw [← hA1] at p14' p12' q1' lA1' et
    rw [← hA4] at q4' lA4' et
    have q123 := hide q123'
    have p14 := hide p14'
    have p12 := hide p12'
    have p23 := hide p23'
    have q1 := hide q1'
    have q4 := hide q4'
    have t14 := hide et
    have HS1 := hide S1
    have HS2 := hide S2
    have HS3 := hide S3
    have HS4 := hide S4
    have HT := hide hT
    have G0 := hide HO
    obtain ⟨R, hR⟩ : ∃ R, R = Q % (D + 1) := ⟨_, rfl⟩
    have hKi : (P : Int) % ((zs.length : Int) + 1) = (K : Int) := by rw [hK, Int.natCast_emod]; rfl
    have hRi : (Q : Int) % ((D : Int) + 1) = (R : Int) := by rw [hR, Int.natCast_emod]; rfl
    have hMi : (K : Int) + (R : Int) = (M : Int) := by rw [hR, hD]; omega
    have hDi : (zs.length : Int) - (K : Int) = (D : Int) := by omega
    have hMl : (M : Int) ≤ (zs.length : Int) := by omega
    have lD : D < 1000000000 := by omega
    have hDw : IntKind.i64.wrap (D : Int) = (D : Int) := by rw [IntKind.wrap_i64]; omega
    have lA1 := lA1'
    have lA2 := lA2'
    have lA4 := lA4'
    clear hT hS S1 S2 S3 S4 s1 s2 s3 s4 HO e1 e2 e3 et hd hD hn1 hn2 hn3 hn4 hALL hA1 hA2 hA4 hK hM hy q123' p14' p12' p23' q1' q4' hY1 hY2 hY3 hY4 hR lA1' lA2' lA4'
    go_enter Tryd.func6, Tryd.ntmps6
    go_wp2_with (first
      | (go_at_call 9; refine (HL1.out _ hb0).mono ?_; rintro e w1 ⟨rfl, hb1⟩; clear HL1)
      | (go_at_call 11; refine (G0.out _ hb1).mono ?_; rintro e w2 ⟨rfl, hb2⟩; clear G0 hb1))
    have HT2 := hide (HT.out.below hb2)
    have T1 := hide (HS1.out.below hb2)
    have T2 := hide (HS2.out.below hb2)
    have T3 := hide (HS3.out.below hb2)
    have T4 := hide (HS4.out.below hb2)
    refine wp_region_facts (FL [isV (.slice ao zs.length cap),
        isV (.int .i64 (K : Int)),
        isV (.slice x1 n1 c1),
        isV (.slice ao zs.length cap),
        isV (.int .i64 (K : Int)),
        isV (.int .i64 (M : Int)),
        isV (.slice x2 n2 c2),
        isV (.slice ao zs.length cap),
        isV (.int .i64 (M : Int)),
        isV (.slice x3 n3 c3),
        isP 3 [.slice x1 n1 c1, .slice x2 n2 c2, .slice x3 n3 c3] [Y1, Y2, Y3],
        isV (.int .u32 (ALL : Int)),
        isV (.int .u32 (ALL : Int)),
        isV (.bool true),
        isV (.bool true),
        isV (.slice ao zs.length cap),
        isV (.int .i64 (K : Int)),
        isV (.slice x1 n1 c1),
        isP 1 [.slice x1 n1 c1] [Y1],
        isV (.int .u32 (A1 : Int)),
        isV (.slice ao zs.length cap),
        isV (.int .i64 (K : Int)),
        isV (.slice x4 n4 c4),
        isP 1 [.slice x4 n4 c4] [Y4],
        isV (.int .u32 (ALL : Int)),
        isV (.int .u32 (ALL : Int)),
        isV (.bool true),
        isV (.bool true),
        isV (.bool true),
        isV (.slice ao zs.length cap),
        isV (.int .i64 (K : Int)),
        isV (.slice x1 n1 c1),
        isP 1 [.slice x1 n1 c1] [Y1],
        isV (.int .u32 (A1 : Int)),
        isV (.slice ao zs.length cap),
        isV (.int .i64 (K : Int)),
        isV (.int .i64 (M : Int)),
        isV (.slice x2 n2 c2),
        isP 1 [.slice x2 n2 c2] [Y2],
        isV (.int .u32 (A2 : Int)),
        isV (.slice ao zs.length cap),
        isV (.int .i64 (M : Int)),
        isV (.slice x3 n3 c3),
        isP 1 [.slice x3 n3 c3] [Y3],
        isV (.int .u32 (ALL : Int)),
        isV (.int .u32 (ALL : Int)),
        isV (.bool true),
        isV (.bool true),
        isV (.bool true),
        isV (.slice ao zs.length cap),
        isV (.int .i64 (K : Int)),
        isV (.slice x1 n1 c1),
        isP 1 [.slice x1 n1 c1] [Y1],
        isV (.int .u32 (A1 : Int)),
        isV (.slice ao zs.length cap),
        isV (.int .i64 (K : Int)),
        isV (.slice x4 n4 c4),
        isP 1 [.slice x4 n4 c4] [Y4],
        isV (.int .u32 (A4 : Int)),
        isV (.slice ao zs.length cap),
        isV (.int .i64 (zs.length : Int)),
        isV (.int .i64 (K : Int)),
        isV (.int .i64 (D : Int)),
        isV (.int .u32 (ALL : Int)),
        isV (.int .u32 (ALL : Int)),
        isV (.bool true),
        isV (.bool true),
        isV (.bool true)]) 104 (by kernel_rfl) (by kernel_rfl) (by kernel_rfl) rfl (FL_stable _ ?_) ?_ ?_
    · repeat (first | exact trivial | refine ⟨stable_isV _, ?_⟩ | refine ⟨stable_isP _ _ _, ?_⟩)
    · refine ⟨?_, ?_, ?_, ?_, ?_, ?_, ?_, ?_, ?_, ?_, ?_, ?_, ?_, ?_, ?_, ?_, ?_, ?_, ?_, ?_, ?_, ?_, ?_, ?_, ?_, ?_, ?_, ?_, ?_, ?_, ?_, ?_, ?_, ?_, ?_, ?_, ?_, ?_, ?_, ?_, ?_, ?_, ?_, ?_, ?_, ?_, ?_, ?_, ?_, ?_, ?_, ?_, ?_, ?_, ?_, ?_, ?_, ?_, ?_, ?_, ?_, ?_, ?_, ?_, ?_, ?_, ?_, ?_, trivial⟩
      · intro a w h
        have e0 : a.eval (.tmp 0) = .slice ao zs.length cap := h.old 0 (by kernel_rfl)
        have hbel := h.below
        clear h
        refine gives_by rfl a.eval rfl ?_
        generalize a.eval = ρ at *
        intro hf hc
        go_simp
        exact ⟨Below.refl _ _, rfl⟩
      · intro a w h
        have e7 : a.eval (.tmp 7) = .int .i64 (K : Int) := h.old 7 (by kernel_rfl)
        have hbel := h.below
        clear h
        refine gives_by rfl a.eval rfl ?_
        generalize a.eval = ρ at *
        intro hf hc
        go_simp
        exact ⟨Below.refl _ _, rfl⟩
      · intro a w h
        obtain ⟨v37, e37, f37⟩ := h.val 0 37 (by kernel_rfl)
        obtain rfl : v37 = .slice ao zs.length cap := f37
        obtain ⟨v38, e38, f38⟩ := h.val 1 38 (by kernel_rfl)
        obtain rfl : v38 = .int .i64 (K : Int) := f38
        have hbel := h.below
        clear h
        refine gives_by rfl a.eval rfl ?_
        generalize a.eval = ρ at *
        intro hf hc
        go_simp
        exact ⟨Below.refl _ _, rfl⟩
      · intro a w h
        have e0 : a.eval (.tmp 0) = .slice ao zs.length cap := h.old 0 (by kernel_rfl)
        have hbel := h.below
        clear h
        refine gives_by rfl a.eval rfl ?_
        generalize a.eval = ρ at *
        intro hf hc
        go_simp
        exact ⟨Below.refl _ _, rfl⟩
      · intro a w h
        have e7 : a.eval (.tmp 7) = .int .i64 (K : Int) := h.old 7 (by kernel_rfl)
        have hbel := h.below
        clear h
        refine gives_by rfl a.eval rfl ?_
        generalize a.eval = ρ at *
        intro hf hc
        go_simp
        exact ⟨Below.refl _ _, rfl⟩
      · intro a w h
        have e8 : a.eval (.tmp 8) = .int .i64 (M : Int) := h.old 8 (by kernel_rfl)
        have hbel := h.below
        clear h
        refine gives_by rfl a.eval rfl ?_
        generalize a.eval = ρ at *
        intro hf hc
        go_simp
        exact ⟨Below.refl _ _, rfl⟩
      · intro a w h
        obtain ⟨v40, e40, f40⟩ := h.val 3 40 (by kernel_rfl)
        obtain rfl : v40 = .slice ao zs.length cap := f40
        obtain ⟨v41, e41, f41⟩ := h.val 4 41 (by kernel_rfl)
        obtain rfl : v41 = .int .i64 (K : Int) := f41
        obtain ⟨v42, e42, f42⟩ := h.val 5 42 (by kernel_rfl)
        obtain rfl : v42 = .int .i64 (M : Int) := f42
        have hbel := h.below
        clear h
        refine gives_by rfl a.eval rfl ?_
        generalize a.eval = ρ at *
        intro hf hc
        go_simp
        exact ⟨Below.refl _ _, rfl⟩
      · intro a w h
        have e0 : a.eval (.tmp 0) = .slice ao zs.length cap := h.old 0 (by kernel_rfl)
        have hbel := h.below
        clear h
        refine gives_by rfl a.eval rfl ?_
        generalize a.eval = ρ at *
        intro hf hc
        go_simp
        exact ⟨Below.refl _ _, rfl⟩
      · intro a w h
        have e8 : a.eval (.tmp 8) = .int .i64 (M : Int) := h.old 8 (by kernel_rfl)
        have hbel := h.below
        clear h
        refine gives_by rfl a.eval rfl ?_
        generalize a.eval = ρ at *
        intro hf hc
        go_simp
        exact ⟨Below.refl _ _, rfl⟩
      · intro a w h
        obtain ⟨v44, e44, f44⟩ := h.val 7 44 (by kernel_rfl)
        obtain rfl : v44 = .slice ao zs.length cap := f44
        obtain ⟨v45, e45, f45⟩ := h.val 8 45 (by kernel_rfl)
        obtain rfl : v45 = .int .i64 (M : Int) := f45
        have hbel := h.below
        clear h
        refine gives_by rfl a.eval rfl ?_
        generalize a.eval = ρ at *
        intro hf hc
        go_simp
        exact ⟨Below.refl _ _, rfl⟩
      · intro a w h
        obtain ⟨v39, e39, f39⟩ := h.val 2 39 (by kernel_rfl)
        obtain rfl : v39 = .slice x1 n1 c1 := f39
        obtain ⟨v43, e43, f43⟩ := h.val 6 43 (by kernel_rfl)
        obtain rfl : v43 = .slice x2 n2 c2 := f43
        obtain ⟨v46, e46, f46⟩ := h.val 9 46 (by kernel_rfl)
        obtain rfl : v46 = .slice x3 n3 c3 := f46
        have hbel := h.below
        clear h
        refine gives_by rfl a.eval rfl ?_
        generalize a.eval = ρ at *
        intro hf hc
        go_simp
        exact ⟨(Below.refl _ w).alloc (Nat.le_refl _) _, ⟨_, rfl, parts_three (T1.out.below hbel) (T2.out.below hbel) (T3.out.below hbel)⟩⟩
      · intro a w h
        obtain ⟨v47, e47, f47⟩ := h.val 10 47 (by kernel_rfl)
        obtain ⟨g, rfl, hp⟩ := f47
        have hbel := h.below
        clear h
        refine gives_by rfl a.eval rfl ?_
        generalize a.eval = ρ at *
        intro hf hc
        go_simp
        exact of_gives w _ _ _ _ (HT2.out.below hbel) hp q123.out
      · intro a w h
        have e9 : a.eval (.tmp 9) = .int .u32 (ALL : Int) := h.old 9 (by kernel_rfl)
        have hbel := h.below
        clear h
        refine gives_by rfl a.eval rfl ?_
        generalize a.eval = ρ at *
        intro hf hc
        go_simp
        exact ⟨Below.refl _ _, rfl⟩
      · intro a w h
        obtain ⟨v48, e48, f48⟩ := h.val 11 48 (by kernel_rfl)
        obtain rfl : v48 = .int .u32 (ALL : Int) := f48
        obtain ⟨v49, e49, f49⟩ := h.val 12 49 (by kernel_rfl)
        obtain rfl : v49 = .int .u32 (ALL : Int) := f49
        have hbel := h.below
        clear h
        refine gives_by rfl a.eval rfl ?_
        generalize a.eval = ρ at *
        intro hf hc
        go_simp
        exact ⟨Below.refl _ _, rfl⟩
      · intro a w h
        obtain ⟨v50, e50, f50⟩ := h.val 13 50 (by kernel_rfl)
        obtain rfl : v50 = .bool true := f50
        have hbel := h.below
        clear h
        refine gives_by rfl a.eval rfl ?_
        generalize a.eval = ρ at *
        intro hf hc
        go_simp
        exact ⟨Below.refl _ _, rfl⟩
      · intro a w h
        have e0 : a.eval (.tmp 0) = .slice ao zs.length cap := h.old 0 (by kernel_rfl)
        have hg := h.guard 14 51 (by kernel_rfl) true (fun v hv => hv)
        have hbel := h.below
        clear h
        refine gives_by (by simp only [Region.wanted, hg]; rfl) a.eval rfl ?_
        generalize a.eval = ρ at *
        intro hf hc
        go_simp
        exact ⟨Below.refl _ _, rfl⟩
      · intro a w h
        have e7 : a.eval (.tmp 7) = .int .i64 (K : Int) := h.old 7 (by kernel_rfl)
        have hg := h.guard 14 51 (by kernel_rfl) true (fun v hv => hv)
        have hbel := h.below
        clear h
        refine gives_by (by simp only [Region.wanted, hg]; rfl) a.eval rfl ?_
        generalize a.eval = ρ at *
        intro hf hc
        go_simp
        exact ⟨Below.refl _ _, rfl⟩
      · intro a w h
        obtain ⟨v52, e52, f52⟩ := h.val 15 52 (by kernel_rfl)
        obtain rfl : v52 = .slice ao zs.length cap := f52
        obtain ⟨v53, e53, f53⟩ := h.val 16 53 (by kernel_rfl)
        obtain rfl : v53 = .int .i64 (K : Int) := f53
        have hg := h.guard 14 51 (by kernel_rfl) true (fun v hv => hv)
        have hbel := h.below
        clear h
        refine gives_by (by simp only [Region.wanted, hg]; rfl) a.eval rfl ?_
        generalize a.eval = ρ at *
        intro hf hc
        go_simp
        exact ⟨Below.refl _ _, rfl⟩
      · intro a w h
        obtain ⟨v54, e54, f54⟩ := h.val 17 54 (by kernel_rfl)
        obtain rfl : v54 = .slice x1 n1 c1 := f54
        have hg := h.guard 14 51 (by kernel_rfl) true (fun v hv => hv)
        have hbel := h.below
        clear h
        refine gives_by (by simp only [Region.wanted, hg]; rfl) a.eval rfl ?_
        generalize a.eval = ρ at *
        intro hf hc
        go_simp
        exact ⟨(Below.refl _ w).alloc (Nat.le_refl _) _, ⟨_, rfl, parts_one (T1.out.below hbel)⟩⟩
      · intro a w h
        obtain ⟨v55, e55, f55⟩ := h.val 18 55 (by kernel_rfl)
        obtain ⟨g, rfl, hp⟩ := f55
        have hg := h.guard 14 51 (by kernel_rfl) true (fun v hv => hv)
        have hbel := h.below
        clear h
        refine gives_by (by simp only [Region.wanted, hg]; rfl) a.eval rfl ?_
        generalize a.eval = ρ at *
        intro hf hc
        go_simp
        exact of_gives w _ _ _ _ (HT2.out.below hbel) hp q1.out
      · intro a w h
        have e0 : a.eval (.tmp 0) = .slice ao zs.length cap := h.old 0 (by kernel_rfl)
        have hg := h.guard 14 51 (by kernel_rfl) true (fun v hv => hv)
        have hbel := h.below
        clear h
        refine gives_by (by simp only [Region.wanted, hg]; rfl) a.eval rfl ?_
        generalize a.eval = ρ at *
        intro hf hc
        go_simp
        exact ⟨Below.refl _ _, rfl⟩
      · intro a w h
        have e7 : a.eval (.tmp 7) = .int .i64 (K : Int) := h.old 7 (by kernel_rfl)
        have hg := h.guard 14 51 (by kernel_rfl) true (fun v hv => hv)
        have hbel := h.below
        clear h
        refine gives_by (by simp only [Region.wanted, hg]; rfl) a.eval rfl ?_
        generalize a.eval = ρ at *
        intro hf hc
        go_simp
        exact ⟨Below.refl _ _, rfl⟩
      · intro a w h
        obtain ⟨v57, e57, f57⟩ := h.val 20 57 (by kernel_rfl)
        obtain rfl : v57 = .slice ao zs.length cap := f57
        obtain ⟨v58, e58, f58⟩ := h.val 21 58 (by kernel_rfl)
        obtain rfl : v58 = .int .i64 (K : Int) := f58
        have hg := h.guard 14 51 (by kernel_rfl) true (fun v hv => hv)
        have hbel := h.below
        clear h
        refine gives_by (by simp only [Region.wanted, hg]; rfl) a.eval rfl ?_
        generalize a.eval = ρ at *
        intro hf hc
        go_simp
        exact ⟨Below.refl _ _, rfl⟩
      · intro a w h
        obtain ⟨v59, e59, f59⟩ := h.val 22 59 (by kernel_rfl)
        obtain rfl : v59 = .slice x4 n4 c4 := f59
        have hg := h.guard 14 51 (by kernel_rfl) true (fun v hv => hv)
        have hbel := h.below
        clear h
        refine gives_by (by simp only [Region.wanted, hg]; rfl) a.eval rfl ?_
        generalize a.eval = ρ at *
        intro hf hc
        go_simp
        exact ⟨(Below.refl _ w).alloc (Nat.le_refl _) _, ⟨_, rfl, parts_one (T4.out.below hbel)⟩⟩
      · intro a w h
        obtain ⟨v56, e56, f56⟩ := h.val 19 56 (by kernel_rfl)
        obtain rfl : v56 = .int .u32 (A1 : Int) := f56
        obtain ⟨v60, e60, f60⟩ := h.val 23 60 (by kernel_rfl)
        obtain ⟨g, rfl, hp⟩ := f60
        have hg := h.guard 14 51 (by kernel_rfl) true (fun v hv => hv)
        have hbel := h.below
        clear h
        refine gives_by (by simp only [Region.wanted, hg]; rfl) a.eval rfl ?_
        generalize a.eval = ρ at *
        intro hf hc
        go_simp
        exact add_gives w A1 _ _ _ _ lA1 (HT2.out.below hbel) hp p14.out
      · intro a w h
        have e9 : a.eval (.tmp 9) = .int .u32 (ALL : Int) := h.old 9 (by kernel_rfl)
        have hg := h.guard 14 51 (by kernel_rfl) true (fun v hv => hv)
        have hbel := h.below
        clear h
        refine gives_by (by simp only [Region.wanted, hg]; rfl) a.eval rfl ?_
        generalize a.eval = ρ at *
        intro hf hc
        go_simp
        exact ⟨Below.refl _ _, rfl⟩
      · intro a w h
        obtain ⟨v61, e61, f61⟩ := h.val 24 61 (by kernel_rfl)
        obtain rfl : v61 = .int .u32 (ALL : Int) := f61
        obtain ⟨v62, e62, f62⟩ := h.val 25 62 (by kernel_rfl)
        obtain rfl : v62 = .int .u32 (ALL : Int) := f62
        have hg := h.guard 14 51 (by kernel_rfl) true (fun v hv => hv)
        have hbel := h.below
        clear h
        refine gives_by (by simp only [Region.wanted, hg]; rfl) a.eval rfl ?_
        generalize a.eval = ρ at *
        intro hf hc
        go_simp
        exact ⟨Below.refl _ _, rfl⟩
      · intro a w h
        obtain ⟨v51, e51, f51⟩ := h.val 14 51 (by kernel_rfl)
        obtain rfl : v51 = .bool true := f51
        obtain ⟨v63, e63, f63⟩ := h.val 26 63 (by kernel_rfl)
        obtain rfl : v63 = .bool true := f63
        have hbel := h.below
        clear h
        refine gives_by rfl a.eval rfl ?_
        generalize a.eval = ρ at *
        intro hf hc
        go_simp
        exact ⟨Below.refl _ _, rfl⟩
      · intro a w h
        obtain ⟨v64, e64, f64⟩ := h.val 27 64 (by kernel_rfl)
        obtain rfl : v64 = .bool true := f64
        have hbel := h.below
        clear h
        refine gives_by rfl a.eval rfl ?_
        generalize a.eval = ρ at *
        intro hf hc
        go_simp
        exact ⟨Below.refl _ _, rfl⟩
      · intro a w h
        have e0 : a.eval (.tmp 0) = .slice ao zs.length cap := h.old 0 (by kernel_rfl)
        have hg := h.guard 28 65 (by kernel_rfl) true (fun v hv => hv)
        have hbel := h.below
        clear h
        refine gives_by (by simp only [Region.wanted, hg]; rfl) a.eval rfl ?_
        generalize a.eval = ρ at *
        intro hf hc
        go_simp
        exact ⟨Below.refl _ _, rfl⟩
      · intro a w h
        have e7 : a.eval (.tmp 7) = .int .i64 (K : Int) := h.old 7 (by kernel_rfl)
        have hg := h.guard 28 65 (by kernel_rfl) true (fun v hv => hv)
        have hbel := h.below
        clear h
        refine gives_by (by simp only [Region.wanted, hg]; rfl) a.eval rfl ?_
        generalize a.eval = ρ at *
        intro hf hc
        go_simp
        exact ⟨Below.refl _ _, rfl⟩
      · intro a w h
        obtain ⟨v66, e66, f66⟩ := h.val 29 66 (by kernel_rfl)
        obtain rfl : v66 = .slice ao zs.length cap := f66
        obtain ⟨v67, e67, f67⟩ := h.val 30 67 (by kernel_rfl)
        obtain rfl : v67 = .int .i64 (K : Int) := f67
        have hg := h.guard 28 65 (by kernel_rfl) true (fun v hv => hv)
        have hbel := h.below
        clear h
        refine gives_by (by simp only [Region.wanted, hg]; rfl) a.eval rfl ?_
        generalize a.eval = ρ at *
        intro hf hc
        go_simp
        exact ⟨Below.refl _ _, rfl⟩
      · intro a w h
        obtain ⟨v68, e68, f68⟩ := h.val 31 68 (by kernel_rfl)
        obtain rfl : v68 = .slice x1 n1 c1 := f68
        have hg := h.guard 28 65 (by kernel_rfl) true (fun v hv => hv)
        have hbel := h.below
        clear h
        refine gives_by (by simp only [Region.wanted, hg]; rfl) a.eval rfl ?_
        generalize a.eval = ρ at *
        intro hf hc
        go_simp
        exact ⟨(Below.refl _ w).alloc (Nat.le_refl _) _, ⟨_, rfl, parts_one (T1.out.below hbel)⟩⟩
      · intro a w h
        obtain ⟨v69, e69, f69⟩ := h.val 32 69 (by kernel_rfl)
        obtain ⟨g, rfl, hp⟩ := f69
        have hg := h.guard 28 65 (by kernel_rfl) true (fun v hv => hv)
        have hbel := h.below
        clear h
        refine gives_by (by simp only [Region.wanted, hg]; rfl) a.eval rfl ?_
        generalize a.eval = ρ at *
        intro hf hc
        go_simp
        exact of_gives w _ _ _ _ (HT2.out.below hbel) hp q1.out
      · intro a w h
        have e0 : a.eval (.tmp 0) = .slice ao zs.length cap := h.old 0 (by kernel_rfl)
        have hg := h.guard 28 65 (by kernel_rfl) true (fun v hv => hv)
        have hbel := h.below
        clear h
        refine gives_by (by simp only [Region.wanted, hg]; rfl) a.eval rfl ?_
        generalize a.eval = ρ at *
        intro hf hc
        go_simp
        exact ⟨Below.refl _ _, rfl⟩
      · intro a w h
        have e7 : a.eval (.tmp 7) = .int .i64 (K : Int) := h.old 7 (by kernel_rfl)
        have hg := h.guard 28 65 (by kernel_rfl) true (fun v hv => hv)
        have hbel := h.below
        clear h
        refine gives_by (by simp only [Region.wanted, hg]; rfl) a.eval rfl ?_
        generalize a.eval = ρ at *
        intro hf hc
        go_simp
        exact ⟨Below.refl _ _, rfl⟩
      · intro a w h
        have e8 : a.eval (.tmp 8) = .int .i64 (M : Int) := h.old 8 (by kernel_rfl)
        have hg := h.guard 28 65 (by kernel_rfl) true (fun v hv => hv)
        have hbel := h.below
        clear h
        refine gives_by (by simp only [Region.wanted, hg]; rfl) a.eval rfl ?_
        generalize a.eval = ρ at *
        intro hf hc
        go_simp
        exact ⟨Below.refl _ _, rfl⟩
      · intro a w h
        obtain ⟨v71, e71, f71⟩ := h.val 34 71 (by kernel_rfl)
        obtain rfl : v71 = .slice ao zs.length cap := f71
        obtain ⟨v72, e72, f72⟩ := h.val 35 72 (by kernel_rfl)
        obtain rfl : v72 = .int .i64 (K : Int) := f72
        obtain ⟨v73, e73, f73⟩ := h.val 36 73 (by kernel_rfl)
        obtain rfl : v73 = .int .i64 (M : Int) := f73
        have hg := h.guard 28 65 (by kernel_rfl) true (fun v hv => hv)
        have hbel := h.below
        clear h
        refine gives_by (by simp only [Region.wanted, hg]; rfl) a.eval rfl ?_
        generalize a.eval = ρ at *
        intro hf hc
        go_simp
        exact ⟨Below.refl _ _, rfl⟩
      · intro a w h
        obtain ⟨v74, e74, f74⟩ := h.val 37 74 (by kernel_rfl)
        obtain rfl : v74 = .slice x2 n2 c2 := f74
        have hg := h.guard 28 65 (by kernel_rfl) true (fun v hv => hv)
        have hbel := h.below
        clear h
        refine gives_by (by simp only [Region.wanted, hg]; rfl) a.eval rfl ?_
        generalize a.eval = ρ at *
        intro hf hc
        go_simp
        exact ⟨(Below.refl _ w).alloc (Nat.le_refl _) _, ⟨_, rfl, parts_one (T2.out.below hbel)⟩⟩
      · intro a w h
        obtain ⟨v70, e70, f70⟩ := h.val 33 70 (by kernel_rfl)
        obtain rfl : v70 = .int .u32 (A1 : Int) := f70
        obtain ⟨v75, e75, f75⟩ := h.val 38 75 (by kernel_rfl)
        obtain ⟨g, rfl, hp⟩ := f75
        have hg := h.guard 28 65 (by kernel_rfl) true (fun v hv => hv)
        have hbel := h.below
        clear h
        refine gives_by (by simp only [Region.wanted, hg]; rfl) a.eval rfl ?_
        generalize a.eval = ρ at *
        intro hf hc
        go_simp
        exact add_gives w A1 _ _ _ _ lA1 (HT2.out.below hbel) hp p12.out
      · intro a w h
        have e0 : a.eval (.tmp 0) = .slice ao zs.length cap := h.old 0 (by kernel_rfl)
        have hg := h.guard 28 65 (by kernel_rfl) true (fun v hv => hv)
        have hbel := h.below
        clear h
        refine gives_by (by simp only [Region.wanted, hg]; rfl) a.eval rfl ?_
        generalize a.eval = ρ at *
        intro hf hc
        go_simp
        exact ⟨Below.refl _ _, rfl⟩
      · intro a w h
        have e8 : a.eval (.tmp 8) = .int .i64 (M : Int) := h.old 8 (by kernel_rfl)
        have hg := h.guard 28 65 (by kernel_rfl) true (fun v hv => hv)
        have hbel := h.below
        clear h
        refine gives_by (by simp only [Region.wanted, hg]; rfl) a.eval rfl ?_
        generalize a.eval = ρ at *
        intro hf hc
        go_simp
        exact ⟨Below.refl _ _, rfl⟩
      · intro a w h
        obtain ⟨v77, e77, f77⟩ := h.val 40 77 (by kernel_rfl)
        obtain rfl : v77 = .slice ao zs.length cap := f77
        obtain ⟨v78, e78, f78⟩ := h.val 41 78 (by kernel_rfl)
        obtain rfl : v78 = .int .i64 (M : Int) := f78
        have hg := h.guard 28 65 (by kernel_rfl) true (fun v hv => hv)
        have hbel := h.below
        clear h
        refine gives_by (by simp only [Region.wanted, hg]; rfl) a.eval rfl ?_
        generalize a.eval = ρ at *
        intro hf hc
        go_simp
        exact ⟨Below.refl _ _, rfl⟩
      · intro a w h
        obtain ⟨v79, e79, f79⟩ := h.val 42 79 (by kernel_rfl)
        obtain rfl : v79 = .slice x3 n3 c3 := f79
        have hg := h.guard 28 65 (by kernel_rfl) true (fun v hv => hv)
        have hbel := h.below
        clear h
        refine gives_by (by simp only [Region.wanted, hg]; rfl) a.eval rfl ?_
        generalize a.eval = ρ at *
        intro hf hc
        go_simp
        exact ⟨(Below.refl _ w).alloc (Nat.le_refl _) _, ⟨_, rfl, parts_one (T3.out.below hbel)⟩⟩
      · intro a w h
        obtain ⟨v76, e76, f76⟩ := h.val 39 76 (by kernel_rfl)
        obtain rfl : v76 = .int .u32 (A2 : Int) := f76
        obtain ⟨v80, e80, f80⟩ := h.val 43 80 (by kernel_rfl)
        obtain ⟨g, rfl, hp⟩ := f80
        have hg := h.guard 28 65 (by kernel_rfl) true (fun v hv => hv)
        have hbel := h.below
        clear h
        refine gives_by (by simp only [Region.wanted, hg]; rfl) a.eval rfl ?_
        generalize a.eval = ρ at *
        intro hf hc
        go_simp
        exact add_gives w A2 _ _ _ _ lA2 (HT2.out.below hbel) hp p23.out
      · intro a w h
        have e9 : a.eval (.tmp 9) = .int .u32 (ALL : Int) := h.old 9 (by kernel_rfl)
        have hg := h.guard 28 65 (by kernel_rfl) true (fun v hv => hv)
        have hbel := h.below
        clear h
        refine gives_by (by simp only [Region.wanted, hg]; rfl) a.eval rfl ?_
        generalize a.eval = ρ at *
        intro hf hc
        go_simp
        exact ⟨Below.refl _ _, rfl⟩
      · intro a w h
        obtain ⟨v81, e81, f81⟩ := h.val 44 81 (by kernel_rfl)
        obtain rfl : v81 = .int .u32 (ALL : Int) := f81
        obtain ⟨v82, e82, f82⟩ := h.val 45 82 (by kernel_rfl)
        obtain rfl : v82 = .int .u32 (ALL : Int) := f82
        have hg := h.guard 28 65 (by kernel_rfl) true (fun v hv => hv)
        have hbel := h.below
        clear h
        refine gives_by (by simp only [Region.wanted, hg]; rfl) a.eval rfl ?_
        generalize a.eval = ρ at *
        intro hf hc
        go_simp
        exact ⟨Below.refl _ _, rfl⟩
      · intro a w h
        obtain ⟨v65, e65, f65⟩ := h.val 28 65 (by kernel_rfl)
        obtain rfl : v65 = .bool true := f65
        obtain ⟨v83, e83, f83⟩ := h.val 46 83 (by kernel_rfl)
        obtain rfl : v83 = .bool true := f83
        have hbel := h.below
        clear h
        refine gives_by rfl a.eval rfl ?_
        generalize a.eval = ρ at *
        intro hf hc
        go_simp
        exact ⟨Below.refl _ _, rfl⟩
      · intro a w h
        obtain ⟨v84, e84, f84⟩ := h.val 47 84 (by kernel_rfl)
        obtain rfl : v84 = .bool true := f84
        have hbel := h.below
        clear h
        refine gives_by rfl a.eval rfl ?_
        generalize a.eval = ρ at *
        intro hf hc
        go_simp
        exact ⟨Below.refl _ _, rfl⟩
      · intro a w h
        have e0 : a.eval (.tmp 0) = .slice ao zs.length cap := h.old 0 (by kernel_rfl)
        have hg := h.guard 48 85 (by kernel_rfl) true (fun v hv => hv)
        have hbel := h.below
        clear h
        refine gives_by (by simp only [Region.wanted, hg]; rfl) a.eval rfl ?_
        generalize a.eval = ρ at *
        intro hf hc
        go_simp
        exact ⟨Below.refl _ _, rfl⟩
      · intro a w h
        have e7 : a.eval (.tmp 7) = .int .i64 (K : Int) := h.old 7 (by kernel_rfl)
        have hg := h.guard 48 85 (by kernel_rfl) true (fun v hv => hv)
        have hbel := h.below
        clear h
        refine gives_by (by simp only [Region.wanted, hg]; rfl) a.eval rfl ?_
        generalize a.eval = ρ at *
        intro hf hc
        go_simp
        exact ⟨Below.refl _ _, rfl⟩
      · intro a w h
        obtain ⟨v86, e86, f86⟩ := h.val 49 86 (by kernel_rfl)
        obtain rfl : v86 = .slice ao zs.length cap := f86
        obtain ⟨v87, e87, f87⟩ := h.val 50 87 (by kernel_rfl)
        obtain rfl : v87 = .int .i64 (K : Int) := f87
        have hg := h.guard 48 85 (by kernel_rfl) true (fun v hv => hv)
        have hbel := h.below
        clear h
        refine gives_by (by simp only [Region.wanted, hg]; rfl) a.eval rfl ?_
        generalize a.eval = ρ at *
        intro hf hc
        go_simp
        exact ⟨Below.refl _ _, rfl⟩
      · intro a w h
        obtain ⟨v88, e88, f88⟩ := h.val 51 88 (by kernel_rfl)
        obtain rfl : v88 = .slice x1 n1 c1 := f88
        have hg := h.guard 48 85 (by kernel_rfl) true (fun v hv => hv)
        have hbel := h.below
        clear h
        refine gives_by (by simp only [Region.wanted, hg]; rfl) a.eval rfl ?_
        generalize a.eval = ρ at *
        intro hf hc
        go_simp
        exact ⟨(Below.refl _ w).alloc (Nat.le_refl _) _, ⟨_, rfl, parts_one (T1.out.below hbel)⟩⟩
      · intro a w h
        obtain ⟨v89, e89, f89⟩ := h.val 52 89 (by kernel_rfl)
        obtain ⟨g, rfl, hp⟩ := f89
        have hg := h.guard 48 85 (by kernel_rfl) true (fun v hv => hv)
        have hbel := h.below
        clear h
        refine gives_by (by simp only [Region.wanted, hg]; rfl) a.eval rfl ?_
        generalize a.eval = ρ at *
        intro hf hc
        go_simp
        exact of_gives w _ _ _ _ (HT2.out.below hbel) hp q1.out
      · intro a w h
        have e0 : a.eval (.tmp 0) = .slice ao zs.length cap := h.old 0 (by kernel_rfl)
        have hg := h.guard 48 85 (by kernel_rfl) true (fun v hv => hv)
        have hbel := h.below
        clear h
        refine gives_by (by simp only [Region.wanted, hg]; rfl) a.eval rfl ?_
        generalize a.eval = ρ at *
        intro hf hc
        go_simp
        exact ⟨Below.refl _ _, rfl⟩
      · intro a w h
        have e7 : a.eval (.tmp 7) = .int .i64 (K : Int) := h.old 7 (by kernel_rfl)
        have hg := h.guard 48 85 (by kernel_rfl) true (fun v hv => hv)
        have hbel := h.below
        clear h
        refine gives_by (by simp only [Region.wanted, hg]; rfl) a.eval rfl ?_
        generalize a.eval = ρ at *
        intro hf hc
        go_simp
        exact ⟨Below.refl _ _, rfl⟩
      · intro a w h
        obtain ⟨v91, e91, f91⟩ := h.val 54 91 (by kernel_rfl)
        obtain rfl : v91 = .slice ao zs.length cap := f91
        obtain ⟨v92, e92, f92⟩ := h.val 55 92 (by kernel_rfl)
        obtain rfl : v92 = .int .i64 (K : Int) := f92
        have hg := h.guard 48 85 (by kernel_rfl) true (fun v hv => hv)
        have hbel := h.below
        clear h
        refine gives_by (by simp only [Region.wanted, hg]; rfl) a.eval rfl ?_
        generalize a.eval = ρ at *
        intro hf hc
        go_simp
        exact ⟨Below.refl _ _, rfl⟩
      · intro a w h
        obtain ⟨v93, e93, f93⟩ := h.val 56 93 (by kernel_rfl)
        obtain rfl : v93 = .slice x4 n4 c4 := f93
        have hg := h.guard 48 85 (by kernel_rfl) true (fun v hv => hv)
        have hbel := h.below
        clear h
        refine gives_by (by simp only [Region.wanted, hg]; rfl) a.eval rfl ?_
        generalize a.eval = ρ at *
        intro hf hc
        go_simp
        exact ⟨(Below.refl _ w).alloc (Nat.le_refl _) _, ⟨_, rfl, parts_one (T4.out.below hbel)⟩⟩
      · intro a w h
        obtain ⟨v94, e94, f94⟩ := h.val 57 94 (by kernel_rfl)
        obtain ⟨g, rfl, hp⟩ := f94
        have hg := h.guard 48 85 (by kernel_rfl) true (fun v hv => hv)
        have hbel := h.below
        clear h
        refine gives_by (by simp only [Region.wanted, hg]; rfl) a.eval rfl ?_
        generalize a.eval = ρ at *
        intro hf hc
        go_simp
        exact of_gives w _ _ _ _ (HT2.out.below hbel) hp q4.out
      · intro a w h
        have e0 : a.eval (.tmp 0) = .slice ao zs.length cap := h.old 0 (by kernel_rfl)
        have hg := h.guard 48 85 (by kernel_rfl) true (fun v hv => hv)
        have hbel := h.below
        clear h
        refine gives_by (by simp only [Region.wanted, hg]; rfl) a.eval rfl ?_
        generalize a.eval = ρ at *
        intro hf hc
        go_simp
        exact ⟨Below.refl _ _, rfl⟩
      · intro a w h
        obtain ⟨v96, e96, f96⟩ := h.val 59 96 (by kernel_rfl)
        obtain rfl : v96 = .slice ao zs.length cap := f96
        have hg := h.guard 48 85 (by kernel_rfl) true (fun v hv => hv)
        have hbel := h.below
        clear h
        refine gives_by (by simp only [Region.wanted, hg]; rfl) a.eval rfl ?_
        generalize a.eval = ρ at *
        intro hf hc
        go_simp
        exact ⟨Below.refl _ _, rfl⟩
      · intro a w h
        have e7 : a.eval (.tmp 7) = .int .i64 (K : Int) := h.old 7 (by kernel_rfl)
        have hg := h.guard 48 85 (by kernel_rfl) true (fun v hv => hv)
        have hbel := h.below
        clear h
        refine gives_by (by simp only [Region.wanted, hg]; rfl) a.eval rfl ?_
        generalize a.eval = ρ at *
        intro hf hc
        go_simp
        exact ⟨Below.refl _ _, rfl⟩
      · intro a w h
        obtain ⟨v97, e97, f97⟩ := h.val 60 97 (by kernel_rfl)
        obtain rfl : v97 = .int .i64 (zs.length : Int) := f97
        obtain ⟨v98, e98, f98⟩ := h.val 61 98 (by kernel_rfl)
        obtain rfl : v98 = .int .i64 (K : Int) := f98
        have hg := h.guard 48 85 (by kernel_rfl) true (fun v hv => hv)
        have hbel := h.below
        clear h
        refine gives_by (by simp only [Region.wanted, hg]; rfl) a.eval rfl ?_
        generalize a.eval = ρ at *
        intro hf hc
        go_simp
        exact ⟨Below.refl _ _, rfl⟩
      · intro a w h
        obtain ⟨v90, e90, f90⟩ := h.val 53 90 (by kernel_rfl)
        obtain rfl : v90 = .int .u32 (A1 : Int) := f90
        obtain ⟨v95, e95, f95⟩ := h.val 58 95 (by kernel_rfl)
        obtain rfl : v95 = .int .u32 (A4 : Int) := f95
        obtain ⟨v99, e99, f99⟩ := h.val 62 99 (by kernel_rfl)
        obtain rfl : v99 = .int .i64 (D : Int) := f99
        have hg := h.guard 48 85 (by kernel_rfl) true (fun v hv => hv)
        have hbel := h.below
        clear h
        refine gives_by (by simp only [Region.wanted, hg]; rfl) a.eval rfl ?_
        generalize a.eval = ρ at *
        intro hf hc
        go_simp
        exact two_gives w A1 A4 D ALL lA1 lA4 lD t14.out
      · intro a w h
        have e9 : a.eval (.tmp 9) = .int .u32 (ALL : Int) := h.old 9 (by kernel_rfl)
        have hg := h.guard 48 85 (by kernel_rfl) true (fun v hv => hv)
        have hbel := h.below
        clear h
        refine gives_by (by simp only [Region.wanted, hg]; rfl) a.eval rfl ?_
        generalize a.eval = ρ at *
        intro hf hc
        go_simp
        exact ⟨Below.refl _ _, rfl⟩
      · intro a w h
        obtain ⟨v100, e100, f100⟩ := h.val 63 100 (by kernel_rfl)
        obtain rfl : v100 = .int .u32 (ALL : Int) := f100
        obtain ⟨v101, e101, f101⟩ := h.val 64 101 (by kernel_rfl)
        obtain rfl : v101 = .int .u32 (ALL : Int) := f101
        have hg := h.guard 48 85 (by kernel_rfl) true (fun v hv => hv)
        have hbel := h.below
        clear h
        refine gives_by (by simp only [Region.wanted, hg]; rfl) a.eval rfl ?_
        generalize a.eval = ρ at *
        intro hf hc
        go_simp
        exact ⟨Below.refl _ _, rfl⟩
      · intro a w h
        obtain ⟨v85, e85, f85⟩ := h.val 48 85 (by kernel_rfl)
        obtain rfl : v85 = .bool true := f85
        obtain ⟨v102, e102, f102⟩ := h.val 65 102 (by kernel_rfl)
        obtain rfl : v102 = .bool true := f102
        have hbel := h.below
        clear h
        refine gives_by rfl a.eval rfl ?_
        generalize a.eval = ρ at *
        intro hf hc
        go_simp
        exact ⟨Below.refl _ _, rfl⟩
      · intro a w h
        obtain ⟨v103, e103, f103⟩ := h.val 66 103 (by kernel_rfl)
        obtain rfl : v103 = .bool true := f103
        have hbel := h.below
        clear h
        refine gives_by rfl a.eval rfl ?_
        generalize a.eval = ρ at *
        intro hf hc
        go_simp
        exact ⟨Below.refl _ _, rfl⟩
    · intro vals w3 hb3 hv
      have hlast : vals 67 = .bool true := hv 67 6 (by kernel_rfl)
      simp only [List.append_eq, List.cons_append, List.nil_append, putAll, Act.put, List.setIfInBounds_toArray, List.set_cons_zero, List.set_cons_succ, hlast]
      go_wp2
      go_ret
      exact ⟨rfl, below_then hb2 hb3 (Nat.le_refl _)⟩
  · have hbi : (3000 : Int) < (zs.length : Int) := by omega
    have HL2 := hide (fun wx hb => live_on w hT wx hb)
    clear hT hS
    go_enter Tryd.func6, Tryd.ntmps6
    go_wp2_with (first
      | (go_at_call 9; refine (HL1.out _ hb0).mono ?_; rintro e w1 ⟨rfl, hb1⟩; clear HL1)
      | (go_at_call 9; refine (HL2.out _ hb1).mono ?_; rintro e w2 ⟨rfl, hb2⟩; clear HL2))
    go_ret
    exact ⟨rfl, hb2⟩

end Go.Proofs.YtaahmpoldpdbjaaDoor
