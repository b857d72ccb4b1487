/- The walk of the statement CrcLinear. -/
import Derived.Test.YtaahmpoldpdbjaaDoorWPieces
import Derived.Deep.OwnRows
import Derived.RegionTactic
import Derived.BigRegion
namespace Go.Proofs.YtaahmpoldpdbjaaDoor
open Go.RowKit

/-- a row of noughts that was made -/
def isM (n : Nat) : Value → World → Prop := fun v w => ∃ g, v = .slice (some ⟨g, 0, none⟩) n n ∧ Sl w v (List.replicate n 0)
theorem stable_isM (n : Nat) : Stable (isM n) := fun _ _ _ hb ⟨g, h1, h2⟩ => ⟨g, h1, Sl.below h2 hb⟩
def isMP (n : Nat) : Value → World → Prop := fun v w => ∃ g, v = .slice (some ⟨g, 0, none⟩) 1 1 ∧ ∃ g', Parts w v [.slice (some ⟨g', 0, none⟩) n n] [List.replicate n 0]
theorem stable_isMP (n : Nat) : Stable (isMP n) := fun _ _ _ hb ⟨g, h1, g', h2⟩ => ⟨g, h1, g', Parts.below h2 hb⟩

theorem noughts_ok (n : Nat) : ByteOk (List.replicate n 0) := by
  intro z hz
  obtain ⟨_, rfl⟩ := List.mem_replicate.1 hz
  omega
theorem made_own (w : World) (n : Nat) (hn : n ≤ 100000) : (w.alloc (.cells (madeCells #[Value.int .u8 0] n) 5)).ownsRow w.heap.size 5 1 (.slice (some ⟨w.heap.size, 0, none⟩) n n) n ((List.replicate n (0 : Int)).map (Value.int .u8)) := by
  have h := World.ownsRow_lit (size := 1) (e := 5) w (madeCells #[Value.int .u8 0] n) n (Nat.le_refl _) (by unfold maxLen; omega) (by simp [size_madeCells])
  rw [show (madeCells #[Value.int .u8 0] n).toList = (List.replicate n (0 : Int)).map (Value.int .u8) by rw [toList_madeCells_one]; simp] at h
  exact h

theorem set_next (xs : List Int) (n : Nat) (x : Int) (hn : 0 < n) :
    ((xs ++ List.replicate n 0).map (Value.int .u8)).set xs.length (.int .u8 x) = ((xs ++ [x]) ++ List.replicate (n - 1) 0).map (Value.int .u8) := by
  obtain ⟨m, rfl⟩ : ∃ m, n = m + 1 := ⟨n - 1, by omega⟩
  simp [List.replicate_succ]

theorem xor8 (x y : Int) (hx : 0 ≤ x ∧ x ≤ 255) (hy : 0 ≤ y ∧ y ≤ 255) : bits .xor .u8 x y = xorB x y := by
  have := u8_xor_nat x.toNat y.toNat (by omega) (by omega)
  rw [show ((x.toNat : Nat) : Int) = x by omega, show ((y.toNat : Nat) : Int) = y by omega] at this
  exact this
theorem xorB_ok (x y : Int) (hx : 0 ≤ x ∧ x ≤ 255) (hy : 0 ≤ y ∧ y ≤ 255) : 0 ≤ xorB x y ∧ xorB x y ≤ 255 := by
  unfold xorB
  have : x.toNat ^^^ y.toNat < 2 ^ 8 := Nat.xor_lt_two_pow (by omega) (by omega)
  omega
theorem zip_ok {xs ys : List Int} (hx : ByteOk xs) (hy : ByteOk ys) : ByteOk (List.zipWith xorB xs ys) := by
  intro z hz
  obtain ⟨i, hi, rfl⟩ := List.getElem_of_mem hz
  rw [List.getElem_zipWith]
  exact xorB_ok _ _ (hx _ (List.getElem_mem _)) (hy _ (List.getElem_mem _))

set_option maxRecDepth 20000 in
set_option maxHeartbeats 4000000 in
theorem crcLinear_walk (w : World) (va : Value) (xs : List Int) (vb : Value) (ys : List Int) (hX : Sl w va xs) (hY : Sl w vb ys) (hT : Tab w) :
    Calls Tryd.prog 8 #[va, vb] w fun e w' => e = .returned (.bool true) ∧ Below w.heap.size w w' := by
  have hb0 : Below w.heap.size w w := Below.refl _ w
  have HL1 := hide (fun wx hb => live_on w hT wx hb)
  obtain ⟨ao, cx, rfl⟩ := sl_form' hX
  obtain ⟨bo, cy, rfl⟩ := sl_form' hY
  by_cases hbig : xs.length ≤ 3000
  · have hbi : ¬ (3000 : Int) < (xs.length : Int) := by omega
    by_cases hbig2 : ys.length ≤ 3000
    · have hbi2 : ¬ (3000 : Int) < (ys.length : Int) := by omega
      obtain ⟨n, hn⟩ : ∃ n, n = min xs.length ys.length := ⟨_, rfl⟩
      have hnx : n ≤ xs.length := by omega
      have hny : n ≤ ys.length := by omega
      have hmin : ∀ (ts : Array TypeId) (t : TypeId) (wx : World), (Builtin.min_ ts t #[.int .i64 (xs.length : Int), .int .i64 (ys.length : Int)]).run Tryd.prog wx = .ok (.int .i64 (n : Int)) wx := by
        intro ts t wx
        rw [run_min_int2]
        congr 2
        split <;> omega
      obtain ⟨x1, c1, r1, s1⟩ := cut_h w ao xs cx n hX hnx
      obtain ⟨x2, c2, r2, s2⟩ := cut_h w bo ys cy n hY hny
      have S1 := s1 w hX
      have S2 := s2 w hY
      have l1 : (xs.take n).length = n := by simp; omega
      have l2 : (ys.take n).length = n := by simp; omega
      have hlin := ofS_linear (xs.take n) (ys.take n) (List.replicate n 0) (by omega) (by rw [l1])
      rw [l1] at r1 S1
      rw [l2] at r2 S2
      obtain ⟨X1, hX1⟩ : ∃ X, X = xs.take n := ⟨_, rfl⟩
      obtain ⟨Y1, hY1⟩ : ∃ X, X = ys.take n := ⟨_, rfl⟩
      obtain ⟨Z, hZ⟩ : ∃ Z, Z = List.zipWith xorB X1 Y1 := ⟨_, rfl⟩
      rw [← hX1, ← hY1, ← hZ] at hlin
      rw [← hX1] at S1 l1
      rw [← hY1] at S2 l2
      have lZ : Z.length = n := by rw [hZ, List.length_zipWith]; omega
      have okZ : ByteOk Z := by rw [hZ]; exact zip_ok S1.bytes S2.bytes
      have q1' : ofS [X1].flatten = ofS X1 := by rw [show [X1].flatten = X1 by simp]
      have q2' : ofS [Y1].flatten = ofS Y1 := by rw [show [Y1].flatten = Y1 by simp]
      have q3' : ofS [Z].flatten = ofS Z := by rw [show [Z].flatten = Z by simp]
      have q4' : ofS [List.replicate n 0].flatten = ofS (List.replicate n 0) := by rw [show [List.replicate n (0 : Int)].flatten = List.replicate n 0 by simp]
      have k1 := ofS_lt S1.bytes
      have k2 := ofS_lt S2.bytes
      have k4 := ofS_lt (noughts_ok n)
      obtain ⟨SX, hSX⟩ : ∃ s, s = ofS X1 := ⟨_, rfl⟩
      obtain ⟨SY, hSY⟩ : ∃ s, s = ofS Y1 := ⟨_, rfl⟩
      obtain ⟨SB, hSB⟩ : ∃ s, s = ofS Z := ⟨_, rfl⟩
      obtain ⟨S0, hS0⟩ : ∃ s, s = ofS (List.replicate n 0) := ⟨_, rfl⟩
      rw [← hSX, ← hSY, ← hSB, ← hS0] at hlin
      rw [← hSX] at q1' k1
      rw [← hSY] at q2' k2
      rw [← hSB] at q3'
      rw [← hS0] at q4' k4
      have x1' := xorN SX SY k1 k2
      have kt := xor_lt32 k1 k2
      obtain ⟨ST, hST⟩ : ∃ s, s = SX ^^^ SY := ⟨_, rfl⟩
      rw [← hST] at x1' kt hlin
      have x2' := xorN ST S0 kt k4
      rw [← hlin] at x2'
      have q1 := hide q1'
      have q2 := hide q2'
      have q3 := hide q3'
      have q4 := hide q4'
      have HS1 := hide S1
      have HS2 := hide S2
      have HX := hide hX
      have HY := hide hY
      have HX1 := hide hX1
      have HY1 := hide hY1
      have HZ := hide hZ
      have HT := hide hT
      have hmk := fun wx => run_make_row' (P := Tryd.prog) 35 5 (.int .u8 0) 1 Tryd.underlying35 infoU8 rfl .i64 .i64 n (by omega) (by omega) wx
      have HLZ := hide lZ
      have HOK := hide okZ
      clear hT hX hY S1 S2 s1 s2 q1' q2' q3' q4' hX1 hY1 hZ hSX hSY hSB hS0 hST hlin l1 l2 lZ okZ hn
      go_enter Tryd.func8, Tryd.ntmps8
      go_wp2_with (first
        | (go_at_call 9; refine (HL1.out _ hb0).mono ?_; rintro e w1 ⟨rfl, hb1⟩; clear HL1))
      have hsz := hb1.size
      obtain ⟨B, hB⟩ : ∃ B, B = w1.heap.size := ⟨_, rfl⟩
      have ho := made_own w1 n (by omega)
      have hbel1 := hb1.alloc hb1.size (.cells (madeCells #[Value.int .u8 0] n) 5)
      have hlt1 : B < (w1.alloc (.cells (madeCells #[Value.int .u8 0] n) 5)).heap.size := by simp [hB]
      rw [← hB] at ho hsz
      simp only [← hB]
      clear hB
      go_loopg [30] n (fun g i wr => ∃ k : Nat, g + k = n ∧ i = .int .i64 k ∧ wr.ownsRow B 5 1 (.slice (some ⟨B, 0, none⟩) n n) n ((Z.take k ++ List.replicate (n - k) 0).map (Value.int .u8)) ∧ Below w.heap.size w wr ∧ B < wr.heap.size)
      case atStart => exact ⟨0, by omega, rfl, by simpa using ho, hbel1, hlt1⟩
      case round =>
        obtain ⟨k, hk, rfl, hown, hbel, hlt⟩ := hrel
        have HB := hide hbel
        have HO := hide hown
        clear ho hbel1 hlt1 hown
        cases gk with
        | zero =>
          obtain rfl : k = n := by omega
          have HTr := hide (HT.out.below HB.out)
          have T1 := hide (HS1.out.below HB.out)
          have T2 := hide (HS2.out.below HB.out)
          have T3 : Hid (Sl wr (.slice (some ⟨B, 0, none⟩) k k) Z) := by
            have := sl_of_own HO.out (zs := Z) HOK.out (by rw [List.take_of_length_le (by rw [HLZ.out]; omega), Nat.sub_self]; simp)
            exact this
          go_wp2
          refine wp_region_facts (FL [isV (.slice (some ⟨B, 0, none⟩) k k), isP 1 [.slice (some ⟨B, 0, none⟩) k k] [Z], isV (.int .u32 (SB : Int)), isV (.slice ao xs.length cx), isV (.int .i64 (k : Int)), isV (.slice x1 k c1), isP 1 [.slice x1 k c1] [X1], isV (.int .u32 (SX : Int)), isV (.slice bo ys.length cy), isV (.int .i64 (k : Int)), isV (.slice x2 k c2), isP 1 [.slice x2 k c2] [Y1], isV (.int .u32 (SY : Int)), isV (.int .u32 (ST : Int)), isV (.int .i64 (k : Int)), isM k, isMP k, isV (.int .u32 (S0 : Int)), isV (.int .u32 (SB : Int)), isV (.bool true), isV (.bool true)]) 66 (by kernel_rfl) (by kernel_rfl) (by kernel_rfl) rfl (FL_stable _ ?_) ?_ ?_
          · repeat (first | exact trivial | refine ⟨stable_isV _, ?_⟩ | refine ⟨stable_isP _ _ _, ?_⟩ | refine ⟨stable_isM _, ?_⟩ | refine ⟨stable_isMP _, ?_⟩)
          · refine ⟨?_, ?_, ?_, ?_, ?_, ?_, ?_, ?_, ?_, ?_, ?_, ?_, ?_, ?_, ?_, ?_, ?_, ?_, ?_, ?_, ?_, trivial⟩
            · intro a w h
              have e6 : a.eval (.tmp 6) = .slice (some ⟨B, 0, none⟩) k k := h.old 6 (by kernel_rfl)
              have hbel := h.below
              clear h
              refine gives_by rfl a.eval rfl ?_
              generalize a.eval = ρ at *
              intro hf hc
              go_simp
              exact ⟨Below.refl _ _, rfl⟩
            · intro a w h
              obtain ⟨v46, e46, f46⟩ := h.val 0 46 (by kernel_rfl)
              obtain rfl : v46 = .slice (some ⟨B, 0, none⟩) k k := f46
              have hbel := h.below
              clear h
              refine gives_by rfl a.eval rfl ?_
              generalize a.eval = ρ at *
              intro hf hc
              go_simp
              exact ⟨(Below.refl _ w).alloc (Nat.le_refl _) _, ⟨_, rfl, parts_one (T3.out.below hbel)⟩⟩
            · intro a w h
              obtain ⟨v47, e47, f47⟩ := h.val 1 47 (by kernel_rfl)
              obtain ⟨g, rfl, hp⟩ := f47
              have hbel := h.below
              clear h
              refine gives_by rfl a.eval rfl ?_
              generalize a.eval = ρ at *
              intro hf hc
              go_simp
              exact of_gives w _ _ _ _ (HTr.out.below hbel) hp q3.out
            · intro a w h
              have e0 : a.eval (.tmp 0) = .slice ao xs.length cx := h.old 0 (by kernel_rfl)
              have hbel := h.below
              clear h
              refine gives_by rfl a.eval rfl ?_
              generalize a.eval = ρ at *
              intro hf hc
              go_simp
              exact ⟨Below.refl _ _, rfl⟩
            · intro a w h
              have e5 : a.eval (.tmp 5) = .int .i64 (k : Int) := h.old 5 (by kernel_rfl)
              have hbel := h.below
              clear h
              refine gives_by rfl a.eval rfl ?_
              generalize a.eval = ρ at *
              intro hf hc
              go_simp
              exact ⟨Below.refl _ _, rfl⟩
            · intro a w h
              obtain ⟨v49, e49, f49⟩ := h.val 3 49 (by kernel_rfl)
              obtain rfl : v49 = .slice ao xs.length cx := f49
              obtain ⟨v50, e50, f50⟩ := h.val 4 50 (by kernel_rfl)
              obtain rfl : v50 = .int .i64 (k : Int) := f50
              have hbel := h.below
              clear h
              refine gives_by rfl a.eval rfl ?_
              generalize a.eval = ρ at *
              intro hf hc
              go_simp
              exact ⟨Below.refl _ _, rfl⟩
            · intro a w h
              obtain ⟨v51, e51, f51⟩ := h.val 5 51 (by kernel_rfl)
              obtain rfl : v51 = .slice x1 k c1 := f51
              have hbel := h.below
              clear h
              refine gives_by rfl a.eval rfl ?_
              generalize a.eval = ρ at *
              intro hf hc
              go_simp
              exact ⟨(Below.refl _ w).alloc (Nat.le_refl _) _, ⟨_, rfl, parts_one (T1.out.below hbel)⟩⟩
            · intro a w h
              obtain ⟨v52, e52, f52⟩ := h.val 6 52 (by kernel_rfl)
              obtain ⟨g, rfl, hp⟩ := f52
              have hbel := h.below
              clear h
              refine gives_by rfl a.eval rfl ?_
              generalize a.eval = ρ at *
              intro hf hc
              go_simp
              exact of_gives w _ _ _ _ (HTr.out.below hbel) hp q1.out
            · intro a w h
              have e1 : a.eval (.tmp 1) = .slice bo ys.length cy := h.old 1 (by kernel_rfl)
              have hbel := h.below
              clear h
              refine gives_by rfl a.eval rfl ?_
              generalize a.eval = ρ at *
              intro hf hc
              go_simp
              exact ⟨Below.refl _ _, rfl⟩
            · intro a w h
              have e5 : a.eval (.tmp 5) = .int .i64 (k : Int) := h.old 5 (by kernel_rfl)
              have hbel := h.below
              clear h
              refine gives_by rfl a.eval rfl ?_
              generalize a.eval = ρ at *
              intro hf hc
              go_simp
              exact ⟨Below.refl _ _, rfl⟩
            · intro a w h
              obtain ⟨v54, e54, f54⟩ := h.val 8 54 (by kernel_rfl)
              obtain rfl : v54 = .slice bo ys.length cy := f54
              obtain ⟨v55, e55, f55⟩ := h.val 9 55 (by kernel_rfl)
              obtain rfl : v55 = .int .i64 (k : Int) := f55
              have hbel := h.below
              clear h
              refine gives_by rfl a.eval rfl ?_
              generalize a.eval = ρ at *
              intro hf hc
              go_simp
              exact ⟨Below.refl _ _, rfl⟩
            · intro a w h
              obtain ⟨v56, e56, f56⟩ := h.val 10 56 (by kernel_rfl)
              obtain rfl : v56 = .slice x2 k c2 := f56
              have hbel := h.below
              clear h
              refine gives_by rfl a.eval rfl ?_
              generalize a.eval = ρ at *
              intro hf hc
              go_simp
              exact ⟨(Below.refl _ w).alloc (Nat.le_refl _) _, ⟨_, rfl, parts_one (T2.out.below hbel)⟩⟩
            · intro a w h
              obtain ⟨v57, e57, f57⟩ := h.val 11 57 (by kernel_rfl)
              obtain ⟨g, rfl, hp⟩ := f57
              have hbel := h.below
              clear h
              refine gives_by rfl a.eval rfl ?_
              generalize a.eval = ρ at *
              intro hf hc
              go_simp
              exact of_gives w _ _ _ _ (HTr.out.below hbel) hp q2.out
            · intro a w h
              obtain ⟨v53, e53, f53⟩ := h.val 7 53 (by kernel_rfl)
              obtain rfl : v53 = .int .u32 (SX : Int) := f53
              obtain ⟨v58, e58, f58⟩ := h.val 12 58 (by kernel_rfl)
              obtain rfl : v58 = .int .u32 (SY : Int) := f58
              have hbel := h.below
              clear h
              refine gives_by rfl a.eval rfl ?_
              generalize a.eval = ρ at *
              intro hf hc
              go_simp
              exact ⟨Below.refl _ _, rfl⟩
            · intro a w h
              have e5 : a.eval (.tmp 5) = .int .i64 (k : Int) := h.old 5 (by kernel_rfl)
              have hbel := h.below
              clear h
              refine gives_by rfl a.eval rfl ?_
              generalize a.eval = ρ at *
              intro hf hc
              go_simp
              exact ⟨Below.refl _ _, rfl⟩
            · intro a w h
              obtain ⟨v60, e60, f60⟩ := h.val 14 60 (by kernel_rfl)
              obtain rfl : v60 = .int .i64 (k : Int) := f60
              have hbel := h.below
              clear h
              refine gives_by rfl a.eval rfl ?_
              generalize a.eval = ρ at *
              intro hf hc
              go_simp
              exact ⟨(Below.refl _ w).alloc (Nat.le_refl _) _, ⟨_, rfl, sl_of_own (made_own w k (by omega)) (noughts_ok k) rfl⟩⟩
            · intro a w h
              obtain ⟨v61, e61, f61⟩ := h.val 15 61 (by kernel_rfl)
              obtain ⟨g, rfl, hs⟩ := f61
              have hbel := h.below
              clear h
              refine gives_by rfl a.eval rfl ?_
              generalize a.eval = ρ at *
              intro hf hc
              go_simp
              exact ⟨(Below.refl _ w).alloc (Nat.le_refl _) _, ⟨_, rfl, _, parts_one hs⟩⟩
            · intro a w h
              obtain ⟨v62, e62, f62⟩ := h.val 16 62 (by kernel_rfl)
              obtain ⟨g, rfl, g', hp⟩ := f62
              have hbel := h.below
              clear h
              refine gives_by rfl a.eval rfl ?_
              generalize a.eval = ρ at *
              intro hf hc
              go_simp
              exact of_gives w _ _ _ _ (HTr.out.below hbel) hp q4.out
            · intro a w h
              obtain ⟨v59, e59, f59⟩ := h.val 13 59 (by kernel_rfl)
              obtain rfl : v59 = .int .u32 (ST : Int) := f59
              obtain ⟨v63, e63, f63⟩ := h.val 17 63 (by kernel_rfl)
              obtain rfl : v63 = .int .u32 (S0 : Int) := f63
              have hbel := h.below
              clear h
              refine gives_by rfl a.eval rfl ?_
              generalize a.eval = ρ at *
              intro hf hc
              go_simp
              exact ⟨Below.refl _ _, rfl⟩
            · intro a w h
              obtain ⟨v48, e48, f48⟩ := h.val 2 48 (by kernel_rfl)
              obtain rfl : v48 = .int .u32 (SB : Int) := f48
              obtain ⟨v64, e64, f64⟩ := h.val 18 64 (by kernel_rfl)
              obtain rfl : v64 = .int .u32 (SB : Int) := f64
              have hbel := h.below
              clear h
              refine gives_by rfl a.eval rfl ?_
              generalize a.eval = ρ at *
              intro hf hc
              go_simp
              exact ⟨Below.refl _ _, rfl⟩
            · intro a w h
              obtain ⟨v65, e65, f65⟩ := h.val 19 65 (by kernel_rfl)
              obtain rfl : v65 = .bool true := f65
              have hbel := h.below
              clear h
              refine gives_by rfl a.eval rfl ?_
              generalize a.eval = ρ at *
              intro hf hc
              go_simp
              exact ⟨Below.refl _ _, rfl⟩
          · intro vals w3 hb3 hv
            have hlast : vals 20 = .bool true := hv 20 4 (by kernel_rfl)
            simp only [putAll, Act.put, List.setIfInBounds_toArray, List.set_cons_zero, List.set_cons_succ, hlast]
            go_wp2
            go_ret
            exact ⟨rfl, below_then HB.out hb3 (Nat.le_refl _)⟩
        | succ g =>
          have hkn : k < n := by omega
          have hki : (k : Int) < (n : Int) := by omega
          have hkx : (k : Int) < (xs.length : Int) := by omega
          have hky : (k : Int) < (ys.length : Int) := by omega
          obtain ⟨bx, _, _, he, _, _, _, hcx⟩ := HX.out.below HB.out
          obtain ⟨by', _, _, he', _, _, _, hcy⟩ := HY.out.below HB.out
          simp only [Value.slice.injEq, true_and] at he he'
          obtain ⟨rfl, rfl⟩ := he
          obtain ⟨rfl, rfl⟩ := he'
          obtain ⟨b1, o1, rfl, hc1⟩ := hcx (by intro h; simp [h] at hkx; omega)
          obtain ⟨b2, o2, rfl, hc2⟩ := hcy (by intro h; simp [h] at hky; omega)
          have cx1 := hc1 k (by omega)
          have cy1 := hc2 k (by omega)
          have gx := bx.get k
          have gy := by'.get k
          obtain ⟨x, hx⟩ : ∃ x, x = xs.getD k 0 := ⟨_, rfl⟩
          obtain ⟨y, hy⟩ : ∃ y, y = ys.getD k 0 := ⟨_, rfl⟩
          rw [← hx] at cx1 gx
          rw [← hy] at cy1 gy
          have hxy := xor8 x y gx gy
          have hz : Z.getD k 0 = xorB x y := by
            rw [HZ.out, HX1.out, HY1.out, getD_lt _ (by simp; omega), List.getElem_zipWith, List.getElem_take, List.getElem_take, hx, hy, getD_lt xs (by omega), getD_lt ys (by omega)]
          obtain ⟨z, hzz⟩ : ∃ z, z = xorB x y := ⟨_, rfl⟩
          rw [← hzz] at hxy hz
          have hst := HO.out.stored k (.int .u8 z)
          have hfr := HO.out.frozenAt k
          obtain ⟨q, hq⟩ : ∃ q, wr.cell? ⟨B, k, none⟩ = some q := own_some HO.out k hkn
          have hO2 := hst.1
          have hset : ((Z.take k ++ List.replicate (n - k) 0).map (Value.int .u8)).set k (.int .u8 z) = ((Z.take (k + 1) ++ List.replicate (n - (k + 1)) 0).map (Value.int .u8)) := by
            have h := set_next (Z.take k) (n - k) z (by omega)
            rw [show (Z.take k).length = k by simp [HLZ.out]; omega] at h
            rw [h, take_getD Z (by rw [HLZ.out]; exact hkn), hz, Nat.sub_sub]
          rw [hset] at hO2
          clear hset
          have HO2 := hide hO2
          have hBw : w.heap.size ≤ B := hsz
          clear hst hO2 hx hy hz hzz hc1 hc2 hcx hcy bx by'
          go_wp2
          go_region
          all_goals
            go_wp2
            go_roundg g
            case measure => omega
            case rel => exact ⟨k + 1, by omega, by go_num, HO2.out, (HB.out.setCell hBw _).drew, by simpa using hlt⟩
    · have hbi2 : (3000 : Int) < (ys.length : Int) := by omega
      have HL2 := hide (fun wx hb => live_on w hT wx hb)
      clear hT hX hY
      go_enter Tryd.func8, Tryd.ntmps8
      go_wp2_with (first
        | (go_at_call 9; refine (HL1.out _ hb0).mono ?_; rintro e w1 ⟨rfl, hb1⟩; clear HL1)
        | (go_at_call 9; refine (HL2.out _ hb1).mono ?_; rintro e w2 ⟨rfl, hb2⟩; clear HL2))
      go_ret
      exact ⟨rfl, hb2⟩
  · have hbi : (3000 : Int) < (xs.length : Int) := by omega
    have HL2 := hide (fun wx hb => live_on w hT wx hb)
    clear hT hX hY
    go_enter Tryd.func8, Tryd.ntmps8
    go_wp2_with (first
      | (go_at_call 9; refine (HL1.out _ hb0).mono ?_; rintro e w1 ⟨rfl, hb1⟩; clear HL1)
      | (go_at_call 9; refine (HL2.out _ hb1).mono ?_; rintro e w2 ⟨rfl, hb2⟩; clear HL2))
    go_ret
    exact ⟨rfl, hb2⟩

end Go.Proofs.YtaahmpoldpdbjaaDoor
