/- Contracts: the document's answer: which frames may be, which are the same. -/
import Derived.Test.YtlnedhbeciepdaaDoorFSame
import Derived.Test.YtlnedhbeciepdaaDoorWPlace
namespace Go.Proofs.YtlnedhbeciepdaaDoor
open Go.RowKit
set_option linter.unusedVariables false

theorem refCheck_any (w : World) (k p : Int) (e n cap : Nat) (ao : Option Addr) :
    Calls Tryd.prog 14 #[frV k p e (.slice ao n cap)] w fun r w' => r = .returned (.int .i64 (checkS k p n)) ∧ Below w.heap.size w w' := by
  unfold frV
  have hb : Hid (Below w.heap.size w (w.alloc (.cells #[.int .i64 k, .int .i64 p, .int .u64 e, .slice ao n cap] 25))) := (Below.refl _ w).alloc (Nat.le_refl _) _
  by_cases h1 : k < 1
  · have es : checkS k p n = 42 := by unfold checkS; rw [if_pos (.inl h1)]
    rw [es]
    go_enter Tryd.func14, Tryd.ntmps14
    go_wp2
    go_ret
    exact ⟨rfl, hb.out⟩
  · have h1' : decide (k < 1) = false := decide_eq_false h1
    by_cases h2 : 4 < k
    · have es : checkS k p n = 42 := by unfold checkS; rw [if_pos (.inr h2)]
      rw [es]
      go_enter Tryd.func14, Tryd.ntmps14
      go_wp2
      go_ret
      exact ⟨rfl, hb.out⟩
    · have h2' : decide (4 < k) = false := decide_eq_false h2
      by_cases h3 : p < 0
      · have es : checkS k p n = 41 := by unfold checkS; rw [if_neg (by omega), if_pos (.inl h3)]
        rw [es]
        go_enter Tryd.func14, Tryd.ntmps14
        go_wp2
        go_ret
        exact ⟨rfl, hb.out⟩
      · have h3' : decide (p < 0) = false := decide_eq_false h3
        by_cases h4 : 2048 ≤ p
        · have es : checkS k p n = 41 := by unfold checkS; rw [if_neg (by omega), if_pos (.inr (by omega))]
          rw [es]
          go_enter Tryd.func14, Tryd.ntmps14
          go_wp2
          go_ret
          exact ⟨rfl, hb.out⟩
        · have h4' : decide (2048 ≤ p) = false := decide_eq_false h4
          by_cases h5 : 240 < n
          · have h5i : (240 : Int) < (n : Int) := by omega
            have es : checkS k p n = 3 := by unfold checkS; rw [if_neg (by omega), if_neg (by omega), if_pos h5]
            rw [es]
            go_enter Tryd.func14, Tryd.ntmps14
            go_wp2
            go_ret
            exact ⟨rfl, hb.out⟩
          · have h5i : ¬ (240 : Int) < (n : Int) := by omega
            have es : checkS k p n = 0 := by unfold checkS; rw [if_neg (by omega), if_neg (by omega), if_neg h5]
            rw [es]
            go_enter Tryd.func14, Tryd.ntmps14
            go_wp2
            go_ret
            exact ⟨rfl, hb.out⟩

theorem trimS_nil (xs : List Int) : trimS xs 0 = [] := rfl
theorem trimS_zero {xs : List Int} {n : Nat} (h : xs.getD n 0 = 0) : trimS xs (n + 1) = trimS xs n := by show (if xs.getD n 0 = 0 then _ else _) = _; rw [if_pos h]
theorem trimS_some {xs : List Int} {n : Nat} (h : ¬ xs.getD n 0 = 0) : trimS xs (n + 1) = xs.take (n + 1) := by show (if xs.getD n 0 = 0 then _ else _) = _; rw [if_neg h]

theorem trimS_take (xs : List Int) : ∀ n, trimS xs n = xs.take (trimS xs n).length
  | 0 => by simp [trimS]
  | n + 1 => by
    unfold trimS
    split
    · exact trimS_take xs n
    · simp
theorem trimD_take (xs : List Int) : trimD xs = xs.take (trimD xs).length := trimS_take xs xs.length
theorem trimD_le (xs : List Int) : (trimD xs).length ≤ xs.length := by
  have := congrArg List.length (trimD_take xs)
  rw [List.length_take] at this
  omega
/-- b[:h], its value shown -/
theorem cut_h' (ao : Option Addr) (n cap h : Nat) (h2 : h ≤ cap) (wx : World) :
    (Instr.slice 23 (.slice ao n cap) none (some (.int .i64 h)) none).run Tryd.prog wx = .ok (.slice ao h cap) wx := by
  rw [run_slice_h wx 23 ao n cap tySl .i64 h (by omega) (by omega), szSl]
  simp only [Result.andThen, sliced, Int.toNat_natCast]
  by_cases hc : cap = 0
  · rw [if_pos hc]; rfl
  · rw [if_neg hc]
    cases ao with
    | none => rfl
    | some x => simp [Addr.add]

set_option maxHeartbeats 1000000 in
theorem trim_any (w : World) (a : Option Addr) (c : Nat) (xs : List Int) (h : Sl w (.slice a xs.length c) xs) :
    Calls Tryd.prog 32 #[.slice a xs.length c] w fun r w' => r = .returned (.slice a (trimD xs).length c) ∧ w' = w := by
  have hcap := (sl_cap h).2
  unfold maxLen at hcap
  have HD : Hid (trimD xs = trimS xs xs.length) := rfl
  have HC0 := cut_h' a xs.length c 0 (by omega)
  have HC0' : ∀ wx, (Instr.slice 23 (.slice a xs.length c) none (some (.int .i64 0)) none).run Tryd.prog wx = .ok (.slice a 0 c) wx := HC0
  obtain ⟨hb, _, _, he, _, _, _, h4⟩ := h
  simp only [Value.slice.injEq, true_and] at he
  obtain ⟨rfl, rfl⟩ := he
  have H4 := hide h4
  clear h4 HC0
  go_enter Tryd.func32, Tryd.ntmps32
  go_wp2
  go_loopg [3] xs.length (fun g i wr => g ≤ xs.length ∧ trimS xs xs.length = trimS xs g ∧ i = .int .i64 g ∧ wr = w)
  case atStart => exact ⟨Nat.le_refl _, rfl, rfl, rfl⟩
  case round =>
    obtain ⟨hg, ht, rfl, rfl⟩ := hrel
    have HT := hide ht
    clear ht
    cases gk with
    | zero =>
      go_wp2
      go_ret
      refine ⟨?_, rfl⟩
      rw [HD.out, HT.out, trimS_nil]
      rfl
    | succ g =>
      have hgl : g < xs.length := by omega
      have hgi : (g : Int) < (xs.length : Int) := by omega
      have hg1 : ((g + 1 : Nat) : Int) - 1 = (g : Int) := by omega
      obtain ⟨b, o, rfl, hc⟩ := H4.out (by intro h; simp [h] at hgl)
      have c1 := hc g hgl
      obtain ⟨x, hx⟩ : ∃ x, x = xs.getD g 0 := ⟨_, rfl⟩
      rw [← hx] at c1
      have HX := hide hx
      clear hc hx HC0'
      by_cases hx0 : x = 0
      · subst hx0
        go_wp2
        go_roundg g
        case measure => omega
        case rel => exact ⟨by omega, by rw [HT.out, trimS_zero HX.out.symm], by go_num, rfl⟩
      · have hx0' : (x == 0) = false := by simpa using hx0
        have HN : Hid (¬ xs.getD g 0 = 0) := by rw [← HX.out]; exact hx0
        go_wp2
        go_ret
        refine ⟨?_, rfl⟩
        rw [HD.out, HT.out, trimS_some HN.out, List.length_take, Nat.min_eq_left hg]
        rfl

theorem below_drewN {B : Nat} {w w1 : World} (h : Below B w w1) (n : Nat) : Below B w (w1.drewN n) := ⟨h.os, h.tape, h.output, h.size, h.block⟩
theorem Sl.drewN {w : World} {v : Value} {zs : List Int} (h : Sl w v zs) (n : Nat) : Sl (w.drewN n) v zs := h.keep fun k _ _ => rfl

set_option maxHeartbeats 4000000 in
theorem refSame_any (w : World) (k p k' p' : Int) (e e' : Nat) (a a' : Option Addr) (c c' : Nat) (xs ys : List Int) (hx : Sl w (.slice a xs.length c) xs) (hy : Sl w (.slice a' ys.length c') ys) :
    Calls Tryd.prog 16 #[.agg #[.int .i64 k, .int .i64 p, .int .u64 e, .slice a xs.length c], .agg #[.int .i64 k', .int .i64 p', .int .u64 e', .slice a' ys.length c']] w fun r w' => r = .returned (.bool (sameB k p e xs k' p' e' ys)) ∧ Below w.heap.size w w' := by
  have HB : Hid (Below w.heap.size w ((w.alloc (.cells #[.int .i64 k, .int .i64 p, .int .u64 e, .slice a xs.length c] 25)).alloc (.cells #[.int .i64 k', .int .i64 p', .int .u64 e', .slice a' ys.length c'] 25))) := ((Below.refl _ w).alloc (Nat.le_refl _) _).alloc (by simp) _
  have hxs := (hx.alloc (.cells #[.int .i64 k, .int .i64 p, .int .u64 e, .slice a xs.length c] 25)).alloc (.cells #[.int .i64 k', .int .i64 p', .int .u64 e', .slice a' ys.length c'] 25)
  have hys := (hy.alloc (.cells #[.int .i64 k, .int .i64 p, .int .u64 e, .slice a xs.length c] 25)).alloc (.cells #[.int .i64 k', .int .i64 p', .int .u64 e', .slice a' ys.length c'] 25)
  by_cases h1 : k = k'
  · by_cases h2 : p = p'
    · by_cases h3 : e = e'
      · have es : sameB k p e xs k' p' e' ys = decide (trimD xs = trimD ys) := by unfold sameB; simp [h1, h2, h3]
        rw [es]
        have s1 : ∀ wx, Sl wx (.slice a xs.length c) xs → Sl wx (.slice a (trimD xs).length c) (trimD xs) := fun wx hh => by
          have := sl_take (trimD xs).length hh (trimD_le xs)
          rwa [← trimD_take] at this
        have s2 : ∀ wx, Sl wx (.slice a' ys.length c') ys → Sl wx (.slice a' (trimD ys).length c') (trimD ys) := fun wx hh => by
          have := sl_take (trimD ys).length hh (trimD_le ys)
          rwa [← trimD_take] at this
        obtain ⟨X, hX⟩ : ∃ X, X = trimD xs := ⟨_, rfl⟩
        obtain ⟨Y, hY⟩ : ∃ Y, Y = trimD ys := ⟨_, rfl⟩
        obtain ⟨nx, hnx⟩ : ∃ n, n = X.length := ⟨_, rfl⟩
        obtain ⟨ny, hny⟩ : ∃ n, n = Y.length := ⟨_, rfl⟩
        obtain ⟨sx, hsx⟩ : ∃ s, s = strOfNums X := ⟨_, rfl⟩
        obtain ⟨sy, hsy⟩ : ∃ s, s = strOfNums Y := ⟨_, rfl⟩
        rw [← hX, ← hY]
        rw [← hX, ← hnx] at s1
        rw [← hY, ← hny] at s2
        subst h1 h2 h3
        obtain ⟨W, hW⟩ : ∃ W, W = (w.alloc (.cells #[.int .i64 k, .int .i64 p, .int .u64 e, .slice a xs.length c] 25)).alloc (.cells #[.int .i64 k, .int .i64 p, .int .u64 e, .slice a' ys.length c'] 25) := ⟨_, rfl⟩
        rw [← hW] at hxs hys
        have HTX : Hid (∀ n, Calls Tryd.prog 32 #[.slice a xs.length c] (W.drewN n) fun r w' => r = .returned (.slice a nx c) ∧ w' = W.drewN n) := fun n => by
          have := trim_any (W.drewN n) a c xs (hxs.drewN n)
          rwa [← hX, ← hnx] at this
        have HTY : Hid (∀ n, Calls Tryd.prog 32 #[.slice a' ys.length c'] (W.drewN n) fun r w' => r = .returned (.slice a' ny c') ∧ w' = W.drewN n) := fun n => by
          have := trim_any (W.drewN n) a' c' ys (hys.drewN n)
          rwa [← hY, ← hny] at this
        have r1 : ∀ n, (convert 23 9 (.slice a nx c)).run Tryd.prog (W.drewN n) = .ok (.string sx) (W.drewN n) := fun n => by rw [hsx]; exact run_convert_sl _ 23 5 9 Tryd.underlying23 Tryd.underlying5 Tryd.underlying9 _ X (s1 _ (hxs.drewN n))
        have r2 : ∀ n, (convert 23 9 (.slice a' ny c')).run Tryd.prog (W.drewN n) = .ok (.string sy) (W.drewN n) := fun n => by rw [hsy]; exact run_convert_sl _ 23 5 9 Tryd.underlying23 Tryd.underlying5 Tryd.underlying9 _ Y (s2 _ (hys.drewN n))
        have HEQ : Hid (sx = sy ↔ X = Y) := by
          show sx = sy ↔ X = Y
          rw [hsx, hsy]
          exact strOfNums_inj ((s1 _ hx).bytes) ((s2 _ hy).bytes)
        have c0 := (Blk.new w 25 [.int .i64 k, .int .i64 p, .int .u64 e, .slice a xs.length c]).alloc (.cells #[.int .i64 k, .int .i64 p, .int .u64 e, .slice a' ys.length c'] 25)
        have d0 := Blk.new (w.alloc (.cells #[.int .i64 k, .int .i64 p, .int .u64 e, .slice a xs.length c] 25)) 25 [.int .i64 k, .int .i64 p, .int .u64 e, .slice a' ys.length c']
        rw [World.size_alloc] at d0
        have c0' : Blk W w.heap.size 25 [.int .i64 k, .int .i64 p, .int .u64 e, .slice a xs.length c] := by rw [hW]; exact c0
        have d0' : Blk W (w.heap.size + 1) 25 [.int .i64 k, .int .i64 p, .int .u64 e, .slice a' ys.length c'] := by rw [hW]; exact d0
        obtain ⟨x0, x1, x2, x3⟩ := box_cells c0'
        obtain ⟨y0, y1, y2, y3⟩ := box_cells d0'
        clear es s1 s2 hX hY hnx hny hsx hsy hxs hys hx hy c0 d0 c0' d0'
        go_enter Tryd.func16, Tryd.ntmps16
        go_wp2
        rw [← hW] at HB ⊢
        clear hW
        go_quiet (first
          | (go_at_call_of 32 (Value.slice a xs.length c); exact Calls.quiet_of_same (HTX.out _))
          | (go_at_call_of 32 (Value.slice a' ys.length c'); exact Calls.quiet_of_same (HTY.out _)))
        go_wp2
        go_ret
        refine ⟨ret_bool ?_, below_drewN HB.out _⟩
        rw [Bool.eq_iff_iff]
        simp [← HEQ.out, toList_same]
      · have es : sameB k p e xs k' p' e' ys = false := by unfold sameB; simp [h3]
        rw [es]
        have h3i : ((e : Int) == (e' : Int)) = false := by simp; omega
        subst h1 h2
        clear es hxs hys hx hy
        go_enter Tryd.func16, Tryd.ntmps16
        go_wp2
        go_quiet (fail)
        go_wp2
        go_ret
        exact ⟨rfl, below_drewN HB.out _⟩
    · have es : sameB k p e xs k' p' e' ys = false := by unfold sameB; simp [h2]
      rw [es]
      have h2i : (p == p') = false := by simpa using h2
      subst h1
      clear es hxs hys hx hy
      go_enter Tryd.func16, Tryd.ntmps16
      go_wp2
      go_quiet (fail)
      go_wp2
      go_ret
      exact ⟨rfl, below_drewN HB.out _⟩
  · have es : sameB k p e xs k' p' e' ys = false := by unfold sameB; simp [h1]
    rw [es]
    have h1i : (k == k') = false := by simpa using h1
    clear es hxs hys hx hy
    go_enter Tryd.func16, Tryd.ntmps16
    go_wp2
    go_quiet (fail)
    go_wp2
    go_ret
    exact ⟨rfl, below_drewN HB.out _⟩

end Go.Proofs.YtlnedhbeciepdaaDoor
