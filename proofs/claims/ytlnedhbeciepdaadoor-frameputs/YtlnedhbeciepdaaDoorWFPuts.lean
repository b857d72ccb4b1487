/- The walk of the statement FramePuts. -/
import Derived.Test.YtlnedhbeciepdaaDoorFRefPut
import Derived.Test.YtlnedhbeciepdaaDoorFOnly
namespace Go.Proofs.YtlnedhbeciepdaaDoor
open Go.RowKit
set_option linter.unusedVariables false

/-- two frames that came in, boxed: they stay -/
def Bx2 (w w1 : World) (f g : Fm) : Prop := Below w.heap.size w w1 ∧ Blk w1 w.heap.size 25 f.cells ∧ Blk w1 (w.heap.size + 1) 25 g.cells
theorem Bx2.below {w w1 w2 : World} {f g : Fm} (h : Bx2 w w1 f g) (hb : Below w1.heap.size w1 w2) : Bx2 w w2 f g := ⟨h.1.trans (hb.mono h.1.size), h.2.1.below hb h.2.1.lt, h.2.2.below hb h.2.2.lt⟩
theorem Bx2.alloc {w w1 : World} {f g : Fm} (h : Bx2 w w1 f g) (o : Obj) : Bx2 w (w1.alloc o) f g := h.below ((Below.refl _ w1).alloc (Nat.le_refl _) o)
theorem Bx2.new (w : World) (f g : Fm) : Bx2 w ((w.alloc (.cells #[.int .i64 f.k, .int .i64 f.p, .int .u64 f.e, .slice f.a f.n f.c] 25)).alloc (.cells #[.int .i64 g.k, .int .i64 g.p, .int .u64 g.e, .slice g.a g.n g.c] 25)) f g := by
  refine ⟨((Below.refl _ w).alloc (Nat.le_refl _) _).alloc (by simp) _, (Blk.new w 25 f.cells).alloc _, ?_⟩
  have := Blk.new (w.alloc (.cells #[.int .i64 f.k, .int .i64 f.p, .int .u64 f.e, .slice f.a f.n f.c] 25)) 25 g.cells
  rw [World.size_alloc] at this
  exact this
theorem Bx2.cells {w w1 : World} {f g : Fm} (h : Bx2 w w1 f g) : (w1.cell? ⟨w.heap.size, 0, none⟩ = some (.int .i64 f.k) ∧ w1.cell? ⟨w.heap.size, 1, none⟩ = some (.int .i64 f.p) ∧ w1.cell? ⟨w.heap.size, 2, none⟩ = some (.int .u64 f.e) ∧ w1.cell? ⟨w.heap.size, 3, none⟩ = some (.slice f.a f.n f.c)) ∧
    (w1.cell? ⟨w.heap.size + 1, 0, none⟩ = some (.int .i64 g.k) ∧ w1.cell? ⟨w.heap.size + 1, 1, none⟩ = some (.int .i64 g.p) ∧ w1.cell? ⟨w.heap.size + 1, 2, none⟩ = some (.int .u64 g.e) ∧ w1.cell? ⟨w.heap.size + 1, 3, none⟩ = some (.slice g.a g.n g.c)) := ⟨box_cells h.2.1, box_cells h.2.2⟩

theorem live_b2 (w : World) (f g : Fm) (hT : Tab w) (w1 : World) (h : Bx2 w w1 f g) :
    Calls Tryd.prog 8 #[] w1 fun e w2 => e = .returned (.bool true) ∧ Bx2 w w2 f g := by
  refine (liveF_any w1 (hT.below h.1)).mono ?_
  rintro e w2 ⟨rfl, hb⟩
  exact ⟨rfl, h.below hb⟩
theorem short_b2 (w : World) (f g : Fm) (w1 : World) (h : Bx2 w w1 f g) :
    Calls Tryd.prog 9 #[.slice (some ⟨w1.heap.size, 0, none⟩) 2 2] (w1.alloc (.cells #[.int .i64 f.k, .int .i64 f.p, .int .u64 f.e, .slice f.a f.n f.c, .int .i64 g.k, .int .i64 g.p, .int .u64 g.e, .slice g.a g.n g.c] 25)) fun e w2 => e = .returned (.bool (decide (f.n ≤ 3000 ∧ g.n ≤ 3000))) ∧ Bx2 w w2 f g := by
  have hB := Blk.new w1 25 (f.cells ++ g.cells)
  refine (short_any _ w1.heap.size [f, g] (by simpa [Fm.cells] using hB) (by simp)).mono ?_
  rintro e w2 ⟨rfl, hb⟩
  refine ⟨?_, (h.alloc _).below hb⟩
  unfold shortB
  congr 2
  rw [Bool.eq_iff_iff]
  simp

/-- the bytes that Put answers -/
def putS (k p : Int) (e : Nat) (zs : List Int) : List Int := if checkS k p zs.length = 0 then pageS k.toNat p.toNat e zs else []
theorem putS_ok {k p : Int} {e : Nat} {zs : List Int} (hz : ByteOk zs) : ByteOk (putS k p e zs) := by
  unfold putS
  split
  · rename_i h
    have := checkS_ok.1 h
    exact pageS_ok (by omega) hz
  · intro z hz; cases hz
theorem putS_len {k p : Int} {e : Nat} {zs : List Int} : (putS k p e zs).length ≤ 256 := by
  unfold putS
  split
  · rw [pageS_len]; omega
  · simp

theorem put_any (w : World) (k p : Int) (e : Nat) (a : Option Addr) (c : Nat) (zs : List Int) (h : Sl w (.slice a zs.length c) zs) (hT : Tab w) (he : e < 18446744073709551616) :
    Calls Tryd.prog 11 #[.agg #[.int .i64 k, .int .i64 p, .int .u64 e, .slice a zs.length c]] w fun r w' => ∃ a' c', r = .returned (.tuple #[.slice a' (putS k p e zs).length c', .int .i64 (checkS k p zs.length)]) ∧ w'.ownsRow w.heap.size 5 1 (.slice a' (putS k p e zs).length c') (putS k p e zs).length ((putS k p e zs).map (Value.int .u8)) ∧ Below w.heap.size w w' := by
  by_cases hc : checkS k p zs.length = 0
  · obtain ⟨hk, hp, hz⟩ := checkS_ok.1 hc
    obtain ⟨K, rfl⟩ : ∃ K : Nat, k = K := ⟨k.toNat, by omega⟩
    obtain ⟨P, rfl⟩ : ∃ P : Nat, p = P := ⟨p.toNat, by omega⟩
    have ep : putS K P e zs = pageS K P e zs := by unfold putS; rw [if_pos hc]; rfl
    rw [ep, hc]
    refine (put_ok w K P e _ zs h hT (by omega) (by omega) he hz).mono ?_
    rintro r w' ⟨u, rfl, ho, hb⟩
    obtain ⟨a', n', c', rfl⟩ := sl_form (sl_of_own ho (pageS_ok (by omega) h.bytes) rfl)
    obtain rfl := own_n ho
    rw [pageS_len]
    exact ⟨a', c', rfl, ho, hb⟩
  · have ep : putS k p e zs = [] := by unfold putS; rw [if_neg hc]
    rw [ep]
    refine (put_bad w k p e zs.length c a hc).mono ?_
    rintro r w' ⟨rfl, hb⟩
    exact ⟨none, 0, rfl, own_nil _ _ _, hb⟩
theorem refPut_any (w : World) (k p : Int) (e : Nat) (a : Option Addr) (c : Nat) (zs : List Int) (h : Sl w (.slice a zs.length c) zs) (he : e < 18446744073709551616) :
    Calls Tryd.prog 12 #[.agg #[.int .i64 k, .int .i64 p, .int .u64 e, .slice a zs.length c]] w fun r w' => ∃ a' c', r = .returned (.tuple #[.slice a' (putS k p e zs).length c', .int .i64 (checkS k p zs.length)]) ∧ Sl w' (.slice a' (putS k p e zs).length c') (putS k p e zs) ∧ Below w.heap.size w w' := by
  have hok := putS_ok (k := k) (p := p) (e := e) h.bytes
  by_cases hc : checkS k p zs.length = 0
  · obtain ⟨hk, hp, hz⟩ := checkS_ok.1 hc
    obtain ⟨K, rfl⟩ : ∃ K : Nat, k = K := ⟨k.toNat, by omega⟩
    obtain ⟨P, rfl⟩ : ∃ P : Nat, p = P := ⟨p.toNat, by omega⟩
    have ep : putS K P e zs = pageS K P e zs := by unfold putS; rw [if_pos hc]; rfl
    rw [ep, hc]
    refine (refPut_ok w K P e a c zs h (by omega) (by omega) he hz).mono ?_
    rintro r w' ⟨u, rfl, ho, hb⟩
    have hS := sl_of_own ho (pageS_ok (by omega) h.bytes) rfl
    obtain ⟨a', n', c', rfl⟩ := sl_form hS
    obtain rfl := own_n ho
    rw [pageS_len]
    exact ⟨a', c', rfl, hS, hb⟩
  · have ep : putS k p e zs = [] := by unfold putS; rw [if_neg hc]
    rw [ep]
    refine (refPut_bad w k p e zs.length c a hc).mono ?_
    rintro r w' ⟨rfl, hb⟩
    exact ⟨none, 0, rfl, Sl.nil _, hb⟩

/-- a call in the region: its value, and that it leaves what is there -/
theorem call_gives {P : Program} {f : FuncId} {args : Array Value} {wx : World} {v : Value} {F : Value → World → Prop} (h : Calls P f args wx fun r w' => r = .returned v ∧ Below wx.heap.size wx w') (hF : ∀ w', F v w') :
    Calls P f args wx fun e w' => ∃ v, e = .returned v ∧ Below wx.heap.size wx w' ∧ F v w' := by
  refine h.mono ?_
  rintro r w' ⟨rfl, hb⟩
  exact ⟨_, rfl, hb, hF w'⟩

set_option maxRecDepth 20000 in
set_option maxHeartbeats 16000000 in
theorem framePuts_walk (w : World) (v : Value) (f : Fm) (xs : List Int) (v' : Value) (g : Fm) (ys : List Int) (hf : FrIn w v f xs) (hg : FrIn w v' g ys) (hT : Tab w) :
    Calls Tryd.prog 3 #[v, v'] w fun e w' => e = .returned (.bool true) ∧ Below w.heap.size w w' := by
  obtain ⟨rfl, hX, he⟩ := hf
  obtain ⟨rfl, hY, he'⟩ := hg
  obtain ⟨k, p, e, a, n, c⟩ := f
  obtain ⟨k', p', e', a', n', c'⟩ := g
  simp only at hX he hY he'
  obtain rfl := (sl_cap hX).1
  obtain rfl := (sl_cap hY).1
  unfold Fm.val
  simp only
  have HN := hide (Bx2.new w ⟨k, p, e, a, xs.length, c⟩ ⟨k', p', e', a', ys.length, c'⟩)
  have HL := hide (live_b2 w ⟨k, p, e, a, xs.length, c⟩ ⟨k', p', e', a', ys.length, c'⟩ hT)
  have HS := hide (short_b2 w ⟨k, p, e, a, xs.length, c⟩ ⟨k', p', e', a', ys.length, c'⟩)
  simp only at HN HS
  by_cases hn : xs.length ≤ 3000 ∧ ys.length ≤ 3000
  · rw [decide_eq_true hn] at HS
    have HCL : Hid (∀ w1, Below w.heap.size w w1 → Calls Tryd.prog 10 #[.slice a xs.length c] w1 fun r w2 => ∃ a2 l2, r = .returned (.slice a2 xs.length l2) ∧ Sl w2 (.slice a2 xs.length l2) xs ∧ Below w1.heap.size w1 w2) := by
      intro w1 hb
      refine (clone_any w1 _ xs (hX.below hb) (by omega)).mono ?_
      rintro r w2 ⟨u, rfl, ho, hb2⟩
      have hS := sl_of_own_len ho hX.bytes
      obtain ⟨a2, n2, l2, rfl⟩ := sl_form hS
      obtain rfl := own_n ho
      exact ⟨a2, l2, rfl, hS, hb2⟩
    have HPU := hide (fun w1 (hb : Below w.heap.size w w1) => put_any w1 k p e a c xs (hX.below hb) (hT.below hb) he)
    have HRP := hide (fun w1 (hb : Below w.heap.size w w1) => refPut_any w1 k p e a c xs (hX.below hb) he)
    have HC1 := hide (fun w1 => check_any w1 k p e xs.length c a)
    have HC2 := hide (fun w1 => refCheck_any w1 k p e xs.length c a)
    have HS1 := hide (fun w1 (hb : Below w.heap.size w w1) => same_any w1 k p k' p' e e' a a' c c' xs ys (hX.below hb) (hY.below hb) hn.1 hn.2)
    have HS2 := hide (fun w1 (hb : Below w.heap.size w w1) => refSame_any w1 k p k' p' e e' a a' c c' xs ys (hX.below hb) (hY.below hb))
    have HEQ := hide (fun w1 (u : Value) (hb : Below w.heap.size w w1) (h : Sl w1 u xs) => equal_any w1 _ u xs xs (hX.below hb) h)
    have hXok := putS_ok (k := k) (p := p) (e := e) hX.bytes
    have hXl := putS_len (k := k) (p := p) (e := e) (zs := xs)
    obtain ⟨E, hE⟩ : ∃ E, E = checkS k p xs.length := ⟨_, rfl⟩
    obtain ⟨SB, hSB⟩ : ∃ SB, SB = sameB k p e xs k' p' e' ys := ⟨_, rfl⟩
    obtain ⟨X, hXX⟩ : ∃ X, X = putS k p e xs := ⟨_, rfl⟩
    rw [← hE] at HPU HRP HC1 HC2
    rw [← hSB] at HS1 HS2
    rw [← hXX] at HPU HRP hXok hXl
    unfold frV at HC1 HC2
    have HEX := hide (fun w1 (u u' : Value) (h : Sl w1 u X) (h' : Sl w1 u' X) => equal_any w1 u u' X X h h')
    rw [decide_eq_true rfl] at HEX HEQ
    clear hX hY hE hSB hXX hT
    go_enter Tryd.func3, Tryd.ntmps3
    go_wp2_with (first
      | (go_at_call 8; refine (HL.out _ HN.out).mono ?_; rintro e1 w1 ⟨rfl, b1⟩; obtain ⟨⟨c0, c1, c2, c3⟩, d0, d1, d2, d3⟩ := b1.cells; have HS1' := hide (HS.out w1 b1); clear HN HS b1)
      | (go_at_call 9; refine HS1'.out.mono ?_; rintro e1 w2 ⟨rfl, b2⟩; clear c0 c1 c2 c3 d0 d1 d2 d3; obtain ⟨⟨c0, c1, c2, c3⟩, d0, d1, d2, d3⟩ := b2.cells; have HB2 := hide b2; have HCL2 := hide (HCL.out w2 b2.1); clear HS1' HCL b2)
      | (go_at_call 10; refine HCL2.out.mono ?_; rintro e1 w3 ⟨a3, l3, rfl, S3, hb3⟩; have b3 := HB2.out.below hb3; clear c0 c1 c2 c3 d0 d1 d2 d3; obtain ⟨⟨c0, c1, c2, c3⟩, d0, d1, d2, d3⟩ := b3.cells; have HB3 := hide b3; have HS3 := hide S3; have HPU3 := hide (HPU.out w3 b3.1); clear HCL2 HPU HB2 b3 S3 hb3)
      | (go_at_call 11; refine HPU3.out.mono ?_; rintro e1 w4 ⟨a4, l4, rfl, O4, hb4⟩; have b4 := HB3.out.below hb4; clear c0 c1 c2 c3 d0 d1 d2 d3; obtain ⟨⟨c0, c1, c2, c3⟩, d0, d1, d2, d3⟩ := b4.cells; have HB4 := hide b4; have HO4 := hide O4; have Hb4 := hide hb4; have HRP4 := hide (HRP.out w4 b4.1); clear HPU3 HRP b4 O4 hb4)
      | (go_at_call 12; refine HRP4.out.mono ?_; rintro e1 w5 ⟨a5, l5, rfl, S5, hb5⟩; have b5 := HB4.out.below hb5; clear c0 c1 c2 c3 d0 d1 d2 d3; have HB5 := hide b5; have HS5 := hide S5; have HO5 := hide (own_keep HO4.out hb5); have Hb5 : Hid (Below w3.heap.size w3 w5) := Hb4.out.trans (hb5.mono Hb4.out.size); clear HRP4 HO4 HB4 b5 S5 hb5))
    have HXS : Hid (Sl w5 (.slice a4 X.length l4) X) := sl_of_own_len HO5.out hXok
    refine wp_region_facts (FL [isV (.agg #[.int .i64 k, .int .i64 p, .int .u64 e, .slice a xs.length c]), isV (.int .i64 E), isV (.agg #[.int .i64 k, .int .i64 p, .int .u64 e, .slice a xs.length c]), isV (.int .i64 E), isV (.bool false), isV (.bool false), isV (.agg #[.int .i64 k, .int .i64 p, .int .u64 e, .slice a xs.length c]), isV (.agg #[.int .i64 k', .int .i64 p', .int .u64 e', .slice a' ys.length c']), isV (.bool SB), isV (.agg #[.int .i64 k, .int .i64 p, .int .u64 e, .slice a xs.length c]), isV (.agg #[.int .i64 k', .int .i64 p', .int .u64 e', .slice a' ys.length c']), isV (.bool SB), isV (.bool false), isV (.bool false), isV (.bool false), isV (.slice a4 X.length l4), isV (.slice a5 X.length l5), isV (.bool true), isV (.bool false), isV (.bool false), isV (.bool false), isV (.int .i64 E), isV (.int .i64 E), isV (.bool false), isV (.bool false)]) 75 (by kernel_rfl) (by kernel_rfl) (by kernel_rfl) rfl (FL_stable _ (by repeat (first | exact trivial | refine ⟨stable_isV _, ?_⟩))) ?_ ?_
    · refine ⟨?_, ?_, ?_, ?_, ?_, ?_, ?_, ?_, ?_, ?_, ?_, ?_, ?_, ?_, ?_, ?_, ?_, ?_, ?_, ?_, ?_, ?_, ?_, ?_, ?_, trivial⟩
      · intro act wx h
        have e2 : act.eval (.tmp 2) = .pointer (some ⟨w.heap.size, 0, none⟩) := h.old 2 (by kernel_rfl)
        have hbel := h.below
        clear h
        obtain ⟨⟨x0, x1, x2, x3⟩, y0, y1, y2, y3⟩ := (HB5.out.below hbel).cells
        refine gives_by rfl act.eval rfl ?_
        generalize act.eval = ρ at *
        intro hf hc
        go_simp
        exact ⟨Below.refl _ _, rfl⟩
      · intro act wx h
        obtain ⟨v34, e34, f34⟩ := h.val 0 34 (by kernel_rfl)
        obtain rfl : v34 = .agg #[.int .i64 k, .int .i64 p, .int .u64 e, .slice a xs.length c] := f34
        have hbel := h.below
        clear h
        refine gives_by rfl act.eval rfl ?_
        generalize act.eval = ρ at *
        intro hf hc
        go_simp
        exact call_gives (HC1.out wx) (fun _ => rfl)
      · intro act wx h
        have e2 : act.eval (.tmp 2) = .pointer (some ⟨w.heap.size, 0, none⟩) := h.old 2 (by kernel_rfl)
        have hbel := h.below
        clear h
        obtain ⟨⟨x0, x1, x2, x3⟩, y0, y1, y2, y3⟩ := (HB5.out.below hbel).cells
        refine gives_by rfl act.eval rfl ?_
        generalize act.eval = ρ at *
        intro hf hc
        go_simp
        exact ⟨Below.refl _ _, rfl⟩
      · intro act wx h
        obtain ⟨v36, e36, f36⟩ := h.val 2 36 (by kernel_rfl)
        obtain rfl : v36 = .agg #[.int .i64 k, .int .i64 p, .int .u64 e, .slice a xs.length c] := f36
        have hbel := h.below
        clear h
        refine gives_by rfl act.eval rfl ?_
        generalize act.eval = ρ at *
        intro hf hc
        go_simp
        exact call_gives (HC2.out wx) (fun _ => rfl)
      · intro act wx h
        obtain ⟨v35, e35, f35⟩ := h.val 1 35 (by kernel_rfl)
        obtain rfl : v35 = .int .i64 E := f35
        obtain ⟨v37, e37, f37⟩ := h.val 3 37 (by kernel_rfl)
        obtain rfl : v37 = .int .i64 E := f37
        have hbel := h.below
        clear h
        refine gives_by rfl act.eval rfl ?_
        generalize act.eval = ρ at *
        intro hf hc
        go_simp
        exact ⟨Below.refl _ _, rfl⟩
      · intro act wx h
        obtain ⟨v38, e38, f38⟩ := h.val 4 38 (by kernel_rfl)
        obtain rfl : v38 = .bool false := f38
        have hbel := h.below
        clear h
        refine gives_by rfl act.eval rfl ?_
        generalize act.eval = ρ at *
        intro hf hc
        go_simp
        exact ⟨Below.refl _ _, rfl⟩
      · intro act wx h
        have e2 : act.eval (.tmp 2) = .pointer (some ⟨w.heap.size, 0, none⟩) := h.old 2 (by kernel_rfl)
        have hg := h.guard 5 39 (by kernel_rfl) false (fun v hv => hv)
        have hbel := h.below
        clear h
        obtain ⟨⟨x0, x1, x2, x3⟩, y0, y1, y2, y3⟩ := (HB5.out.below hbel).cells
        refine gives_by (by simp only [Region.wanted, hg]; rfl) act.eval rfl ?_
        generalize act.eval = ρ at *
        intro hf hc
        go_simp
        exact ⟨Below.refl _ _, rfl⟩
      · intro act wx h
        have e3 : act.eval (.tmp 3) = .pointer (some ⟨w.heap.size + 1, 0, none⟩) := h.old 3 (by kernel_rfl)
        have hg := h.guard 5 39 (by kernel_rfl) false (fun v hv => hv)
        have hbel := h.below
        clear h
        obtain ⟨⟨x0, x1, x2, x3⟩, y0, y1, y2, y3⟩ := (HB5.out.below hbel).cells
        refine gives_by (by simp only [Region.wanted, hg]; rfl) act.eval rfl ?_
        generalize act.eval = ρ at *
        intro hf hc
        go_simp
        exact ⟨Below.refl _ _, rfl⟩
      · intro act wx h
        obtain ⟨v40, e40, f40⟩ := h.val 6 40 (by kernel_rfl)
        obtain rfl : v40 = .agg #[.int .i64 k, .int .i64 p, .int .u64 e, .slice a xs.length c] := f40
        obtain ⟨v41, e41, f41⟩ := h.val 7 41 (by kernel_rfl)
        obtain rfl : v41 = .agg #[.int .i64 k', .int .i64 p', .int .u64 e', .slice a' ys.length c'] := f41
        have hg := h.guard 5 39 (by kernel_rfl) false (fun v hv => hv)
        have hbel := h.below
        clear h
        refine gives_by (by simp only [Region.wanted, hg]; rfl) act.eval rfl ?_
        generalize act.eval = ρ at *
        intro hf hc
        go_simp
        exact call_gives (HS1.out wx (HB5.out.below hbel).1) (fun _ => rfl)
      · intro act wx h
        have e2 : act.eval (.tmp 2) = .pointer (some ⟨w.heap.size, 0, none⟩) := h.old 2 (by kernel_rfl)
        have hg := h.guard 5 39 (by kernel_rfl) false (fun v hv => hv)
        have hbel := h.below
        clear h
        obtain ⟨⟨x0, x1, x2, x3⟩, y0, y1, y2, y3⟩ := (HB5.out.below hbel).cells
        refine gives_by (by simp only [Region.wanted, hg]; rfl) act.eval rfl ?_
        generalize act.eval = ρ at *
        intro hf hc
        go_simp
        exact ⟨Below.refl _ _, rfl⟩
      · intro act wx h
        have e3 : act.eval (.tmp 3) = .pointer (some ⟨w.heap.size + 1, 0, none⟩) := h.old 3 (by kernel_rfl)
        have hg := h.guard 5 39 (by kernel_rfl) false (fun v hv => hv)
        have hbel := h.below
        clear h
        obtain ⟨⟨x0, x1, x2, x3⟩, y0, y1, y2, y3⟩ := (HB5.out.below hbel).cells
        refine gives_by (by simp only [Region.wanted, hg]; rfl) act.eval rfl ?_
        generalize act.eval = ρ at *
        intro hf hc
        go_simp
        exact ⟨Below.refl _ _, rfl⟩
      · intro act wx h
        obtain ⟨v43, e43, f43⟩ := h.val 9 43 (by kernel_rfl)
        obtain rfl : v43 = .agg #[.int .i64 k, .int .i64 p, .int .u64 e, .slice a xs.length c] := f43
        obtain ⟨v44, e44, f44⟩ := h.val 10 44 (by kernel_rfl)
        obtain rfl : v44 = .agg #[.int .i64 k', .int .i64 p', .int .u64 e', .slice a' ys.length c'] := f44
        have hg := h.guard 5 39 (by kernel_rfl) false (fun v hv => hv)
        have hbel := h.below
        clear h
        refine gives_by (by simp only [Region.wanted, hg]; rfl) act.eval rfl ?_
        generalize act.eval = ρ at *
        intro hf hc
        go_simp
        exact call_gives (HS2.out wx (HB5.out.below hbel).1) (fun _ => rfl)
      · intro act wx h
        obtain ⟨v42, e42, f42⟩ := h.val 8 42 (by kernel_rfl)
        obtain rfl : v42 = .bool SB := f42
        obtain ⟨v45, e45, f45⟩ := h.val 11 45 (by kernel_rfl)
        obtain rfl : v45 = .bool SB := f45
        have hg := h.guard 5 39 (by kernel_rfl) false (fun v hv => hv)
        have hbel := h.below
        clear h
        refine gives_by (by simp only [Region.wanted, hg]; rfl) act.eval rfl ?_
        generalize act.eval = ρ at *
        intro hf hc
        go_simp
        exact ⟨Below.refl _ _, rfl⟩
      · intro act wx h
        obtain ⟨v39, e39, f39⟩ := h.val 5 39 (by kernel_rfl)
        obtain rfl : v39 = .bool false := f39
        obtain ⟨v46, e46, f46⟩ := h.val 12 46 (by kernel_rfl)
        obtain rfl : v46 = .bool false := f46
        have hbel := h.below
        clear h
        refine gives_by rfl act.eval rfl ?_
        generalize act.eval = ρ at *
        intro hf hc
        go_simp
        exact ⟨Below.refl _ _, rfl⟩
      · intro act wx h
        obtain ⟨v47, e47, f47⟩ := h.val 13 47 (by kernel_rfl)
        obtain rfl : v47 = .bool false := f47
        have hbel := h.below
        clear h
        refine gives_by rfl act.eval rfl ?_
        generalize act.eval = ρ at *
        intro hf hc
        go_simp
        exact ⟨Below.refl _ _, rfl⟩
      · intro act wx h
        have e6 : act.eval (.tmp 6) = .slice a4 X.length l4 := h.old 6 (by kernel_rfl)
        have hg := h.guard 14 48 (by kernel_rfl) false (fun v hv => hv)
        have hbel := h.below
        clear h
        refine gives_by (by simp only [Region.wanted, hg]; rfl) act.eval rfl ?_
        generalize act.eval = ρ at *
        intro hf hc
        go_simp
        exact ⟨Below.refl _ _, rfl⟩
      · intro act wx h
        have e8 : act.eval (.tmp 8) = .slice a5 X.length l5 := h.old 8 (by kernel_rfl)
        have hg := h.guard 14 48 (by kernel_rfl) false (fun v hv => hv)
        have hbel := h.below
        clear h
        refine gives_by (by simp only [Region.wanted, hg]; rfl) act.eval rfl ?_
        generalize act.eval = ρ at *
        intro hf hc
        go_simp
        exact ⟨Below.refl _ _, rfl⟩
      · intro act wx h
        obtain ⟨v49, e49, f49⟩ := h.val 15 49 (by kernel_rfl)
        obtain rfl : v49 = .slice a4 X.length l4 := f49
        obtain ⟨v50, e50, f50⟩ := h.val 16 50 (by kernel_rfl)
        obtain rfl : v50 = .slice a5 X.length l5 := f50
        have hg := h.guard 14 48 (by kernel_rfl) false (fun v hv => hv)
        have hbel := h.below
        clear h
        refine gives_by (by simp only [Region.wanted, hg]; rfl) act.eval rfl ?_
        generalize act.eval = ρ at *
        intro hf hc
        go_simp
        refine (HEX.out wx _ _ (HXS.out.below hbel) (HS5.out.below hbel)).mono ?_
        rintro r w' ⟨rfl, rfl⟩
        exact ⟨_, rfl, Below.refl _ _, rfl⟩
      · intro act wx h
        obtain ⟨v51, e51, f51⟩ := h.val 17 51 (by kernel_rfl)
        obtain rfl : v51 = .bool true := f51
        have hg := h.guard 14 48 (by kernel_rfl) false (fun v hv => hv)
        have hbel := h.below
        clear h
        refine gives_by (by simp only [Region.wanted, hg]; rfl) act.eval rfl ?_
        generalize act.eval = ρ at *
        intro hf hc
        go_simp
        exact ⟨Below.refl _ _, rfl⟩
      · intro act wx h
        obtain ⟨v48, e48, f48⟩ := h.val 14 48 (by kernel_rfl)
        obtain rfl : v48 = .bool false := f48
        obtain ⟨v52, e52, f52⟩ := h.val 18 52 (by kernel_rfl)
        obtain rfl : v52 = .bool false := f52
        have hbel := h.below
        clear h
        refine gives_by rfl act.eval rfl ?_
        generalize act.eval = ρ at *
        intro hf hc
        go_simp
        exact ⟨Below.refl _ _, rfl⟩
      · intro act wx h
        obtain ⟨v53, e53, f53⟩ := h.val 19 53 (by kernel_rfl)
        obtain rfl : v53 = .bool false := f53
        have hbel := h.below
        clear h
        refine gives_by rfl act.eval rfl ?_
        generalize act.eval = ρ at *
        intro hf hc
        go_simp
        exact ⟨Below.refl _ _, rfl⟩
      · intro act wx h
        have e7 : act.eval (.tmp 7) = .int .i64 E := h.old 7 (by kernel_rfl)
        have hg := h.guard 20 54 (by kernel_rfl) false (fun v hv => hv)
        have hbel := h.below
        clear h
        refine gives_by (by simp only [Region.wanted, hg]; rfl) act.eval rfl ?_
        generalize act.eval = ρ at *
        intro hf hc
        go_simp
        exact ⟨Below.refl _ _, rfl⟩
      · intro act wx h
        have e9 : act.eval (.tmp 9) = .int .i64 E := h.old 9 (by kernel_rfl)
        have hg := h.guard 20 54 (by kernel_rfl) false (fun v hv => hv)
        have hbel := h.below
        clear h
        refine gives_by (by simp only [Region.wanted, hg]; rfl) act.eval rfl ?_
        generalize act.eval = ρ at *
        intro hf hc
        go_simp
        exact ⟨Below.refl _ _, rfl⟩
      · intro act wx h
        obtain ⟨v55, e55, f55⟩ := h.val 21 55 (by kernel_rfl)
        obtain rfl : v55 = .int .i64 E := f55
        obtain ⟨v56, e56, f56⟩ := h.val 22 56 (by kernel_rfl)
        obtain rfl : v56 = .int .i64 E := f56
        have hg := h.guard 20 54 (by kernel_rfl) false (fun v hv => hv)
        have hbel := h.below
        clear h
        refine gives_by (by simp only [Region.wanted, hg]; rfl) act.eval rfl ?_
        generalize act.eval = ρ at *
        intro hf hc
        go_simp
        exact ⟨Below.refl _ _, rfl⟩
      · intro act wx h
        obtain ⟨v54, e54, f54⟩ := h.val 20 54 (by kernel_rfl)
        obtain rfl : v54 = .bool false := f54
        obtain ⟨v57, e57, f57⟩ := h.val 23 57 (by kernel_rfl)
        obtain rfl : v57 = .bool false := f57
        have hbel := h.below
        clear h
        refine gives_by rfl act.eval rfl ?_
        generalize act.eval = ρ at *
        intro hf hc
        go_simp
        exact ⟨Below.refl _ _, rfl⟩
    · intro vals w6 hb6 hv
      have hv24 : vals 24 = .bool false := hv 24 58 (by kernel_rfl)
      clear hv
      have HB6 := hide (HB5.out.below hb6)
      have hO6 := own_keep HO5.out hb6
      have hb36 : Below w3.heap.size w3 w6 := Hb5.out.trans (hb6.mono Hb5.out.size)
      generalize hact : putAll _ vals 0 _ = act
      subst hact
      simp only [putAll, Act.put, List.setIfInBounds_toArray, List.set_cons_zero, List.set_cons_succ, hv24, Nat.zero_add, Nat.reduceAdd]
      clear hv24 HC1 HC2 HS1 HS2 HEX HXS HS5 HO5 HB5 Hb4 Hb5 hb6
      go_wp2
      go_loopg [61] X.length (fun gl i wr => ∃ (j : Nat) (Z : List Int), gl + j = X.length ∧ i = .int .i64 j ∧ Z.length = X.length ∧ ByteOk Z ∧ wr.ownsRow w3.heap.size 5 1 (.slice a4 X.length l4) Z.length (Z.map (Value.int .u8)) ∧ Below w3.heap.size w3 wr)
      case atStart => exact ⟨0, X, by omega, rfl, rfl, hXok, hO6, hb36⟩
      case round =>
        obtain ⟨j, Z, hj, rfl, hZl, hZok, hown, hbr⟩ := hrel
        have HOW := hide hown
        have HBR := hide hbr
        clear hO6 hb36 HB6
        cases gk with
        | zero =>
          obtain rfl : j = X.length := by omega
          have br := HB3.out.below hbr
          obtain ⟨⟨c0, c1, c2, c3⟩, d0, d1, d2, d3⟩ := br.cells
          have HE6 := hide (HEQ.out wr _ br.1 (HS3.out.below hbr))
          have HBB := hide br.1
          clear hbr br hown HEQ
          go_wp2_with (go_at_call 17; refine HE6.out.mono ?_; rintro e1 w7 ⟨rfl, hw⟩; subst w7; clear HE6)
          go_ret
          exact ⟨rfl, HBB.out⟩
        | succ gl =>
          have hjl : j < X.length := by omega
          have hji : (j : Int) < (X.length : Int) := by omega
          have hjZ : j < Z.length := by omega
          rw [hZl] at hown
          obtain ⟨gx, cp, cur, hv, hgb, _⟩ : ∃ gx cap cur, Value.slice a4 X.length l4 = .slice (some ⟨gx, 0, none⟩) X.length cap ∧ w3.heap.size ≤ gx ∧ wr.heap[gx]? = some (.cells cur 5 (0, 0)) := by
            rcases hown.2 with ⟨h1, h2⟩ | ⟨g', cap, cur, h1, h2, h3, _⟩
            · omega
            · exact ⟨g', cap, cur, h1, h2, h3⟩
          simp only [Value.slice.injEq, true_and] at hv
          obtain ⟨rfl, rfl⟩ := hv
          have hxb := hZok.get j
          obtain ⟨x, hx⟩ : ∃ x, x = Z.getD j 0 := ⟨_, rfl⟩
          have hcl : wr.cell? ⟨gx, j, none⟩ = some (.int .u8 x) := by
            rw [hown.cellAt j (by omega), hx, getD_lt _ hjZ, List.getElem?_map, List.getElem?_eq_getElem hjZ]
            rfl
          rw [← hx] at hxb
          obtain ⟨hxy0, hyb⟩ := xor8' x 255 hxb (by omega)
          obtain ⟨y, hy⟩ : ∃ y, y = xorB x ((255 : Nat) : Int) := ⟨_, rfl⟩
          rw [← hy] at hxy0 hyb
          have hxy : bits .xor .u8 x 255 = y := hxy0
          have hfr := hown.frozenAt j
          have hst := (hown.stored j (.int .u8 y)).1
          have hset : (Z.map (Value.int .u8)).set j (.int .u8 y) = (Z.set j y).map (Value.int .u8) := by rw [List.map_set]
          rw [hset] at hst
          have hl2 : (Z.set j y).length = X.length := by rw [List.length_set]; exact hZl
          have hok2 : ByteOk (Z.set j y) := fun z hz => by
            rcases List.mem_or_eq_of_mem_set hz with h | h
            · exact hZok z h
            · omega
          have HST := hide hst
          have HBY := hide (Below.setCell (p := ⟨gx, j, none⟩) hbr hgb (.int .u8 y))
          clear hst hset hx hy hown hbr hxy0
          go_wp2
          go_roundg gl
          case measure => omega
          case rel => exact ⟨j + 1, Z.set j y, by omega, by go_num, hl2, hok2, by rw [hl2]; exact HST.out, HBY.out⟩
  · rw [decide_eq_false hn] at HS
    clear hX hY
    go_enter Tryd.func3, Tryd.ntmps3
    go_wp2_with (first
      | (go_at_call 8; refine (HL.out _ HN.out).mono ?_; rintro e1 w1 ⟨rfl, b1⟩; obtain ⟨⟨c0, c1, c2, c3⟩, d0, d1, d2, d3⟩ := b1.cells; have HS1 := hide (HS.out w1 b1); clear HN HS b1)
      | (go_at_call 9; refine HS1.out.mono ?_; rintro e1 w2 ⟨rfl, b2⟩; have HB2 := hide b2; clear HS1 b2 c0 c1 c2 c3 d0 d1 d2 d3)
      | (go_at_call 8; refine (HL.out _ HB2.out).mono ?_; rintro e1 w3 ⟨rfl, b3⟩; clear HB2))
    go_ret
    exact ⟨rfl, b3.1⟩

end Go.Proofs.YtlnedhbeciepdaaDoor
