/- Contracts: package fold's isRising, isNoRange asked of all ranges (slices.ContainsFunc), foldedBy. -/
import Derived.Test.YtimmfnjkknbofaaDoorJFRow
import Derived.Test.YtimmfnjkknbofaaDoorRegion
namespace Go.Proofs.YtimmfnjkknbofaaDoor
set_option maxRecDepth 20000
open Go.RowKit
set_option linter.unusedVariables false
set_option linter.unusedSimpArgs false
set_option maxRecDepth 100000

theorem Tbl.len {w : World} {v : Value} {xs : List Fd} (h : Tbl w v xs) : ∃ ao cap, v = .slice ao xs.length cap := by
  obtain ⟨_, ao, cap, rfl, _⟩ := h
  exact ⟨ao, cap, rfl⟩
theorem Tbl.max {w : World} {v : Value} {xs : List Fd} (h : Tbl w v xs) : xs.length ≤ 9223372036854775807 := by
  obtain ⟨_, ao, cap, rfl, h1, h2, _⟩ := h
  have : maxLen ≤ 9223372036854775807 := by decide
  omega
theorem Tbl.at {w : World} {ao : Option Addr} {n cap : Nat} {xs : List Fd} (h : Tbl w (.slice ao n cap) xs) (i : Nat) (hi : i < xs.length) : ∃ b off x, ao = some ⟨b, off, none⟩ ∧ xs[i]? = some x ∧ FdOk x ∧ w.cell? ⟨b, off + i * 3, none⟩ = some (.int .i32 x.1) ∧ w.cell? ⟨b, off + i * 3 + 1, none⟩ = some (.int .i32 x.2.1) ∧ w.cell? ⟨b, off + i * 3 + 2, none⟩ = some (.int .i64 x.2.2) := by
  obtain ⟨h0, ao', cap', he, _, _, h3⟩ := h
  obtain ⟨rfl, _, _⟩ : ao = ao' ∧ n = xs.length ∧ cap = cap' := by simpa using he
  obtain ⟨b, off, rfl, hc⟩ := h3 (by intro h; simp [h] at hi)
  have hg : xs.getD i (0, 0, 0) = xs[i] := by simp [List.getD, hi]
  have := hc i hi
  rw [hg] at this
  exact ⟨b, off, xs[i], rfl, by simp [hi], h0 _ (List.getElem_mem hi), this⟩
theorem drop_at {α : Type} {xs : List α} {i : Nat} {x : α} (h : xs[i]? = some x) : xs.drop i = x :: xs.drop (i + 1) := by
  obtain ⟨hi, rfl⟩ := List.getElem?_eq_some_iff.1 h
  exact List.drop_eq_getElem_cons hi

/-- what a table that may be folds r to -/
def foldL : List Fd → Int → Int
  | [], r => r
  | x :: xs, r => if x.1 ≤ r ∧ r ≤ x.1 + x.2.2 - 1 then x.2.1 + (r - x.1) else foldL xs r
def AllN (xs : List Fd) : Prop := ∀ x ∈ xs, NOk x.2.2 ∧ 0 ≤ x.1 ∧ x.1 ≤ 1279 ∧ 0 ≤ x.2.1 ∧ x.2.1 ≤ 1279

set_option maxHeartbeats 1000000 in
theorem foldedBy_any (w : World) (v : Value) (xs : List Fd) (r : Int) (hT : Tbl w v xs) (hN : AllN xs) (hr : I32 r) :
    Calls Tryd.prog 89 #[v, .int .i32 r] w fun e w' => e = .returned (.int .i32 (foldL xs r)) ∧ Below w.heap.size w w' := by
  obtain ⟨ao, cap, rfl⟩ := hT.len
  have hmx := hT.max
  have HT := hide hT
  have HN := hide hN
  have HI := hide hr
  obtain ⟨n, hn⟩ : ∃ n, xs.length = n := ⟨_, rfl⟩
  have HL := hide hn
  rw [hn] at HT hmx ⊢
  clear hT hN hr hn
  go_enter Tryd.func89, Tryd.ntmps89
  go_wp2
  go_loopg [9] n (fun k i wr => ∃ j : Nat, k + j = n ∧ i = .int .i64 (j : Int) ∧ foldL (xs.drop j) r = foldL xs r ∧ Below w.heap.size w wr)
  case atStart => exact ⟨0, rfl, rfl, rfl, Below.refl _ w⟩
  case round =>
    obtain ⟨j, hk, rfl, hs, hbw⟩ := hrel
    have HS := hide hs
    have HB := hide hbw
    clear hs hbw
    cases gk with
    | zero =>
      obtain rfl : j = n := by omega
      have hlt : ¬ (j : Int) < (j : Int) := by omega
      go_wp2
      go_ret
      exact ⟨ret_int (by rw [← HS.out, List.drop_eq_nil_of_le (by rw [HL.out]; exact Nat.le_refl _)]; rfl), HB.out⟩
    | succ k =>
      have hj : (j : Int) < (n : Int) := by omega
      obtain ⟨b, off, ⟨f, t, m⟩, rfl, hx, hok, q0, q1, q2⟩ := (HT.out.below HB.out).at j (by rw [HL.out]; omega)
      simp only at q0 q1 q2
      have hd := drop_at hx
      obtain ⟨⟨hm1, hm2⟩, hf1, hf2, ht1, ht2⟩ := HN.out _ (List.mem_of_getElem? hx)
      simp only at hm1 hm2 hf1 hf2 ht1 ht2
      have hI : -2147483648 ≤ r ∧ r ≤ 2147483647 := HI.out
      obtain ⟨W0, hW0⟩ : ∃ W0, wr.alloc (.cells #[.int .i32 f, .int .i32 t, .int .i64 m] 54) = W0 := ⟨_, rfl⟩
      have hb0 : Below w.heap.size w W0 := by rw [← hW0]; exact HB.out.alloc HB.out.size _
      have c0 : W0.cell? ⟨wr.heap.size, 0, none⟩ = some (.int .i32 f) := by rw [← hW0, World.cell?_alloc_at _ _ _ _ rfl]; rfl
      have c1 : W0.cell? ⟨wr.heap.size, 1, none⟩ = some (.int .i32 t) := by rw [← hW0, World.cell?_alloc_at _ _ _ _ rfl]; rfl
      have c2 : W0.cell? ⟨wr.heap.size, 2, none⟩ = some (.int .i64 m) := by rw [← hW0, World.cell?_alloc_at _ _ _ _ rfl]; rfl
      have hs0 := World.block_lt_of_cell? W0 _ c0
      have HZ : Hid (∀ W x u, Below W0.heap.size W0 W → W0.cell? ⟨wr.heap.size, x, none⟩ = some u → W.cell? ⟨wr.heap.size, x, none⟩ = some u) := fun W x u hb h => (World.cell?_of_block (w := W0) (a := ⟨wr.heap.size, x, none⟩) (hb.block _ hs0)).trans h
      have HF := hide (fromRow_any W0 f t m ⟨by omega, by omega⟩ ⟨hm1, hm2⟩)
      have HH : Hid (∀ W, Calls Tryd.prog 112 #[.agg #[.int .i64 f, .int .i64 (f + m - 1)], .int .i32 r] W fun e w' => e = .returned (.bool (decide (f ≤ r) && decide (r ≤ f + m - 1))) ∧ Below W.heap.size W w') := fun W => has_any W f (f + m - 1) r HI.out
      have C0 := hide c0
      have C1 := hide c1
      have HB0 := hide hb0
      clear hb0 hx hok
      obtain ⟨hI1, hI2⟩ := hI
      by_cases hin : f ≤ r ∧ r ≤ f + m - 1
      · have HR : Hid (foldL xs r = t + (r - f)) := by rw [← HS.out, hd]; exact if_pos hin
        have he : (decide (f ≤ r) && decide (r ≤ f + m - 1)) = true := by simp [hin.1, hin.2]
        rw [he] at HH
        obtain ⟨hi1, hi2⟩ := hin
        clear hd he
        go_wp2_with (first
          | (go_at_call 80; refine HF.out.mono ?_; rintro e w1 ⟨rfl, hb⟩; have HBF := hide hb; have HBL := hide (HB0.out.trans (hb.mono HB0.out.size)); clear HF hb c0 c1 c2; unfold rowV)
          | (go_at_call 112; refine (HH.out w1).mono ?_; rintro e w2 ⟨rfl, hb⟩; have HBM := hide (HBL.out.trans (hb.mono HBL.out.size)); have hg := HBF.out.trans (hb.mono HBF.out.size); have c0 := HZ.out w2 0 _ hg C0.out; have c1 := HZ.out w2 1 _ hg C1.out; clear HH hb hg))
        go_ret
        exact ⟨ret_int (by rw [HR.out]), HBM.out⟩
      · have HR : Hid (foldL (xs.drop (j + 1)) r = foldL xs r) := by rw [← HS.out, hd]; exact (if_neg hin).symm
        have he : (decide (f ≤ r) && decide (r ≤ f + m - 1)) = false := by simp; omega
        rw [he] at HH
        clear hd he hin
        go_wp2_with (first
          | (go_at_call 80; refine HF.out.mono ?_; rintro e w1 ⟨rfl, hb⟩; have HBF := hide hb; have HBL := hide (HB0.out.trans (hb.mono HB0.out.size)); clear HF hb c0 c1 c2; unfold rowV)
          | (go_at_call 112; refine (HH.out w1).mono ?_; rintro e w2 ⟨rfl, hb⟩; have HBM := hide (HBL.out.trans (hb.mono HBL.out.size)); clear HH hb))
        go_roundg k
        case measure => omega
        case rel => exact ⟨j + 1, by omega, by go_num, HR.out, HBM.out⟩

end Go.Proofs.YtimmfnjkknbofaaDoor
/- Contracts: package fold's isRising, Plain; isNoRange asked of all ranges. -/
namespace Go.Proofs.YtimmfnjkknbofaaDoor
set_option maxRecDepth 20000
open Go.RowKit
set_option linter.unusedVariables false
set_option linter.unusedSimpArgs false
set_option maxRecDepth 100000

/-- each range begins behind the last rune that the one ahead of it folds -/
def riseL : Int → List Fd → Bool
  | _, [] => true
  | l, x :: xs => !decide (x.1 ≤ l) && riseL (x.1 + x.2.2 - 1) xs

theorem riseL_no {l : Int} {x : Fd} {xs : List Fd} (h : x.1 ≤ l) : riseL l (x :: xs) = false := by rw [riseL, decide_eq_true h]; rfl
theorem riseL_on {l : Int} {x : Fd} {xs : List Fd} (h : ¬ x.1 ≤ l) : riseL l (x :: xs) = riseL (x.1 + x.2.2 - 1) xs := by rw [riseL, decide_eq_false h]; rfl

set_option maxHeartbeats 1000000 in
theorem isRising_any (w : World) (v : Value) (xs : List Fd) (hT : Tbl w v xs) (hN : ∀ x ∈ xs, NOk x.2.2) :
    Calls Tryd.prog 61 #[v] w fun e w' => e = .returned (.bool (riseL (-1) xs)) ∧ Below w.heap.size w w' := by
  obtain ⟨ao, cap, rfl⟩ := hT.len
  have hmx := hT.max
  have HT := hide hT
  have HN := hide hN
  obtain ⟨n, hn⟩ : ∃ n, xs.length = n := ⟨_, rfl⟩
  have HL := hide hn
  rw [hn] at HT hmx ⊢
  clear hT hN hn
  go_enter Tryd.func61, Tryd.ntmps61
  go_wp2
  go_loopg [3, 9] n (fun k l i wr => ∃ (j : Nat) (z : Int), k + j = n ∧ i = .int .i64 (j : Int) ∧ l = .int .i64 z ∧ riseL z (xs.drop j) = riseL (-1) xs ∧ Below w.heap.size w wr)
  case atStart => exact ⟨0, -1, rfl, rfl, rfl, rfl, Below.refl _ w⟩
  case round =>
    obtain ⟨j, z, hk, rfl, rfl, hs, hbw⟩ := hrel
    have HS := hide hs
    have HB := hide hbw
    clear hs hbw
    cases gk with
    | zero =>
      obtain rfl : j = n := by omega
      have hlt : ¬ (j : Int) < (j : Int) := by omega
      go_wp2
      go_ret
      exact ⟨ret_bool (by rw [← HS.out, List.drop_eq_nil_of_le (by rw [HL.out]; exact Nat.le_refl _)]; rfl), HB.out⟩
    | succ k =>
      have hj : (j : Int) < (n : Int) := by omega
      obtain ⟨b, off, ⟨f, t, m⟩, rfl, hx, hok, q0, q1, q2⟩ := (HT.out.below HB.out).at j (by rw [HL.out]; omega)
      simp only at q0 q1 q2
      have hd := drop_at hx
      have hm : NOk m := HN.out _ (List.mem_of_getElem? hx)
      have hf : I32 f := hok.1
      obtain ⟨W0, hW0⟩ : ∃ W0, wr.alloc (.cells #[.int .i32 f, .int .i32 t, .int .i64 m] 54) = W0 := ⟨_, rfl⟩
      have hb0 : Below w.heap.size w W0 := by rw [← hW0]; exact HB.out.alloc HB.out.size _
      have c0 : W0.cell? ⟨wr.heap.size, 0, none⟩ = some (.int .i32 f) := by rw [← hW0, World.cell?_alloc_at _ _ _ _ rfl]; rfl
      have c1 : W0.cell? ⟨wr.heap.size, 1, none⟩ = some (.int .i32 t) := by rw [← hW0, World.cell?_alloc_at _ _ _ _ rfl]; rfl
      have c2 : W0.cell? ⟨wr.heap.size, 2, none⟩ = some (.int .i64 m) := by rw [← hW0, World.cell?_alloc_at _ _ _ _ rfl]; rfl
      have HF := hide (fromRow_any W0 f t m hf hm)
      have HB0 := hide hb0
      clear hb0 hx hok hf hm
      by_cases hin : f ≤ z
      · have HR : Hid (riseL (-1) xs = false) := by rw [← HS.out, hd]; exact riseL_no (x := (f, t, m)) hin
        clear hd
        go_wp2_with (go_at_call 80; refine HF.out.mono ?_; rintro e w1 ⟨rfl, hb⟩; have HBL := hide (HB0.out.trans (hb.mono HB0.out.size)); clear HF hb c0 c1 c2; unfold rowV)
        go_ret
        exact ⟨ret_bool HR.out.symm, HBL.out.alloc HBL.out.size _⟩
      · have HR : Hid (riseL (f + m - 1) (xs.drop (j + 1)) = riseL (-1) xs) := by rw [← HS.out, hd]; exact (riseL_on (x := (f, t, m)) hin).symm
        clear hd
        go_wp2_with (go_at_call 80; refine HF.out.mono ?_; rintro e w1 ⟨rfl, hb⟩; have HBL := hide (HB0.out.trans (hb.mono HB0.out.size)); clear HF hb c0 c1 c2; unfold rowV)
        go_roundg k
        case measure => omega
        case rel => exact ⟨j + 1, f + m - 1, by omega, by go_num, rfl, HR.out, HBL.out.alloc HBL.out.size _⟩

def plainL : List Fd := [(65, 97, 26), (192, 224, 23), (216, 248, 7), (913, 945, 17), (931, 963, 7), (1040, 1072, 32)]

end Go.Proofs.YtimmfnjkknbofaaDoor
/- Contract: package fold's foldsTwice. -/
namespace Go.Proofs.YtimmfnjkknbofaaDoor
set_option maxRecDepth 20000
open Go.RowKit
set_option linter.unusedVariables false
set_option linter.unusedSimpArgs false
set_option maxRecDepth 100000

theorem call_gives {P : Program} {f : FuncId} {args : Array Value} {wx : World} {v : Value} {F : Value → World → Prop} (h : Calls P f args wx fun r w' => r = .returned v ∧ Below wx.heap.size wx w') (hF : ∀ w', F v w') :
    Calls P f args wx fun e w' => ∃ u, e = .returned u ∧ Below wx.heap.size wx w' ∧ F u w' := h.mono fun e w' ⟨he, hb⟩ => ⟨v, he, hb, hF w'⟩
def meetB (x y : Fd) : Bool := decide (x.2.1 ≤ y.1 + y.2.2 - 1) && decide (y.1 ≤ x.2.1 + x.2.2 - 1)
def twoB (x : Fd) (xs : List Fd) : Bool := xs.any (meetB x)
/-- a rune that one is folded to is folded itself -/
def twiceB (xs : List Fd) : Bool := xs.any fun x => twoB x xs
theorem any_yes {α : Type} {p : α → Bool} {x : α} {xs : List α} (h : p x = true) : (x :: xs).any p = true := by simp [h]
theorem any_no {α : Type} {p : α → Bool} {x : α} {xs : List α} (h : p x = false) : (x :: xs).any p = xs.any p := by simp [h]
def Cells3 (w : World) (b : Nat) (f t m : Int) : Prop := w.cell? ⟨b, 0, none⟩ = some (.int .i32 f) ∧ w.cell? ⟨b, 1, none⟩ = some (.int .i32 t) ∧ w.cell? ⟨b, 2, none⟩ = some (.int .i64 m)
theorem Cells3.below {w w' : World} {b : Nat} {f t m : Int} (h : Cells3 w b f t m) (hb : Below w.heap.size w w') : Cells3 w' b f t m := by
  obtain ⟨h0, h1, h2⟩ := h
  have hbb := hb.block b (World.block_lt_of_cell? w _ h0)
  exact ⟨(World.cell?_of_block (w := w) (a := ⟨b, _, none⟩) hbb).trans h0, (World.cell?_of_block (w := w) (a := ⟨b, _, none⟩) hbb).trans h1, (World.cell?_of_block (w := w) (a := ⟨b, _, none⟩) hbb).trans h2⟩
theorem Cells3.new (w : World) (f t m : Int) : Cells3 (w.alloc (.cells #[.int .i32 f, .int .i32 t, .int .i64 m] 54)) w.heap.size f t m := by
  refine ⟨?_, ?_, ?_⟩ <;> (rw [World.cell?_alloc_at _ _ _ _ rfl]; rfl)

set_option maxHeartbeats 4000000 in
theorem foldsTwice_any (w : World) (v : Value) (xs : List Fd) (hT : Tbl w v xs) (hN : ∀ x ∈ xs, NOk x.2.2) :
    Calls Tryd.prog 62 #[v] w fun e w' => e = .returned (.bool (twiceB xs)) ∧ Below w.heap.size w w' := by
  obtain ⟨ao, cap, rfl⟩ := hT.len
  have hmx := hT.max
  have HT := hide hT
  have HN := hide hN
  obtain ⟨n, hn⟩ : ∃ n, xs.length = n := ⟨_, rfl⟩
  have HL := hide hn
  rw [hn] at HT hmx ⊢
  clear hT hN hn
  go_enter Tryd.func62, Tryd.ntmps62
  go_wp2
  go_loopg [9] n (fun k i wr => ∃ j : Nat, k + j = n ∧ i = .int .i64 (j : Int) ∧ (xs.drop j).any (fun x => twoB x xs) = twiceB xs ∧ Below w.heap.size w wr)
  case atStart => exact ⟨0, rfl, rfl, rfl, Below.refl _ w⟩
  case round =>
    obtain ⟨j, hk, rfl, hs, hbw⟩ := hrel
    have HS := hide hs
    have HB := hide hbw
    clear hs hbw
    cases gk with
    | zero =>
      obtain rfl : j = n := by omega
      have hlt : ¬ (j : Int) < (j : Int) := by omega
      go_wp2
      go_ret
      exact ⟨ret_bool (by rw [← HS.out, List.drop_eq_nil_of_le (by rw [HL.out]; exact Nat.le_refl _)]; rfl), HB.out⟩
    | succ GO =>
      have hj : (j : Int) < (n : Int) := by omega
      obtain ⟨b, off, ⟨f, t, m⟩, rfl, hx, hok, q0, q1, q2⟩ := (HT.out.below HB.out).at j (by rw [HL.out]; omega)
      simp only at q0 q1 q2
      have HD := hide (drop_at hx)
      have HM := hide (HN.out _ (List.mem_of_getElem? hx))
      have HOK := hide hok
      obtain ⟨b4, hb4⟩ : ∃ b4, wr.heap.size = b4 := ⟨_, rfl⟩
      obtain ⟨W0, hW0⟩ : ∃ W0, wr.alloc (.cells #[.int .i32 f, .int .i32 t, .int .i64 m] 54) = W0 := ⟨_, rfl⟩
      have HB0 : Hid (Below w.heap.size w W0) := by rw [← hW0]; exact HB.out.alloc HB.out.size _
      have HC4 : Hid (Cells3 W0 b4 f t m) := by rw [← hW0, ← hb4]; exact Cells3.new wr f t m
      clear hx hok
      go_wp2
      try rw [hb4]
      clear q0 q1 q2
      have HGO := hide hk
      clear hk
      go_loopg [15] n (fun k2 i wr2 => ∃ q : Nat, k2 + q = n ∧ i = .int .i64 (q : Int) ∧ (xs.drop q).any (meetB (f, t, m)) = twoB (f, t, m) xs ∧ Below w.heap.size w wr2 ∧ Cells3 wr2 b4 f t m)
      case atStart => exact ⟨0, rfl, rfl, rfl, HB0.out, HC4.out⟩
      case round =>
        clear hW0 hb4
        clear HC4 HB0
        obtain ⟨q, hk, rfl, hs2, hbw2, hc4⟩ := hrel
        have HS2 := hide hs2
        have HB2 := hide hbw2
        have HC := hide hc4
        clear hs2 hbw2 hc4
        cases gk with
        | zero =>
          obtain rfl : q = n := by omega
          have hlt : ¬ (q : Int) < (q : Int) := by omega
          have HR : Hid ((xs.drop (j + 1)).any (fun x => twoB x xs) = twiceB xs) := by
            rw [← HS.out, HD.out]
            exact (any_no (p := fun x => twoB x xs) (x := (f, t, m)) (by show twoB (f, t, m) xs = false; rw [← HS2.out, List.drop_eq_nil_of_le (by rw [HL.out]; exact Nat.le_refl _)]; rfl)).symm
          go_wp2
          have hk := HGO.out
          go_roundg GO
          case measure => omega
          case rel => exact ⟨j + 1, by omega, by go_num, HR.out, HB2.out⟩
        | succ G2 =>
          have hj2 : (q : Int) < (n : Int) := by omega
          obtain ⟨b2, off2, ⟨f2, t2, m2⟩, heq, hx2, hok2, q0, q1, q2⟩ := (HT.out.below HB2.out).at q (by rw [HL.out]; omega)
          simp only [Option.some.injEq, Addr.mk.injEq] at heq
          obtain ⟨rfl, rfl, _⟩ := heq
          simp only at q0 q1 q2
          have hd2 := drop_at hx2
          have hm2 : NOk m2 := HN.out _ (List.mem_of_getElem? hx2)
          obtain ⟨b6, hb6⟩ : ∃ b6, wr.heap.size = b6 := ⟨_, rfl⟩
          obtain ⟨W2, hW2⟩ : ∃ W2, wr.alloc (.cells #[.int .i32 f2, .int .i32 t2, .int .i64 m2] 54) = W2 := ⟨_, rfl⟩
          have HB3 : Hid (Below w.heap.size w W2) := by rw [← hW2]; exact HB2.out.alloc HB2.out.size _
          have hC4 : Cells3 W2 b4 f t m := by rw [← hW2]; exact HC.out.below ((Below.refl _ wr).alloc (Nat.le_refl _) _)
          have hC6 : Cells3 W2 b6 f2 t2 m2 := by rw [← hW2, ← hb6]; exact Cells3.new wr f2 t2 m2
          have H4 : Hid (∀ wx, Below W2.heap.size W2 wx → Cells3 wx b4 f t m) := fun wx hb => hC4.below hb
          have H6 : Hid (∀ wx, Below W2.heap.size W2 wx → Cells3 wx b6 f2 t2 m2) := fun wx hb => hC6.below hb
          have HTO : Hid (∀ wx, Calls Tryd.prog 82 #[.agg #[.int .i32 f, .int .i32 t, .int .i64 m]] wx fun e w' => e = .returned (.agg #[.int .i64 t, .int .i64 (t + m - 1)]) ∧ Below wx.heap.size wx w') := fun wx => toRow_any wx f t m HOK.out.2.1 HM.out
          have HFR : Hid (∀ wx, Calls Tryd.prog 80 #[.agg #[.int .i32 f2, .int .i32 t2, .int .i64 m2]] wx fun e w' => e = .returned (.agg #[.int .i64 f2, .int .i64 (f2 + m2 - 1)]) ∧ Below wx.heap.size wx w') := fun wx => fromRow_any wx f2 t2 m2 hok2.1 hm2
          have HME0 : Hid (∀ wx, Calls Tryd.prog 83 #[.agg #[.int .i64 t, .int .i64 (t + m - 1)], .agg #[.int .i64 f2, .int .i64 (f2 + m2 - 1)]] wx fun e w' => e = .returned (.bool (meetB (f, t, m) (f2, t2, m2))) ∧ Below wx.heap.size wx w') := fun wx => meets_any wx t (t + m - 1) f2 (f2 + m2 - 1)
          have HD2 := hide hd2
          obtain ⟨M, hM⟩ : ∃ M, meetB (f, t, m) (f2, t2, m2) = M := ⟨_, rfl⟩
          have HMV := hide hM
          rw [hM] at HME0
          have HME := HME0
          clear hx2 hok2 hm2 hd2 hM HME0 hC4 hC6
          go_wp2
          try rw [hb6]
          clear q0 q1 q2 hb6 hW2
          refine wp_region_facts (FL [isV (.agg #[.int .i32 f, .int .i32 t, .int .i64 m]), isV (.agg #[.int .i64 t, .int .i64 (t + m - 1)]), isV (.agg #[.int .i32 f2, .int .i32 t2, .int .i64 m2]), isV (.agg #[.int .i64 f2, .int .i64 (f2 + m2 - 1)]), isV (.bool M)]) 26 (by kernel_rfl) (by kernel_rfl) (by kernel_rfl) rfl (FL_stable _ (by repeat (first | exact trivial | refine ⟨stable_isV _, ?_⟩))) ?_ ?_
          · refine ⟨?_, ?_, ?_, ?_, ?_, trivial⟩
            · intro act wx h
              have e4 : act.eval (.tmp 4) = .pointer (some ⟨b4, 0, none⟩) := h.old 4 (by kernel_rfl)
              have hbel := h.below
              clear h
              have z0 := H4.out wx hbel
              obtain ⟨x0, x1, x2⟩ := z0
              refine gives_by rfl act.eval rfl ?_
              generalize act.eval = ρ at *
              intro hf hc
              go_simp
              exact ⟨Below.refl _ _, rfl⟩
            · intro act wx h
              obtain ⟨v19, e19, f19⟩ := h.val 0 19 (by kernel_rfl)
              obtain rfl : v19 = .agg #[.int .i32 f, .int .i32 t, .int .i64 m] := f19
              have hbel := h.below
              clear h
              refine gives_by rfl act.eval rfl ?_
              generalize act.eval = ρ at *
              intro hf hc
              go_simp
              exact call_gives (HTO.out wx) (fun _ => rfl)
            · intro act wx h
              have e6 : act.eval (.tmp 6) = .pointer (some ⟨b6, 0, none⟩) := h.old 6 (by kernel_rfl)
              have hbel := h.below
              clear h
              have z0 := H6.out wx hbel
              obtain ⟨x0, x1, x2⟩ := z0
              refine gives_by rfl act.eval rfl ?_
              generalize act.eval = ρ at *
              intro hf hc
              go_simp
              exact ⟨Below.refl _ _, rfl⟩
            · intro act wx h
              obtain ⟨v21, e21, f21⟩ := h.val 2 21 (by kernel_rfl)
              obtain rfl : v21 = .agg #[.int .i32 f2, .int .i32 t2, .int .i64 m2] := f21
              have hbel := h.below
              clear h
              refine gives_by rfl act.eval rfl ?_
              generalize act.eval = ρ at *
              intro hf hc
              go_simp
              exact call_gives (HFR.out wx) (fun _ => rfl)
            · intro act wx h
              obtain ⟨v20, e20, f20⟩ := h.val 1 20 (by kernel_rfl)
              obtain rfl : v20 = .agg #[.int .i64 t, .int .i64 (t + m - 1)] := f20
              obtain ⟨v22, e22, f22⟩ := h.val 3 22 (by kernel_rfl)
              obtain rfl : v22 = .agg #[.int .i64 f2, .int .i64 (f2 + m2 - 1)] := f22
              have hbel := h.below
              clear h
              refine gives_by rfl act.eval rfl ?_
              generalize act.eval = ρ at *
              intro hf hc
              go_simp
              exact call_gives (HME.out wx) (fun _ => rfl)
          · intro vals w8 hb8 hv
            have hv23 : vals 4 = .bool M := hv 4 23 (by kernel_rfl)
            clear hv
            generalize hact : putAll _ vals 0 _ = act
            have HB8 := hide hb8
            clear hb8
            subst hact
            simp only [putAll, Act.put, List.setIfInBounds_toArray, List.set_cons_zero, List.set_cons_succ, hv23, Nat.zero_add, Nat.reduceAdd]
            clear hv23
            cases M with
            | true =>
              have HR : Hid (twiceB xs = true) := by
                rw [← HS.out, HD.out]
                exact any_yes (p := fun x => twoB x xs) (x := (f, t, m)) (by show twoB (f, t, m) xs = true; rw [← HS2.out, HD2.out]; exact any_yes HMV.out)
              go_wp2
              go_ret
              exact ⟨ret_bool HR.out.symm, HB3.out.trans (HB8.out.mono HB3.out.size)⟩
            | false =>
              have HR : Hid ((xs.drop (q + 1)).any (meetB (f, t, m)) = twoB (f, t, m) xs) := by rw [← HS2.out, HD2.out]; exact (any_no HMV.out).symm
              go_wp2
              go_roundg G2
              case measure => omega
              case rel => exact ⟨q + 1, by omega, by go_num, HR.out, HB3.out.trans (HB8.out.mono HB3.out.size), H4.out _ HB8.out⟩

end Go.Proofs.YtimmfnjkknbofaaDoor
