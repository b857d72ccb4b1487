/- Contracts: the document's taker: a byte, so many bytes; behind the end noughts. -/
import Derived.Test.YthnppkeifhnceaaNRefS
import Derived.Test.YthnppkeifhnceaaNKeep
import Derived.Test.YthnppkeifhnceaaNRead
namespace Go.Proofs.Ythnppkeifhnceaa
set_option maxRecDepth 20000
open Go.RowKit Go.Shelf
set_option linter.unusedVariables false
set_option linter.unusedSimpArgs false
set_option maxRecDepth 100000
attribute [local go_sem] Oper.semAt_some

abbrev tkT : TypeId := 77
set_option maxHeartbeats 1000000 in
theorem one_any (w W : World) (tb p : Nat) (bv : Value) (zs : List Int) (hs : Sl w bv zs) (hb : Below w.heap.size w W) (ht : w.heap.size ≤ tb) (hB : Blk W tb tkT [bv, .int .i64 (p : Int)]) (hp : p ≤ 1000000) (hl : zs.length ≤ 1000000) :
    Calls Try.prog 60 #[.pointer (some ⟨tb, 0, none⟩)] W fun e w' => e = .returned (.int .i64 (zs.getD p 0)) ∧ Blk w' tb tkT [bv, .int .i64 ((p : Int) + 1)] ∧ Only (fun j => j = tb) W w' := by
  have hok := hs.bytes.get p
  obtain ⟨ao, cap, rfl⟩ := sl_form' hs
  have c0 : W.cell? ⟨tb, 0, none⟩ = some (.slice ao zs.length cap) := hB.cell 0
  have c1 : W.cell? ⟨tb, 1, none⟩ = some (.int .i64 (p : Int)) := hB.cell 1
  have f1 : W.frozen? ⟨tb, 1, none⟩ = false := hB.frozen 1
  have hB2 := hB.set 1 (.int .i64 ((p : Int) + 1))
  have o2 : Only (fun j => j = tb) W (W.setCell ⟨tb, 1, none⟩ (.int .i64 ((p : Int) + 1))) := (Only.refl _ W).setCell ⟨tb, 1, none⟩ _ (fun _ => rfl)
  by_cases hlt : p < zs.length
  · obtain ⟨_, ao', cap', he, _, _, _, hc⟩ := hs
    simp only [Value.slice.injEq, true_and] at he
    obtain ⟨rfl, rfl⟩ := he
    obtain ⟨b, off, rfl, hcc⟩ := hc (by intro h; simp [h] at hlt)
    have cw := hcc p hlt
    have hbl := World.block_lt_of_cell? w _ cw
    simp only at hbl
    have cx : (W.setCell ⟨tb, 1, none⟩ (.int .i64 ((p : Int) + 1))).cell? ⟨b, off + p, none⟩ = some (.int .u8 (zs.getD p 0)) := by
      rw [World.cell?_of_block (w := W) (o2.block b (Nat.lt_of_lt_of_le hbl hb.size) (by omega)), World.cell?_of_block (w := w) (hb.block b hbl)]
      exact cw
    have hgt : ¬ ((zs.length : Int) < (p : Int) + 1) := by omega
    have hpi : (p : Int) < (zs.length : Int) := by omega
    generalize zs.getD p 0 = x at *
    generalize zs.length = n at *
    have hwx : IntKind.i64.wrap x = x := IntWalk.i64_in _ (by omega)
    clear hc hcc cw
    have HB2 := hide hB2
    have HO2 := hide o2
    go_enter Try.func60, Try.ntmps60
    go_wp2
    have d0 : (W.setCell ⟨tb, 1, none⟩ (.int .i64 ((p : Int) + 1))).cell? ⟨tb, 0, none⟩ = some (.slice (some ⟨b, off, none⟩) n cap) := hB2.cell 0
    have d1 : (W.setCell ⟨tb, 1, none⟩ (.int .i64 ((p : Int) + 1))).cell? ⟨tb, 1, none⟩ = some (.int .i64 ((p : Int) + 1)) := hB2.cell 1
    generalize W.setCell ⟨tb, 1, none⟩ (.int .i64 ((p : Int) + 1)) = X at *
    clear c0 c1 f1 hB2 o2
    go_quiet (fail)
    go_wp2
    go_quiet (fail)
    go_wp2
    go_ret
    exact ⟨rfl, HB2.out, HO2.out.trans (((Only.of_below (fun j => j = tb) (below_q X _)).trans (Only.of_below (fun j => j = tb) (below_q (X.drewN _) _)) (fun _ _ h => h))) (fun _ _ h => h)⟩
  · have hz : zs.getD p 0 = 0 := by simp [List.getD, Nat.le_of_not_lt hlt]
    rw [hz]
    have hgt : (zs.length : Int) < (p : Int) + 1 := by omega
    generalize zs.length = n at *
    have HB2 := hide hB2
    have HO2 := hide o2
    clear hs hz
    go_enter Try.func60, Try.ntmps60
    go_wp2
    have d0 : (W.setCell ⟨tb, 1, none⟩ (.int .i64 ((p : Int) + 1))).cell? ⟨tb, 0, none⟩ = some (.slice ao n cap) := hB2.cell 0
    have d1 : (W.setCell ⟨tb, 1, none⟩ (.int .i64 ((p : Int) + 1))).cell? ⟨tb, 1, none⟩ = some (.int .i64 ((p : Int) + 1)) := hB2.cell 1
    generalize W.setCell ⟨tb, 1, none⟩ (.int .i64 ((p : Int) + 1)) = X at *
    clear c0 c1 f1 hB2 o2
    go_quiet (fail)
    go_wp2
    go_ret
    exact ⟨rfl, HB2.out, HO2.out.trans (Only.of_below (fun j => j = tb) (below_q X _)) (fun _ _ h => h)⟩

/-- the bytes from p on -/
def manyF (zs : List Int) (p : Nat) : Nat → List Int
  | 0 => []
  | n + 1 => manyF zs p n ++ [zs.getD (p + n) 0]
theorem manyF_len (zs : List Int) (p : Nat) : ∀ n, (manyF zs p n).length = n
  | 0 => rfl
  | n + 1 => by rw [manyF, List.length_append, manyF_len zs p n]; rfl
theorem manyF_ok {zs : List Int} (p : Nat) (h : ByteOk zs) : ∀ n, ByteOk (manyF zs p n)
  | 0 => by intro z hz; cases hz
  | n + 1 => by
    rw [manyF]
    refine (manyF_ok p h n).append' (fun z hz => ?_)
    obtain rfl : z = zs.getD (p + n) 0 := by simpa using hz
    exact h.get (p + n)
theorem getD_many (z : List Int) (n i : Nat) (hi : i < n) : (many n z).getD i 0 = z.getD i 0 := by
  unfold many
  by_cases h : i < z.length
  · simp [List.getD, List.getElem?_append_left (show i < (z.take n).length by simp; omega), List.getElem?_take, hi]
  · have hl : (z.take n).length = min n z.length := List.length_take ..
    simp only [List.getD]
    rw [List.getElem?_append_right (by omega), List.getElem?_eq_none (show z.length ≤ i by omega), List.getElem?_replicate]
    split <;> rfl
theorem manyF_get (zs : List Int) (p : Nat) : ∀ n i, i < n → (manyF zs p n).getD i 0 = zs.getD (p + i) 0
  | n + 1, i, h => by
    rw [manyF]
    have hl := manyF_len zs p n
    by_cases hi : i < n
    · have := manyF_get zs p n i hi
      simp only [List.getD] at this ⊢
      rw [List.getElem?_append_left (by omega)]
      exact this
    · obtain rfl : i = n := by omega
      simp only [List.getD]
      rw [List.getElem?_append_right (by omega), hl, Nat.sub_self]
      rfl
theorem manyF_many (zs : List Int) (p n : Nat) : manyF zs p n = many n (zs.drop p) := by
  have hl := manyF_len zs p n
  have hl2 : (many n (zs.drop p)).length = n := by unfold many; simp; omega
  apply List.ext_getElem (by omega)
  intro i h1 h2
  have e1 := manyF_get zs p n i (by omega)
  have e2 := getD_many (zs.drop p) n i (by omega)
  have e3 : (zs.drop p).getD i 0 = zs.getD (p + i) 0 := by simp [List.getD, List.getElem?_drop]
  simp only [List.getD, List.getElem?_eq_getElem h1, Option.getD_some] at e1
  simp only [List.getD, List.getElem?_eq_getElem h2, Option.getD_some] at e2
  rw [e1, e2]
  exact e3.symm
theorem drop_one (zs : List Int) (p : Nat) : one (zs.drop p) = zs.getD p 0 := by unfold one; simp [List.getD, List.getElem?_drop]

theorem build_u8 (w : World) (x : Int) : (Instr.buildSlice 34 1 #[(0, .int .u8 x)]).run Try.prog w = .ok (.slice (some ⟨w.heap.size, 0, none⟩) 1 1) (w.alloc (.cells #[.int .u8 x] 5)) := by kernel_rfl
theorem sl_one {w : World} {g : Nat} {x : Int} (h : Blk w g 5 [.int .u8 x]) (h0 : 0 ≤ x) (h1 : x ≤ 255) : Sl w (.slice (some ⟨g, 0, none⟩) 1 1) [x] :=
  ⟨fun z hz => by obtain rfl : z = x := by simpa using hz
                  exact ⟨h0, h1⟩, some ⟨g, 0, none⟩, 1, rfl, by simp, by simp [maxLen], fun h => (by cases h), fun _ => ⟨g, 0, rfl, fun i hi => by
    obtain rfl : i = 0 := by simp at hi; omega
    rw [h.cell]
    rfl⟩⟩

set_option maxHeartbeats 1000000 in
theorem many_any (w W : World) (tb p n : Nat) (bv : Value) (zs : List Int) (hs : Sl w bv zs) (hb : Below w.heap.size w W) (ht : w.heap.size ≤ tb) (hB : Blk W tb tkT [bv, .int .i64 (p : Int)]) (hp : p ≤ 500000) (hl : zs.length ≤ 1000000) (hn : n ≤ 255) :
    Calls Try.prog 61 #[.pointer (some ⟨tb, 0, none⟩), .int .i64 (n : Int)] W fun e w' => ∃ a c, e = .returned (.slice a n c) ∧ ownsB w' W.heap.size (.slice a n c) (manyF zs p n) ∧ Blk w' tb tkT [bv, .int .i64 ((p + n : Nat) : Int)] ∧ Only (fun j => j = tb) W w' := by
  have HO : Hid (∀ wx q, Below w.heap.size w wx → Blk wx tb tkT [bv, .int .i64 (q : Nat)] → q ≤ 1000000 → Calls Try.prog 60 #[.pointer (some ⟨tb, 0, none⟩)] wx fun e w' => e = .returned (.int .i64 (zs.getD q 0)) ∧ Blk w' tb tkT [bv, .int .i64 ((q : Int) + 1)] ∧ Only (fun j => j = tb) wx w') := fun wx q h1 h2 h3 => one_any w wx tb q bv zs hs h1 ht h2 h3 hl
  have hok := hs.bytes
  have htW := hB.lt
  have HB := hide hB
  have HBW := hide hb
  clear hB hs hb
  go_enter Try.func61, Try.ntmps61
  go_wp2
  go_loopg [5, 6] n (fun g v i wr => ∃ (j : Nat) (a : Option Addr) (c : Nat), g + j = n ∧ v = .slice a j c ∧ i = .int .i64 (j : Int) ∧ ownsB wr W.heap.size (.slice a j c) (manyF zs p j) ∧ Blk wr tb tkT [bv, .int .i64 ((p + j : Nat) : Int)] ∧ Only (fun k => k = tb) W wr)
  case atStart => exact ⟨0, none, 0, by omega, rfl, rfl, World.ownsRow_nil _ _ _ _, HB.out, Only.refl _ _⟩
  case round =>
    obtain ⟨j, a, c, hg, rfl, rfl, hown, hBj, hoj⟩ := hrel
    obtain ⟨W1, rfl⟩ : ∃ x, x = wr := ⟨_, rfl⟩
    have HOW := hide hown
    have HOJ := hide hoj
    have HBJ := hide hBj
    clear HB
    cases gk with
    | zero =>
      obtain rfl : j = n := by omega
      clear hown hBj hoj
      go_wp2
      go_ret
      exact ⟨a, c, rfl, HOW.out, HBJ.out, HOJ.out⟩
    | succ g =>
      have hjn : (j : Int) < (n : Int) := by omega
      have hbw1 : Below w.heap.size w W1 := HBW.out.trans (hoj.below HBW.out.size (fun k hk e => by omega))
      have HC := hide (HO.out W1 (p + j) hbw1 hBj (by omega))
      have hx := hok.get (p + j)
      have HX : Hid (manyF zs p (j + 1) = manyF zs p j ++ [zs.getD (p + j) 0]) := rfl
      generalize zs.getD (p + j) 0 = x at *
      have hwx : IntKind.u8.wrap x = x := by rw [IntKind.wrap_u8]; omega
      have HAP : Hid (∀ wx, Only (fun k => k = tb) W1 wx → ∃ v' w', (Builtin.append_ #[34, 34] 34 #[.slice a j c, .slice (some ⟨wx.heap.size, 0, none⟩) 1 1]).run Try.prog (wx.alloc (.cells #[.int .u8 x] 5)) = .ok v' w' ∧ (∃ a' c', v' = .slice a' (j + 1) c') ∧ ownsB w' W.heap.size v' (manyF zs p (j + 1)) ∧ Only (fun k => (Value.slice a j c).ownBlock = some k) wx w') := fun wx ho => by
        have hal : Only (fun k => (Value.slice a j c).ownBlock = some k) wx (wx.alloc (.cells #[.int .u8 x] 5)) := (Only.refl _ wx).alloc _
        have how : ownsB (wx.alloc (.cells #[.int .u8 x] 5)) W.heap.size (.slice a j c) (manyF zs p j) := ownsRow_only (ownsRow_only HOW.out ho (fun k hk e => by have := (row_blk HOW.out hk).1; omega)) ((Only.refl (fun _ => False) wx).alloc _) (fun _ _ h => h)
        obtain ⟨v', w', r1, r2, r3, _⟩ := append_keepN (wx.alloc (.cells #[.int .u8 x] 5)) W.heap.size a j c (manyF zs p j) [x] how (some ⟨wx.heap.size, 0, none⟩) 1 1 (sl_one (Blk.new wx _ [.int .u8 x]) hx.1 hx.2) (by rw [manyF_len]; simp; omega) (by have := HOJ.out.size; have := ho.size; simp; omega)
        rw [← HX.out] at r2
        refine ⟨v', w', r1, ?_, r2, (Only.grown hal r3 (fun k hk _ => hk))⟩
        obtain ⟨a', c', e⟩ := own_form' r2
        rw [manyF_len] at e
        exact ⟨a', c', e⟩
      clear hown hBj hoj
      go_wp2_with (first
        | (go_at_call 60; refine HC.out.mono ?_; rintro e w2 ⟨rfl, hB2, ho2⟩; obtain ⟨v', w', hr, ⟨a', c', rfl⟩, how, hox⟩ := HAP.out w2 ho2; have HR := hide hr; have HOW2 := hide how; have HOX := hide hox; have HB2 := hide hB2; have HO2 := hide ho2; clear HC HAP hr how hox hB2 ho2)
        | (at_builtin; (with_reducible refine wpList_append_run _ rfl (.tmp 12) (.tmp 16) 34 rfl _ _ ?_ ?_ _ _ HR.out ?_); exact rfl; exact rfl; clear HR))
      go_roundg g
      case measure => omega
      case rel =>
        have hnb : ¬ (Value.slice a j c).ownBlock = some tb := fun e => by have := (row_blk HOW.out e).1; omega
        refine ⟨j + 1, a', c', by omega, rfl, by go_num, HOW2.out, ?_, (HOJ.out.trans HO2.out (fun _ _ h => h)).trans HOX.out (fun k hk e => by have := (row_blk HOW.out e).1; omega)⟩
        have := HB2.out.only HOX.out hnb
        rw [show ((p + (j + 1) : Nat) : Int) = ((p + j : Nat) : Int) + 1 by omega]
        exact this

end Go.Proofs.Ythnppkeifhnceaa
