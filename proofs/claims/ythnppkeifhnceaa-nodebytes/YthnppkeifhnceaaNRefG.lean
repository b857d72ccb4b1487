/- Contract: the node of what a page bears, by the document (incipitref10.Get). -/
import Derived.Test.YthnppkeifhnceaaNTake
import Derived.Test.YthnppkeifhnceaaNGet
import Derived.Test.YthnppkeifhnceaaNRefP
import Derived.Test.YthnppkeifhnceaaRegionD
namespace Go.Proofs.Ythnppkeifhnceaa
set_option maxRecDepth 20000
open Go.RowKit Go.Shelf
set_option linter.unusedVariables false
set_option linter.unusedSimpArgs false
set_option maxRecDepth 100000
attribute [local go_sem] Oper.semAt_some

def TkR (tb : Nat) (bv : Value) (p : Nat) : World → Prop := fun W => Blk W tb tkT [bv, .int .i64 (p : Int)]
theorem TkR.stab {tb lim : Nat} (h : tb < lim) (bv : Value) (p : Nat) : Stab lim (TkR tb bv p) := fun W W' hB ho => Blk.only hB ho (by omega)
section
variable {w : World} {lim cb tb pp : Nat} {bv : Value} {zs : List Int} {lf : Bool} {pb kb vb p k c : Value} {xs : List (Value × Value)} {ys : List Value} {cs : List Int} {ex : List (Value × List Int)} {W W' : World}
theorem Ng.one (h : Ng w lim cb (TkR tb bv pp) lf pb kb vb p k c xs ys cs ex W) (hs : Sl w bv zs) (ht : w.heap.size < tb) (htl : tb < lim) (hp : pp ≤ 1000000) (hl : zs.length ≤ 1000000) :
    Calls Try.prog 60 #[.pointer (some ⟨tb, 0, none⟩)] W fun e w' => e = .returned (.int .i64 (zs.getD pp 0)) ∧ Ng w lim cb (TkR tb bv (pp + 1)) lf pb kb vb p k c xs ys cs ex w' := by
  refine (one_any w W tb pp bv zs hs h.below (by omega) h.rd hp hl).mono ?_
  rintro e w' ⟨rfl, hB, ho⟩
  exact ⟨rfl, h.turn ho (fun j hj => by omega) (show Blk w' tb tkT [bv, .int .i64 ((pp + 1 : Nat) : Int)] by rw [show ((pp + 1 : Nat) : Int) = (pp : Int) + 1 by omega]; exact hB)⟩
theorem Ng.many (h : Ng w lim cb (TkR tb bv pp) lf pb kb vb p k c xs ys cs ex W) (hs : Sl w bv zs) (ht : w.heap.size < tb) (htl : tb < lim) (hp : pp ≤ 500000) (hl : zs.length ≤ 1000000) (n : Nat) (hn : n ≤ 255) :
    Calls Try.prog 61 #[.pointer (some ⟨tb, 0, none⟩), .int .i64 (n : Int)] W fun e w' => ∃ a d, e = .returned (.slice a n d) ∧ Ng w lim cb (TkR tb bv (pp + n)) lf pb kb vb p k c xs ys cs (ex ++ [(.slice a n d, manyF zs pp n)]) w' := by
  refine (many_any w W tb pp n bv zs hs h.below (by omega) h.rd hp hl hn).mono ?_
  rintro e w' ⟨a, d, rfl, ho', hB, ho⟩
  exact ⟨a, d, rfl, (h.turn ho (fun j hj => by omega) hB).add _ _ (own_le' ho' (Nat.le_of_lt h.size))⟩
theorem Ng.val' (h : Ng w lim cb (TkR tb bv pp) lf pb kb vb p k c xs ys cs ex W) {ps : List (List Int × List Int)} {ks : List (List Int)} (hx : xs.length = ps.length) (hy : ys.length = ks.length)
    (hP : ∀ i, i < ps.length → ((xs.getD i nil2).1, (ps.getD i ([], [])).1) ∈ ex ∧ ((xs.getD i nil2).2, (ps.getD i ([], [])).2) ∈ ex) (hK : ∀ i, i < ks.length → (ys.getD i nilS, ks.getD i []) ∈ ex) (hbp : ∀ i, i < ps.length → ByteOk (ps.getD i ([], [])).1 ∧ ByteOk (ps.getD i ([], [])).2) (hbk : ∀ i, i < ks.length → ByteOk (ks.getD i [])) : NdN W lim (ndv lf p k c) ⟨lf, ps, ks, cs⟩ :=
  rc_val (ex := ex) h.ex h.prow h.krow h.ints hx hy hP hK hbp hbk
end
theorem byte_nat {zs : List Int} (h : ByteOk zs) (p : Nat) : ∃ n : Nat, zs.getD p 0 = (n : Int) ∧ n ≤ 255 ∧ (zs.getD p 0).toNat = n := by
  have := h.get p
  exact ⟨(zs.getD p 0).toNat, by omega, by omega, rfl⟩
theorem tkP_step (g p a b : Nat) (zs : List Int) (ha : (zs.getD p 0).toNat = a) (hb : (zs.getD (p + 1 + a) 0).toNat = b) : tkP (g + 1) (zs.drop p) = (manyF zs (p + 1) a, manyF zs (p + 1 + a + 1) b) :: tkP g (zs.drop (p + 1 + a + 1 + b)) := by
  rw [tkP]
  simp only [drop_one, List.drop_drop, ha]
  rw [hb, manyF_many, manyF_many]
theorem tkK_step (g p a : Nat) (zs : List Int) (ha : (zs.getD p 0).toNat = a) : tkK (g + 1) (zs.drop p) = (manyF zs (p + 1) a :: (tkK g (zs.drop (p + 1 + a + 2))).1, (256 * zs.getD (p + 1 + a) 0 + zs.getD (p + 1 + a + 1) 0) :: (tkK g (zs.drop (p + 1 + a + 2))).2) := by
  rw [tkK]
  simp only [drop_one, List.drop_drop, ha]
  rw [manyF_many]

/-- a pair more -/
def GpS (w : World) (cb tb : Nat) (bv : Value) (zs : List Int) (pp n2 : Nat) (p0 kv : Value) (xs : List (Value × Value)) (ex : List (Value × List Int)) : Nat → (Nat → Value) → World → Prop := fun i vals W => match i with
  | 0 => Ng w cb cb (TkR tb bv pp) true p0 nilS nilS p0 nilS nilS xs [] [] ex W
  | 1 => Ng w cb cb (TkR tb bv (pp + 1)) true p0 nilS nilS p0 nilS nilS xs [] [] ex W ∧ vals 5 = .int .i64 (n2 : Int)
  | 2 => Ng w cb cb (TkR tb bv (pp + 1 + n2)) true p0 nilS nilS p0 nilS nilS xs [] [] (ex ++ [(vals 6, manyF zs (pp + 1) n2)]) W
  | 3 => Ng w cb cb (TkR tb bv (pp + 1 + n2)) true p0 nilS nilS p0 nilS nilS xs [] [] (ex ++ [(vals 6, manyF zs (pp + 1) n2)]) W ∧ vals 7 = .agg #[kv, vals 6]
  | 4 => Ng w cb cb (TkR tb bv (pp + 1 + n2)) true p0 nilS nilS p0 nilS nilS xs [] [] (ex ++ [(vals 6, manyF zs (pp + 1) n2)]) W ∧ ∃ g, vals 8 = .slice (some ⟨g, 0, none⟩) 1 1 ∧ Blk W g 36 [kv, vals 6]
  | 5 => Ng w cb cb (TkR tb bv (pp + 1 + n2)) true p0 nilS nilS (vals 9) nilS nilS (xs ++ [(kv, vals 6)]) [] [] (ex ++ [(vals 6, manyF zs (pp + 1) n2)]) W ∧ ∃ a n c, vals 9 = .slice a n c
  | _ => Ng w cb cb (TkR tb bv (pp + 1 + n2)) true (vals 9) nilS nilS (vals 9) nilS nilS (xs ++ [(kv, vals 6)]) [] [] (ex ++ [(vals 6, manyF zs (pp + 1) n2)]) W
theorem GpS.cell {w : World} {cb tb : Nat} {bv : Value} {zs : List Int} {pp n2 : Nat} {p0 kv : Value} {xs : List (Value × Value)} {ex : List (Value × List Int)} {i : Nat} {vals : Nat → Value} {W : World} (h : GpS w cb tb bv zs pp n2 p0 kv xs ex i vals W) (hi : i < 6) : W.cell? ⟨cb, 1, none⟩ = some p0 := by
  match i, hi, h with
  | 0, _, h => exact h.cbox.cell 1
  | 1, _, ⟨h, _⟩ => exact h.cbox.cell 1
  | 2, _, h => exact h.cbox.cell 1
  | 3, _, ⟨h, _⟩ => exact h.cbox.cell 1
  | 4, _, ⟨h, _⟩ => exact h.cbox.cell 1
  | 5, _, ⟨h, _⟩ => exact h.cbox.cell 1
/-- a child more -/
def GcS (w : World) (cb tb : Nat) (bv : Value) (pp : Nat) (x y : Int) (k c0 : Value) (ys : List Value) (cs : List Int) (ex : List (Value × List Int)) : Nat → (Nat → Value) → World → Prop := fun i vals W => match i with
  | 0 => Ng w cb cb (TkR tb bv pp) false nilS k c0 nilS k c0 [] ys cs ex W
  | 1 => vals 3 = .int .i64 x ∧ Ng w cb cb (TkR tb bv (pp + 1)) false nilS k c0 nilS k c0 [] ys cs ex W
  | 2 => vals 3 = .int .i64 x ∧ Ng w cb cb (TkR tb bv (pp + 2)) false nilS k c0 nilS k c0 [] ys cs ex W ∧ vals 6 = .int .i64 y
  | 3 => vals 3 = .int .i64 x ∧ Ng w cb cb (TkR tb bv (pp + 2)) false nilS k c0 nilS k c0 [] ys cs ex W ∧ vals 7 = .int .i64 (256 * x + y)
  | 4 => vals 3 = .int .i64 x ∧ Ng w cb cb (TkR tb bv (pp + 2)) false nilS k c0 nilS k c0 [] ys cs ex W ∧ ∃ g, vals 8 = .slice (some ⟨g, 0, none⟩) 1 1 ∧ Blk W g 3 [.int .i64 (256 * x + y)]
  | 5 => vals 3 = .int .i64 x ∧ Ng w cb cb (TkR tb bv (pp + 2)) false nilS k c0 nilS k (vals 9) [] ys (cs ++ [256 * x + y]) ex W ∧ ∃ a n c, vals 9 = .slice a n c
  | _ => vals 3 = .int .i64 x ∧ Ng w cb cb (TkR tb bv (pp + 2)) false nilS k (vals 9) nilS k (vals 9) [] ys (cs ++ [256 * x + y]) ex W
section
variable {w : World} {cb tb : Nat} {bv : Value} {pp : Nat} {x y : Int} {k c0 : Value} {ys : List Value} {cs : List Int} {ex : List (Value × List Int)} {i : Nat} {vals : Nat → Value} {W : World}
theorem GcS.cell (h : GcS w cb tb bv pp x y k c0 ys cs ex i vals W) (hi : i < 6) : W.cell? ⟨cb, 3, none⟩ = some c0 := by
  match i, hi, h with
  | 0, _, h => exact h.cbox.cell 3
  | 1, _, ⟨_, h⟩ => exact h.cbox.cell 3
  | 2, _, ⟨_, h, _⟩ => exact h.cbox.cell 3
  | 3, _, ⟨_, h, _⟩ => exact h.cbox.cell 3
  | 4, _, ⟨_, h, _⟩ => exact h.cbox.cell 3
  | 5, _, ⟨_, h, _⟩ => exact h.cbox.cell 3
theorem GcS.first (h : GcS w cb tb bv pp x y k c0 ys cs ex i vals W) (hi : i < 6) (h0 : 0 < i) : vals 3 = .int .i64 x := by
  match i, hi, h0, h with
  | 1, _, _, ⟨h, _⟩ => exact h
  | 2, _, _, ⟨h, _⟩ => exact h
  | 3, _, _, ⟨h, _⟩ => exact h
  | 4, _, _, ⟨h, _⟩ => exact h
  | 5, _, _, ⟨h, _⟩ => exact h
end

set_option maxHeartbeats 16000000 in
theorem refGet_any (w : World) (kind : Int) (bv : Value) (zs : List Int) (hs : Sl w bv zs) (hl : zs.length ≤ 50000) :
    Calls Try.prog 21 #[.int .i64 kind, bv] w (GivesN w (rgetN kind zs) (rgetE kind zs)) := by
  have hok := hs.bytes
  have HSL := hide hs
  have HGN : Hid (rgetN kind zs = if rgetE kind zs = 0 then tkN kind zs else noNd) := rfl
  have HGE : Hid (rgetE kind zs = if kind = 3 ∨ kind = 4 then (if checkN (tkN kind zs) = 0 ∧ putB (tkN kind zs) = zs then 0 else 100) else 42) := rfl
  have hza : ∀ wx : World, (zeroValue 26).run Try.prog wx = .ok (.agg #[.bool false, .slice none 0 0, .slice none 0 0, .slice none 0 0]) wx := fun wx => by kernel_rfl
  have hzt : ∀ wx : World, (zeroValue 77).run Try.prog wx = .ok (.agg #[.slice none 0 0, .int .i64 0]) wx := fun wx => by kernel_rfl
  have HPUT : Hid (∀ W1 v1 n1, NdV W1 v1 n1 → n1.ks.length + n1.cs.length ≤ 9223372036854775807 → Calls Try.prog 19 #[v1] W1 fun e w' => ∃ u, e = .returned (.tuple #[.int .i64 (putK n1), u, .int .i64 (checkN n1)]) ∧ ownsB w' W1.heap.size u (putB n1) ∧ Below W1.heap.size W1 w') := fun W1 v1 n1 h1 h2 => refPut_any W1 v1 n1 h1 h2
  obtain ⟨ao, cap, rfl⟩ := sl_form' hs
  obtain ⟨nz, hnz⟩ : ∃ n, n = zs.length := ⟨_, rfl⟩
  rw [← hnz] at HSL ⊢
  have HNZ := hide hnz
  have HOK := hide hok
  clear hs hnz
  by_cases k3 : kind = 3
  · subst k3
    rw [if_pos (show (3 : Int) = 3 ∨ (3 : Int) = 4 by omega)] at HGE
    obtain ⟨n0, hn0, hn0l, hn0t⟩ := byte_nat hok 0
    obtain ⟨w1, hw1⟩ : ∃ w1, ((w.alloc (.cells #[.bool false, .slice none 0 0, .slice none 0 0, .slice none 0 0] 26)).alloc (.cells #[.slice ao nz cap, .int .i64 0] 77)).alloc (.cells #[.bool true, .slice none 0 0, .slice none 0 0, .slice none 0 0] 26) = w1 := ⟨_, rfl⟩
    obtain ⟨tb, htb⟩ : ∃ tb, w.heap.size + 1 = tb := ⟨_, rfl⟩
    obtain ⟨cb, hcb⟩ : ∃ cb, tb + 1 = cb := ⟨_, rfl⟩
    have htw : w.heap.size < tb := by omega
    have htl : tb < cb := by omega
    have HNG : Hid (Ng w cb cb (TkR tb (.slice ao nz cap) 0) true nilS nilS nilS nilS nilS nilS [] [] [] [] w1) := by
      rw [← hw1]
      refine ⟨fun q hq => (by simp at hq), ?_, World.ownsRow_nil _ _ _ _, World.ownsRow_nil _ _ _ _, Ints.nil _ _, ((Blk.new w _ zeroC).alloc _).alloc _, by omega, Nat.le_refl _, ?_, (((Below.refl _ w).alloc (Nat.le_refl _) _).alloc (by simp) _).alloc (by simp; omega) _⟩
      · have := Blk.new ((w.alloc (.cells #[.bool false, .slice none 0 0, .slice none 0 0, .slice none 0 0] 26)).alloc (.cells #[.slice ao nz cap, .int .i64 0] 77)) 26 [.bool true, .slice none 0 0, .slice none 0 0, .slice none 0 0]
        rw [World.size_alloc, World.size_alloc, htb, hcb] at this
        exact this
      · have := (Blk.new (w.alloc (.cells #[.bool false, .slice none 0 0, .slice none 0 0, .slice none 0 0] 26)) tkT [.slice ao nz cap, .int .i64 0]).alloc (.cells #[.bool true, .slice none 0 0, .slice none 0 0, .slice none 0 0] 26)
        rw [World.size_alloc, htb] at this
        exact this
    have hO1 := HNG.out.one HSL.out htw htl (by omega) (by have := HNZ.out; omega)
    rw [hn0] at hO1
    have HO1 : Hid (Calls Try.prog 60 #[.pointer (some ⟨w.heap.size + 1, 0, none⟩)] (((w.alloc (.cells #[.bool false, .slice none 0 0, .slice none 0 0, .slice none 0 0] 26)).alloc (.cells #[.slice ao nz cap, .int .i64 0] 77)).alloc (.cells #[.bool true, .slice none 0 0, .slice none 0 0, .slice none 0 0] 26)) fun e w' => e = .returned (.int .i64 (n0 : Int)) ∧ Ng w cb cb (TkR tb (.slice ao nz cap) (0 + 1)) true nilS nilS nilS nilS nilS nilS [] [] [] [] w') := by show Calls _ _ _ _ _; rw [htb, hw1]; exact hO1
    have HTB := hide htb
    have HCB := hide hcb
    clear hok hO1 htb hcb hw1 HNG
    go_enter Try.func21, Try.ntmps21
    go_wp2_with ((go_at_call 60; refine HO1.out.mono ?_; rintro e w2 ⟨rfl, ng2⟩; have t0 : w2.cell? ⟨w.heap.size + 1 + 1, 0, none⟩ = some (.bool true) := (by rw [HTB.out, HCB.out]; exact ng2.cbox.cell 0); have HNG2 := hide ng2; clear HO1 ng2))
    simp only [HTB.out, HCB.out]
    go_loopg [9] n0 (fun g i wr => ∃ (j pp : Nat) (p : Value) (xs : List (Value × Value)) (ps : List (List Int × List Int)) (ex : List (Value × List Int)), g + j = n0 ∧ i = .int .i64 (j : Int) ∧ xs.length = ps.length ∧ ps.length = j ∧ pp ≤ 1 + 600 * j ∧ Ng w cb cb (TkR tb (.slice ao nz cap) pp) true p nilS nilS p nilS nilS xs [] [] ex wr ∧ tkP n0 (zs.drop 1) = ps ++ tkP g (zs.drop pp) ∧
        (∀ i, i < ps.length → ((xs.getD i nil2).1, (ps.getD i ([], [])).1) ∈ ex ∧ ((xs.getD i nil2).2, (ps.getD i ([], [])).2) ∈ ex) ∧ ∀ i, i < ps.length → ByteOk (ps.getD i ([], [])).1 ∧ ByteOk (ps.getD i ([], [])).2)
    case atStart => exact ⟨0, 1, nilS, [], [], [], by omega, rfl, rfl, rfl, by omega, HNG2.out, rfl, fun i hi => by simp at hi, fun i hi => by simp at hi⟩
    case round =>
      obtain ⟨j, pp, p0', xs, ps, ex, hgj, rfl, hxl, hpl, hpp, hng, htk, hex, hoks⟩ := hrel
      obtain ⟨W, rfl⟩ : ∃ x, x = wr := ⟨_, rfl⟩
      have HXL := hide hxl
      have HPL := hide hpl
      have HTK := hide htk
      have HEX := hide hex
      have HOKS := hide hoks
      obtain ⟨pa0, pc0, hpf⟩ := own_form' hng.prow
      rw [hxl, hpl] at hpf
      subst hpf
      have HNG3 := hide hng
      clear HNG2 t0 hxl hpl htk hex hoks
      cases gk with
      | zero =>
        obtain rfl : j = n0 := by omega
        have HNV := hide (hng.val' (ks := []) HXL.out rfl HEX.out (fun i hi => by simp at hi) HOKS.out (fun i hi => by simp at hi))
        have HTN : Hid (tkN 3 zs = ⟨true, ps, [], []⟩) := by
          show _ = _
          rw [tkN, if_pos rfl, ← List.drop_zero (l := zs), drop_one, hn0t, List.drop_zero, HTK.out, tkP, List.append_nil]
        rw [HTN.out] at HGN HGE
        unfold ndv at HNV
        clear hng HTN
        have hB0 := HNG3.out.b0
        have hBC := HNG3.out.cbox
        have hbl := HNG3.out.below
        obtain ⟨⟨c0, c1, c2, c3⟩, _⟩ := node_cells hBC
        have HB0 := hide hB0
        have HBC := hide hBC
        have HBL := hide hbl
        generalize hnd : (⟨true, ps, [], []⟩ : Nd) = n at *
        generalize rgetE 3 zs = E at *
        generalize rgetN 3 zs = G at *
        have HPU : Hid (∀ wx, Below W.heap.size W wx → Calls Try.prog 19 #[.agg #[.bool true, .slice pa0 j pc0, .slice none 0 0, .slice none 0 0]] wx fun e w' => ∃ a c, e = .returned (.tuple #[.int .i64 (putK n), .slice a (putB n).length c, .int .i64 (checkN n)]) ∧ ownsB w' wx.heap.size (.slice a (putB n).length c) (putB n) ∧ Below wx.heap.size wx w') := fun wx hb => (HPUT.out wx _ n (HNV.out.val.below hb) (by rw [← hnd]; simp)).mono fun e w' ⟨u, he, ho, hb'⟩ => by
          obtain ⟨a, c, rfl⟩ := own_form' ho
          exact ⟨a, c, he, ho, hb'⟩
        have HOB := hide (putB_ok HNV.out.val)
        generalize putK n = PK at *
        clear HPUT HNG3 hB0 hBC hbl hnd
        by_cases hc : checkN n = 0
        · have HINJ := hide (strOfNums_inj HOB.out HOK.out)
          obtain ⟨sx, hsx⟩ : ∃ s, s = strOfNums (putB n) := ⟨_, rfl⟩
          obtain ⟨sy, hsy⟩ : ∃ s, s = strOfNums zs := ⟨_, rfl⟩
          have HSX := hide hsx
          have HSY := hide hsy
          rw [← hsx, ← hsy] at HINJ
          rw [hc] at HPU
          clear hsx hsy
          by_cases hz : sx = sy
          · have hzz := HINJ.out.1 hz
            rw [if_pos ⟨hc, hzz⟩] at HGE
            rw [HGE.out, if_pos rfl] at HGN
            subst hz
            clear HINJ hzz
            go_wp2_with ((go_at_call 19; refine (HPU.out W (Below.refl _ W)).mono ?_; rintro e1 w8 ⟨a8, c8, rfl, o8, hb8⟩; have hA8 := HB0.out.below hb8 HB0.out.lt; have hC8 := HBC.out.below hb8 HBC.out.lt; have hbl8 := HBL.out.trans (hb8.mono HBL.out.size); have hn8 := HNV.out.below hb8; clear c0 c1 c2 c3; obtain ⟨⟨c0, c1, c2, c3⟩, _⟩ := node_cells hC8; obtain ⟨⟨d0, d1, d2, d3⟩, k0, k1, k2, k3⟩ := node_cells hA8; have r1 : (convert 34 9 (.slice a8 (putB n).length c8)).run Try.prog w8 = .ok (.string sx) w8 := (by rw [HSX.out]; exact run_convert_sl _ 34 5 9 Try.underlying34 Try.underlying5 Try.underlying9 _ _ (sl_of_own_len o8 HOB.out)); have r2 : (convert 34 9 (.slice ao nz cap)).run Try.prog w8 = .ok (.string sx) w8 := (by rw [HSY.out]; exact run_convert_sl _ 34 5 9 Try.underlying34 Try.underlying5 Try.underlying9 _ zs (HSL.out.below hbl8)); have HA8 := hide hA8; have HBL8 := hide hbl8; have HN8 := hide hn8; clear HPU HB0 HBC HBL HNV hb8 hA8 hC8 hbl8 hn8 o8))
            (try simp only [Exit.inBlock, Exit.then])
            refine bodyPost_ret (ret_node1 rfl _ _ w.heap.size _ _ _ _ _ rfl rfl (laidN_blk HA8.out _ _ _ _)) rfl ?_
            rw [HGE.out, HGN.out]
            exact ⟨_, rfl, (HN8.out.only (laidN_only w8 w.heap.size _ _ _ _) (fun j hj => by omega)).le (by omega), HBL8.out.trans ((laidN_only w8 w.heap.size _ _ _ _).below HBL8.out.size (fun j hj e => by omega))⟩
          · rw [if_neg (fun h => hz (HINJ.out.2 h.2))] at HGE
            rw [HGE.out, if_neg (by omega)] at HGN
            have hne' : (sx.toList == sy.toList) = false := by
              rw [Bool.eq_false_iff]; intro hh; exact hz ((toList_same _ _).1 (by simpa using hh))
            have hne2 : (sx.toList != sy.toList) = true := by rw [bne, hne']; rfl
            clear HINJ
            go_wp2_with ((go_at_call 19; refine (HPU.out W (Below.refl _ W)).mono ?_; rintro e1 w8 ⟨a8, c8, rfl, o8, hb8⟩; have hA8 := HB0.out.below hb8 HB0.out.lt; have hC8 := HBC.out.below hb8 HBC.out.lt; have hbl8 := HBL.out.trans (hb8.mono HBL.out.size); have hn8 := HNV.out.below hb8; clear c0 c1 c2 c3; obtain ⟨⟨c0, c1, c2, c3⟩, _⟩ := node_cells hC8; obtain ⟨⟨d0, d1, d2, d3⟩, k0, k1, k2, k3⟩ := node_cells hA8; have r1 : (convert 34 9 (.slice a8 (putB n).length c8)).run Try.prog w8 = .ok (.string sx) w8 := (by rw [HSX.out]; exact run_convert_sl _ 34 5 9 Try.underlying34 Try.underlying5 Try.underlying9 _ _ (sl_of_own_len o8 HOB.out)); have r2 : (convert 34 9 (.slice ao nz cap)).run Try.prog w8 = .ok (.string sy) w8 := (by rw [HSY.out]; exact run_convert_sl _ 34 5 9 Try.underlying34 Try.underlying5 Try.underlying9 _ zs (HSL.out.below hbl8)); have HA8 := hide hA8; have HBL8 := hide hbl8; have HN8 := hide hn8; clear HPU HB0 HBC HBL HNV hb8 hA8 hC8 hbl8 hn8 o8))
            (try simp only [Exit.inBlock, Exit.then])
            refine bodyPost_ret (ret_node1 rfl _ _ w.heap.size _ _ _ _ _ rfl rfl (laidN_blk HA8.out _ _ _ _)) rfl ?_
            rw [HGE.out, HGN.out]
            exact GivesN.no 100 (HBL8.out.trans ((laidN_only w8 w.heap.size _ _ _ _).below HBL8.out.size (fun j hj e => by omega)))
        · rw [if_neg (fun h => hc h.1)] at HGE
          rw [HGE.out, if_neg (by omega)] at HGN
          have hcb' : (checkN n == 0) = false := by simpa using hc
          generalize checkN n = C at *
          go_wp2_with ((go_at_call 19; refine (HPU.out W (Below.refl _ W)).mono ?_; rintro e1 w8 ⟨a8, c8, rfl, o8, hb8⟩; have hA8 := HB0.out.below hb8 HB0.out.lt; have hC8 := HBC.out.below hb8 HBC.out.lt; have hbl8 := HBL.out.trans (hb8.mono HBL.out.size); have hn8 := HNV.out.below hb8; clear c0 c1 c2 c3; obtain ⟨⟨c0, c1, c2, c3⟩, _⟩ := node_cells hC8; obtain ⟨⟨d0, d1, d2, d3⟩, k0, k1, k2, k3⟩ := node_cells hA8; have HA8 := hide hA8; have HBL8 := hide hbl8; have HN8 := hide hn8; clear HPU HB0 HBC HBL HNV hb8 hA8 hC8 hbl8 hn8 o8))
          (try simp only [Exit.inBlock, Exit.then])
          refine bodyPost_ret (ret_node1 rfl _ _ w.heap.size _ _ _ _ _ rfl rfl (laidN_blk HA8.out _ _ _ _)) rfl ?_
          rw [HGE.out, HGN.out]
          exact GivesN.no 100 (HBL8.out.trans ((laidN_only w8 w.heap.size _ _ _ _).below HBL8.out.size (fun j hj e => by omega)))
      | succ g =>
        have hjN : (j : Int) < (n0 : Int) := by omega
        obtain ⟨n1, hn1, hn1l, hn1t⟩ := byte_nat HOK.out pp
        obtain ⟨p2, hp2⟩ : ∃ p2, p2 = pp + 1 + n1 := ⟨_, rfl⟩
        obtain ⟨n2, hn2, hn2l, hn2t⟩ := byte_nat HOK.out p2
        have HST : Hid (tkP (g + 1) (zs.drop pp) = (manyF zs (pp + 1) n1, manyF zs (p2 + 1) n2) :: tkP g (zs.drop (p2 + 1 + n2))) := by
          show _ = _
          rw [tkP_step g pp n1 n2 zs hn1t (by rw [← hp2]; exact hn2t), hp2]
        have HO3 := hide (hng.one HSL.out htw htl (by omega) (by have := HNZ.out; omega))
        rw [hn1] at HO3
        have HN2 := hide hn2
        have hz1 : xs.length ≤ 1000 := by have := HXL.out; have := HPL.out; omega
        have HQ1 := hide (manyF_ok (pp + 1) HOK.out n1)
        have HQ2 := hide (manyF_ok (p2 + 1) HOK.out n2)
        have HP2 := hide hp2
        have hp2b : p2 ≤ pp + 256 := by omega
        clear hn1 hn1t hn2 hn2t hng HNG3 hp2
        go_wp2_with (first | (go_at_call 60; refine HO3.out.mono ?_; rintro e w6 ⟨rfl, ng6⟩; have HM6 := hide (ng6.many HSL.out htw htl (by omega) (by have := HNZ.out; omega) n1 hn1l); clear HO3 ng6) | (go_at_call 61; refine HM6.out.mono ?_; rintro e w7 ⟨a1, d1, rfl, ng7⟩; have t0 : w7.cell? ⟨cb, 0, none⟩ = some (.bool true) := ng7.cbox.cell 0; rw [← HP2.out] at ng7;have HNG7 := hide ng7; clear HM6 ng7))
        generalize manyF zs (pp + 1) n1 = q1 at *
        refine wp_region_chain [some (.pointer (some ⟨cb, 1, none⟩)), some (.slice pa0 j pc0), some (.slice a1 n1 d1), some (.pointer (some ⟨tb, 0, none⟩)), some (.pointer (some ⟨tb, 0, none⟩)), none, none, none, none, none, some (.pointer (some ⟨cb, 1, none⟩)), none] [5, 6, 7, 8, 9, 11] (GpS w cb tb (.slice ao nz cap) zs p2 n2 (.slice pa0 j pc0) (.slice a1 n1 d1 : Value) xs (ex ++ [((.slice a1 n1 d1 : Value), q1)])) 99 (by kernel_rfl) (by kernel_rfl) (by kernel_rfl) (by kernel_rfl) rfl ?_ ?_ ?_
        · intro vals0
          exact (HNG7.out.keep (TkR.stab htl _ _) ((Below.refl _ w7).drew) : Ng w cb cb (TkR tb (.slice ao nz cap) (p2)) true (.slice pa0 j pc0) nilS nilS (.slice pa0 j pc0) nilS nilS (xs) [] [] ((ex ++ [((.slice a1 n1 d1 : Value), q1)])) w7.drew)
        · refine ⟨?_, ?_, ?_, ?_, ?_, ?_, ?_, ?_, ?_, ?_, ?_, ?_, trivial⟩
          · intro k vals act wx hk h hs
            have e7 : act.eval (.tmp 7) = .pointer (some ⟨cb, 0, none⟩) := h.old 7 (by kernel_rfl)
            clear h
            refine gives_by rfl act.eval rfl ?_
            generalize act.eval = ρ at *
            intro hf hc
            go_simp
            exact ⟨rfl, hs⟩
          · intro k vals act wx hk h hs
            have e54 : act.eval (.tmp 54) = .pointer (some ⟨cb, 1, none⟩) := h.q 0 54 (by kernel_rfl) rfl
            clear h
            have cx := GpS.cell hs hk
            refine gives_by rfl act.eval rfl ?_
            generalize act.eval = ρ at *
            intro hf hc
            go_simp
            exact ⟨rfl, hs⟩
          · intro k vals act wx hk h hs
            have e10 : act.eval (.tmp 10) = .slice a1 n1 d1 := h.old 10 (by kernel_rfl)
            clear h
            refine gives_by rfl act.eval rfl ?_
            generalize act.eval = ρ at *
            intro hf hc
            go_simp
            exact ⟨rfl, hs⟩
          · intro k vals act wx hk h hs
            have e6 : act.eval (.tmp 6) = .pointer (some ⟨tb, 0, none⟩) := h.old 6 (by kernel_rfl)
            clear h
            refine gives_by rfl act.eval rfl ?_
            generalize act.eval = ρ at *
            intro hf hc
            go_simp
            exact ⟨rfl, hs⟩
          · intro k vals act wx hk h hs
            have e6 : act.eval (.tmp 6) = .pointer (some ⟨tb, 0, none⟩) := h.old 6 (by kernel_rfl)
            clear h
            refine gives_by rfl act.eval rfl ?_
            generalize act.eval = ρ at *
            intro hf hc
            go_simp
            exact ⟨rfl, hs⟩
          · intro vals act wx h hs
            have e58 : act.eval (.tmp 58) = .pointer (some ⟨tb, 0, none⟩) := h.q 4 58 (by kernel_rfl) rfl
            clear h
            have hng : Ng w cb cb (TkR tb (.slice ao nz cap) (p2)) true (.slice pa0 j pc0) nilS nilS (.slice pa0 j pc0) nilS nilS (xs) [] [] ((ex ++ [((.slice a1 n1 d1 : Value), q1)])) wx := hs
            refine gives_by rfl act.eval rfl ?_
            generalize act.eval = ρ at *
            intro hf hc
            go_simp
            refine (hng.one HSL.out htw htl (by omega) (by have := HNZ.out; omega)).mono ?_
            rintro e w' ⟨he, hc'⟩
            rw [HN2.out] at he
            exact ⟨_, he, (⟨hc', rfl⟩ : Ng w cb cb (TkR tb (.slice ao nz cap) (p2 + 1)) true (.slice pa0 j pc0) nilS nilS (.slice pa0 j pc0) nilS nilS (xs) [] [] ((ex ++ [((.slice a1 n1 d1 : Value), q1)])) w' ∧ (.int .i64 (n2 : Int) : Value) = .int .i64 (n2 : Int))⟩
          · intro vals act wx h hs
            have e57 : act.eval (.tmp 57) = .pointer (some ⟨tb, 0, none⟩) := h.q 3 57 (by kernel_rfl) rfl
            have e59 : act.eval (.tmp 59) = vals 5 := h.val 5 59 (by kernel_rfl)
            clear h
            obtain ⟨hng, h5⟩ : Ng w cb cb (TkR tb (.slice ao nz cap) (p2 + 1)) true (.slice pa0 j pc0) nilS nilS (.slice pa0 j pc0) nilS nilS (xs) [] [] ((ex ++ [((.slice a1 n1 d1 : Value), q1)])) wx ∧ vals 5 = .int .i64 (n2 : Int) := hs
            rw [h5] at e59
            refine gives_by rfl act.eval rfl ?_
            generalize act.eval = ρ at *
            intro hf hc
            go_simp
            refine (hng.many HSL.out htw htl (by omega) (by have := HNZ.out; omega) n2 hn2l).mono ?_
            rintro e w' ⟨ra, rd, he, hc'⟩
            exact ⟨_, he, (hc' : Ng w cb cb (TkR tb (.slice ao nz cap) (p2 + 1 + n2)) true (.slice pa0 j pc0) nilS nilS (.slice pa0 j pc0) nilS nilS (xs) [] [] ((ex ++ [((.slice a1 n1 d1 : Value), q1)]) ++ [((.slice ra n2 rd : Value), manyF zs (p2 + 1) n2)]) w')⟩
          · intro vals act wx h hs
            have e56 : act.eval (.tmp 56) = .slice a1 n1 d1 := h.q 2 56 (by kernel_rfl) rfl
            have e60 : act.eval (.tmp 60) = vals 6 := h.val 6 60 (by kernel_rfl)
            clear h
            have hng : Ng w cb cb (TkR tb (.slice ao nz cap) (p2 + 1 + n2)) true (.slice pa0 j pc0) nilS nilS (.slice pa0 j pc0) nilS nilS (xs) [] [] ((ex ++ [((.slice a1 n1 d1 : Value), q1)]) ++ [(vals 6, manyF zs (p2 + 1) n2)]) wx := hs
            obtain ⟨b2, d2, hf2⟩ := own_form' (hng.ex (vals 6, manyF zs (p2 + 1) n2) (by simp))
            simp only at hf2
            rw [hf2] at e60
            refine gives_by rfl act.eval rfl ?_
            generalize act.eval = ρ at *
            intro hf hc
            go_simp
            exact (⟨hng, by rw [hf2]⟩ : Ng w cb cb (TkR tb (.slice ao nz cap) (p2 + 1 + n2)) true (.slice pa0 j pc0) nilS nilS (.slice pa0 j pc0) nilS nilS (xs) [] [] ((ex ++ [((.slice a1 n1 d1 : Value), q1)]) ++ [(vals 6, manyF zs (p2 + 1) n2)]) wx ∧ (.agg #[(.slice a1 n1 d1 : Value), .slice b2 (manyF zs (p2 + 1) n2).length d2] : Value) = .agg #[(.slice a1 n1 d1 : Value), vals 6])
          · intro vals act wx h hs
            have e61 : act.eval (.tmp 61) = vals 7 := h.val 7 61 (by kernel_rfl)
            clear h
            obtain ⟨hng, h6⟩ : Ng w cb cb (TkR tb (.slice ao nz cap) (p2 + 1 + n2)) true (.slice pa0 j pc0) nilS nilS (.slice pa0 j pc0) nilS nilS (xs) [] [] ((ex ++ [((.slice a1 n1 d1 : Value), q1)]) ++ [(vals 6, manyF zs (p2 + 1) n2)]) wx ∧ vals 7 = .agg #[(.slice a1 n1 d1 : Value), vals 6] := hs
            rw [h6] at e61
            obtain ⟨i0, hi, hz0, hz1, hz2⟩ := info_parts infoPair
            have hr := run_build_one (P := Try.prog) wx 22 36 i0 _ [(.slice a1 n1 d1 : Value), vals 6] Try.underlying22 hi hz0 hz1 (by simp) (by simp)
            refine gives_of_run rfl (exec_buildSlice1 22 1 (.tmp 61) rfl _ _ e61 hr) ?_
            have hbn : Below wx.heap.size wx (wx.alloc (.cells [(.slice a1 n1 d1 : Value), vals 6].toArray 36)) := (Below.refl _ wx).alloc (Nat.le_refl _) _
            exact (⟨hng.keep (TkR.stab htl _ _) hbn, wx.heap.size, rfl, Blk.new wx _ [(.slice a1 n1 d1 : Value), vals 6]⟩ : Ng w cb cb (TkR tb (.slice ao nz cap) (p2 + 1 + n2)) true (.slice pa0 j pc0) nilS nilS (.slice pa0 j pc0) nilS nilS (xs) [] [] ((ex ++ [((.slice a1 n1 d1 : Value), q1)]) ++ [(vals 6, manyF zs (p2 + 1) n2)]) (wx.alloc (.cells [(.slice a1 n1 d1 : Value), vals 6].toArray 36)) ∧ ∃ g, (.slice (some ⟨wx.heap.size, 0, none⟩) 1 1 : Value) = .slice (some ⟨g, 0, none⟩) 1 1 ∧ Blk (wx.alloc (.cells [(.slice a1 n1 d1 : Value), vals 6].toArray 36)) g 36 [(.slice a1 n1 d1 : Value), vals 6])
          · intro vals act wx h hs
            have e55 : act.eval (.tmp 55) = .slice pa0 j pc0 := h.q 1 55 (by kernel_rfl) rfl
            have e62 : act.eval (.tmp 62) = vals 8 := h.val 8 62 (by kernel_rfl)
            clear h
            obtain ⟨hng, g', h7, hg⟩ : Ng w cb cb (TkR tb (.slice ao nz cap) (p2 + 1 + n2)) true (.slice pa0 j pc0) nilS nilS (.slice pa0 j pc0) nilS nilS (xs) [] [] ((ex ++ [((.slice a1 n1 d1 : Value), q1)]) ++ [(vals 6, manyF zs (p2 + 1) n2)]) wx ∧ ∃ g, vals 8 = .slice (some ⟨g, 0, none⟩) 1 1 ∧ Blk wx g 36 [(.slice a1 n1 d1 : Value), vals 6] := hs
            rw [h7] at e62
            obtain ⟨b2, d2, hf2⟩ := own_form' (hng.ex (vals 6, manyF zs (p2 + 1) n2) (by simp))
            simp only at hf2
            rw [hf2] at hg
            obtain ⟨p', w', hr, hc', a', c', hp'⟩ := hng.pushP (TkR.stab htl _ _) g' a1 b2 n1 _ d1 d2 hg hz1
            rw [← hf2] at hc'
            refine gives_of_run rfl (exec_append (.tmp 55) (.tmp 62) 22 rfl _ _ e55 e62 _ hr) ?_
            exact (⟨hc', a', _, c', hp'⟩ : Ng w cb cb (TkR tb (.slice ao nz cap) (p2 + 1 + n2)) true (.slice pa0 j pc0) nilS nilS (p') nilS nilS (xs ++ [((.slice a1 n1 d1 : Value), vals 6)]) [] [] ((ex ++ [((.slice a1 n1 d1 : Value), q1)]) ++ [(vals 6, manyF zs (p2 + 1) n2)]) w' ∧ ∃ a n c, p' = .slice a n c)
          · intro k vals act wx hk h hs
            have e7 : act.eval (.tmp 7) = .pointer (some ⟨cb, 0, none⟩) := h.old 7 (by kernel_rfl)
            clear h
            refine gives_by rfl act.eval rfl ?_
            generalize act.eval = ρ at *
            intro hf hc
            go_simp
            exact ⟨rfl, hs⟩
          · intro vals act wx h hs
            have e64 : act.eval (.tmp 64) = .pointer (some ⟨cb, 1, none⟩) := h.q 10 64 (by kernel_rfl) rfl
            have e63 : act.eval (.tmp 63) = vals 9 := h.val 9 63 (by kernel_rfl)
            clear h
            obtain ⟨hng, a', n', c', h8⟩ : Ng w cb cb (TkR tb (.slice ao nz cap) (p2 + 1 + n2)) true (.slice pa0 j pc0) nilS nilS (vals 9) nilS nilS (xs ++ [((.slice a1 n1 d1 : Value), vals 6)]) [] [] ((ex ++ [((.slice a1 n1 d1 : Value), q1)]) ++ [(vals 6, manyF zs (p2 + 1) n2)]) wx ∧ ∃ a n c, vals 9 = .slice a n c := hs
            rw [h8] at e63
            have c0 : wx.cell? ⟨cb, 1, none⟩ = some (.slice pa0 j pc0) := hng.cbox.cell 1
            have f0 : wx.frozen? ⟨cb, 1, none⟩ = false := hng.cbox.frozen 1
            have hfin : Ng w cb cb (TkR tb (.slice ao nz cap) (p2 + 1 + n2)) true (vals 9) nilS nilS (vals 9) nilS nilS (xs ++ [((.slice a1 n1 d1 : Value), vals 6)]) [] [] ((ex ++ [((.slice a1 n1 d1 : Value), q1)]) ++ [(vals 6, manyF zs (p2 + 1) n2)]) (wx.setCell ⟨cb, 1, none⟩ (.slice a' n' c')) := by have := hng.put (TkR.stab htl _ _) 1 (.slice a' n' c') (.slice a' n' c') nilS nilS rfl; rw [h8] at this ⊢; exact this
            clear hng h8
            refine gives_by rfl act.eval rfl ?_
            generalize act.eval = ρ at *
            intro hf hc
            go_simp
            exact hfin
        · intro vals1 w' hq hs
          have hfin : Ng w cb cb (TkR tb (.slice ao nz cap) (p2 + 1 + n2)) true (vals1 9) nilS nilS (vals1 9) nilS nilS (xs ++ [((.slice a1 n1 d1 : Value), vals1 6)]) [] [] ((ex ++ [((.slice a1 n1 d1 : Value), q1)]) ++ [(vals1 6, manyF zs (p2 + 1) n2)]) w' := hs
          have HNX := hide (pairs_snoc (k := (.slice a1 n1 d1 : Value)) (v := vals1 6) (q1 := q1) (q2 := manyF zs (p2 + 1) n2) (ex' := (ex ++ [((.slice a1 n1 d1 : Value), q1)]) ++ [(vals1 6, manyF zs (p2 + 1) n2)]) HXL.out (fun x hx => List.mem_append_left _ (List.mem_append_left _ hx)) (by simp) (by simp) HEX.out)
          have HF := hide hfin
          clear hq hs hfin
          simp only [putAll, Act.put, List.setIfInBounds_toArray, List.set_cons_zero, List.set_cons_succ, Nat.zero_add, Nat.reduceAdd]
          go_wp2
          go_roundg g
          case measure => omega
          case rel =>
            refine ⟨j + 1, p2 + 1 + n2, vals1 9, _, ps ++ [(q1, manyF zs (p2 + 1) n2)], _, by omega, by go_num, by rw [List.length_append, List.length_append, HXL.out]; rfl, by rw [List.length_append, HPL.out]; rfl, by omega, HF.out, ?_, HNX.out, oks_snoc HQ1.out HQ2.out HOKS.out⟩
            rw [HTK.out, HST.out]
            simp
  · by_cases k4 : kind = 4
    · subst k4
      rw [if_pos (show (4 : Int) = 3 ∨ (4 : Int) = 4 by omega)] at HGE
      obtain ⟨n0, hn0, hn0l, hn0t⟩ := byte_nat hok 0
      obtain ⟨w1, hw1⟩ : ∃ w1, ((w.alloc (.cells #[.bool false, .slice none 0 0, .slice none 0 0, .slice none 0 0] 26)).alloc (.cells #[.slice ao nz cap, .int .i64 0] 77)).alloc (.cells #[.bool false, .slice none 0 0, .slice none 0 0, .slice none 0 0] 26) = w1 := ⟨_, rfl⟩
      obtain ⟨tb, htb⟩ : ∃ tb, w.heap.size + 1 = tb := ⟨_, rfl⟩
      obtain ⟨cb, hcb⟩ : ∃ cb, tb + 1 = cb := ⟨_, rfl⟩
      have htw : w.heap.size < tb := by omega
      have htl : tb < cb := by omega
      have HNG : Hid (Ng w cb cb (TkR tb (.slice ao nz cap) 0) false nilS nilS nilS nilS nilS nilS [] [] [] [] w1) := by
        rw [← hw1]
        refine ⟨fun q hq => (by simp at hq), ?_, World.ownsRow_nil _ _ _ _, World.ownsRow_nil _ _ _ _, Ints.nil _ _, ((Blk.new w _ zeroC).alloc _).alloc _, by omega, Nat.le_refl _, ?_, (((Below.refl _ w).alloc (Nat.le_refl _) _).alloc (by simp) _).alloc (by simp; omega) _⟩
        · have := Blk.new ((w.alloc (.cells #[.bool false, .slice none 0 0, .slice none 0 0, .slice none 0 0] 26)).alloc (.cells #[.slice ao nz cap, .int .i64 0] 77)) 26 [.bool false, .slice none 0 0, .slice none 0 0, .slice none 0 0]
          rw [World.size_alloc, World.size_alloc, htb, hcb] at this
          exact this
        · have := (Blk.new (w.alloc (.cells #[.bool false, .slice none 0 0, .slice none 0 0, .slice none 0 0] 26)) tkT [.slice ao nz cap, .int .i64 0]).alloc (.cells #[.bool false, .slice none 0 0, .slice none 0 0, .slice none 0 0] 26)
          rw [World.size_alloc, htb] at this
          exact this
      have hO1 := HNG.out.one HSL.out htw htl (by omega) (by have := HNZ.out; omega)
      rw [hn0] at hO1
      have HO1 : Hid (Calls Try.prog 60 #[.pointer (some ⟨w.heap.size + 1, 0, none⟩)] (((w.alloc (.cells #[.bool false, .slice none 0 0, .slice none 0 0, .slice none 0 0] 26)).alloc (.cells #[.slice ao nz cap, .int .i64 0] 77)).alloc (.cells #[.bool false, .slice none 0 0, .slice none 0 0, .slice none 0 0] 26)) fun e w' => e = .returned (.int .i64 (n0 : Int)) ∧ Ng w cb cb (TkR tb (.slice ao nz cap) (0 + 1)) false nilS nilS nilS nilS nilS nilS [] [] [] [] w') := by show Calls _ _ _ _ _; rw [htb, hw1]; exact hO1
      have HTB := hide htb
      have HCB := hide hcb
      clear hok hO1 htb hcb hw1 HNG
      obtain ⟨x1, hx1, hx1l, _⟩ := byte_nat HOK.out 1
      obtain ⟨x2, hx2, hx2l, _⟩ := byte_nat HOK.out 2
      have HX1 := hide hx1
      have HX2 := hide hx2
      have hc1 : ([] : List Int).length ≤ 1000 := by simp
      have hwA : IntKind.i64.wrap (256 * (x1 : Int)) = 256 * (x1 : Int) := IntWalk.i64_in _ (by omega)
      have hwB : IntKind.i64.wrap (256 * (x1 : Int) + (x2 : Int)) = 256 * (x1 : Int) + (x2 : Int) := IntWalk.i64_in _ (by omega)
      clear hx1 hx2
      go_enter Try.func21, Try.ntmps21
      go_wp2_with ((go_at_call 60; refine HO1.out.mono ?_; rintro e w2 ⟨rfl, ng2⟩; have t0 : w2.cell? ⟨w.heap.size + 1 + 1, 0, none⟩ = some (.bool false) := (by rw [HTB.out, HCB.out]; exact ng2.cbox.cell 0); have HNG2 := hide ng2; clear HO1 ng2))
      simp only [HTB.out, HCB.out]
      refine wp_region_chaind [some (.pointer (some ⟨cb, 3, none⟩)), some (.slice none 0 0), some (.pointer (some ⟨tb, 0, none⟩)), none, some (.int .i64 (256 * (x1 : Int))), some (.pointer (some ⟨tb, 0, none⟩)), none, none, none, none, some (.pointer (some ⟨cb, 3, none⟩)), none] [3, 6, 7, 8, 9, 11] (GcS w cb tb (.slice ao nz cap) (1) ((x1 : Int)) ((x2 : Int)) (nilS) (.slice none 0 0) ([]) ([]) ([])) 99 (by kernel_rfl) (by kernel_rfl) (by kernel_rfl) (by kernel_rfl) rfl ?_ ?_ ?_
      · intro vals0
        exact (HNG2.out.keep (TkR.stab htl _ _) ((Below.refl _ w2).drew) : Ng w cb cb (TkR tb (.slice ao nz cap) (1)) false nilS (nilS) (.slice none 0 0) nilS (nilS) (.slice none 0 0) [] ([]) ([]) ([]) w2.drew)
      · refine ⟨?_, ?_, ?_, ?_, ?_, ?_, ?_, ?_, ?_, ?_, ?_, ?_, trivial⟩
        · intro k vals act wx hk hlk h hs
          have e7 : act.eval (.tmp 7) = .pointer (some ⟨cb, 0, none⟩) := h.old 7 (by kernel_rfl)
          clear h
          refine gives_by rfl act.eval rfl ?_
          generalize act.eval = ρ at *
          intro hf hc
          go_simp
          exact ⟨rfl, hs⟩
        · intro k vals act wx hk hlk h hs
          have e32 : act.eval (.tmp 32) = .pointer (some ⟨cb, 3, none⟩) := h.q 0 32 (by kernel_rfl) rfl
          clear h
          have cx := GcS.cell hs hk
          refine gives_by rfl act.eval rfl ?_
          generalize act.eval = ρ at *
          intro hf hc
          go_simp
          exact ⟨rfl, hs⟩
        · intro k vals act wx hk hlk h hs
          have e6 : act.eval (.tmp 6) = .pointer (some ⟨tb, 0, none⟩) := h.old 6 (by kernel_rfl)
          clear h
          refine gives_by rfl act.eval rfl ?_
          generalize act.eval = ρ at *
          intro hf hc
          go_simp
          exact ⟨rfl, hs⟩
        · intro vals act wx h hs
          have e34 : act.eval (.tmp 34) = .pointer (some ⟨tb, 0, none⟩) := h.q 2 34 (by kernel_rfl) rfl
          clear h
          have hng : Ng w cb cb (TkR tb (.slice ao nz cap) (1)) false nilS (nilS) (.slice none 0 0) nilS (nilS) (.slice none 0 0) [] ([]) ([]) ([]) wx := hs
          refine gives_by rfl act.eval rfl ?_
          generalize act.eval = ρ at *
          intro hf hc
          go_simp
          refine (hng.one HSL.out htw htl (by omega) (by have := HNZ.out; omega)).mono ?_
          rintro e w' ⟨he, hc'⟩
          rw [HX1.out] at he
          exact ⟨_, he, (⟨rfl, hc'⟩ : (.int .i64 ((x1 : Int)) : Value) = .int .i64 ((x1 : Int)) ∧ Ng w cb cb (TkR tb (.slice ao nz cap) (1 + 1)) false nilS (nilS) (.slice none 0 0) nilS (nilS) (.slice none 0 0) [] ([]) ([]) ([]) w')⟩
        · intro k vals act wx hk hlk h hs
          have e35 : act.eval (.tmp 35) = vals 3 := h.val 3 35 (by kernel_rfl)
          clear h
          have h3 := GcS.first hs hk (hlk 0 (by decide) ⟨35, by kernel_rfl⟩)
          rw [h3] at e35
          refine gives_by rfl act.eval rfl ?_
          generalize act.eval = ρ at *
          intro hf hc
          go_simp
          exact ⟨rfl, hs⟩
        · intro k vals act wx hk hlk h hs
          have e6 : act.eval (.tmp 6) = .pointer (some ⟨tb, 0, none⟩) := h.old 6 (by kernel_rfl)
          clear h
          refine gives_by rfl act.eval rfl ?_
          generalize act.eval = ρ at *
          intro hf hc
          go_simp
          exact ⟨rfl, hs⟩
        · intro vals act wx h hs
          have e37 : act.eval (.tmp 37) = .pointer (some ⟨tb, 0, none⟩) := h.q 5 37 (by kernel_rfl) rfl
          clear h
          obtain ⟨h3, hng⟩ : vals 3 = .int .i64 ((x1 : Int)) ∧ Ng w cb cb (TkR tb (.slice ao nz cap) (1 + 1)) false nilS (nilS) (.slice none 0 0) nilS (nilS) (.slice none 0 0) [] ([]) ([]) ([]) wx := hs
          refine gives_by rfl act.eval rfl ?_
          generalize act.eval = ρ at *
          intro hf hc
          go_simp
          refine (hng.one HSL.out htw htl (by omega) (by have := HNZ.out; omega)).mono ?_
          rintro e w' ⟨he, hc'⟩
          rw [HX2.out] at he
          exact ⟨_, he, (⟨h3, hc', rfl⟩ : vals 3 = .int .i64 ((x1 : Int)) ∧ Ng w cb cb (TkR tb (.slice ao nz cap) (1 + 2)) false nilS (nilS) (.slice none 0 0) nilS (nilS) (.slice none 0 0) [] ([]) ([]) ([]) w' ∧ (.int .i64 ((x2 : Int)) : Value) = .int .i64 ((x2 : Int)))⟩
        · intro vals act wx h hs
          have e36 : act.eval (.tmp 36) = .int .i64 (256 * (x1 : Int)) := h.q 4 36 (by kernel_rfl) rfl
          have e38 : act.eval (.tmp 38) = vals 6 := h.val 6 38 (by kernel_rfl)
          clear h
          obtain ⟨h3, hng, h6⟩ : vals 3 = .int .i64 ((x1 : Int)) ∧ Ng w cb cb (TkR tb (.slice ao nz cap) (1 + 2)) false nilS (nilS) (.slice none 0 0) nilS (nilS) (.slice none 0 0) [] ([]) ([]) ([]) wx ∧ vals 6 = .int .i64 ((x2 : Int)) := hs
          rw [h6] at e38
          refine gives_by rfl act.eval rfl ?_
          generalize act.eval = ρ at *
          intro hf hc
          go_simp
          exact (⟨h3, hng, rfl⟩ : vals 3 = .int .i64 ((x1 : Int)) ∧ Ng w cb cb (TkR tb (.slice ao nz cap) (1 + 2)) false nilS (nilS) (.slice none 0 0) nilS (nilS) (.slice none 0 0) [] ([]) ([]) ([]) wx ∧ (.int .i64 (256 * (x1 : Int) + (x2 : Int)) : Value) = .int .i64 (256 * (x1 : Int) + (x2 : Int)))
        · intro vals act wx h hs
          have e39 : act.eval (.tmp 39) = vals 7 := h.val 7 39 (by kernel_rfl)
          clear h
          obtain ⟨h3, hng, h7⟩ : vals 3 = .int .i64 ((x1 : Int)) ∧ Ng w cb cb (TkR tb (.slice ao nz cap) (1 + 2)) false nilS (nilS) (.slice none 0 0) nilS (nilS) (.slice none 0 0) [] ([]) ([]) ([]) wx ∧ vals 7 = .int .i64 (256 * (x1 : Int) + (x2 : Int)) := hs
          rw [h7] at e39
          refine gives_of_run rfl (exec_buildSlice1 24 1 (.tmp 39) rfl _ _ e39 (build_int wx (256 * (x1 : Int) + (x2 : Int)))) ?_
          have hbn : Below wx.heap.size wx (wx.alloc (.cells #[.int .i64 (256 * (x1 : Int) + (x2 : Int))] 3)) := (Below.refl _ wx).alloc (Nat.le_refl _) _
          exact (⟨h3, hng.keep (TkR.stab htl _ _) hbn, wx.heap.size, rfl, Blk.new wx _ [.int .i64 (256 * (x1 : Int) + (x2 : Int))]⟩ : vals 3 = .int .i64 ((x1 : Int)) ∧ Ng w cb cb (TkR tb (.slice ao nz cap) (1 + 2)) false nilS (nilS) (.slice none 0 0) nilS (nilS) (.slice none 0 0) [] ([]) ([]) ([]) (wx.alloc (.cells #[.int .i64 (256 * (x1 : Int) + (x2 : Int))] 3)) ∧ ∃ g, (.slice (some ⟨wx.heap.size, 0, none⟩) 1 1 : Value) = .slice (some ⟨g, 0, none⟩) 1 1 ∧ Blk (wx.alloc (.cells #[.int .i64 (256 * (x1 : Int) + (x2 : Int))] 3)) g 3 [.int .i64 (256 * (x1 : Int) + (x2 : Int))])
        · intro vals act wx h hs
          have e33 : act.eval (.tmp 33) = .slice none 0 0 := h.q 1 33 (by kernel_rfl) rfl
          have e40 : act.eval (.tmp 40) = vals 8 := h.val 8 40 (by kernel_rfl)
          clear h
          obtain ⟨h3, hng, g', h8, hg⟩ : vals 3 = .int .i64 ((x1 : Int)) ∧ Ng w cb cb (TkR tb (.slice ao nz cap) (1 + 2)) false nilS (nilS) (.slice none 0 0) nilS (nilS) (.slice none 0 0) [] ([]) ([]) ([]) wx ∧ ∃ g, vals 8 = .slice (some ⟨g, 0, none⟩) 1 1 ∧ Blk wx g 3 [.int .i64 (256 * (x1 : Int) + (x2 : Int))] := hs
          rw [h8] at e40
          obtain ⟨p', w', hr, hc', a', c', hp'⟩ := hng.pushI (TkR.stab htl _ _) g' _ hg hc1
          refine gives_of_run rfl (exec_append (.tmp 33) (.tmp 40) 24 rfl _ _ e33 e40 _ hr) ?_
          exact (⟨h3, hc', a', _, c', hp'⟩ : vals 3 = .int .i64 ((x1 : Int)) ∧ Ng w cb cb (TkR tb (.slice ao nz cap) (1 + 2)) false nilS (nilS) (.slice none 0 0) nilS (nilS) (p') [] ([]) ([] ++ [256 * (x1 : Int) + (x2 : Int)]) ([]) w' ∧ ∃ a n c, p' = .slice a n c)
        · intro k vals act wx hk hlk h hs
          have e7 : act.eval (.tmp 7) = .pointer (some ⟨cb, 0, none⟩) := h.old 7 (by kernel_rfl)
          clear h
          refine gives_by rfl act.eval rfl ?_
          generalize act.eval = ρ at *
          intro hf hc
          go_simp
          exact ⟨rfl, hs⟩
        · intro vals act wx h hs
          have e42 : act.eval (.tmp 42) = .pointer (some ⟨cb, 3, none⟩) := h.q 10 42 (by kernel_rfl) rfl
          have e41 : act.eval (.tmp 41) = vals 9 := h.val 9 41 (by kernel_rfl)
          clear h
          obtain ⟨h3, hng, a', n', c', h9⟩ : vals 3 = .int .i64 ((x1 : Int)) ∧ Ng w cb cb (TkR tb (.slice ao nz cap) (1 + 2)) false nilS (nilS) (.slice none 0 0) nilS (nilS) (vals 9) [] ([]) ([] ++ [256 * (x1 : Int) + (x2 : Int)]) ([]) wx ∧ ∃ a n c, vals 9 = .slice a n c := hs
          rw [h9] at e41
          have cc : wx.cell? ⟨cb, 3, none⟩ = some (.slice none 0 0) := hng.cbox.cell 3
          have f0 : wx.frozen? ⟨cb, 3, none⟩ = false := hng.cbox.frozen 3
          have hfin : vals 3 = .int .i64 ((x1 : Int)) ∧ Ng w cb cb (TkR tb (.slice ao nz cap) (1 + 2)) false nilS (nilS) (vals 9) nilS (nilS) (vals 9) [] ([]) ([] ++ [256 * (x1 : Int) + (x2 : Int)]) ([]) (wx.setCell ⟨cb, 3, none⟩ (.slice a' n' c')) := ⟨h3, by have := hng.put (TkR.stab htl _ _) 3 (.slice a' n' c') nilS (nilS) (.slice a' n' c') rfl; rw [h9] at this ⊢; exact this⟩
          clear hng h9 h3
          refine gives_by rfl act.eval rfl ?_
          generalize act.eval = ρ at *
          intro hf hc
          go_simp
          exact hfin
      · intro vals1 w' hq hs
        obtain ⟨-, hfin⟩ : vals1 3 = .int .i64 (x1 : Int) ∧ Ng w cb cb (TkR tb (.slice ao nz cap) (1 + 2)) false nilS (nilS) (vals1 9) nilS (nilS) (vals1 9) [] ([]) ([] ++ [256 * (x1 : Int) + (x2 : Int)]) ([]) w' := hs
        obtain ⟨w3, rfl⟩ : ∃ x, x = w' := ⟨_, rfl⟩
        generalize vals1 9 = cv1 at *
        have HNG4 := hide hfin
        clear hq hfin HNG2 t0 hc1
        simp only [putAll, Act.put, List.setIfInBounds_toArray, List.set_cons_zero, List.set_cons_succ, Nat.zero_add, Nat.reduceAdd]
        go_wp2
        go_loopg [9] n0 (fun g i wr => ∃ (j pp : Nat) (k c : Value) (ys : List Value) (ks : List (List Int)) (cs : List Int) (ex : List (Value × List Int)), g + j = n0 ∧ i = .int .i64 (j : Int) ∧ ys.length = ks.length ∧ ks.length = j ∧ cs.length = j + 1 ∧ pp ≤ 3 + 300 * j ∧ Ng w cb cb (TkR tb (.slice ao nz cap) pp) false nilS k c nilS k c [] ys cs ex wr ∧ (tkK n0 (zs.drop 3)).1 = ks ++ (tkK g (zs.drop pp)).1 ∧ (256 * (x1 : Int) + (x2 : Int)) :: (tkK n0 (zs.drop 3)).2 = cs ++ (tkK g (zs.drop pp)).2 ∧
            (∀ i, i < ks.length → (ys.getD i nilS, ks.getD i []) ∈ ex) ∧ ∀ i, i < ks.length → ByteOk (ks.getD i []))
        case atStart => exact ⟨0, 3, nilS, _, [], [], [256 * (x1 : Int) + (x2 : Int)], [], by omega, rfl, rfl, rfl, rfl, by omega, HNG4.out, rfl, rfl, fun i hi => by simp at hi, fun i hi => by simp at hi⟩
        case round =>
          obtain ⟨j, pp, k0', c0', ys, ks, cs, ex, hgj, rfl, hyl, hkl, hcl, hpp, hng, htk1, htk2, hex, hoks⟩ := hrel
          obtain ⟨W, rfl⟩ : ∃ x, x = wr := ⟨_, rfl⟩
          have HYL := hide hyl
          have HKL := hide hkl
          have HCL := hide hcl
          have HTK1 := hide htk1
          have HTK2 := hide htk2
          have HEX := hide hex
          have HOKS := hide hoks
          obtain ⟨ka0, kc0, hkf⟩ := own_form' hng.krow
          rw [hyl, hkl] at hkf
          subst hkf
          obtain ⟨ca0, cc0, hcf⟩ := own_form' hng.ints
          rw [hcl] at hcf
          obtain ⟨cn, hcn⟩ : ∃ cn, cn = j + 1 := ⟨_, rfl⟩
          rw [← hcn] at hcf
          subst hcf
          have HCN := hide hcn
          have HNG3 := hide hng
          clear HNG4 hyl hkl hcl htk1 htk2 hex hoks hcn
          cases gk with
          | zero =>
            obtain rfl : j = n0 := by omega
            have HNV := hide (hng.val' (ps := []) rfl HYL.out (fun i hi => by simp at hi) HEX.out (fun i hi => by simp at hi) HOKS.out)
            have HTN : Hid (tkN 4 zs = ⟨false, [], ks, cs⟩) := by
              show _ = _
              have e0 : one zs = (j : Int) := by have := drop_one zs 0; rw [List.drop_zero] at this; rw [this]; exact hn0
              have e1 : 256 * one (zs.drop 1) + one (zs.drop 2) = 256 * (x1 : Int) + (x2 : Int) := by rw [drop_one, drop_one, HX1.out, HX2.out]
              rw [tkN, if_neg (by omega), e0, Int.toNat_natCast, e1, HTK1.out, HTK2.out, tkK, List.append_nil, List.append_nil]
            have hkc : ks.length + cs.length ≤ 9223372036854775807 := by have := HKL.out; have := HCL.out; omega
            rw [HTN.out] at HGN HGE
            unfold ndv at HNV
            clear hng HTN
            have hB0 := HNG3.out.b0
            have hBC := HNG3.out.cbox
            have hbl := HNG3.out.below
            obtain ⟨⟨c0, c1, c2, c3⟩, _⟩ := node_cells hBC
            have HB0 := hide hB0
            have HBC := hide hBC
            have HBL := hide hbl
            generalize hnd : (⟨false, [], ks, cs⟩ : Nd) = n at *
            generalize rgetE 4 zs = E at *
            generalize rgetN 4 zs = G at *
            have HPU : Hid (∀ wx, Below W.heap.size W wx → Calls Try.prog 19 #[.agg #[.bool false, .slice none 0 0, .slice ka0 j kc0, .slice ca0 cn cc0]] wx fun e w' => ∃ a c, e = .returned (.tuple #[.int .i64 (putK n), .slice a (putB n).length c, .int .i64 (checkN n)]) ∧ ownsB w' wx.heap.size (.slice a (putB n).length c) (putB n) ∧ Below wx.heap.size wx w') := fun wx hb => (HPUT.out wx _ n (HNV.out.val.below hb) (by rw [← hnd]; exact hkc)).mono fun e w' ⟨u, he, ho, hb'⟩ => by
              obtain ⟨a, c, rfl⟩ := own_form' ho
              exact ⟨a, c, he, ho, hb'⟩
            have HOB := hide (putB_ok HNV.out.val)
            generalize putK n = PK at *
            clear HPUT HNG3 hB0 hBC hbl hnd
            by_cases hc : checkN n = 0
            · have HINJ := hide (strOfNums_inj HOB.out HOK.out)
              obtain ⟨sx, hsx⟩ : ∃ s, s = strOfNums (putB n) := ⟨_, rfl⟩
              obtain ⟨sy, hsy⟩ : ∃ s, s = strOfNums zs := ⟨_, rfl⟩
              have HSX := hide hsx
              have HSY := hide hsy
              rw [← hsx, ← hsy] at HINJ
              rw [hc] at HPU
              clear hsx hsy
              by_cases hz : sx = sy
              · have hzz := HINJ.out.1 hz
                rw [if_pos ⟨hc, hzz⟩] at HGE
                rw [HGE.out, if_pos rfl] at HGN
                subst hz
                clear HINJ hzz
                go_wp2_with ((go_at_call 19; refine (HPU.out W (Below.refl _ W)).mono ?_; rintro e1 w8 ⟨a8, c8, rfl, o8, hb8⟩; have hA8 := HB0.out.below hb8 HB0.out.lt; have hC8 := HBC.out.below hb8 HBC.out.lt; have hbl8 := HBL.out.trans (hb8.mono HBL.out.size); have hn8 := HNV.out.below hb8; clear c0 c1 c2 c3; obtain ⟨⟨c0, c1, c2, c3⟩, _⟩ := node_cells hC8; obtain ⟨⟨d0, d1, d2, d3⟩, k0, k1, k2, k3⟩ := node_cells hA8; have r1 : (convert 34 9 (.slice a8 (putB n).length c8)).run Try.prog w8 = .ok (.string sx) w8 := (by rw [HSX.out]; exact run_convert_sl _ 34 5 9 Try.underlying34 Try.underlying5 Try.underlying9 _ _ (sl_of_own_len o8 HOB.out)); have r2 : (convert 34 9 (.slice ao nz cap)).run Try.prog w8 = .ok (.string sx) w8 := (by rw [HSY.out]; exact run_convert_sl _ 34 5 9 Try.underlying34 Try.underlying5 Try.underlying9 _ zs (HSL.out.below hbl8)); have HA8 := hide hA8; have HBL8 := hide hbl8; have HN8 := hide hn8; clear HPU HB0 HBC HBL HNV hb8 hA8 hC8 hbl8 hn8 o8))
                (try simp only [Exit.inBlock, Exit.then])
                refine bodyPost_ret (ret_node1 rfl _ _ w.heap.size _ _ _ _ _ rfl rfl (laidN_blk HA8.out _ _ _ _)) rfl ?_
                rw [HGE.out, HGN.out]
                exact ⟨_, rfl, (HN8.out.only (laidN_only w8 w.heap.size _ _ _ _) (fun j hj => by omega)).le (by omega), HBL8.out.trans ((laidN_only w8 w.heap.size _ _ _ _).below HBL8.out.size (fun j hj e => by omega))⟩
              · rw [if_neg (fun h => hz (HINJ.out.2 h.2))] at HGE
                rw [HGE.out, if_neg (by omega)] at HGN
                have hne' : (sx.toList == sy.toList) = false := by
                  rw [Bool.eq_false_iff]; intro hh; exact hz ((toList_same _ _).1 (by simpa using hh))
                have hne2 : (sx.toList != sy.toList) = true := by rw [bne, hne']; rfl
                clear HINJ
                go_wp2_with ((go_at_call 19; refine (HPU.out W (Below.refl _ W)).mono ?_; rintro e1 w8 ⟨a8, c8, rfl, o8, hb8⟩; have hA8 := HB0.out.below hb8 HB0.out.lt; have hC8 := HBC.out.below hb8 HBC.out.lt; have hbl8 := HBL.out.trans (hb8.mono HBL.out.size); have hn8 := HNV.out.below hb8; clear c0 c1 c2 c3; obtain ⟨⟨c0, c1, c2, c3⟩, _⟩ := node_cells hC8; obtain ⟨⟨d0, d1, d2, d3⟩, k0, k1, k2, k3⟩ := node_cells hA8; have r1 : (convert 34 9 (.slice a8 (putB n).length c8)).run Try.prog w8 = .ok (.string sx) w8 := (by rw [HSX.out]; exact run_convert_sl _ 34 5 9 Try.underlying34 Try.underlying5 Try.underlying9 _ _ (sl_of_own_len o8 HOB.out)); have r2 : (convert 34 9 (.slice ao nz cap)).run Try.prog w8 = .ok (.string sy) w8 := (by rw [HSY.out]; exact run_convert_sl _ 34 5 9 Try.underlying34 Try.underlying5 Try.underlying9 _ zs (HSL.out.below hbl8)); have HA8 := hide hA8; have HBL8 := hide hbl8; have HN8 := hide hn8; clear HPU HB0 HBC HBL HNV hb8 hA8 hC8 hbl8 hn8 o8))
                (try simp only [Exit.inBlock, Exit.then])
                refine bodyPost_ret (ret_node1 rfl _ _ w.heap.size _ _ _ _ _ rfl rfl (laidN_blk HA8.out _ _ _ _)) rfl ?_
                rw [HGE.out, HGN.out]
                exact GivesN.no 100 (HBL8.out.trans ((laidN_only w8 w.heap.size _ _ _ _).below HBL8.out.size (fun j hj e => by omega)))
            · rw [if_neg (fun h => hc h.1)] at HGE
              rw [HGE.out, if_neg (by omega)] at HGN
              have hcb' : (checkN n == 0) = false := by simpa using hc
              generalize checkN n = C at *
              go_wp2_with ((go_at_call 19; refine (HPU.out W (Below.refl _ W)).mono ?_; rintro e1 w8 ⟨a8, c8, rfl, o8, hb8⟩; have hA8 := HB0.out.below hb8 HB0.out.lt; have hC8 := HBC.out.below hb8 HBC.out.lt; have hbl8 := HBL.out.trans (hb8.mono HBL.out.size); have hn8 := HNV.out.below hb8; clear c0 c1 c2 c3; obtain ⟨⟨c0, c1, c2, c3⟩, _⟩ := node_cells hC8; obtain ⟨⟨d0, d1, d2, d3⟩, k0, k1, k2, k3⟩ := node_cells hA8; have HA8 := hide hA8; have HBL8 := hide hbl8; have HN8 := hide hn8; clear HPU HB0 HBC HBL HNV hb8 hA8 hC8 hbl8 hn8 o8))
              (try simp only [Exit.inBlock, Exit.then])
              refine bodyPost_ret (ret_node1 rfl _ _ w.heap.size _ _ _ _ _ rfl rfl (laidN_blk HA8.out _ _ _ _)) rfl ?_
              rw [HGE.out, HGN.out]
              exact GivesN.no 100 (HBL8.out.trans ((laidN_only w8 w.heap.size _ _ _ _).below HBL8.out.size (fun j hj e => by omega)))
          | succ g =>
            have hjN : (j : Int) < (n0 : Int) := by omega
            obtain ⟨n1, hn1, hn1l, hn1t⟩ := byte_nat HOK.out pp
            obtain ⟨p2, hp2⟩ : ∃ p2, p2 = pp + 1 + n1 := ⟨_, rfl⟩
            obtain ⟨y1, hy1, hy1l, _⟩ := byte_nat HOK.out p2
            obtain ⟨y2, hy2, hy2l, _⟩ := byte_nat HOK.out (p2 + 1)
            have HST : Hid (tkK (g + 1) (zs.drop pp) = (manyF zs (pp + 1) n1 :: (tkK g (zs.drop (p2 + 2))).1, (256 * (y1 : Int) + (y2 : Int)) :: (tkK g (zs.drop (p2 + 2))).2)) := by
              show _ = _
              rw [tkK_step g pp n1 zs hn1t, ← hp2, hy1, hy2]
            have HO3 := hide (hng.one HSL.out htw htl (by omega) (by have := HNZ.out; omega))
            rw [hn1] at HO3
            have HY1 := hide hy1
            have HY2 := hide hy2
            have hwC : IntKind.i64.wrap (256 * (y1 : Int)) = 256 * (y1 : Int) := IntWalk.i64_in _ (by omega)
            have hwD : IntKind.i64.wrap (256 * (y1 : Int) + (y2 : Int)) = 256 * (y1 : Int) + (y2 : Int) := IntWalk.i64_in _ (by omega)
            have hu1 : ys.length ≤ 1000 := by have := HYL.out; have := HKL.out; omega
            have hc1 : cs.length ≤ 1000 := by have := HCL.out; omega
            have HQ1 := hide (manyF_ok (pp + 1) HOK.out n1)
            have HP2 := hide hp2
            have hp2b : p2 ≤ pp + 256 := by omega
            clear hn1 hn1t hy1 hy2 hng HNG3 hp2
            go_wp2_with (first | (go_at_call 60; refine HO3.out.mono ?_; rintro e w6 ⟨rfl, ng6⟩; have HM6 := hide (ng6.many HSL.out htw htl (by omega) (by have := HNZ.out; omega) n1 hn1l); clear HO3 ng6) | (go_at_call 61; refine HM6.out.mono ?_; rintro e w7 ⟨a1, d1, rfl, ng7⟩; have t0 : w7.cell? ⟨cb, 0, none⟩ = some (.bool false) := ng7.cbox.cell 0; rw [← HP2.out] at ng7; have t2 : w7.cell? ⟨cb, 2, none⟩ = some (.slice ka0 j kc0) := ng7.cbox.cell 2; have hal := ng7.keep (TkR.stab htl _ _) ((Below.refl _ w7).alloc (Nat.le_refl _) (.cells #[.slice a1 n1 d1] 34)); obtain ⟨k1, w8, hr8, ng8, ka1, kc1, rfl⟩ := hal.pushK (TkR.stab htl _ _) w7.heap.size a1 n1 d1 (Blk.new w7 _ [.slice a1 n1 d1]) hu1; have HR := hide hr8; have u2 : w8.cell? ⟨cb, 2, none⟩ = some (.slice ka0 j kc0) := ng8.cbox.cell 2; have uf : w8.frozen? ⟨cb, 2, none⟩ = false := ng8.cbox.frozen 2; have ng9 := ng8.put (TkR.stab htl _ _) 2 (.slice ka1 (ys.length + 1) kc1) nilS (.slice ka1 (ys.length + 1) kc1) (.slice ca0 cn cc0) rfl; have HNG9 := hide ng9; clear hal hr8 ng8 ng9;have HNG7 := hide ng7; clear HM6 ng7) | (at_builtin; (with_reducible refine wpList_append_run _ rfl (.tmp 66) (.tmp 68) 23 rfl _ _ ?_ ?_ _ _ HR.out ?_); exact rfl; exact rfl; clear HR))
            have HNX := hide (keys_snoc (v := (.slice a1 n1 d1 : Value)) (q := manyF zs (pp + 1) n1) (ex' := ex ++ [((.slice a1 n1 d1 : Value), manyF zs (pp + 1) n1)]) HYL.out (fun x hx => List.mem_append_left _ hx) (by simp) HEX.out)
            generalize w8.setCell ⟨cb, 2, none⟩ (.slice ka1 (ys.length + 1) kc1) = w9 at *
            have HNL : Hid ((ys ++ [(.slice a1 n1 d1 : Value)]).length = ys.length + 1) := by show _ = _; simp
            generalize hk1 : (.slice ka1 (ys.length + 1) kc1 : Value) = kk1 at *
            generalize ys ++ [(.slice a1 n1 d1 : Value)] = ys1 at *
            generalize ex ++ [((.slice a1 n1 d1 : Value), manyF zs (pp + 1) n1)] = ex1 at *
            generalize manyF zs (pp + 1) n1 = q1 at *
            clear HNG7 t0 t2 u2 uf
            refine wp_region_chaind [some (.pointer (some ⟨cb, 3, none⟩)), some (.slice ca0 cn cc0), some (.pointer (some ⟨tb, 0, none⟩)), none, some (.int .i64 (256 * (y1 : Int))), some (.pointer (some ⟨tb, 0, none⟩)), none, none, none, none, some (.pointer (some ⟨cb, 3, none⟩)), none] [3, 6, 7, 8, 9, 11] (GcS w cb tb (.slice ao nz cap) (p2) ((y1 : Int)) ((y2 : Int)) (kk1) (.slice ca0 cn cc0) (ys1) (cs) (ex1)) 99 (by kernel_rfl) (by kernel_rfl) (by kernel_rfl) (by kernel_rfl) rfl ?_ ?_ ?_
            · intro vals0
              exact (HNG9.out.keep (TkR.stab htl _ _) ((Below.refl _ w9).drew) : Ng w cb cb (TkR tb (.slice ao nz cap) (p2)) false nilS (kk1) (.slice ca0 cn cc0) nilS (kk1) (.slice ca0 cn cc0) [] (ys1) (cs) (ex1) w9.drew)
            · refine ⟨?_, ?_, ?_, ?_, ?_, ?_, ?_, ?_, ?_, ?_, ?_, ?_, trivial⟩
              · intro k vals act wx hk hlk h hs
                have e7 : act.eval (.tmp 7) = .pointer (some ⟨cb, 0, none⟩) := h.old 7 (by kernel_rfl)
                clear h
                refine gives_by rfl act.eval rfl ?_
                generalize act.eval = ρ at *
                intro hf hc
                go_simp
                exact ⟨rfl, hs⟩
              · intro k vals act wx hk hlk h hs
                have e71 : act.eval (.tmp 71) = .pointer (some ⟨cb, 3, none⟩) := h.q 0 71 (by kernel_rfl) rfl
                clear h
                have cx := GcS.cell hs hk
                refine gives_by rfl act.eval rfl ?_
                generalize act.eval = ρ at *
                intro hf hc
                go_simp
                exact ⟨rfl, hs⟩
              · intro k vals act wx hk hlk h hs
                have e6 : act.eval (.tmp 6) = .pointer (some ⟨tb, 0, none⟩) := h.old 6 (by kernel_rfl)
                clear h
                refine gives_by rfl act.eval rfl ?_
                generalize act.eval = ρ at *
                intro hf hc
                go_simp
                exact ⟨rfl, hs⟩
              · intro vals act wx h hs
                have e73 : act.eval (.tmp 73) = .pointer (some ⟨tb, 0, none⟩) := h.q 2 73 (by kernel_rfl) rfl
                clear h
                have hng : Ng w cb cb (TkR tb (.slice ao nz cap) (p2)) false nilS (kk1) (.slice ca0 cn cc0) nilS (kk1) (.slice ca0 cn cc0) [] (ys1) (cs) (ex1) wx := hs
                refine gives_by rfl act.eval rfl ?_
                generalize act.eval = ρ at *
                intro hf hc
                go_simp
                refine (hng.one HSL.out htw htl (by omega) (by have := HNZ.out; omega)).mono ?_
                rintro e w' ⟨he, hc'⟩
                rw [HY1.out] at he
                exact ⟨_, he, (⟨rfl, hc'⟩ : (.int .i64 ((y1 : Int)) : Value) = .int .i64 ((y1 : Int)) ∧ Ng w cb cb (TkR tb (.slice ao nz cap) (p2 + 1)) false nilS (kk1) (.slice ca0 cn cc0) nilS (kk1) (.slice ca0 cn cc0) [] (ys1) (cs) (ex1) w')⟩
              · intro k vals act wx hk hlk h hs
                have e74 : act.eval (.tmp 74) = vals 3 := h.val 3 74 (by kernel_rfl)
                clear h
                have h3 := GcS.first hs hk (hlk 0 (by decide) ⟨74, by kernel_rfl⟩)
                rw [h3] at e74
                refine gives_by rfl act.eval rfl ?_
                generalize act.eval = ρ at *
                intro hf hc
                go_simp
                exact ⟨rfl, hs⟩
              · intro k vals act wx hk hlk h hs
                have e6 : act.eval (.tmp 6) = .pointer (some ⟨tb, 0, none⟩) := h.old 6 (by kernel_rfl)
                clear h
                refine gives_by rfl act.eval rfl ?_
                generalize act.eval = ρ at *
                intro hf hc
                go_simp
                exact ⟨rfl, hs⟩
              · intro vals act wx h hs
                have e76 : act.eval (.tmp 76) = .pointer (some ⟨tb, 0, none⟩) := h.q 5 76 (by kernel_rfl) rfl
                clear h
                obtain ⟨h3, hng⟩ : vals 3 = .int .i64 ((y1 : Int)) ∧ Ng w cb cb (TkR tb (.slice ao nz cap) (p2 + 1)) false nilS (kk1) (.slice ca0 cn cc0) nilS (kk1) (.slice ca0 cn cc0) [] (ys1) (cs) (ex1) wx := hs
                refine gives_by rfl act.eval rfl ?_
                generalize act.eval = ρ at *
                intro hf hc
                go_simp
                refine (hng.one HSL.out htw htl (by omega) (by have := HNZ.out; omega)).mono ?_
                rintro e w' ⟨he, hc'⟩
                rw [HY2.out] at he
                exact ⟨_, he, (⟨h3, hc', rfl⟩ : vals 3 = .int .i64 ((y1 : Int)) ∧ Ng w cb cb (TkR tb (.slice ao nz cap) (p2 + 2)) false nilS (kk1) (.slice ca0 cn cc0) nilS (kk1) (.slice ca0 cn cc0) [] (ys1) (cs) (ex1) w' ∧ (.int .i64 ((y2 : Int)) : Value) = .int .i64 ((y2 : Int)))⟩
              · intro vals act wx h hs
                have e75 : act.eval (.tmp 75) = .int .i64 (256 * (y1 : Int)) := h.q 4 75 (by kernel_rfl) rfl
                have e77 : act.eval (.tmp 77) = vals 6 := h.val 6 77 (by kernel_rfl)
                clear h
                obtain ⟨h3, hng, h6⟩ : vals 3 = .int .i64 ((y1 : Int)) ∧ Ng w cb cb (TkR tb (.slice ao nz cap) (p2 + 2)) false nilS (kk1) (.slice ca0 cn cc0) nilS (kk1) (.slice ca0 cn cc0) [] (ys1) (cs) (ex1) wx ∧ vals 6 = .int .i64 ((y2 : Int)) := hs
                rw [h6] at e77
                refine gives_by rfl act.eval rfl ?_
                generalize act.eval = ρ at *
                intro hf hc
                go_simp
                exact (⟨h3, hng, rfl⟩ : vals 3 = .int .i64 ((y1 : Int)) ∧ Ng w cb cb (TkR tb (.slice ao nz cap) (p2 + 2)) false nilS (kk1) (.slice ca0 cn cc0) nilS (kk1) (.slice ca0 cn cc0) [] (ys1) (cs) (ex1) wx ∧ (.int .i64 (256 * (y1 : Int) + (y2 : Int)) : Value) = .int .i64 (256 * (y1 : Int) + (y2 : Int)))
              · intro vals act wx h hs
                have e78 : act.eval (.tmp 78) = vals 7 := h.val 7 78 (by kernel_rfl)
                clear h
                obtain ⟨h3, hng, h7⟩ : vals 3 = .int .i64 ((y1 : Int)) ∧ Ng w cb cb (TkR tb (.slice ao nz cap) (p2 + 2)) false nilS (kk1) (.slice ca0 cn cc0) nilS (kk1) (.slice ca0 cn cc0) [] (ys1) (cs) (ex1) wx ∧ vals 7 = .int .i64 (256 * (y1 : Int) + (y2 : Int)) := hs
                rw [h7] at e78
                refine gives_of_run rfl (exec_buildSlice1 24 1 (.tmp 78) rfl _ _ e78 (build_int wx (256 * (y1 : Int) + (y2 : Int)))) ?_
                have hbn : Below wx.heap.size wx (wx.alloc (.cells #[.int .i64 (256 * (y1 : Int) + (y2 : Int))] 3)) := (Below.refl _ wx).alloc (Nat.le_refl _) _
                exact (⟨h3, hng.keep (TkR.stab htl _ _) hbn, wx.heap.size, rfl, Blk.new wx _ [.int .i64 (256 * (y1 : Int) + (y2 : Int))]⟩ : vals 3 = .int .i64 ((y1 : Int)) ∧ Ng w cb cb (TkR tb (.slice ao nz cap) (p2 + 2)) false nilS (kk1) (.slice ca0 cn cc0) nilS (kk1) (.slice ca0 cn cc0) [] (ys1) (cs) (ex1) (wx.alloc (.cells #[.int .i64 (256 * (y1 : Int) + (y2 : Int))] 3)) ∧ ∃ g, (.slice (some ⟨wx.heap.size, 0, none⟩) 1 1 : Value) = .slice (some ⟨g, 0, none⟩) 1 1 ∧ Blk (wx.alloc (.cells #[.int .i64 (256 * (y1 : Int) + (y2 : Int))] 3)) g 3 [.int .i64 (256 * (y1 : Int) + (y2 : Int))])
              · intro vals act wx h hs
                have e72 : act.eval (.tmp 72) = .slice ca0 cn cc0 := h.q 1 72 (by kernel_rfl) rfl
                have e79 : act.eval (.tmp 79) = vals 8 := h.val 8 79 (by kernel_rfl)
                clear h
                obtain ⟨h3, hng, g', h8, hg⟩ : vals 3 = .int .i64 ((y1 : Int)) ∧ Ng w cb cb (TkR tb (.slice ao nz cap) (p2 + 2)) false nilS (kk1) (.slice ca0 cn cc0) nilS (kk1) (.slice ca0 cn cc0) [] (ys1) (cs) (ex1) wx ∧ ∃ g, vals 8 = .slice (some ⟨g, 0, none⟩) 1 1 ∧ Blk wx g 3 [.int .i64 (256 * (y1 : Int) + (y2 : Int))] := hs
                rw [h8] at e79
                obtain ⟨p', w', hr, hc', a', c', hp'⟩ := hng.pushI (TkR.stab htl _ _) g' _ hg hc1
                refine gives_of_run rfl (exec_append (.tmp 72) (.tmp 79) 24 rfl _ _ e72 e79 _ hr) ?_
                exact (⟨h3, hc', a', _, c', hp'⟩ : vals 3 = .int .i64 ((y1 : Int)) ∧ Ng w cb cb (TkR tb (.slice ao nz cap) (p2 + 2)) false nilS (kk1) (.slice ca0 cn cc0) nilS (kk1) (p') [] (ys1) (cs ++ [256 * (y1 : Int) + (y2 : Int)]) (ex1) w' ∧ ∃ a n c, p' = .slice a n c)
              · intro k vals act wx hk hlk h hs
                have e7 : act.eval (.tmp 7) = .pointer (some ⟨cb, 0, none⟩) := h.old 7 (by kernel_rfl)
                clear h
                refine gives_by rfl act.eval rfl ?_
                generalize act.eval = ρ at *
                intro hf hc
                go_simp
                exact ⟨rfl, hs⟩
              · intro vals act wx h hs
                have e81 : act.eval (.tmp 81) = .pointer (some ⟨cb, 3, none⟩) := h.q 10 81 (by kernel_rfl) rfl
                have e80 : act.eval (.tmp 80) = vals 9 := h.val 9 80 (by kernel_rfl)
                clear h
                obtain ⟨h3, hng, a', n', c', h9⟩ : vals 3 = .int .i64 ((y1 : Int)) ∧ Ng w cb cb (TkR tb (.slice ao nz cap) (p2 + 2)) false nilS (kk1) (.slice ca0 cn cc0) nilS (kk1) (vals 9) [] (ys1) (cs ++ [256 * (y1 : Int) + (y2 : Int)]) (ex1) wx ∧ ∃ a n c, vals 9 = .slice a n c := hs
                rw [h9] at e80
                have cc : wx.cell? ⟨cb, 3, none⟩ = some (.slice ca0 cn cc0) := hng.cbox.cell 3
                have f0 : wx.frozen? ⟨cb, 3, none⟩ = false := hng.cbox.frozen 3
                have hfin : vals 3 = .int .i64 ((y1 : Int)) ∧ Ng w cb cb (TkR tb (.slice ao nz cap) (p2 + 2)) false nilS (kk1) (vals 9) nilS (kk1) (vals 9) [] (ys1) (cs ++ [256 * (y1 : Int) + (y2 : Int)]) (ex1) (wx.setCell ⟨cb, 3, none⟩ (.slice a' n' c')) := ⟨h3, by have := hng.put (TkR.stab htl _ _) 3 (.slice a' n' c') nilS (kk1) (.slice a' n' c') rfl; rw [h9] at this ⊢; exact this⟩
                clear hng h9 h3
                refine gives_by rfl act.eval rfl ?_
                generalize act.eval = ρ at *
                intro hf hc
                go_simp
                exact hfin
            · intro vals2 w10 hq hs
              obtain ⟨-, hfin⟩ : vals2 3 = .int .i64 (y1 : Int) ∧ Ng w cb cb (TkR tb (.slice ao nz cap) (p2 + 2)) false nilS (kk1) (vals2 9) nilS (kk1) (vals2 9) [] (ys1) (cs ++ [256 * (y1 : Int) + (y2 : Int)]) (ex1) w10 := hs
              have HF := hide hfin
              clear hq hfin HNG9
              simp only [putAll, Act.put, List.setIfInBounds_toArray, List.set_cons_zero, List.set_cons_succ, Nat.zero_add, Nat.reduceAdd]
              go_wp2
              go_roundg g
              case measure => omega
              case rel =>
                refine ⟨j + 1, p2 + 2, kk1, vals2 9, ys1, ks ++ [q1], cs ++ [256 * (y1 : Int) + (y2 : Int)], ex1, by omega, by go_num, by rw [HNL.out, List.length_append, HYL.out]; rfl, by rw [List.length_append, HKL.out]; rfl, by rw [List.length_append, HCL.out]; rfl, by omega, HF.out, ?_, ?_, HNX.out, okk_snoc HQ1.out HOKS.out⟩
                · rw [HTK1.out, HST.out]; simp
                · rw [HTK2.out, HST.out]; simp
    · have hE : rgetE kind zs = 42 := by rw [HGE.out, if_neg (by omega)]
      rw [HGN.out, hE, if_neg (by omega)]
      have b3 : (kind == 3) = false := by simpa using k3
      have b4 : (kind == 4) = false := by simpa using k4
      have c3' : (kind != 3) = true := by rw [bne, b3]; rfl
      have c4' : (kind != 4) = true := by rw [bne, b4]; rfl
      have hA := Blk.new w 26 zeroC
      obtain ⟨w1, hw1⟩ : ∃ w1, w.alloc (.cells #[.bool false, .slice none 0 0, .slice none 0 0, .slice none 0 0] 26) = w1 := ⟨_, rfl⟩
      have hA1 : Blk w1 w.heap.size 26 zeroC := by rw [← hw1]; exact hA
      have hbl : Below w.heap.size w w1 := by rw [← hw1]; exact (Below.refl _ w).alloc (Nat.le_refl _) _
      obtain ⟨⟨d0, d1, d2, d3⟩, k0, k1, k2, k3'⟩ := node_cells hA1
      have HA := hide hA1
      have HBL := hide hbl
      clear HGN HGE hE HPUT hA hA1 hbl
      go_enter Try.func21, Try.ntmps21
      go_wp2
      (try simp only [Exit.inBlock, Exit.then])
      refine bodyPost_ret (ret_node1 rfl _ _ w.heap.size _ _ _ _ _ rfl rfl (laidN_blk HA.out _ _ _ _)) rfl ?_
      exact GivesN.no 42 (HBL.out.trans ((laidN_only w1 w.heap.size _ _ _ _).below HBL.out.size (fun j hj e => by omega)))

end Go.Proofs.Ythnppkeifhnceaa
