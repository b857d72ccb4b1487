/- The walk of the statement PackPuts: numbers and texts behind any bytes are put as the document says, and what is handed in is left as it is. -/
import Derived.Test.YtbopcppagfhjnaaRefPut
import Derived.Test.YtbopcppagfhjnaaRefAfter
import Derived.OpenShut
namespace Go.Proofs.Ytbopcppagfhjnaa
open Go.RowKit

/-- a slice that does not lead to block g -/
def SlX (g : Nat) (w : World) (v : Value) (zs : List Int) : Prop := Sl w v zs ∧ (zs ≠ [] → v.ownBlock ≠ some g)

theorem SlX.below {g : Nat} {w w' : World} {v : Value} {zs : List Int} (h : SlX g w v zs) (hb : Below w.heap.size w w') : SlX g w' v zs := ⟨h.1.below hb, h.2⟩
theorem SlX.grown {g : Nat} {w w' : World} {v : Value} {zs : List Int} (h : SlX g w v zs) (hg : w.grownBy w' (some g)) : SlX g w' v zs := by
  refine ⟨?_, h.2⟩
  by_cases hz : zs = []
  · subst hz
    obtain ⟨hb, ao, cap, rfl, h1, h2, h3, _⟩ := h.1
    exact ⟨hb, ao, cap, rfl, h1, h2, h3, fun h => absurd rfl h⟩
  · exact h.1.keep fun k hk hlt => hg.block k hlt (fun e => h.2 hz (hk.trans e))

theorem slx_arg {g : Nat} {w w' : World} {v : Value} {zs : List Int} (h : Sl w v zs) (hg : w.heap.size ≤ g) (hb : Below w.heap.size w w') : SlX g w' v zs := by
  refine ⟨h.below hb, fun hz e => ?_⟩
  obtain ⟨_, ao, cap, rfl, _, _, _, hc⟩ := h
  obtain ⟨b, off, rfl, hcc⟩ := hc hz
  have := World.block_lt_of_cell? w _ (hcc 0 (List.length_pos_iff.2 hz))
  simp [Value.ownBlock] at e this
  omega

theorem slx_own {g : Nat} {w : World} {base : Nat} {e : TypeId} {u : Value} {zs : List Int} (h : w.ownsRow base e 1 u zs.length (zs.map (Value.int .u8))) (hb : ByteOk zs) (hg : g < base) : SlX g w u zs :=
  ⟨sl_of_own_len h hb, fun _ e => by have := (h.lt g e).1; omega⟩

theorem own_below {w w' : World} {base : Nat} {e : TypeId} {v : Value} {n : Nat} {xs : List Value} (h : w.ownsRow base e 1 v n xs) (hb : Below w.heap.size w w') : w'.ownsRow base e 1 v n xs := by
  refine ⟨h.1, ?_⟩
  rcases h.2 with hn | ⟨g, cap, cur, rfl, hbg, hg, r⟩
  · exact .inl hn
  · exact .inr ⟨g, cap, cur, rfl, hbg, by rw [hb.block g (Array.getElem?_eq_some_iff.1 hg).1]; exact hg, r⟩

theorem ByteOk.append {xs ys : List Int} (h1 : ByteOk xs) (h2 : ByteOk ys) : ByteOk (xs ++ ys) := fun z hz => (List.mem_append.1 hz).elim (h1 z) (h2 z)

def tErr (ts : List Int) : Int := if 255 < ts.length then 3 else 0
def tPut (zs ts : List Int) : List Int := if 255 < ts.length then [] else zs ++ textBytes ts

theorem packText_any (w : World) (vb vt : Value) (zs ts : List Int) (hb : Sl w vb zs) (ht : Sl w vt ts) (hz : zs.length ≤ 50000) :
    Calls Try.prog 11 #[vb, vt] w fun e w' => ∃ u, e = .returned (.tuple #[u, .int .i64 (tErr ts)]) ∧ Sl w' u (tPut zs ts) ∧ Below w.heap.size w w' := by
  by_cases h : 255 < ts.length
  · refine (packText_long w vb vt zs ts hb ht h).mono ?_
    rintro e w' ⟨rfl, hw⟩
    subst w'
    exact ⟨.slice none 0 0, by simp [tErr, h], by rw [tPut, if_pos h]; exact Sl.nil w, Below.refl _ _⟩
  · refine (packText_ok w vb vt zs ts hb ht hz (by omega)).mono ?_
    rintro e w' ⟨u, rfl, ho, hbl, _⟩
    exact ⟨u, by simp [tErr, h], by rw [tPut, if_neg h]; exact sl_of_own_len ho (hb.bytes.append (textBytes_ok ts ht.bytes (by omega))), hbl⟩

theorem refText_any (w : World) (vb vt : Value) (zs ts : List Int) (hb : Sl w vb zs) (ht : Sl w vt ts) (hz : zs.length ≤ 50000) :
    Calls Try.prog 12 #[vb, vt] w fun e w' => ∃ u, e = .returned (.tuple #[u, .int .i64 (tErr ts)]) ∧ Sl w' u (tPut zs ts) ∧ Below w.heap.size w w' := by
  by_cases h : 255 < ts.length
  · refine (refText_long w vb vt zs ts hb ht h).mono ?_
    rintro e w' ⟨rfl, hw⟩
    subst w'
    exact ⟨.slice none 0 0, by simp [tErr, h], by rw [tPut, if_pos h]; exact Sl.nil w, Below.refl _ _⟩
  · refine (refText_ok w vb vt zs ts hb ht hz (by omega)).mono ?_
    rintro e w' ⟨u, rfl, ho, hbl⟩
    exact ⟨u, by simp [tErr, h], by rw [tPut, if_neg h]; exact ho, hbl⟩

theorem refJoin_sl (w : World) (va vb : Value) (xs ys : List Int) (ha : Sl w va xs) (hb : Sl w vb ys) (hl : xs.length + ys.length ≤ 500000) :
    Calls Try.prog 10 #[va, vb] w fun e w' => ∃ u, e = .returned u ∧ Sl w' u (xs ++ ys) ∧ Below w.heap.size w w' :=
  (refJoin_any w va vb xs ys ha hb hl).mono (by rintro e w' ⟨u, rfl, ho, _, hbl, _⟩; exact ⟨u, rfl, sl_of_own_len ho (ha.bytes.append hb.bytes), hbl⟩)

theorem refNumber_sl (w : World) (x : Int) (v n : Nat) (m : Int) (hx : x = (v : Int)) (hm : m = (n : Int)) (hv : v < 18446744073709551616) (hn : n ≤ 8) :
    Calls Try.prog 18 #[.int .u64 x, .int .i64 m] w fun e w' => ∃ u, e = .returned u ∧ Sl w' u (numBytes v n) ∧ Below w.heap.size w w' := by
  subst hx hm
  exact (refNumber_any w v n hv hn).mono (by rintro e w' ⟨u, rfl, ho, hbl, _⟩; exact ⟨u, rfl, sl_of_own_len ho (numBytes_ok n v), hbl⟩)

theorem refVar_sl (w : World) (x : Int) (v : Nat) (hx : x = (v : Int)) (hv : v < 4294967296) :
    Calls Try.prog 19 #[.int .u32 x] w fun e w' => ∃ ao cap, e = .returned (.slice ao (varLen v) cap) ∧ Sl w' (.slice ao (varLen v) cap) (varBytes v) ∧ Below w.heap.size w w' := by
  subst hx
  refine (refVar_any w v hv).mono ?_
  rintro e w' ⟨u, rfl, ho, hbl, _⟩
  have hs := sl_of_own_len ho (varBytes_ok v)
  have HS := hs
  obtain ⟨_, ao, cap, rfl, _⟩ := hs
  exact ⟨ao, cap, rfl, HS, hbl⟩

theorem packU16_x {g : Nat} (w : World) (vb : Value) (zs : List Int) (V : Nat) (h : Sl w vb zs) (hl : zs.length ≤ 50000) (hg : g < w.heap.size) :
    Calls Try.prog 13 #[vb, .int .u16 ((V : Int) % 65536)] w fun e w' => ∃ u, e = .returned u ∧ SlX g w' u (zs ++ numBytes (V % 65536) 2) ∧ Below w.heap.size w w' :=
  (packU16_any w vb zs (V % 65536) h hl (by omega)).mono (by rintro e w' ⟨u, rfl, ho, hb, _⟩; exact ⟨u, rfl, slx_own ho (h.bytes.append (numBytes_ok _ _)) hg, hb⟩)
theorem packU32_x {g : Nat} (w : World) (vb : Value) (zs : List Int) (V : Nat) (h : Sl w vb zs) (hl : zs.length ≤ 50000) (hg : g < w.heap.size) :
    Calls Try.prog 14 #[vb, .int .u32 ((V : Int) % 4294967296)] w fun e w' => ∃ u, e = .returned u ∧ SlX g w' u (zs ++ numBytes (V % 4294967296) 4) ∧ Below w.heap.size w w' :=
  (packU32_any w vb zs (V % 4294967296) h hl (by omega)).mono (by rintro e w' ⟨u, rfl, ho, hb, _⟩; exact ⟨u, rfl, slx_own ho (h.bytes.append (numBytes_ok _ _)) hg, hb⟩)
theorem packU64_x {g : Nat} (w : World) (vb : Value) (zs : List Int) (V : Nat) (hV : V < 18446744073709551616) (h : Sl w vb zs) (hl : zs.length ≤ 50000) (hg : g < w.heap.size) :
    Calls Try.prog 15 #[vb, .int .u64 V] w fun e w' => ∃ u, e = .returned u ∧ SlX g w' u (zs ++ numBytes V 8) ∧ Below w.heap.size w w' :=
  (packU64_any w vb zs V h hl hV).mono (by rintro e w' ⟨u, rfl, ho, hb, _⟩; exact ⟨u, rfl, slx_own ho (h.bytes.append (numBytes_ok _ _)) hg, hb⟩)
theorem packVar_x {g : Nat} (w : World) (vb : Value) (zs : List Int) (V : Nat) (h : Sl w vb zs) (hl : zs.length ≤ 50000) (hg : g < w.heap.size) :
    Calls Try.prog 16 #[vb, .int .u32 ((V : Int) % 4294967296)] w fun e w' => ∃ u, e = .returned u ∧ SlX g w' u (zs ++ varBytes (V % 4294967296)) ∧ Below w.heap.size w w' :=
  (packVar_any w vb zs (V % 4294967296) h hl (by omega)).mono (by rintro e w' ⟨u, rfl, ho, hb, _⟩; exact ⟨u, rfl, slx_own ho (h.bytes.append (varBytes_ok _)) hg, hb⟩)

/-- a whole slice with its capacity cut to its length -/
theorem sl_full {w : World} {ao : Option Addr} {zs : List Int} {cap : Nat} (h : Sl w (.slice ao zs.length cap) zs) (hn : ao ≠ none) : Sl w (.slice ao zs.length zs.length) zs := by
  obtain ⟨hb, ao', cap', he, h1, h2, h3, h4⟩ := h
  simp only [Value.slice.injEq, true_and] at he
  obtain ⟨rfl, rfl⟩ := he
  exact ⟨hb, ao, zs.length, rfl, Nat.le_refl _, Nat.le_trans h1 h2, fun h => absurd h hn, h4⟩

theorem own_get {w : World} {base : Nat} {e : TypeId} {g n cap k : Nat} {L : List Int} (h : w.ownsRow base e 1 (.slice (some ⟨g, 0, none⟩) n cap) n (L.map (Value.int .u8))) (hk : k < L.length) : w.cell? ⟨g, k, none⟩ = some (.int .u8 (L.getD k 0)) := by
  have h1 := h.1
  rw [h.cellAt k (by simp at h1; omega), getD_lt L hk]
  simp [hk]

theorem xor_grown {w w' : World} {b : Nat} (h : w.grownBy w' (some b)) (j : Nat) (x : Value) : w.grownBy (w'.setCell ⟨b, j, none⟩ x) (some b) := grown_set h j x

set_option maxRecDepth 20000 in
set_option maxHeartbeats 4000000 in
theorem packPuts_walk (w : World) (va : Value) (v : Int) (vt : Value) (xs ts : List Int) (ha : Sl w va xs) (hv : (Lit.int .u64 v).wf = true) (ht : Sl w vt ts) :
    Calls Try.prog 3 #[va, .int .u64 v, vt] w fun e w' => e = .returned (.bool true) ∧ Below w.heap.size w w' := by
  have bv := bounds_u64 hv
  obtain ⟨V, rfl⟩ : ∃ V : Nat, v = V := ⟨v.toNat, by omega⟩
  clear hv
  have hV : V < 18446744073709551616 := by omega
  have HA := hide ha
  have HT := hide ht
  obtain ⟨_, aoa, capa, rfl, _⟩ := ha
  obtain ⟨_, aot, capt, rfl, _⟩ := ht
  by_cases big : 1000 < xs.length ∨ 1000 < ts.length
  · by_cases b1 : 1000 < xs.length
    · have i1 : (1000 : Int) < (xs.length : Int) := by omega
      go_enter Try.func3, Try.ntmps3
      go_wp2_with (first
        | (go_at_call 9; refine (live_any w).mono ?_; rintro e w1 ⟨rfl, hb1⟩)
        | (go_at_call 9; refine (live_any w1).mono ?_; rintro e w2 ⟨rfl, hb2⟩))
      go_ret
      exact ⟨rfl, below_then hb1 hb2 (Nat.le_refl _)⟩
    · have i1 : decide ((1000 : Int) < (xs.length : Int)) = false := decide_eq_false (by omega)
      have i2 : (1000 : Int) < (ts.length : Int) := by omega
      go_enter Try.func3, Try.ntmps3
      go_wp2_with (first
        | (go_at_call 9; refine (live_any w).mono ?_; rintro e w1 ⟨rfl, hb1⟩)
        | (go_at_call 9; refine (live_any w1).mono ?_; rintro e w2 ⟨rfl, hb2⟩))
      go_ret
      exact ⟨rfl, below_then hb1 hb2 (Nat.le_refl _)⟩
  · have i1 : decide ((1000 : Int) < (xs.length : Int)) = false := decide_eq_false (by omega)
    have i2 : decide ((1000 : Int) < (ts.length : Int)) = false := decide_eq_false (by omega)
    obtain ⟨te, hte⟩ : ∃ te, te = tErr ts := ⟨_, rfl⟩
    have HTE := hide hte
    clear hte
    have L1 := hide (live_any w)
    go_enter Try.func3, Try.ntmps3
    go_wp2_with (first
      | (go_at_call 9; refine L1.out.mono ?_; rintro e w1 ⟨rfl, hb1⟩; clear L1)
      | (go_at_call 10; refine (refJoin_any w1 _ _ [] xs (Sl.nil w1) (HA.out.below hb1) (by simp; omega)).mono ?_; rintro e w2 ⟨u, rfl, ho, hnn, hb2, hz2⟩; rw [List.nil_append] at ho; obtain ⟨g, cg, rfl, hgB⟩ := own_form ho hnn; have hcg := own_cap ho; have hglt := hide (ho.lt g rfl).2; have hB2 := below_then hb1 hb2 (Nat.le_refl _); have SO := hide (sl_of_own_len ho HA.out.bytes); have SB := hide (slx_arg HA.out (Nat.le_trans hb1.size hgB) hB2); have ST := hide (HT.out.below hB2); have HO := hide ho; have hBw1 := hb1.size; clear ho hnn hb2 hz2 hb1)
      | (go_at_call 11; refine (packText_any w2 _ _ xs ts SO.out ST.out (by omega)).mono ?_; rw [← HTE.out]; rintro e w3 ⟨ux, rfl, SX, hb3⟩; have hB3 := below_then hB2 hb3 (Nat.le_refl _); have hg3 := hide (Nat.lt_of_lt_of_le hglt.out hb3.size); have SO3 := hide (SO.out.below hb3); have SB3 := hide (SB.out.below hb3); have ST3 := hide (ST.out.below hb3); have HO3 := hide (own_below HO.out hb3); clear hglt SO SB ST HO hb3 hB2)
      | (go_at_call 12; refine (refText_any w3 _ _ xs ts SB3.out.1 ST3.out (by omega)).mono ?_; rw [← HTE.out]; rintro e w4 ⟨uy, rfl, SY, hb4⟩; have hB4 := below_then hB3 hb4 (Nat.le_refl _); have hg4 := hide (Nat.lt_of_lt_of_le hg3.out hb4.size); have SO4 := hide (SO3.out.below hb4); have SB4 := hide (SB3.out.below hb4); have SX4 := hide (SX.below hb4); have HO4 := hide (own_below HO3.out hb4); clear hg3 SO3 SB3 ST3 HO3 hb4 hB3 SX)
      | (go_at_call 13; refine (packU16_x w4 _ xs V (sl_full SO4.out (by simp)) (by omega) hg4.out).mono ?_; rintro e w5 ⟨ua, rfl, UA, hb5⟩; have hB5 := below_then hB4 hb5 (Nat.le_refl _); have hg5 := hide (Nat.lt_of_lt_of_le hg4.out hb5.size); have SO5 := hide (SO4.out.below hb5); have SB5 := hide (SB4.out.below hb5); have SX5 := hide (SX4.out.below hb5); have SY5 := hide (SY.below hb5); have HO5 := hide (own_below HO4.out hb5); clear hg4 SO4 SB4 SX4 SY HO4 hb5 hB4)
      | (go_at_call 14; refine (packU32_x w5 _ xs V SO5.out (by omega) hg5.out).mono ?_; rintro e w6 ⟨uc, rfl, UC, hb6⟩; have hB6 := below_then hB5 hb6 (Nat.le_refl _); have hg6 := hide (Nat.lt_of_lt_of_le hg5.out hb6.size); have SO6 := hide (SO5.out.below hb6); have SB6 := hide (SB5.out.below hb6); have SX6 := hide (SX5.out.below hb6); have SY6 := hide (SY5.out.below hb6); have HO6 := hide (own_below HO5.out hb6); have UA6 := hide (UA.below hb6); clear hg5 SO5 SB5 SX5 SY5 HO5 hb6 hB5 UA)
      | (go_at_call 15; refine (packU64_x w6 _ xs V hV SO6.out (by omega) hg6.out).mono ?_; rintro e w7 ⟨ud, rfl, UD, hb7⟩; have hB7 := below_then hB6 hb7 (Nat.le_refl _); have hg7 := hide (Nat.lt_of_lt_of_le hg6.out hb7.size); have SO7 := hide (SO6.out.below hb7); have SB7 := hide (SB6.out.below hb7); have SX7 := hide (SX6.out.below hb7); have SY7 := hide (SY6.out.below hb7); have HO7 := hide (own_below HO6.out hb7); have UA7 := hide (UA6.out.below hb7); have UC7 := hide (UC.below hb7); clear hg6 SO6 SB6 SX6 SY6 HO6 hb7 hB6 UA6 UC)
      | (go_at_call 16; refine (packVar_x w7 _ xs V SO7.out (by omega) hg7.out).mono ?_; rintro e w8 ⟨ug, rfl, UG, hb8⟩; have hB8 := below_then hB7 hb8 (Nat.le_refl _); have SO8 := hide (SO7.out.below hb8); have SB8 := hide (SB7.out.below hb8); have SX8 := hide (SX7.out.below hb8); have SY8 := hide (SY7.out.below hb8); have HO8 := hide (own_below HO7.out hb8); have UA8 := hide (UA7.out.below hb8); have UC8 := hide (UC7.out.below hb8); have UD8 := hide (UD.below hb8); clear hg7 SO7 SB7 SX7 SY7 HO7 hb8 hB7 UA7 UC7 UD)
      | (go_at_call 17; refine (refSame_any w8 _ _ xs xs SO8.out SB8.out.1).mono ?_; rintro e w9 ⟨rfl, hb9⟩; have hB9 := below_then hB8 hb9 (Nat.le_refl _); have SB9 := hide (SB8.out.below hb9); have SX9 := hide (SX8.out.below hb9); have SY9 := hide (SY8.out.below hb9); have HO9 := hide (own_below HO8.out hb9); have UA9 := hide (UA8.out.below hb9); have UC9 := hide (UC8.out.below hb9); have UD9 := hide (UD8.out.below hb9); have UG9 := hide (UG.below hb9); clear SO8 SB8 SX8 SY8 HO8 hb9 hB8 UA8 UC8 UD8 UG)
      | (go_at_call 17; refine (refSame_any w9 _ _ (tPut xs ts) (tPut xs ts) SX9.out SY9.out).mono ?_; rintro e W ⟨rfl, hbW⟩; have hBW := below_then hB9 hbW (Nat.le_refl _); have SBW := hide (SB9.out.below hbW); have HOW := hide (own_below HO9.out hbW); have UAW := hide (UA9.out.below hbW); have UCW := hide (UC9.out.below hbW); have UDW := hide (UD9.out.below hbW); have UGW := hide (UG9.out.below hbW); clear SB9 SX9 SY9 HO9 hbW hB9 UA9 UC9 UD9 UG9))
    have UAK := hide (HA.out.bytes)
    clear HA HT HTE
    go_loopw [81] (fun i wr => ∃ (k : Nat) (L : List Int), k ≤ xs.length ∧ L.length = xs.length ∧ i = .int .i64 k ∧ wr.ownsRow w1.heap.size 5 1 (.slice (some ⟨g, 0, none⟩) xs.length cg) xs.length (L.map (Value.int .u8)) ∧ W.grownBy wr (some g))
      (fun i _ => xs.length - (intOf i).toNat)
    case atStart => exact ⟨0, xs, Nat.zero_le _, rfl, rfl, HOW.out, ⟨rfl, rfl, rfl, Nat.le_refl _, fun _ _ _ => rfl⟩⟩
    case round =>
      obtain ⟨k, L, hk, hL, rfl, hown, hgr⟩ := hrel
      by_cases hlt : k < xs.length
      · have c1 := own_get hown (k := k) (by omega)
        have f1 := hown.frozenAt k
        obtain ⟨x, hx⟩ : ∃ x, x = L.getD k 0 := ⟨_, rfl⟩
        rw [← hx] at c1
        obtain ⟨y, hy⟩ : ∃ y, y = bits .xor .u8 x 255 := ⟨_, rfl⟩
        have hst := (hown.stored k (.int .u8 y)).1
        rw [← List.map_set] at hst
        have HST := hide hst
        have HGR := hide hgr
        have hys := hy.symm
        clear hst hown hx hy
        go_wp2
        go_roundw
        case rel => exact ⟨k + 1, L.set k y, by omega, by simp; omega, by go_num, HST.out, xor_grown HGR.out k _⟩
        case measure => simp [intOf]; omega
      · have hk' : k = xs.length := by omega
        subst hk'
        have SBR := hide (SBW.out.grown hgr).1
        have UAR := hide (UAW.out.grown hgr).1
        have UCR := hide (UCW.out.grown hgr).1
        have UDR := hide (UDW.out.grown hgr).1
        have UGR := hide (UGW.out.grown hgr).1
        have hBR := below_of_grown hBW hgr (Nat.le_trans (Nat.le_trans hBw1 hgB) (Nat.le_refl _)) hBW.size
        clear SBW UAW UCW UDW UGW hown hgr hBW HOW
        have T1 := hide trivial
        have size_m : ∀ w', Calls Try.prog 20 #[.int .u32 ((V : Int) % 4294967296)] w' fun e w'' => e = .returned (.int .i64 (varLen (V % 4294967296))) ∧ w'' = w' := fun w' => size_any (V % 4294967296) w' (by omega)
        have hvl := varLen_le5 (v := V % 4294967296) (by omega)
        go_wp2_with (first
          | (go_at_call 18; clear T1; refine (refNumber_sl wr _ (V % 65536) 2 _ (by omega) rfl (by omega) (by omega)).mono ?_; rintro e x1 ⟨un, rfl, sn, hx1⟩; have B1 := below_then hBR hx1 (Nat.le_refl _); have SB1 := hide (SBR.out.below hx1); have UA1 := hide (UAR.out.below hx1); have UC1 := hide (UCR.out.below hx1); have UD1 := hide (UDR.out.below hx1); have UG1 := hide (UGR.out.below hx1); have NN1 := hide sn; clear hBR hx1 SBR UAR UCR UDR UGR sn; have T2 := hide trivial)
          | (go_at_call 10; clear T2; refine (refJoin_sl x1 _ _ xs (numBytes (V % 65536) 2) SB1.out NN1.out (by rw [numBytes_len]; omega)).mono ?_; rintro e x2 ⟨uj, rfl, sj, hx2⟩; have B2 := below_then B1 hx2 (Nat.le_refl _); have SB2 := hide (SB1.out.below hx2); have UA2 := hide (UA1.out.below hx2); have UC2 := hide (UC1.out.below hx2); have UD2 := hide (UD1.out.below hx2); have UG2 := hide (UG1.out.below hx2); have JJ2 := hide sj; clear B1 hx2 SB1 UA1 UC1 UD1 UG1 NN1 sj; have T3 := hide trivial)
          | (go_at_call 17; clear T3; refine (refSame_any x2 _ _ (xs ++ numBytes (V % 65536) 2) (xs ++ numBytes (V % 65536) 2) UA2.out JJ2.out).mono ?_; rintro e x3 ⟨rfl, hx3⟩; have B3 := below_then B2 hx3 (Nat.le_refl _); have SB3 := hide (SB2.out.below hx3); have UC3 := hide (UC2.out.below hx3); have UD3 := hide (UD2.out.below hx3); have UG3 := hide (UG2.out.below hx3); clear B2 hx3 SB2 UA2 UC2 UD2 UG2 JJ2; have T4 := hide trivial)
          | (go_at_call 18; clear T4; refine (refNumber_sl x3 _ (V % 4294967296) 4 _ (by omega) rfl (by omega) (by omega)).mono ?_; rintro e x4 ⟨un, rfl, sn, hx4⟩; have B4 := below_then B3 hx4 (Nat.le_refl _); have SB4 := hide (SB3.out.below hx4); have UC4 := hide (UC3.out.below hx4); have UD4 := hide (UD3.out.below hx4); have UG4 := hide (UG3.out.below hx4); have NN4 := hide sn; clear B3 hx4 SB3 UC3 UD3 UG3 sn; have T5 := hide trivial)
          | (go_at_call 10; clear T5; refine (refJoin_sl x4 _ _ xs (numBytes (V % 4294967296) 4) SB4.out NN4.out (by rw [numBytes_len]; omega)).mono ?_; rintro e x5 ⟨uj, rfl, sj, hx5⟩; have B5 := below_then B4 hx5 (Nat.le_refl _); have SB5 := hide (SB4.out.below hx5); have UC5 := hide (UC4.out.below hx5); have UD5 := hide (UD4.out.below hx5); have UG5 := hide (UG4.out.below hx5); have JJ5 := hide sj; clear B4 hx5 SB4 UC4 UD4 UG4 NN4 sj; have T6 := hide trivial)
          | (go_at_call 17; clear T6; refine (refSame_any x5 _ _ (xs ++ numBytes (V % 4294967296) 4) (xs ++ numBytes (V % 4294967296) 4) UC5.out JJ5.out).mono ?_; rintro e x6 ⟨rfl, hx6⟩; have B6 := below_then B5 hx6 (Nat.le_refl _); have SB6 := hide (SB5.out.below hx6); have UD6 := hide (UD5.out.below hx6); have UG6 := hide (UG5.out.below hx6); clear B5 hx6 SB5 UC5 UD5 UG5 JJ5; have T7 := hide trivial)
          | (go_at_call 18; clear T7; refine (refNumber_sl x6 _ V 8 _ (by omega) rfl (by omega) (by omega)).mono ?_; rintro e x7 ⟨un, rfl, sn, hx7⟩; have B7 := below_then B6 hx7 (Nat.le_refl _); have SB7 := hide (SB6.out.below hx7); have UD7 := hide (UD6.out.below hx7); have UG7 := hide (UG6.out.below hx7); have NN7 := hide sn; clear B6 hx7 SB6 UD6 UG6 sn; have T8 := hide trivial)
          | (go_at_call 10; clear T8; refine (refJoin_sl x7 _ _ xs (numBytes V 8) SB7.out NN7.out (by rw [numBytes_len]; omega)).mono ?_; rintro e x8 ⟨uj, rfl, sj, hx8⟩; have B8 := below_then B7 hx8 (Nat.le_refl _); have SB8 := hide (SB7.out.below hx8); have UD8 := hide (UD7.out.below hx8); have UG8 := hide (UG7.out.below hx8); have JJ8 := hide sj; clear B7 hx8 SB7 UD7 UG7 NN7 sj; have T9 := hide trivial)
          | (go_at_call 17; clear T9; refine (refSame_any x8 _ _ (xs ++ numBytes V 8) (xs ++ numBytes V 8) UD8.out JJ8.out).mono ?_; rintro e x9 ⟨rfl, hx9⟩; have B9 := below_then B8 hx9 (Nat.le_refl _); have SB9 := hide (SB8.out.below hx9); have UG9 := hide (UG8.out.below hx9); clear B8 hx9 SB8 UD8 UG8 JJ8; have T10 := hide trivial)
          | (go_at_call 19; clear T10; refine (refVar_sl x9 _ (V % 4294967296) (by omega) (by omega)).mono ?_; rintro e x10 ⟨aj, cj, rfl, sn, hx10⟩; have B10 := below_then B9 hx10 (Nat.le_refl _); have SB10 := hide (SB9.out.below hx10); have UG10 := hide (UG9.out.below hx10); have NN10 := hide sn; clear B9 hx10 SB9 UG9 sn; have T11 := hide trivial)
          | (go_at_call 10; clear T11; refine (refJoin_sl x10 _ _ xs (varBytes (V % 4294967296)) SB10.out NN10.out (by rw [show (varBytes (V % 4294967296)).length = varLen (V % 4294967296) from rfl]; omega)).mono ?_; rintro e x11 ⟨uj, rfl, sj, hx11⟩; have B11 := below_then B10 hx11 (Nat.le_refl _); have SB11 := hide (SB10.out.below hx11); have UG11 := hide (UG10.out.below hx11); have JJ11 := hide sj; clear B10 hx11 SB10 UG10 NN10 sj; have T12 := hide trivial)
          | (go_at_call 17; clear T12; refine (refSame_any x11 _ _ (xs ++ varBytes (V % 4294967296)) (xs ++ varBytes (V % 4294967296)) UG11.out JJ11.out).mono ?_; rintro e x12 ⟨rfl, hx12⟩; have B12 := below_then B11 hx12 (Nat.le_refl _); have SB12 := hide (SB11.out.below hx12); clear B11 hx12 SB11 UG11 JJ11; have T13 := hide trivial)
          | (go_at_call 20; clear T13; refine (size_m x12).mono ?_; rintro e xs13 ⟨rfl, hw⟩; subst xs13; have T14 := hide trivial)
          | (go_at_call 19; clear T14; refine (refVar_sl x12 _ (V % 4294967296) (by omega) (by omega)).mono ?_; rintro e x14 ⟨ak, ck, rfl, sn, hx14⟩; have B14 := below_then B12 hx14 (Nat.le_refl _); clear B12 hx14 SB12; have T15 := hide trivial))
        go_ret
        exact ⟨rfl, B14⟩

end Go.Proofs.Ytbopcppagfhjnaa
