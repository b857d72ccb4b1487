/- Contract: package node's leafBytes. -/
import Derived.Test.YtoamdbjailpgdaaNPut
import Derived.Test.YtoamdbjailpgdaaNPutI
import Derived.Test.YtoamdbjailpgdaaNCheck
import Derived.Test.YtoamdbjailpgdaaNOrd
import Derived.Lib.SlBytesConst
namespace Go.Proofs.Ytoamdbjailpgdaa
set_option maxRecDepth 20000
open Go.RowKit Go.Shelf
set_option linter.unusedVariables false
set_option linter.unusedSimpArgs false
set_option maxRecDepth 100000
attribute [local go_sem] Oper.semAt_some

structure LbI (w : World) (pv : Value) (L : Nat → List Int) (Y : Nat → Prop) (k : Nat) (W : World) : Prop where
  box : ∃ v, Blk W (w.heap.size + 2) 34 [v] ∧ ownsB W w.heap.size v (L k) ∧ ∀ j, v.ownBlock = some j → (j = w.heap.size + 1 ∨ w.heap.size + 6 ≤ j)
  b3 : Blk W (w.heap.size + 3) 22 [pv]
  below : Below w.heap.size w W
  size : w.heap.size + 6 ≤ W.heap.size
  ys : ∀ j, Y j → w.heap.size + 6 ≤ j ∧ j < W.heap.size
theorem LbI.keep {w : World} {pv : Value} {L : Nat → List Int} {Y : Nat → Prop} {k : Nat} {W W' : World} (h : LbI w pv L Y k W) (ho : Only (fun j => j = w.heap.size + 4 ∨ j = w.heap.size + 4 + 1) W W') : LbI w pv L Y k W' := by
  obtain ⟨v, h1, h2, h3⟩ := h.box
  exact ⟨⟨v, h1.only ho (by omega), ownsRow_only h2 ho (fun j hj e => by have := h3 j hj; omega), h3⟩, h.b3.only ho (by omega), h.below.trans (ho.below h.below.size (fun j hj e => by omega)), Nat.le_trans h.size ho.size, fun j hj => ⟨(h.ys j hj).1, Nat.lt_of_lt_of_le (h.ys j hj).2 ho.size⟩⟩
theorem LbI.grow {w : World} {pv : Value} {L : Nat → List Int} {Y : Nat → Prop} {k : Nat} {W W' : World} (h : LbI w pv L Y k W) (hb : Below W.heap.size W W') : LbI w pv L (more Y W W') k W' := by
  obtain ⟨v, h1, h2, h3⟩ := h.box
  have hs := h.size
  have ho := Only.of_below (fun _ => False) hb
  refine ⟨⟨v, h1.only ho (fun h => h), ownsRow_only h2 ho (fun _ _ h => h), h3⟩, h.b3.only ho (fun h => h), h.below.trans (hb.mono h.below.size), Nat.le_trans h.size hb.size, fun j hj => ?_⟩
  rcases hj with hj | hj
  · exact ⟨(h.ys j hj).1, Nat.lt_of_lt_of_le (h.ys j hj).2 hb.size⟩
  · exact ⟨by omega, hj.2⟩

set_option maxHeartbeats 4000000 in
theorem leafBytes_any (w : World) (v : Value) (n : Nd) (h : NdV w v n) (hn : n.ps.length ≤ 255) (hl : ∀ p ∈ n.ps, p.1.length ≤ 25 ∧ p.2.length ≤ 24) :
    Calls Try.prog 56 #[v] w fun e w' => ∃ u, e = .returned u ∧ ownsB w' w.heap.size u (lefT n.ps n.ps.length) ∧ Below w.heap.size w w' := by
  obtain ⟨pa, pc, ka, kc, ca, cc, xs, ys, rfl, hp1, hk1, hc1, hp2, hk2, hc2, hP, hK, hC⟩ := h.open
  obtain ⟨lf, ps, ks, cs⟩ := n
  simp only at hp1 hk1 hc1 hp2 hk2 hc2 hP hK hC hn hl ⊢
  have hok := lefT_ok ps hn (fun p hp => by
    obtain ⟨i, hi, rfl⟩ := List.getElem_of_mem hp
    obtain ⟨_, _, _, _, h1, h2⟩ := hP.at i hi
    have hpe : ps.getD i ([], []) = ps[i] := by simp [List.getD, hi]
    rw [hpe] at h1 h2
    have := hl _ (List.getElem_mem hi)
    exact ⟨h1.bytes, h2.bytes, by omega, by omega⟩)
  have hlen : ∀ k, k ≤ ps.length → (lefT ps k).length ≤ 20000 := fun k hk => by
    rw [lefT_len ps k hk]
    have := sum_take_le (ps.map partP) 51 (fun x hx => by obtain ⟨p, hp, rfl⟩ := List.mem_map.1 hx; have := hl p hp; unfold partP; omega) k
    omega
  have HP := hide hP
  have HOK := hide hok
  have HLN := hide hlen
  have HL := hide hl
  clear hP hK hC h hok hlen hl
  unfold ndv
  obtain ⟨np, hnp⟩ : ∃ m, ps.length = m := ⟨_, rfl⟩
  have HNP := hide hnp
  rw [hnp] at hp1 HP hn HLN ⊢
  have HL0 : Hid (lefT ps 0 = [(np : Int)]) := by show lefT ps 0 = _; rw [lefT, hnp]
  generalize ks.length = nk at *
  generalize cs.length = nc at *
  have hc8 : (np : Int) % 256 = (np : Int) := by omega
  have hw8 : IntKind.u8.wrap (np : Int) = (np : Int) := by
    have : IntKind.u8.wrap (np : Int) = (np : Int) % 256 := rfl
    rw [this]; omega
  clear hnp
  refine (callsIn_wide (n := 3)).1 ?_
  refine callsIn_of_wp_marks Try.func56 rfl trivial ?_ rfl
  simp only [Try.ntmps56, List.size_toArray, List.length_cons, List.length_nil, Nat.reduceAdd, Nat.reduceSub, Array.replicate_succ, Array.replicate_zero, List.push_toArray, List.append_toArray, List.nil_append, List.cons_append]
  have HEA := hide (fun w1 => each_any w1 pa np pc)
  gi_wp2_with (first
    | (refine ⟨trivial, ?_⟩; gi_at_call 47; refine (callsIn_wide.2 (HEA.out _)).mono ?_; rintro e w1 ⟨rfl, hw⟩; subst w1; clear HEA))
  obtain ⟨w2, hw2⟩ : ∃ w2, (((w.alloc (.cells #[.bool lf, .slice pa np pc, .slice ka nk kc, .slice ca nc cc] 26)).alloc (.cells #[.int .u8 (np : Int)] 5)).alloc (.cells #[.slice (some ⟨w.heap.size + 1, 0, none⟩) 1 1] 34)).alloc (.cells #[.slice pa np pc] 22) = w2 := ⟨_, rfl⟩
  have hs2 : w2.heap.size = w.heap.size + 4 := by rw [← hw2]; simp
  have hA : ownsB w2 w.heap.size (.slice (some ⟨w.heap.size + 1, 0, none⟩) 1 1) [(np : Int)] := by
    rw [← hw2]
    have := World.ownsRow_lit (size := 1) (base := w.heap.size) (e := 5) (w.alloc (.cells #[.bool lf, .slice pa np pc, .slice ka nk kc, .slice ca nc cc] 26)) [.int .u8 (np : Int)].toArray 1 (by simp) (by simp [maxLen]) (by simp)
    rw [World.size_alloc] at this
    exact (World.ownsRow.alloc this _).alloc _
  have hB : Blk w2 (w.heap.size + 2) 34 [.slice (some ⟨w.heap.size + 1, 0, none⟩) 1 1] := by
    rw [← hw2]
    have := Blk.new ((w.alloc (.cells #[.bool lf, .slice pa np pc, .slice ka nk kc, .slice ca nc cc] 26)).alloc (.cells #[.int .u8 (np : Int)] 5)) 34 [.slice (some ⟨w.heap.size + 1, 0, none⟩) 1 1]
    rw [World.size_alloc, World.size_alloc] at this
    exact Blk.alloc this _
  have hD : Blk w2 (w.heap.size + 3) 22 [.slice pa np pc] := by
    rw [← hw2]
    have := Blk.new (((w.alloc (.cells #[.bool lf, .slice pa np pc, .slice ka nk kc, .slice ca nc cc] 26)).alloc (.cells #[.int .u8 (np : Int)] 5)).alloc (.cells #[.slice (some ⟨w.heap.size + 1, 0, none⟩) 1 1] 34)) 22 [.slice pa np pc]
    rw [World.size_alloc, World.size_alloc, World.size_alloc] at this
    exact this
  have hb2 : Below w.heap.size w w2 := by rw [← hw2]; exact ((((Below.refl _ w).alloc (Nat.le_refl _) _).alloc (by simp) _).alloc (by simp; omega) _).alloc (by simp; omega) _
  have HA := hide hA
  have HB := hide hB
  have HD := hide hD
  have HB2 := hide hb2
  clear hA hB hD hb2 hw8 hc8
  rw [hw2]
  refine wp_range5 (gf := 84) (lb := #[.pointer (some ⟨w.heap.size + 1 + 1 + 1, 0, none⟩)]) (xs := xs) (encs := encV) (V := EachV (w.heap.size + 3) (.slice pa np pc) xs ps) rfl enters_each (each_iter _ _ _ _) (fun _ => rfl) (fun Y k W => LbI w (.slice pa np pc) (lefT ps) Y k W) (fun c k W => False) ?_ ?_ ?_ ?_ ?_
    (fun x => { tmps := #[.agg #[.bool lf, .slice pa np pc, .slice ka nk kc, .slice ca nc cc], .pointer (some ⟨w.heap.size, 0, none⟩), .slice none 0 0, .pointer (some ⟨w.heap.size + 1 + 1, 0, none⟩), x.1, x.2, .pointer (some ⟨w.heap.size, 1, none⟩), .slice pa np pc, .int .i64 (np : Int), .int .u8 (np : Int), .slice (some ⟨w.heap.size + 1, 0, none⟩) 1 1, .pointer (some ⟨w.heap.size, 1, none⟩), .slice pa np pc, .func (.func 84) #[] #[.pointer (some ⟨w.heap.size + 1 + 1 + 1, 0, none⟩)], x.1, x.2, undef, undef, undef, undef, undef, undef], defers := [] }) ?assign ?body ?done ?stop
  · intro Y k W W' h ho
    exact h.keep (by rw [hs2] at ho; exact ho)
  · intro Y k W W' h hb
    exact h.grow hb
  · intro c k W W' h ho
    exact h
  · intro Y k W h
    exact ⟨fun _ => h.b3.cell 0, HP.out.below h.below⟩
  · intro W1 ho hs
    refine ⟨⟨_, HB.out.only ho (fun h => h), ?_, (fun j hj => by cases hj; exact .inl rfl)⟩, HD.out.only ho (fun h => h), HB2.out.trans ((ho.below (Nat.le_refl _) (fun _ _ h => h)).mono (by omega)), by omega, (fun _ h => h.elim)⟩
    rw [HL0.out]
    exact ownsRow_only HA.out ho (fun _ _ h => h)
  case assign =>
    intro l k hk W G hG
    gi_wp2
    exact hG
  case body =>
    intro l Y k hk W h
    have hkp : k < ps.length := by rw [← HP.out.len]; exact hk
    obtain ⟨_, _, _, _, hsk, hsv⟩ := HP.out.at k hkp
    have hxe : xs.getD k nil2 = xs[k] := by simp [List.getD, hk]
    have hpe : ps.getD k ([], []) = ps[k] := by simp [List.getD, hkp]
    have hle := HL.out ps[k] (List.getElem_mem hkp)
    have hLk : lefT ps (k + 1) = lefT ps k ++ txt ps[k].1 ++ txt ps[k].2 := by rw [lefT, hpe]
    have hlk := HLN.out k (by have := HNP.out; omega)
    have hok := HOK.out k
    rw [hxe, hpe] at hsk hsv
    generalize xs[k] = x at *
    generalize ps[k] = q at *
    generalize hLL : lefT ps k = LL at hlk hok hLk
    obtain ⟨u1, u2⟩ := x
    obtain ⟨q1, q2⟩ := q
    simp only at hsk hsv hle hLk
    obtain ⟨v, h1, h2, h3⟩ := h.box
    rw [hLL] at h2
    have hs := sl_of_own_len h2 hok
    have HT1 := hide (putText_any W v u1 LL q1 hs (hsk.below h.below) (by omega) (by omega))
    obtain ⟨M2, hM2⟩ : ∃ M2, M2 = LL ++ txt q1 ++ txt q2 := ⟨_, rfl⟩
    have HT2 : Hid (∀ (W1 : World) (y : Value), ownsB W1 W.heap.size y (LL ++ txt q1) → Below W.heap.size W W1 → Calls Try.prog 85 #[y, u2] W1 fun e w' => ∃ u, e = .returned u ∧ ownsB w' W1.heap.size u M2 ∧ Below W1.heap.size W1 w') := fun W1 y hy hb => hM2 ▸ putText_any W1 y u2 (LL ++ txt q1) q2 (sl_of_own_len hy (hok.append' (txt_ok hsk.bytes (by omega)))) ((hsv.below h.below).below hb) (by rw [List.length_append, txt_len]; omega) (by omega)
    obtain ⟨a1, n1, c1, rfl⟩ := sl_form hsk
    obtain ⟨a2, n2, c2, rfl⟩ := sl_form hsv
    obtain ⟨a3, n3, c3, rfl⟩ := sl_form hs
    have c0 : W.cell? ⟨w.heap.size + 1 + 1, 0, none⟩ = some (.slice a3 n3 c3) := h1.cell 0
    have H1 := hide h1
    have HH := hide h
    have HLK : Hid (lefT ps (k + 1) = M2) := by show lefT ps (k + 1) = M2; rw [hLk, hM2]
    clear h1 h2 h3 hs hsk hsv hxe hpe hLk hok h hLL hM2
    gi_wp2_with (first
      | (refine ⟨trivial, ?_⟩; gi_at_call 85; refine (callsIn_wide.2 HT1.out).mono ?_; rintro e W1 ⟨y1, rfl, hy1, hb1⟩; clear HT1; have HY1 := hide hy1; have HW1 := hide hb1; clear hy1 hb1)
      | (refine ⟨trivial, ?_⟩; gi_at_call 85; refine (callsIn_wide.2 (HT2.out W1 y1 HY1.out HW1.out)).mono ?_; rintro e W2 ⟨y2, rfl, hy2, hb2⟩; clear HT2; obtain ⟨a4, c4, rfl⟩ := own_form' hy2; have HY2 := hide hy2; have hB2 := (H1.out.below HW1.out H1.out.lt).below hb2 (Nat.lt_of_lt_of_le H1.out.lt HW1.out.size); have cc2 : W2.cell? ⟨w.heap.size + 1 + 1, 0, none⟩ = some (.slice a3 n3 c3) := hB2.cell 0; have ff2 : W2.frozen? ⟨w.heap.size + 1 + 1, 0, none⟩ = false := hB2.frozen 0; have HBB2 := hide hB2; have HW2 := hide (HW1.out.trans (hb2.mono HW1.out.size)); have HW12 := hide HW1.out.size; clear hy2 hb2 hB2 HY1 HW1))
    have hh := HH.out
    have hoB : Only (· = w.heap.size + 2) W2 (W2.setCell ⟨w.heap.size + 2, 0, none⟩ (.slice a4 M2.length c4)) := (Only.refl (· = w.heap.size + 2) W2).setCell ⟨w.heap.size + 2, 0, none⟩ _ (fun _ => rfl)
    have hoA : Only (· = w.heap.size + 2) W _ := (Only.of_below (· = w.heap.size + 2) HW2.out).trans hoB (fun _ _ e => e)
    have hv2 : ∀ j, (Value.slice a4 M2.length c4).ownBlock = some j → W.heap.size ≤ j := fun j hj => by
      have := (World.ownsRow.lt HY2.out j hj).1
      have := HW12.out
      omega
    have hsz := hh.size
    refine ⟨Keeps2.of_only hoA (by omega) (by omega), fun j hj => hoA.block j (hh.ys j hj).2 (by have := (hh.ys j hj).1; omega), ⟨_, HBB2.out.set 0 _, ?_, fun j hj => .inr (by have := hv2 j hj; omega)⟩, hh.b3.only hoA (by omega), hh.below.trans (hoA.below hh.below.size (fun j hj e => by omega)), Nat.le_trans hh.size hoA.size, fun j hj => ⟨(hh.ys j hj).1, Nat.lt_of_lt_of_le (hh.ys j hj).2 hoA.size⟩⟩
    show ownsB _ _ _ (lefT ps (k + 1))
    rw [HLK.out]
    exact own_le' (ownsRow_only HY2.out hoB (fun j hj e => by have := hv2 j hj; omega)) (by have := HW12.out; omega)
  case done =>
    intro Y W h hD
    have hL : xs.length = np := by rw [HP.out.len]; exact HNP.out
    rw [hL] at h
    obtain ⟨v, h1, h2, h3⟩ := h.box
    have c0 : W.cell? ⟨w.heap.size + 1 + 1, 0, none⟩ = some v := h1.cell 0
    obtain ⟨ao1, cap1, rfl⟩ := own_form' h2
    have H2 := hide h2
    have H3 := hide h3
    have HH := hide h
    have HDD := hide hD
    clear h1 h2 h3 h hD hL
    gi_wp2
    refine ⟨by simp, .inl ⟨_, _, rfl, run_takeDeferred HDD.out, ?_⟩⟩
    have hoD : Only (· = w2.heap.size) W (W.putObj w2.heap.size (.deferred none)) := only_put1 W _ _ _ rfl
    refine ⟨_, results_tmp (t := 2) rfl _ _ _, .slice ao1 _ cap1, rfl, ?_, HH.out.below.trans (hoD.below HH.out.below.size (fun j hj e => by omega))⟩
    exact ownsRow_only H2.out hoD (fun j hj e => by have := H3.out j hj; omega)
  case stop =>
    intro c k W hk h
    exact h.elim

end Go.Proofs.Ytoamdbjailpgdaa
/- Contract: package node's Put. -/
namespace Go.Proofs.Ytoamdbjailpgdaa
set_option maxRecDepth 20000
open Go.RowKit
set_option linter.unusedVariables false
set_option linter.unusedSimpArgs false
set_option maxRecDepth 100000

/-- what Put answers -/
def putK (n : Nd) : Int := if checkN n = 0 then (if n.lf then 3 else 4) else 0
def putB (n : Nd) : List Int := if checkN n = 0 then padN (bytesN n) else []

theorem checkN_zero {n : Nd} : checkN n = 0 ↔ mayN n = true ∧ sizeN n ≤ 240 := by
  unfold checkN
  cases hm : mayN n with
  | false => simp
  | true =>
    by_cases h : sizeN n ≤ 240
    · simp [h]
    · simp [h]

/-- 'copy' of bytes into new bytes, from their first one on -/
theorem splice_pad (zs : List Int) (h : zs.length ≤ 240) : splice (List.replicate 240 (Value.int .u8 0)) 0 (zs.map (Value.int .u8)) = (padN zs).map (Value.int .u8) := by
  unfold splice padN
  rw [List.take_zero, List.nil_append, Nat.zero_add, List.map_append, List.length_map, List.map_replicate, List.drop_replicate]

set_option maxHeartbeats 4000000 in
theorem put_any (w : World) (v : Value) (n : Nd) (h : NdV w v n) :
    Calls Try.prog 18 #[v] w fun e w' => ∃ u, e = .returned (.tuple #[.int .i64 (putK n), u, .int .i64 (checkN n)]) ∧ ownsB w' w.heap.size u (putB n) ∧ Below w.heap.size w w' := by
  have HM : Hid (∀ w1, Below w.heap.size w w1 → Calls Try.prog 12 #[v] w1 fun e w' => e = .returned (.int .i64 (checkN n)) ∧ Below w1.heap.size w1 w') := fun w1 hb => check_any w1 v n (h.below hb)
  obtain ⟨i0, hi, hz0, hz1, hz2⟩ := info_parts infoU8
  have HB : Hid (checkN n = 0 → n.lf = true → ∀ w1, Below w.heap.size w w1 → Calls Try.prog 56 #[v] w1 fun e w' => ∃ u, e = .returned u ∧ ownsB w' w1.heap.size u (bytesN n) ∧ Below w1.heap.size w1 w') := fun hc hl w1 hb => by
    have hm := may_bounds (checkN_zero.1 hc).1
    have := leafBytes_any w1 v n (h.below hb) hm.1 hm.2.2.2.1
    rw [bytesN, if_pos hl]
    exact this
  have HI : Hid (checkN n = 0 → n.lf = false → ∀ w1, Below w.heap.size w w1 → Calls Try.prog 57 #[v] w1 fun e w' => ∃ u, e = .returned u ∧ ownsB w' w1.heap.size u (bytesN n) ∧ Below w1.heap.size w1 w') := fun hc hl w1 hb => by
    have hm := (checkN_zero.1 hc).1
    rw [mayN_in hl] at hm
    have := innerBytes_any w1 v n (h.below hb) hm
    rw [bytesN, if_neg (by rw [hl]; exact Bool.false_ne_true)]
    exact this
  have HLB : Hid (checkN n = 0 → (bytesN n).length ≤ 240 ∧ ByteOk (bytesN n)) := fun hc => by
    obtain ⟨hm, hs⟩ := checkN_zero.1 hc
    obtain ⟨_, _, _, _, _, _, xs, ys, _, _, _, _, _, _, _, hP, hK, _⟩ := h.open
    have hb := may_bounds hm
    refine ⟨by rw [bytesN_len hm]; exact hs, ?_⟩
    unfold bytesN
    split
    · refine lefT_ok n.ps hb.1 (fun p hp => ?_) _
      obtain ⟨i, hi, rfl⟩ := List.getElem_of_mem hp
      obtain ⟨_, _, _, _, h1, h2⟩ := hP.at i hi
      have hpe : n.ps.getD i ([], []) = n.ps[i] := by simp [List.getD, hi]
      rw [hpe] at h1 h2
      have := hb.2.2.2.1 _ (List.getElem_mem hi)
      exact ⟨h1.bytes, h2.bytes, by omega, by omega⟩
    · refine innT_ok n.ks n.cs hb.2.1 (fun p hp => ?_) _
      obtain ⟨i, hi, rfl⟩ := List.getElem_of_mem hp
      obtain ⟨_, _, _, _, h1⟩ := hK.at i hi
      have hpe : n.ks.getD i [] = n.ks[i] := by simp [List.getD, hi]
      rw [hpe] at h1
      exact ⟨h1.bytes, by have := hb.2.2.2.2 _ (List.getElem_mem hi); omega⟩
  have HPK : Hid (putK n = if checkN n = 0 then (if n.lf then 3 else 4) else 0) := rfl
  have HPB : Hid (putB n = if checkN n = 0 then padN (bytesN n) else []) := rfl
  obtain ⟨lf, pa, np, pc, ka, nk, kc, ca, nc, cc, rfl, hlf, -⟩ := nd_open h
  rw [hlf] at HPK HB HI
  generalize checkN n = C at *
  generalize putK n = PK at *
  generalize putB n = PB at *
  generalize bytesN n = L at *
  obtain ⟨w1, hw1, HB1, HBB, z0, z1, z2, z3⟩ := nd_box w lf (.slice pa np pc) (.slice ka nk kc) (.slice ca nc cc)
  have hsz1 : w.heap.size < w1.heap.size := HBB.out.lt
  clear h hlf
  by_cases hC : C = 0
  · have HLB2 := hide (HLB.out hC)
    have HPB2 : Hid (PB = padN L) := by show PB = padN L; rw [HPB.out, if_pos hC]
    subst hC
    obtain ⟨hl1, hl2⟩ := HLB2.out
    cases lf with
    | true =>
      have HBC := hide (HB.out rfl rfl)
      have HPK2 : Hid (PK = 3) := by show PK = 3; rw [HPK.out]; rfl
      clear HB HI HPK HPB HLB
      go_enter Try.func18, Try.ntmps18
      go_wp2_with (first
        | (go_at_call 12; refine (HM.out w1 HB1.out).mono ?_; rintro e w2 ⟨rfl, hb2⟩; have HB2 := hide (HB1.out.trans (hb2.mono HB1.out.size)); have HBB2 := hide (HBB.out.below hb2 HBB.out.lt); clear HM hb2)
        | (at_make; refine wpList_make_full _ rfl _ _ 34 rfl w2.heap.size 5 i0 (.int .u8 0) 1 Try.underlying34 hi hz0 hz1 .i64 .i64 _ _ 240 rfl rfl (by decide) (by decide) (by rw [hz2]; decide) (by unfold maxLen; decide) (Nat.le_refl _) ?_; intro w3 ho3 hg3; rw [madeBytes] at ho3; have G3 := hide (own_heap ho3); have hb3 : Below w2.heap.size w2 w3 := (Below.refl w2.heap.size w2).grown hg3 (Nat.le_refl _) (by intro k hk; cases hk); have HB3 := hide hb3; have HB3' := hide (HB2.out.trans (hb3.mono HB2.out.size)); obtain ⟨y0, y1, y2, y3⟩ := box_ndc (HBB2.out.below hb3 HBB2.out.lt); clear ho3 hg3 hb3)
        | (go_at_call 56; refine (HBC.out w3 HB3'.out).mono ?_; rintro e w4 ⟨u4, rfl, ho4, hb4⟩; obtain ⟨a4, c4, rfl⟩ := own_form' ho4; have HO4 := hide ho4; have HB4 := hide hb4; clear HBC ho4 hb4))
      have hlt3 : w2.heap.size < w3.heap.size := (Array.getElem?_eq_some_iff.1 G3.out).1
      have G4 : w4.heap[w2.heap.size]? = some (.cells (List.replicate 240 (Value.int .u8 0)).toArray 5 (0, 0)) := (HB4.out.block _ hlt3).trans G3.out
      have S4 := sl_of_own_len HO4.out hl2
      obtain ⟨w5, hrun, G5, hg5⟩ := run_copy_sl (P := Try.prog) w4 34 34 3 5 Try.underlying34 sizeU8 (some ⟨w2.heap.size, 0, none⟩) 240 240 w2.heap.size 0 _ G4 a4 L.length c4 L S4 (fun _ => rfl) hl1 (by rw [List.length_replicate]; omega)
      rw [hrun]
      rw [splice_pad L hl1, ← HPB2.out] at G5
      have HG5 := hide G5
      have hw1z := HB1.out.size
      have HB5 : Hid (Below w.heap.size w w5) := (HB3'.out.trans (HB4.out.mono HB3'.out.size)).grown hg5 (Nat.le_trans HB3'.out.size HB4.out.size) (by intro k hk; cases hk; exact HB2.out.size)
      clear G4 G5 hrun hg5 S4
      simp only [Result.andThen]
      rw [Oper.upon_value]
      go_wp2
      go_ret3
      have hPBl : PB.length = 240 := by rw [HPB2.out, padN, List.length_append, List.length_replicate]; omega
      refine ⟨.slice (some ⟨w2.heap.size, 0, none⟩) 240 240, (by rw [HPK2.out]; rfl), ?_, HB5.out⟩
      show World.ownsRow _ _ _ _ _ PB.length _
      rw [hPBl]
      exact heap_own (n := 240) HG5.out HB2.out.size (by rw [List.length_map]; exact hPBl) (by unfold maxLen; decide)
    | false =>
      have HBC := hide (HI.out rfl rfl)
      have HPK2 : Hid (PK = 4) := by show PK = 4; rw [HPK.out]; rfl
      clear HB HI HPK HPB HLB
      go_enter Try.func18, Try.ntmps18
      go_wp2_with (first
        | (go_at_call 12; refine (HM.out w1 HB1.out).mono ?_; rintro e w2 ⟨rfl, hb2⟩; have HB2 := hide (HB1.out.trans (hb2.mono HB1.out.size)); have HBB2 := hide (HBB.out.below hb2 HBB.out.lt); clear HM hb2)
        | (at_make; refine wpList_make_full _ rfl _ _ 34 rfl w2.heap.size 5 i0 (.int .u8 0) 1 Try.underlying34 hi hz0 hz1 .i64 .i64 _ _ 240 rfl rfl (by decide) (by decide) (by rw [hz2]; decide) (by unfold maxLen; decide) (Nat.le_refl _) ?_; intro w3 ho3 hg3; rw [madeBytes] at ho3; have G3 := hide (own_heap ho3); have hb3 : Below w2.heap.size w2 w3 := (Below.refl w2.heap.size w2).grown hg3 (Nat.le_refl _) (by intro k hk; cases hk); have HB3 := hide hb3; have HB3' := hide (HB2.out.trans (hb3.mono HB2.out.size)); obtain ⟨y0, y1, y2, y3⟩ := box_ndc (HBB2.out.below hb3 HBB2.out.lt); clear ho3 hg3 hb3)
        | (go_at_call 57; refine (HBC.out w3 HB3'.out).mono ?_; rintro e w4 ⟨u4, rfl, ho4, hb4⟩; obtain ⟨a4, c4, rfl⟩ := own_form' ho4; have HO4 := hide ho4; have HB4 := hide hb4; clear HBC ho4 hb4))
      have hlt3 : w2.heap.size < w3.heap.size := (Array.getElem?_eq_some_iff.1 G3.out).1
      have G4 : w4.heap[w2.heap.size]? = some (.cells (List.replicate 240 (Value.int .u8 0)).toArray 5 (0, 0)) := (HB4.out.block _ hlt3).trans G3.out
      have S4 := sl_of_own_len HO4.out hl2
      obtain ⟨w5, hrun, G5, hg5⟩ := run_copy_sl (P := Try.prog) w4 34 34 3 5 Try.underlying34 sizeU8 (some ⟨w2.heap.size, 0, none⟩) 240 240 w2.heap.size 0 _ G4 a4 L.length c4 L S4 (fun _ => rfl) hl1 (by rw [List.length_replicate]; omega)
      rw [hrun]
      rw [splice_pad L hl1, ← HPB2.out] at G5
      have HG5 := hide G5
      have hw1z := HB1.out.size
      have HB5 : Hid (Below w.heap.size w w5) := (HB3'.out.trans (HB4.out.mono HB3'.out.size)).grown hg5 (Nat.le_trans HB3'.out.size HB4.out.size) (by intro k hk; cases hk; exact HB2.out.size)
      clear G4 G5 hrun hg5 S4
      simp only [Result.andThen]
      rw [Oper.upon_value]
      go_wp2
      go_ret3
      have hPBl : PB.length = 240 := by rw [HPB2.out, padN, List.length_append, List.length_replicate]; omega
      refine ⟨.slice (some ⟨w2.heap.size, 0, none⟩) 240 240, (by rw [HPK2.out]; rfl), ?_, HB5.out⟩
      show World.ownsRow _ _ _ _ _ PB.length _
      rw [hPBl]
      exact heap_own (n := 240) HG5.out HB2.out.size (by rw [List.length_map]; exact hPBl) (by unfold maxLen; decide)
  · have HPB2 : Hid (PB = []) := by show PB = []; rw [HPB.out, if_neg hC]
    have HPK2 : Hid (PK = 0) := by show PK = 0; rw [HPK.out, if_neg hC]
    clear HB HI HPK HPB HLB
    go_enter Try.func18, Try.ntmps18
    go_wp2_with (go_at_call 12; refine (HM.out w1 HB1.out).mono ?_; rintro e w2 ⟨rfl, hb2⟩; have HB2 := hide (HB1.out.trans (hb2.mono HB1.out.size)); clear HM hb2)
    go_ret3
    refine ⟨.slice none 0 0, (by rw [HPK2.out]; rfl), ?_, HB2.out⟩
    show World.ownsRow _ _ _ _ _ PB.length _
    rw [HPB2.out]
    exact ⟨rfl, .inl ⟨rfl, rfl⟩⟩

end Go.Proofs.Ytoamdbjailpgdaa
/- Contracts: slices.BinarySearchFunc at a node's keys, package node's Kid. -/
namespace Go.Proofs.Ytoamdbjailpgdaa
set_option maxRecDepth 20000
open Go.RowKit
set_option linter.unusedVariables false
set_option linter.unusedSimpArgs false
set_option maxRecDepth 100000

theorem cnt_cmp {ks : List (List Int)} {key : List Int} (hr : riseK [] ks = true) {m : Nat} (hm : m < ks.length) : (cmp (ks.getD m []) key < 0 ↔ m < cntK ks key) := by
  obtain ⟨h1, h2⟩ := cntK_spec [] ks key hr
  constructor
  · intro h
    rcases Nat.lt_or_ge m (cntK ks key) with h3 | h3
    · exact h3
    · have := h2 m h3 hm; omega
  · exact h1 m

set_option maxHeartbeats 2000000 in
theorem searchK_any (w : World) (v : Value) (vs : List Value) (ks : List (List Int)) (kv : Value) (key : List Int) (hK : Bss w v vs ks) (hS : Sl w kv key) (hr : riseK [] ks = true) (hn5 : ks.length ≤ 255) :
    Calls Try.prog 69 #[v, kv, .func (.func 65) #[] #[]] w fun e w' => e = .returned (.tuple #[.int .i64 (cntK ks key), .bool (isK ks key)]) ∧ w' = w := by
  obtain ⟨ao, cap, rfl, hc1, hc2⟩ := hK.shape
  have HCM : Hid (∀ m, m < ks.length → (cmp (ks.getD m []) key < 0 ↔ m < cntK ks key)) := fun m hm => cnt_cmp hr hm
  have hcl := cntK_le ks key
  have HI : Hid (isK ks key = (decide (cntK ks key < ks.length) && decide (ks.getD (cntK ks key) [] = key))) := rfl
  have HC : Hid (∀ va l, Sl w va l → Calls Try.prog 65 #[va, kv] w fun e w' => e = .returned (.int .i64 (cmp l key)) ∧ w' = w) := fun va l h => packCompare_any w va kv l key h hS
  have HK := hide hK
  obtain ⟨ka, kn, kc, rfl⟩ := sl_form hS
  obtain ⟨n, hn⟩ : ∃ n, ks.length = n := ⟨_, rfl⟩
  have HN := hide hn
  rw [hn] at hc1 HK HCM hcl HI hn5 ⊢
  generalize isK ks key = IS at *
  generalize hcc : cntK ks key = c at *
  clear hK hS hr hn hcc
  go_enter Try.func69, Try.ntmps69
  go_wp2
  go_loopg [9, 10] n (fun g s9 s10 wr => ∃ lo hi : Nat, s9 = .int .i64 lo ∧ s10 = .int .i64 hi ∧ lo ≤ hi ∧ hi ≤ n ∧ hi - lo ≤ g ∧ lo ≤ c ∧ c ≤ hi ∧ w = wr)
  case atStart => exact ⟨0, n, rfl, rfl, Nat.zero_le _, Nat.le_refl _, by omega, Nat.zero_le _, hcl, rfl⟩
  case round =>
    obtain ⟨lo, hi, rfl, rfl, hlh, hin, hg, h1, h2, hwr⟩ := hrel
    subst wr
    by_cases hlt : lo < hi
    · have hli : (lo : Int) < (hi : Int) := by omega
      obtain ⟨b, off, rfl, q, hs⟩ := HK.out.at ((lo + hi) / 2) (by have := HN.out; omega)
      have hcm := HCM.out ((lo + hi) / 2) (by omega)
      generalize vs.getD ((lo + hi) / 2) nilS = u at *
      generalize ks.getD ((lo + hi) / 2) [] = l at *
      have HCC := hide (HC.out u l hs)
      have HCB := hide hcm
      obtain ⟨a1, n1, c1, rfl⟩ := sl_form hs
      generalize cmp l key = r at *
      clear hs hcm
      by_cases hb : r < 0
      · go_wp2_with (go_at_call 65; refine HCC.out.mono ?_; rintro e w1 ⟨rfl, hw⟩; subst w1; clear HCC)
        go_roundg (hi - ((lo + hi) / 2 + 1))
        case measure => omega
        case rel => exact ⟨(lo + hi) / 2 + 1, hi, by rw [show ((lo : Int) + (hi : Int)) / 2 + 1 = (((lo + hi) / 2 + 1 : Nat) : Int) by omega], rfl, by omega, hin, Nat.le_refl _, by have h3 := HCB.out; omega, h2, rfl⟩
      · go_wp2_with (go_at_call 65; refine HCC.out.mono ?_; rintro e w1 ⟨rfl, hw⟩; subst w1; clear HCC)
        go_roundg ((lo + hi) / 2 - lo)
        case measure => omega
        case rel => exact ⟨lo, (lo + hi) / 2, rfl, by rw [show ((lo : Int) + (hi : Int)) / 2 = (((lo + hi) / 2 : Nat) : Int) by omega], by omega, by omega, Nat.le_refl _, h1, by have h3 := HCB.out; omega, rfl⟩
    · obtain rfl : hi = lo := by omega
      obtain rfl : c = hi := by omega
      by_cases hcn : c < n
      · obtain ⟨b, off, rfl, q, hs⟩ := HK.out.at c (by have := HN.out; omega)
        generalize vs.getD c nilS = u at *
        generalize ks.getD c [] = l at *
        have HCC := hide (HC.out u l hs)
        obtain ⟨a1, n1, c1, rfl⟩ := sl_form hs
        have HZ := hide (cmp_zero_iff l key)
        generalize cmp l key = r at *
        clear hs
        by_cases hb : r = 0
        · go_wp2_with (go_at_call 65; refine HCC.out.mono ?_; rintro e w1 ⟨rfl, hw⟩; subst w1; clear HCC)
          go_ret2
          exact ⟨by rw [HI.out, decide_eq_true hcn, decide_eq_true (HZ.out.1 hb)]; rfl, rfl⟩
        · have hb2 : (r == 0) = false := by simpa using hb
          go_wp2_with (go_at_call 65; refine HCC.out.mono ?_; rintro e w1 ⟨rfl, hw⟩; subst w1; clear HCC)
          go_ret2
          exact ⟨by rw [HI.out, decide_eq_false (fun h => hb (HZ.out.2 h)), Bool.and_false]; rfl, rfl⟩
      · go_wp2
        go_ret2
        exact ⟨by rw [HI.out, decide_eq_false hcn, Bool.false_and]; rfl, rfl⟩

set_option maxHeartbeats 1000000 in
theorem kid_any (w : World) (v : Value) (n : Nd) (h : NdV w v n) (kv : Value) (key : List Int) (hS : Sl w kv key) :
    Calls Try.prog 26 #[v, kv] w fun e w' => e = .returned (.int .i64 (kidN n key)) ∧ Below w.heap.size w w' := by
  have HM : Hid (∀ w1, Below w.heap.size w w1 → Calls Try.prog 68 #[v] w1 fun e w' => e = .returned (.bool (innerB n)) ∧ Below w1.heap.size w1 w') := fun w1 hb => isInner_any w1 v n (h.below hb)
  obtain ⟨pa, pc, ka, kc, ca, cc, xs, ys, rfl, hp1, hk1, hc1, hp2, hk2, hc2, hP, hK, hC⟩ := h.open
  have HSK : Hid (innerB n = true → ∀ w1, Below w.heap.size w w1 → Calls Try.prog 69 #[.slice ka n.ks.length kc, kv, .func (.func 65) #[] #[]] w1 fun e w' => e = .returned (.tuple #[.int .i64 (cntK n.ks key), .bool (isK n.ks key)]) ∧ w' = w1) := fun hi w1 hb => by
    have := innerB_ps hi
    exact searchK_any w1 _ ys n.ks kv key (hK.below hb) (hS.below hb) this.2.2.2.2.1 this.2.2.1
  have HKN : Hid (kidN n key = if innerB n then cntK n.ks key + (if isK n.ks key then 1 else 0) else 0) := rfl
  have HCL : Hid (innerB n = true → cntK n.ks key ≤ 255) := fun hi => Nat.le_trans (cntK_le _ _) (innerB_ps hi).2.2.1
  obtain ⟨a1, n1, c1, rfl⟩ := sl_form hS
  generalize kidN n key = KN at *
  generalize cntK n.ks key = cn at *
  generalize isK n.ks key = IS at *
  generalize innerB n = IB at *
  unfold ndv at HM ⊢
  generalize n.lf = lf at *
  generalize n.ps.length = np at *
  generalize n.ks.length = nk at *
  generalize n.cs.length = nc at *
  obtain ⟨w1, hw1, HB1, HBB, z0, z1, z2, z3⟩ := nd_box w lf (.slice pa np pc) (.slice ka nk kc) (.slice ca nc cc)
  clear h hS hP hK hC hp1 hk1 hc1 hp2 hk2 hc2
  cases IB with
  | false =>
    go_enter Try.func26, Try.ntmps26
    go_wp2_with (go_at_call 68; refine (HM.out w1 HB1.out).mono ?_; rintro e w2 ⟨rfl, hb2⟩; have HB2 := hide (HB1.out.trans (hb2.mono HB1.out.size)); clear HM hb2)
    go_ret
    exact ⟨ret_int (by rw [HKN.out]; rfl), HB2.out⟩
  | true =>
    have HSK2 := hide (HSK.out rfl)
    have hcl := HCL.out rfl
    clear HSK HCL
    cases IS with
    | false =>
      go_enter Try.func26, Try.ntmps26
      go_wp2_with (first
        | (go_at_call 68; refine (HM.out w1 HB1.out).mono ?_; rintro e w2 ⟨rfl, hb2⟩; have HB2 := hide (HB1.out.trans (hb2.mono HB1.out.size)); obtain ⟨y0, y1, y2, y3⟩ := box_ndc (HBB.out.below hb2 HBB.out.lt); clear HM hb2)
        | (go_at_call 69; refine (HSK2.out w2 HB2.out).mono ?_; rintro e w3 ⟨rfl, hw⟩; subst w3; clear HSK2))
      go_ret
      exact ⟨ret_int (by rw [HKN.out]; simp), HB2.out⟩
    | true =>
      go_enter Try.func26, Try.ntmps26
      go_wp2_with (first
        | (go_at_call 68; refine (HM.out w1 HB1.out).mono ?_; rintro e w2 ⟨rfl, hb2⟩; have HB2 := hide (HB1.out.trans (hb2.mono HB1.out.size)); obtain ⟨y0, y1, y2, y3⟩ := box_ndc (HBB.out.below hb2 HBB.out.lt); clear HM hb2)
        | (go_at_call 69; refine (HSK2.out w2 HB2.out).mono ?_; rintro e w3 ⟨rfl, hw⟩; subst w3; clear HSK2))
      go_ret
      exact ⟨ret_int (by rw [HKN.out]; simp), HB2.out⟩

end Go.Proofs.Ytoamdbjailpgdaa
/- Contract: the chapter's example (incipitlaw10.live). -/
namespace Go.Proofs.Ytoamdbjailpgdaa
set_option maxRecDepth 20000
open Go.RowKit
set_option linter.unusedVariables false
set_option linter.unusedSimpArgs false
set_option maxRecDepth 100000

theorem sl_mark (w : World) (e : TypeId) (fr : Nat × Nat) (zs : List Int) (hb : ByteOk zs) (hm : zs.length ≤ maxLen) :
    Sl (w.alloc (.cells (zs.map (Value.int .u8)).toArray e fr)) (.slice (some ⟨w.heap.size, 0, none⟩) zs.length zs.length) zs := by
  refine ⟨hb, _, _, rfl, Nat.le_refl _, hm, (fun h => by cases h), fun _ => ⟨_, 0, rfl, fun i hi => ?_⟩⟩
  rw [World.cell?_alloc_mark, Nat.zero_add, getD_lt zs hi]
  simp [hi]
theorem cv8 (w : World) (C : Array Value) (n c b : Nat) (hb : w.heap.size = b) : (convert 34 34 (.slice (some ⟨b, 0, none⟩) n c)).run Try.prog (w.alloc (.cells C 5)) = .ok (.slice (some ⟨b, 0, none⟩) n c) (w.alloc (.cells C 5 (C.size, C.size + 1))) := by
  subst hb
  exact Lib.run_convert_bytes_const (P := Try.prog) w 34 5 C n c Try.underlying34 Try.underlying5

def exL : Nd := ⟨true, [([97], [7]), ([98], [])], [], []⟩
def exI : Nd := ⟨false, [], [[98]], [5, 6]⟩
theorem exL_check : checkN exL = 0 := by decide
theorem exL_kind : putK exL = 3 := by decide
theorem exL_len : (putB exL).length = 240 := by decide
theorem exL_nine : (putB exL).take 9 = [2, 1, 97, 1, 7, 1, 98, 0, 0] := by decide
theorem exL_ok : ByteOk (putB exL) := by
  have : (putB exL).all (fun z => decide (0 ≤ z) && decide (z ≤ 255)) = true := by decide
  intro z hz
  have := List.all_eq_true.1 this z hz
  rw [Bool.and_eq_true, decide_eq_true_iff, decide_eq_true_iff] at this
  exact this
theorem exI_b : kidN exI [98] = 1 := by decide
theorem exI_azz : kidN exI [97, 122, 122] = 0 := by decide

abbrev sB (b : Nat) (n : Nat) : Value := .slice (some ⟨b, 0, none⟩) n n
abbrev wL (w : World) : World := (((w.alloc (.cells #[.int .u8 97] 5 (1, 2))).alloc (.cells #[.int .u8 7] 5)).alloc (.cells #[.int .u8 98] 5 (1, 2))).alloc (.cells #[.slice (some ⟨w.heap.size, 0, none⟩) 1 1, .slice (some ⟨w.heap.size + 1, 0, none⟩) 1 1, .slice (some ⟨w.heap.size + 1 + 1, 0, none⟩) 1 1, .slice none 0 0] 36)
theorem exL_val (w : World) : NdV (wL w) (.agg #[.bool true, .slice (some ⟨w.heap.size + 1 + 1 + 1, 0, none⟩) 2 2, .slice none 0 0, .slice none 0 0]) exL := by
  have s1 := sl_mark w 5 (1, 2) [97] (by intro z hz; simp at hz; omega) (by simp [maxLen])
  have s2 := sl_mark (w.alloc (.cells #[.int .u8 97] 5 (1, 2))) 5 (0, 0) [7] (by intro z hz; simp at hz; omega) (by simp [maxLen])
  have s3 := sl_mark ((w.alloc (.cells #[.int .u8 97] 5 (1, 2))).alloc (.cells #[.int .u8 7] 5)) 5 (1, 2) [98] (by intro z hz; simp at hz; omega) (by simp [maxLen])
  have s4 := Blk.new (((w.alloc (.cells #[.int .u8 97] 5 (1, 2))).alloc (.cells #[.int .u8 7] 5)).alloc (.cells #[.int .u8 98] 5 (1, 2))) 36 [.slice (some ⟨w.heap.size, 0, none⟩) 1 1, .slice (some ⟨w.heap.size + 1, 0, none⟩) 1 1, .slice (some ⟨w.heap.size + 1 + 1, 0, none⟩) 1 1, .slice none 0 0]
  rw [World.size_alloc] at s2
  rw [World.size_alloc, World.size_alloc] at s3
  rw [World.size_alloc, World.size_alloc, World.size_alloc] at s4
  refine ⟨_, _, _, [(sB w.heap.size 1, sB (w.heap.size + 1) 1), (sB (w.heap.size + 1 + 1) 1, nilS)], [], rfl, ⟨rfl, _, 2, rfl, Nat.le_refl _, by simp [maxLen], fun i hi => ?_, fun _ => ⟨w.heap.size + 1 + 1 + 1, 0, rfl, fun i hi => ?_⟩⟩, Bss.nil _, Is.nil' _⟩
  · have hi' : i < 2 := hi
    rcases (show i = 0 ∨ i = 1 by omega) with rfl | rfl
    · exact ⟨((s1.alloc _).alloc _).alloc _, (s2.alloc _).alloc _⟩
    · exact ⟨s3.alloc _, Sl.nil _⟩
  · have hi' : i < 2 := hi
    rcases (show i = 0 ∨ i = 1 by omega) with rfl | rfl
    · exact s4.range 0 _ (fun j hj => by rcases (show j = 0 ∨ j = 1 by simp at hj; omega) with rfl | rfl <;> rfl)
    · exact s4.range 2 _ (fun j hj => by rcases (show j = 0 ∨ j = 1 by simp at hj; omega) with rfl | rfl <;> rfl)
abbrev wI (w : World) : World := ((w.alloc (.cells #[.int .u8 98] 5 (1, 2))).alloc (.cells #[.slice (some ⟨w.heap.size, 0, none⟩) 1 1] 34)).alloc (.cells #[.int .i64 5, .int .i64 6] 3)
abbrev vI (w : World) : Value := .agg #[.bool false, .slice none 0 0, .slice (some ⟨w.heap.size + 1, 0, none⟩) 1 1, .slice (some ⟨w.heap.size + 1 + 1, 0, none⟩) 2 2]
theorem exI_val (w : World) : NdV (wI w) (vI w) exI := by
  have s1 := sl_mark w 5 (1, 2) [98] (by intro z hz; simp at hz; omega) (by simp [maxLen])
  have s2 := Blk.new (w.alloc (.cells #[.int .u8 98] 5 (1, 2))) 34 [.slice (some ⟨w.heap.size, 0, none⟩) 1 1]
  have s3 := Blk.new ((w.alloc (.cells #[.int .u8 98] 5 (1, 2))).alloc (.cells #[.slice (some ⟨w.heap.size, 0, none⟩) 1 1] 34)) 3 [.int .i64 5, .int .i64 6]
  rw [World.size_alloc] at s2
  rw [World.size_alloc, World.size_alloc] at s3
  have s2' := s2.alloc (.cells #[.int .i64 5, .int .i64 6] 3)
  refine ⟨_, _, _, [], [sB w.heap.size 1], rfl, Prs.nil _, ⟨rfl, _, 1, rfl, Nat.le_refl _, by simp [maxLen], fun i hi => ?_, fun _ => ⟨w.heap.size + 1, 0, rfl, fun i hi => ?_⟩⟩, ⟨_, 2, rfl, Nat.le_refl _, by simp [maxLen], fun _ => ⟨w.heap.size + 1 + 1, 0, rfl, fun i hi => ?_⟩⟩⟩
  · have hi' : i < 1 := hi
    obtain rfl : i = 0 := by omega
    exact (s1.alloc _).alloc _
  · have hi' : i < 1 := hi
    obtain rfl : i = 0 := by omega
    exact s2'.cell 0
  · have hi' : i < 2 := hi
    rcases (show i = 0 ∨ i = 1 by omega) with rfl | rfl
    · exact s3.cell 0
    · exact s3.cell 1

set_option maxHeartbeats 2000000 in
theorem live_any (w : World) : Calls Try.prog 8 #[] w fun e w' => e = .returned (.bool true) ∧ Below w.heap.size w w' := by
  have cv1 := cv8 w #[.int .u8 97] 1 1 w.heap.size rfl
  have cv2 := cv8 ((w.alloc (.cells #[.int .u8 97] 5 (1, 2))).alloc (.cells #[.int .u8 7] 5)) #[.int .u8 98] 1 1 (w.heap.size + 1 + 1) (by simp)
  have hPU := put_any _ _ _ (exL_val w)
  rw [exL_kind, exL_check] at hPU
  have HPU := hide hPU
  have hbL : Below w.heap.size w (wL w) := ((((Below.refl _ w).alloc (Nat.le_refl _) _).alloc (by simp) _).alloc (by simp; omega) _).alloc (by simp; omega) _
  have HBL := hide hbL
  have HBLs := hide hbL.size
  have H9 := hide exL_nine
  have HOK := hide exL_ok
  have hl := exL_len
  generalize putB exL = PB at *
  clear hPU hbL
  go_enter Try.func8, Try.ntmps8
  go_wp2_with (first
    | (go_at_call 18; refine HPU.out.mono ?_; rintro e w2 ⟨u, rfl, ho2, hb2⟩; have HB2 := hide (HBL.out.trans (hb2.mono HBLs.out)); obtain ⟨ua, uc, rfl⟩ := own_form' ho2; have hcap := own_len ho2; have HO2 := hide ho2; have cv3 := cv8 w2 #[.int .u8 98] 1 1 w2.heap.size rfl; clear HPU ho2 hb2 cv1 cv2))
  obtain ⟨W4, hW4⟩ : ∃ W4, ((wI w2).alloc (.cells #[.bool false, .slice none 0 0, .slice (some ⟨w2.heap.size + 1, 0, none⟩) 1 1, .slice (some ⟨w2.heap.size + 1 + 1, 0, none⟩) 2 2] 26)).alloc (.cells #[.int .u8 2, .int .u8 1, .int .u8 97, .int .u8 1, .int .u8 7, .int .u8 1, .int .u8 98, .int .u8 0, .int .u8 0] 5) = W4 := ⟨_, rfl⟩
  have hb4 : Below w2.heap.size w2 W4 := by rw [← hW4]; exact (((((Below.refl _ w2).alloc (Nat.le_refl _) _).alloc (by simp) _).alloc (by simp; omega) _).alloc (by simp; omega) _).alloc (by simp; omega) _
  have hsz4 : W4.heap.size = w2.heap.size + 5 := by rw [← hW4]; simp
  have hs9 : Sl W4 (.slice (some ⟨w2.heap.size + 1 + 1 + 1 + 1, 0, none⟩) 9 9) [2, 1, 97, 1, 7, 1, 98, 0, 0] := by
    have := sl_mark ((wI w2).alloc (.cells #[.bool false, .slice none 0 0, .slice (some ⟨w2.heap.size + 1, 0, none⟩) 1 1, .slice (some ⟨w2.heap.size + 1 + 1, 0, none⟩) 2 2] 26)) 5 (0, 0) [2, 1, 97, 1, 7, 1, 98, 0, 0] (by intro z hz; simp at hz; omega) (by simp [maxLen])
    rw [World.size_alloc, World.size_alloc, World.size_alloc, World.size_alloc] at this
    rw [← hW4]
    exact this
  have hsu : Sl W4 (.slice ua 9 uc) [2, 1, 97, 1, 7, 1, 98, 0, 0] := by
    have := (sl_of_own_len HO2.out HOK.out).below hb4
    have := sl_take 9 this (by omega)
    rwa [H9.out] at this
  have HEQ := hide (equal_any W4 _ _ _ _ hsu hs9)
  rw [decide_eq_true rfl] at HEQ
  have HVI : Hid (NdV W4 (vI w2) exI) := by show NdV W4 _ _; rw [← hW4]; exact ((exI_val w2).alloc _).alloc _
  have HBX : Hid (Blk W4 (w2.heap.size + 1 + 1 + 1) 26 (ndc false (.slice none 0 0) (.slice (some ⟨w2.heap.size + 1, 0, none⟩) 1 1) (.slice (some ⟨w2.heap.size + 1 + 1, 0, none⟩) 2 2))) := by
    have := Blk.new (wI w2) 26 (ndc false (.slice none 0 0) (.slice (some ⟨w2.heap.size + 1, 0, none⟩) 1 1) (.slice (some ⟨w2.heap.size + 1 + 1, 0, none⟩) 2 2))
    rw [World.size_alloc, World.size_alloc, World.size_alloc] at this
    show Blk W4 _ _ _
    rw [← hW4]
    exact Blk.alloc this _
  obtain ⟨z0, z1, z2, z3⟩ := box_ndc HBX.out
  have cv4 := cv8 W4 #[.int .u8 98] 1 1 W4.heap.size rfl
  have HK1 := hide (kid_any (W4.alloc (.cells #[.int .u8 98] 5 (1, 2))) _ _ (HVI.out.alloc _) (.slice (some ⟨W4.heap.size, 0, none⟩) 1 1) [98] (sl_mark W4 5 (1, 2) [98] (by intro z hz; simp at hz; omega) (by simp [maxLen])))
  rw [exI_b] at HK1
  have HB4 := hide (HB2.out.trans (hb4.mono HB2.out.size))
  have HB5 : Hid (Below w.heap.size w (W4.alloc (.cells #[.int .u8 98] 5 (1, 2)))) := HB4.out.alloc HB4.out.size _
  have HK2 : Hid (∀ W6, Below W4.heap.size W4 W6 → Calls Try.prog 26 #[vI w2, .slice (some ⟨W6.heap.size, 0, none⟩) 3 3] (W6.alloc (.cells #[.int .u8 97, .int .u8 122, .int .u8 122] 5 (3, 4))) fun e w' => e = .returned (.int .i64 0) ∧ Below (W6.alloc (.cells #[.int .u8 97, .int .u8 122, .int .u8 122] 5 (3, 4))).heap.size (W6.alloc (.cells #[.int .u8 97, .int .u8 122, .int .u8 122] 5 (3, 4))) w') := fun W6 hb => by
    have := kid_any (W6.alloc (.cells #[.int .u8 97, .int .u8 122, .int .u8 122] 5 (3, 4))) _ _ ((HVI.out.below hb).alloc _) (.slice (some ⟨W6.heap.size, 0, none⟩) 3 3) [97, 122, 122] (sl_mark W6 5 (3, 4) [97, 122, 122] (by intro z hz; simp at hz; omega) (by simp [maxLen]))
    rwa [exI_azz] at this
  rw [show ((wI w2).alloc (.cells #[.bool false, .slice none 0 0, .slice (some ⟨w2.heap.size + 1, 0, none⟩) 1 1, .slice (some ⟨w2.heap.size + 1 + 1, 0, none⟩) 2 2] 26)).alloc (.cells #[.int .u8 2, .int .u8 1, .int .u8 97, .int .u8 1, .int .u8 7, .int .u8 1, .int .u8 98, .int .u8 0, .int .u8 0] 5) = W4 from hW4]
  clear hW4 hs9 hsu hb4 cv3
  refine HEQ.out.mono ?_
  rintro e w4 ⟨rfl, hw⟩
  subst w4
  have HS4 := hide hsz4
  clear hsz4
  go_wp2_with (first
    | (go_at_call 26; refine HK1.out.mono ?_; rintro e w6 ⟨rfl, hb6⟩; clear HK1; have hb46 := after_alloc hb6; have HB6 := hide (HB5.out.trans (hb6.mono HB5.out.size)); have HB46 := hide hb46; obtain ⟨y0, y1, y2, y3⟩ := box_ndc (HBX.out.below hb46 HBX.out.lt); have cv5 := cv8 w6 #[.int .u8 97, .int .u8 122, .int .u8 122] 3 3 w6.heap.size rfl; clear hb46 hb6)
    | (go_at_call 26; refine (HK2.out w6 HB46.out).mono ?_; rintro e w7 ⟨rfl, hb7⟩; clear HK2; have HB7 := hide ((HB6.out.alloc HB6.out.size (.cells #[.int .u8 97, .int .u8 122, .int .u8 122] 5 (3, 4))).trans (hb7.mono (by have := HB6.out.size; simp; omega))); clear hb7))
  go_ret
  exact ⟨rfl, HB7.out⟩

end Go.Proofs.Ytoamdbjailpgdaa
