/- Contract: package node's leafBytes. -/
import Derived.Test.YtoamdbjailpgdaaNPut
namespace Go.Proofs.Ytoamdbjailpgdaa
set_option maxRecDepth 20000
open Go.RowKit Go.Shelf
set_option linter.unusedVariables false
set_option linter.unusedSimpArgs false
set_option maxRecDepth 100000
attribute [local go_sem] Oper.semAt_some

structure LbI (w : World) (pv : Value) (L : Nat → List Int) (Y : Nat → Prop) (k : Nat) (W : World) : Prop where
  box : ∃ v, Blk W (w.heap.size + 2) 34 [v] ∧ ownsB W w.heap.size v (L k) ∧ ∀ j, v.ownBlock = some j → (j = w.heap.size + 1 ∨ w.heap.size + 6 ≤ j)
  b3 : Blk W (w.heap.size + 3) 22 [pv]
  below : Below w.heap.size w W
  size : w.heap.size + 6 ≤ W.heap.size
  ys : ∀ j, Y j → w.heap.size + 6 ≤ j ∧ j < W.heap.size
theorem LbI.keep {w : World} {pv : Value} {L : Nat → List Int} {Y : Nat → Prop} {k : Nat} {W W' : World} (h : LbI w pv L Y k W) (ho : Only (fun j => j = w.heap.size + 4 ∨ j = w.heap.size + 4 + 1) W W') : LbI w pv L Y k W' := by
  obtain ⟨v, h1, h2, h3⟩ := h.box
  exact ⟨⟨v, h1.only ho (by omega), ownsRow_only h2 ho (fun j hj e => by have := h3 j hj; omega), h3⟩, h.b3.only ho (by omega), h.below.trans (ho.below h.below.size (fun j hj e => by omega)), Nat.le_trans h.size ho.size, fun j hj => ⟨(h.ys j hj).1, Nat.lt_of_lt_of_le (h.ys j hj).2 ho.size⟩⟩
theorem LbI.grow {w : World} {pv : Value} {L : Nat → List Int} {Y : Nat → Prop} {k : Nat} {W W' : World} (h : LbI w pv L Y k W) (hb : Below W.heap.size W W') : LbI w pv L (more Y W W') k W' := by
  obtain ⟨v, h1, h2, h3⟩ := h.box
  have hs := h.size
  have ho := Only.of_below (fun _ => False) hb
  refine ⟨⟨v, h1.only ho (fun h => h), ownsRow_only h2 ho (fun _ _ h => h), h3⟩, h.b3.only ho (fun h => h), h.below.trans (hb.mono h.below.size), Nat.le_trans h.size hb.size, fun j hj => ?_⟩
  rcases hj with hj | hj
  · exact ⟨(h.ys j hj).1, Nat.lt_of_lt_of_le (h.ys j hj).2 hb.size⟩
  · exact ⟨by omega, hj.2⟩

set_option maxHeartbeats 4000000 in
theorem leafBytes_any (w : World) (v : Value) (n : Nd) (h : NdV w v n) (hn : n.ps.length ≤ 255) (hl : ∀ p ∈ n.ps, p.1.length ≤ 25 ∧ p.2.length ≤ 24) :
    Calls Try.prog 56 #[v] w fun e w' => ∃ u, e = .returned u ∧ ownsB w' w.heap.size u (lefT n.ps n.ps.length) ∧ Below w.heap.size w w' := by
  obtain ⟨pa, pc, ka, kc, ca, cc, xs, ys, rfl, hp1, hk1, hc1, hp2, hk2, hc2, hP, hK, hC⟩ := h.open
  obtain ⟨lf, ps, ks, cs⟩ := n
  simp only at hp1 hk1 hc1 hp2 hk2 hc2 hP hK hC hn hl ⊢
  have hok := lefT_ok ps hn (fun p hp => by
    obtain ⟨i, hi, rfl⟩ := List.getElem_of_mem hp
    obtain ⟨_, _, _, _, h1, h2⟩ := hP.at i hi
    have hpe : ps.getD i ([], []) = ps[i] := by simp [List.getD, hi]
    rw [hpe] at h1 h2
    have := hl _ (List.getElem_mem hi)
    exact ⟨h1.bytes, h2.bytes, by omega, by omega⟩)
  have hlen : ∀ k, k ≤ ps.length → (lefT ps k).length ≤ 20000 := fun k hk => by
    rw [lefT_len ps k hk]
    have := sum_take_le (ps.map partP) 51 (fun x hx => by obtain ⟨p, hp, rfl⟩ := List.mem_map.1 hx; have := hl p hp; unfold partP; omega) k
    omega
  have HP := hide hP
  have HOK := hide hok
  have HLN := hide hlen
  have HL := hide hl
  clear hP hK hC h hok hlen hl
  unfold ndv
  obtain ⟨np, hnp⟩ : ∃ m, ps.length = m := ⟨_, rfl⟩
  have HNP := hide hnp
  rw [hnp] at hp1 HP hn HLN ⊢
  have HL0 : Hid (lefT ps 0 = [(np : Int)]) := by show lefT ps 0 = _; rw [lefT, hnp]
  generalize ks.length = nk at *
  generalize cs.length = nc at *
  have hc8 : (np : Int) % 256 = (np : Int) := by omega
  have hw8 : IntKind.u8.wrap (np : Int) = (np : Int) := by
    have : IntKind.u8.wrap (np : Int) = (np : Int) % 256 := rfl
    rw [this]; omega
  clear hnp
  refine (callsIn_wide (n := 3)).1 ?_
  refine callsIn_of_wp_marks Try.func56 rfl trivial ?_ rfl
  simp only [Try.ntmps56, List.size_toArray, List.length_cons, List.length_nil, Nat.reduceAdd, Nat.reduceSub, Array.replicate_succ, Array.replicate_zero, List.push_toArray, List.append_toArray, List.nil_append, List.cons_append]
  have HEA := hide (fun w1 => each_any w1 pa np pc)
  gi_wp2_with (first
    | (refine ⟨trivial, ?_⟩; gi_at_call 47; refine (callsIn_wide.2 (HEA.out _)).mono ?_; rintro e w1 ⟨rfl, hw⟩; subst w1; clear HEA))
  obtain ⟨w2, hw2⟩ : ∃ w2, (((w.alloc (.cells #[.bool lf, .slice pa np pc, .slice ka nk kc, .slice ca nc cc] 26)).alloc (.cells #[.int .u8 (np : Int)] 5)).alloc (.cells #[.slice (some ⟨w.heap.size + 1, 0, none⟩) 1 1] 34)).alloc (.cells #[.slice pa np pc] 22) = w2 := ⟨_, rfl⟩
  have hs2 : w2.heap.size = w.heap.size + 4 := by rw [← hw2]; simp
  have hA : ownsB w2 w.heap.size (.slice (some ⟨w.heap.size + 1, 0, none⟩) 1 1) [(np : Int)] := by
    rw [← hw2]
    have := World.ownsRow_lit (size := 1) (base := w.heap.size) (e := 5) (w.alloc (.cells #[.bool lf, .slice pa np pc, .slice ka nk kc, .slice ca nc cc] 26)) [.int .u8 (np : Int)].toArray 1 (by simp) (by simp [maxLen]) (by simp)
    rw [World.size_alloc] at this
    exact (World.ownsRow.alloc this _).alloc _
  have hB : Blk w2 (w.heap.size + 2) 34 [.slice (some ⟨w.heap.size + 1, 0, none⟩) 1 1] := by
    rw [← hw2]
    have := Blk.new ((w.alloc (.cells #[.bool lf, .slice pa np pc, .slice ka nk kc, .slice ca nc cc] 26)).alloc (.cells #[.int .u8 (np : Int)] 5)) 34 [.slice (some ⟨w.heap.size + 1, 0, none⟩) 1 1]
    rw [World.size_alloc, World.size_alloc] at this
    exact Blk.alloc this _
  have hD : Blk w2 (w.heap.size + 3) 22 [.slice pa np pc] := by
    rw [← hw2]
    have := Blk.new (((w.alloc (.cells #[.bool lf, .slice pa np pc, .slice ka nk kc, .slice ca nc cc] 26)).alloc (.cells #[.int .u8 (np : Int)] 5)).alloc (.cells #[.slice (some ⟨w.heap.size + 1, 0, none⟩) 1 1] 34)) 22 [.slice pa np pc]
    rw [World.size_alloc, World.size_alloc, World.size_alloc] at this
    exact this
  have hb2 : Below w.heap.size w w2 := by rw [← hw2]; exact ((((Below.refl _ w).alloc (Nat.le_refl _) _).alloc (by simp) _).alloc (by simp; omega) _).alloc (by simp; omega) _
  have HA := hide hA
  have HB := hide hB
  have HD := hide hD
  have HB2 := hide hb2
  clear hA hB hD hb2 hw8 hc8
  rw [hw2]
  refine wp_range5 (gf := 84) (lb := #[.pointer (some ⟨w.heap.size + 1 + 1 + 1, 0, none⟩)]) (xs := xs) (encs := encV) (V := EachV (w.heap.size + 3) (.slice pa np pc) xs ps) rfl enters_each (each_iter _ _ _ _) (fun _ => rfl) (fun Y k W => LbI w (.slice pa np pc) (lefT ps) Y k W) (fun c k W => False) ?_ ?_ ?_ ?_ ?_
    (fun x => { tmps := #[.agg #[.bool lf, .slice pa np pc, .slice ka nk kc, .slice ca nc cc], .pointer (some ⟨w.heap.size, 0, none⟩), .slice none 0 0, .pointer (some ⟨w.heap.size + 1 + 1, 0, none⟩), x.1, x.2, .pointer (some ⟨w.heap.size, 1, none⟩), .slice pa np pc, .int .i64 (np : Int), .int .u8 (np : Int), .slice (some ⟨w.heap.size + 1, 0, none⟩) 1 1, .pointer (some ⟨w.heap.size, 1, none⟩), .slice pa np pc, .func (.func 84) #[] #[.pointer (some ⟨w.heap.size + 1 + 1 + 1, 0, none⟩)], x.1, x.2, undef, undef, undef, undef, undef, undef], defers := [] }) ?assign ?body ?done ?stop
  · intro Y k W W' h ho
    exact h.keep (by rw [hs2] at ho; exact ho)
  · intro Y k W W' h hb
    exact h.grow hb
  · intro c k W W' h ho
    exact h
  · intro Y k W h
    exact ⟨fun _ => h.b3.cell 0, HP.out.below h.below⟩
  · intro W1 ho hs
    refine ⟨⟨_, HB.out.only ho (fun h => h), ?_, (fun j hj => by cases hj; exact .inl rfl)⟩, HD.out.only ho (fun h => h), HB2.out.trans ((ho.below (Nat.le_refl _) (fun _ _ h => h)).mono (by omega)), by omega, (fun _ h => h.elim)⟩
    rw [HL0.out]
    exact ownsRow_only HA.out ho (fun _ _ h => h)
  case assign =>
    intro l k hk W G hG
    gi_wp2
    exact hG
  case body =>
    intro l Y k hk W h
    have hkp : k < ps.length := by rw [← HP.out.len]; exact hk
    obtain ⟨_, _, _, _, hsk, hsv⟩ := HP.out.at k hkp
    have hxe : xs.getD k nil2 = xs[k] := by simp [List.getD, hk]
    have hpe : ps.getD k ([], []) = ps[k] := by simp [List.getD, hkp]
    have hle := HL.out ps[k] (List.getElem_mem hkp)
    have hLk : lefT ps (k + 1) = lefT ps k ++ txt ps[k].1 ++ txt ps[k].2 := by rw [lefT, hpe]
    have hlk := HLN.out k (by have := HNP.out; omega)
    have hok := HOK.out k
    rw [hxe, hpe] at hsk hsv
    generalize xs[k] = x at *
    generalize ps[k] = q at *
    generalize hLL : lefT ps k = LL at hlk hok hLk
    obtain ⟨u1, u2⟩ := x
    obtain ⟨q1, q2⟩ := q
    simp only at hsk hsv hle hLk
    obtain ⟨v, h1, h2, h3⟩ := h.box
    rw [hLL] at h2
    have hs := sl_of_own_len h2 hok
    have HT1 := hide (putText_any W v u1 LL q1 hs (hsk.below h.below) (by omega) (by omega))
    obtain ⟨M2, hM2⟩ : ∃ M2, M2 = LL ++ txt q1 ++ txt q2 := ⟨_, rfl⟩
    have HT2 : Hid (∀ (W1 : World) (y : Value), ownsB W1 W.heap.size y (LL ++ txt q1) → Below W.heap.size W W1 → Calls Try.prog 85 #[y, u2] W1 fun e w' => ∃ u, e = .returned u ∧ ownsB w' W1.heap.size u M2 ∧ Below W1.heap.size W1 w') := fun W1 y hy hb => hM2 ▸ putText_any W1 y u2 (LL ++ txt q1) q2 (sl_of_own_len hy (hok.append' (txt_ok hsk.bytes (by omega)))) ((hsv.below h.below).below hb) (by rw [List.length_append, txt_len]; omega) (by omega)
    obtain ⟨a1, n1, c1, rfl⟩ := sl_form hsk
    obtain ⟨a2, n2, c2, rfl⟩ := sl_form hsv
    obtain ⟨a3, n3, c3, rfl⟩ := sl_form hs
    have c0 : W.cell? ⟨w.heap.size + 1 + 1, 0, none⟩ = some (.slice a3 n3 c3) := h1.cell 0
    have H1 := hide h1
    have HH := hide h
    have HLK : Hid (lefT ps (k + 1) = M2) := by show lefT ps (k + 1) = M2; rw [hLk, hM2]
    clear h1 h2 h3 hs hsk hsv hxe hpe hLk hok h hLL hM2
    gi_wp2_with (first
      | (refine ⟨trivial, ?_⟩; gi_at_call 85; refine (callsIn_wide.2 HT1.out).mono ?_; rintro e W1 ⟨y1, rfl, hy1, hb1⟩; clear HT1; have HY1 := hide hy1; have HW1 := hide hb1; clear hy1 hb1)
      | (refine ⟨trivial, ?_⟩; gi_at_call 85; refine (callsIn_wide.2 (HT2.out W1 y1 HY1.out HW1.out)).mono ?_; rintro e W2 ⟨y2, rfl, hy2, hb2⟩; clear HT2; obtain ⟨a4, c4, rfl⟩ := own_form' hy2; have HY2 := hide hy2; have hB2 := (H1.out.below HW1.out H1.out.lt).below hb2 (Nat.lt_of_lt_of_le H1.out.lt HW1.out.size); have cc2 : W2.cell? ⟨w.heap.size + 1 + 1, 0, none⟩ = some (.slice a3 n3 c3) := hB2.cell 0; have ff2 : W2.frozen? ⟨w.heap.size + 1 + 1, 0, none⟩ = false := hB2.frozen 0; have HBB2 := hide hB2; have HW2 := hide (HW1.out.trans (hb2.mono HW1.out.size)); have HW12 := hide HW1.out.size; clear hy2 hb2 hB2 HY1 HW1))
    have hh := HH.out
    have hoB : Only (· = w.heap.size + 2) W2 (W2.setCell ⟨w.heap.size + 2, 0, none⟩ (.slice a4 M2.length c4)) := (Only.refl (· = w.heap.size + 2) W2).setCell ⟨w.heap.size + 2, 0, none⟩ _ (fun _ => rfl)
    have hoA : Only (· = w.heap.size + 2) W _ := (Only.of_below (· = w.heap.size + 2) HW2.out).trans hoB (fun _ _ e => e)
    have hv2 : ∀ j, (Value.slice a4 M2.length c4).ownBlock = some j → W.heap.size ≤ j := fun j hj => by
      have := (World.ownsRow.lt HY2.out j hj).1
      have := HW12.out
      omega
    have hsz := hh.size
    refine ⟨Keeps2.of_only hoA (by omega) (by omega), fun j hj => hoA.block j (hh.ys j hj).2 (by have := (hh.ys j hj).1; omega), ⟨_, HBB2.out.set 0 _, ?_, fun j hj => .inr (by have := hv2 j hj; omega)⟩, hh.b3.only hoA (by omega), hh.below.trans (hoA.below hh.below.size (fun j hj e => by omega)), Nat.le_trans hh.size hoA.size, fun j hj => ⟨(hh.ys j hj).1, Nat.lt_of_lt_of_le (hh.ys j hj).2 hoA.size⟩⟩
    show ownsB _ _ _ (lefT ps (k + 1))
    rw [HLK.out]
    exact own_le' (ownsRow_only HY2.out hoB (fun j hj e => by have := hv2 j hj; omega)) (by have := HW12.out; omega)
  case done =>
    intro Y W h hD
    have hL : xs.length = np := by rw [HP.out.len]; exact HNP.out
    rw [hL] at h
    obtain ⟨v, h1, h2, h3⟩ := h.box
    have c0 : W.cell? ⟨w.heap.size + 1 + 1, 0, none⟩ = some v := h1.cell 0
    obtain ⟨ao1, cap1, rfl⟩ := own_form' h2
    have H2 := hide h2
    have H3 := hide h3
    have HH := hide h
    have HDD := hide hD
    clear h1 h2 h3 h hD hL
    gi_wp2
    refine ⟨by simp, .inl ⟨_, _, rfl, run_takeDeferred HDD.out, ?_⟩⟩
    have hoD : Only (· = w2.heap.size) W (W.putObj w2.heap.size (.deferred none)) := only_put1 W _ _ _ rfl
    refine ⟨_, results_tmp (t := 2) rfl _ _ _, .slice ao1 _ cap1, rfl, ?_, HH.out.below.trans (hoD.below HH.out.below.size (fun j hj e => by omega))⟩
    exact ownsRow_only H2.out hoD (fun j hj e => by have := H3.out j hj; omega)
  case stop =>
    intro c k W hk h
    exact h.elim

end Go.Proofs.Ytoamdbjailpgdaa
