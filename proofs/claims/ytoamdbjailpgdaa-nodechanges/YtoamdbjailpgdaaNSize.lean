/- Contracts: package node's parts, Size, Check. -/
import Derived.Test.YtoamdbjailpgdaaNInner
import Derived.Test.YtoamdbjailpgdaaNSl
namespace Go.Proofs.Ytoamdbjailpgdaa
set_option maxRecDepth 20000
open Go.RowKit Go.Shelf
set_option linter.unusedVariables false
set_option linter.unusedSimpArgs false
set_option maxRecDepth 100000
attribute [local go_sem] Oper.semAt_some

theorem wpListIn_append_run {F : Fence} {n : Nat} {P : Program} (w : World) {ops : Array Oper} {rest : List Oper} {o : Oper} {a : Act} {Q : Exit → Act → World → Prop} (hg : o.guard = none) (s x : Operand) (t : TypeId)
    (hop : o.op = .call { callee := .builtin .append, args := #[s, x], argTypes := #[t, t] }) (v y : Value) (hs : a.eval s = v) (hx : a.eval x = y) (v' : Value) (w' : World)
    (hr : (Builtin.append_ #[t, t] o.type #[v, y]).run P w = .ok v' w') (h : wpListIn F n P ops Q rest (a.put o.dst v') w') : wpListIn F n P ops Q (o :: rest) a w := by
  refine wpListIn_plain hg fun K hK' => ?_
  unfold Oper.wpIn
  refine ⟨?_, ?_⟩
  · simp [Oper.about, hop, resolve, Target.leads, Sem.run_pure]
  · rw [Oper.semAt_plain F _ _ (by rw [hop]; intro c hc'; cases hc')]
    simp [execOp, hop, resolve, invoke, builtin, hs, hx, hr, Result.andThen]
    exact hK' _ _ h

def ci (xs : List Nat) : List Int := xs.map (fun (x : Nat) => (x : Int))
theorem ci_length (xs : List Nat) : (ci xs).length = xs.length := by simp [ci]
theorem ci_snoc (xs : List Nat) (k : Nat) (hk : k < xs.length) : ci (xs.take (k + 1)) = ci (xs.take k) ++ [(xs[k] : Int)] := by rw [take_snoc xs k hk, ci, List.map_append]; rfl
theorem ci_len (xs : List Nat) (k : Nat) (hk : k ≤ xs.length) : (ci (xs.take k)).length = k := by simp [ci]; omega
theorem ci_append (xs ys : List Nat) : ci (xs ++ ys) = ci xs ++ ci ys := by simp [ci]

/-- 's = append(s, ..)' of a variable in a box -/
theorem push_box {W W0 w3 : World} {p lo : Nat} {ty e : TypeId} {v v2 : Value} {base n' size : Nat} {xs' : List Value} (h1 : Blk W p ty [v]) (hW0 : Only (fun _ => False) W W0) (hg : W0.grownBy w3 v.ownBlock) (ho : w3.ownsRow base e size v2 n' xs')
    (hv : v2.ownBlock = v.ownBlock ∨ ∃ j, v2.ownBlock = some j ∧ W.heap.size ≤ j) (h3 : ∀ j, v.ownBlock = some j → lo ≤ j) (hp : p < lo) (hlo : lo ≤ W.heap.size) :
    w3.cell? ⟨p, 0, none⟩ = some v ∧ w3.frozen? ⟨p, 0, none⟩ = false ∧ Blk (w3.setCell ⟨p, 0, none⟩ v2) p ty [v2] ∧ (w3.setCell ⟨p, 0, none⟩ v2).ownsRow base e size v2 n' xs' ∧ Only (fun j => j = p ∨ v.ownBlock = some j) W (w3.setCell ⟨p, 0, none⟩ v2) ∧ ∀ j, v2.ownBlock = some j → lo ≤ j ∧ (v.ownBlock = some j ∨ W.heap.size ≤ j) := by
  have hB2 : Blk w3 p ty [v] := (hg.block _ (Nat.lt_of_lt_of_le h1.lt hW0.size) (fun e => by have := h3 _ e.symm; omega)).trans (h1.only hW0 (fun h => h))
  have hoB : Only (· = p) w3 (w3.setCell ⟨p, 0, none⟩ v2) := (Only.refl (· = p) w3).setCell ⟨p, 0, none⟩ _ (fun _ => rfl)
  have hj : ∀ j, v2.ownBlock = some j → lo ≤ j ∧ (v.ownBlock = some j ∨ W.heap.size ≤ j) := fun j hj => by
    rcases hv with h | ⟨k, h, hk⟩
    · rw [h] at hj
      exact ⟨h3 j hj, .inl hj⟩
    · rw [h] at hj
      obtain rfl := Option.some.inj hj
      exact ⟨by omega, .inr hk⟩
  refine ⟨hB2.cell 0, hB2.frozen 0, hB2.set 0 v2, ownsRow_only ho hoB (fun j h e => by have := (hj j h).1; omega), ?_, hj⟩
  refine (((hW0.mono (T := fun j => j = p ∨ v.ownBlock = some j) (fun _ _ h => h.elim)).grown hg (fun k hk _ => .inr hk)).trans hoB ?_)
  intro i _ e
  exact .inl e

structure PtI (w : World) (bx : List Value) (pv : Value) (ls : List Nat) (Y : Nat → Prop) (k : Nat) (W : World) : Prop where
  b0 : Blk W w.heap.size 26 bx
  box : ∃ v, Blk W (w.heap.size + 1) 24 [v] ∧ Ints W w.heap.size v (ci (ls.take k)) ∧ ∀ j, v.ownBlock = some j → w.heap.size + 5 ≤ j ∧ ¬ Y j
  b2 : Blk W (w.heap.size + 2) 22 [pv]
  below : Below w.heap.size w W
  size : w.heap.size + 5 ≤ W.heap.size
  ys : ∀ j, Y j → w.heap.size + 5 ≤ j ∧ j < W.heap.size
theorem PtI.keep {w : World} {bx : List Value} {pv : Value} {ls : List Nat} {Y : Nat → Prop} {k : Nat} {W W' : World} (h : PtI w bx pv ls Y k W) (ho : Only (fun j => j = w.heap.size + 3 ∨ j = w.heap.size + 3 + 1) W W') : PtI w bx pv ls Y k W' := by
  obtain ⟨v, h1, h2, h3⟩ := h.box
  exact ⟨h.b0.only ho (by omega), ⟨v, h1.only ho (by omega), h2.only ho (fun j hj e => by have := (h3 j hj).1; omega), h3⟩, h.b2.only ho (by omega), h.below.trans (ho.below h.below.size (fun j hj e => by omega)), Nat.le_trans h.size ho.size, fun j hj => ⟨(h.ys j hj).1, Nat.lt_of_lt_of_le (h.ys j hj).2 ho.size⟩⟩
theorem PtI.grow {w : World} {bx : List Value} {pv : Value} {ls : List Nat} {Y : Nat → Prop} {k : Nat} {W W' : World} (h : PtI w bx pv ls Y k W) (hb : Below W.heap.size W W') : PtI w bx pv ls (more Y W W') k W' := by
  obtain ⟨v, h1, h2, h3⟩ := h.box
  have hs := h.size
  have ho := Only.of_below (fun _ => False) hb
  refine ⟨h.b0.only ho (fun h => h), ⟨v, h1.only ho (fun h => h), h2.only ho (fun _ _ h => h), fun j hj => ⟨(h3 j hj).1, fun hy => hy.elim (h3 j hj).2 (fun hy => by have := (h2.lt j hj).2; omega)⟩⟩, h.b2.only ho (fun h => h), h.below.trans (hb.mono h.below.size), Nat.le_trans h.size hb.size, fun j hj => ?_⟩
  rcases hj with hj | hj
  · exact ⟨(h.ys j hj).1, Nat.lt_of_lt_of_le (h.ys j hj).2 hb.size⟩
  · exact ⟨by omega, hj.2⟩

structure PtJ (w : World) (bx : List Value) (L : List Nat) (W : World) : Prop where
  b0 : Blk W w.heap.size 26 bx
  box : ∃ v, Blk W (w.heap.size + 1) 24 [v] ∧ Ints W w.heap.size v (ci L) ∧ ∀ j, v.ownBlock = some j → w.heap.size + 5 ≤ j
  below : Below w.heap.size w W
  size : w.heap.size + 5 ≤ W.heap.size
  dfr : W.heap[w.heap.size + 3]? = some (.deferred (some []))

set_option maxHeartbeats 4000000 in
theorem parts_any (w : World) (v : Value) (n : Nd) (h : NdV w v n) (hm : mayN n = true) :
    Calls Try.prog 50 #[v] w fun e w' => ∃ u, e = .returned u ∧ Ints w' w.heap.size u (ci (partsN n)) ∧ Below w.heap.size w w' := by
  obtain ⟨m1, m2, m3, m4, m5⟩ := may_bounds hm
  obtain ⟨pa, pc, ka, kc, ca, cc, xs, ys, rfl, hp1, hk1, hc1, hp2, hk2, hc2, hP, hK, hC⟩ := h.open
  obtain ⟨lf, ps, ks, cs⟩ := n
  simp only at hp1 hk1 hc1 hp2 hk2 hc2 hP hK hC m1 m2 m3 m4 m5 ⊢
  have HPN : Hid (partsN ⟨lf, ps, ks, cs⟩ = ps.map partP ++ ks.map partK) := rfl
  generalize partsN ⟨lf, ps, ks, cs⟩ = PN at HPN ⊢
  have HP := hide hP
  have HK := hide hK
  have HM4 := hide m4
  have HM5 := hide m5
  clear hP hK hC h hm m4 m5
  unfold ndv
  obtain ⟨np, hnp⟩ : ∃ m, ps.length = m := ⟨_, rfl⟩
  obtain ⟨nk, hnk⟩ : ∃ m, ks.length = m := ⟨_, rfl⟩
  have HNP := hide hnp
  have HNK := hide hnk
  rw [hnp] at hp1 HP m1 ⊢
  rw [hnk] at hk1 HK m2 ⊢
  generalize cs.length = nc at *
  clear hnp hnk
  obtain ⟨bx, hbx⟩ : ∃ bx : List Value, bx = [.bool lf, .slice pa np pc, .slice ka nk kc, .slice ca nc cc] := ⟨_, rfl⟩
  refine (callsIn_wide (n := 3)).1 ?_
  refine callsIn_of_wp_marks Try.func50 rfl trivial ?_ rfl
  simp only [Try.ntmps50, List.size_toArray, List.length_cons, List.length_nil, Nat.reduceAdd, Nat.reduceSub, Array.replicate_succ, Array.replicate_zero, List.push_toArray, List.append_toArray, List.nil_append, List.cons_append]
  have HEA := hide (fun w1 => each_any w1 pa np pc)
  obtain ⟨w2, hw2⟩ : ∃ w2, ((w.alloc (.cells #[.bool lf, .slice pa np pc, .slice ka nk kc, .slice ca nc cc] 26)).alloc (.cells #[.slice none 0 0] 24)).alloc (.cells #[.slice pa np pc] 22) = w2 := ⟨_, rfl⟩
  have hs2 : w2.heap.size = w.heap.size + 3 := by rw [← hw2]; simp
  have hA : Blk w2 w.heap.size 26 bx := by rw [← hw2, hbx]; exact ((Blk.new w _ _).alloc _).alloc _
  have hB : Blk w2 (w.heap.size + 1) 24 [nilS] := by
    rw [← hw2]
    have := Blk.new (w.alloc (.cells #[.bool lf, .slice pa np pc, .slice ka nk kc, .slice ca nc cc] 26)) 24 [nilS]
    rw [World.size_alloc] at this
    exact Blk.alloc this _
  have hD : Blk w2 (w.heap.size + 2) 22 [.slice pa np pc] := by
    rw [← hw2]
    have := Blk.new ((w.alloc (.cells #[.bool lf, .slice pa np pc, .slice ka nk kc, .slice ca nc cc] 26)).alloc (.cells #[nilS] 24)) 22 [.slice pa np pc]
    rw [World.size_alloc, World.size_alloc] at this
    exact this
  have hb2 : Below w.heap.size w w2 := by rw [← hw2]; exact (((Below.refl _ w).alloc (Nat.le_refl _) _).alloc (by simp) _).alloc (by simp; omega) _
  have HA := hide hA
  have HB := hide hB
  have HD := hide hD
  have HB2 := hide hb2
  have HBX := hide hbx
  clear hA hB hD hb2 hbx
  gi_wp2_with (first
    | (refine ⟨trivial, ?_⟩; gi_at_call 47; refine (callsIn_wide.2 (HEA.out _)).mono ?_; rintro e w1 ⟨rfl, hw⟩; subst w1; clear HEA))
  refine wp_range5 (gf := 84) (lb := #[.pointer (some ⟨w.heap.size + 1 + 1, 0, none⟩)]) (xs := xs) (encs := encV) (V := EachV (w.heap.size + 2) (.slice pa np pc) xs ps) rfl enters_each (each_iter _ _ _ _) (fun _ => rfl) (fun Y k W => PtI w bx (.slice pa np pc) (ps.map partP) Y k W) (fun c k W => False) ?_ ?_ ?_ ?_ ?_
    (fun x => { tmps := #[.agg #[.bool lf, .slice pa np pc, .slice ka nk kc, .slice ca nc cc], .pointer (some ⟨w.heap.size, 0, none⟩), .slice none 0 0, .pointer (some ⟨w.heap.size + 1, 0, none⟩), x.1, x.2, undef, undef, .pointer (some ⟨w.heap.size, 1, none⟩), .slice pa np pc, .func (.func 84) #[] #[.pointer (some ⟨w.heap.size + 1 + 1, 0, none⟩)], x.1, x.2, undef, undef, undef, undef, undef, undef, undef, undef, undef, undef, undef, undef, undef, undef, undef, undef, undef, undef, undef, undef, undef, undef, undef, undef, undef, undef], defers := [] }) ?assign ?body ?done ?stop
  · intro Y k W W' h ho
    exact h.keep (by rw [hs2] at ho; exact ho)
  · intro Y k W W' h hb
    exact h.grow hb
  · intro c k W W' h ho
    exact h
  · intro Y k W h
    exact ⟨fun _ => h.b2.cell 0, HP.out.below h.below⟩
  · intro W1 ho hs
    refine ⟨HA.out.only ho (fun h => h), ⟨_, HB.out.only ho (fun h => h), ?_, (fun j hj => by cases hj)⟩, HD.out.only ho (fun h => h), HB2.out.trans ((ho.below (Nat.le_refl _) (fun _ _ h => h)).mono (by omega)), by omega, (fun _ h => h.elim)⟩
    rw [List.take_zero]
    exact Ints.nil _ _
  case assign =>
    intro l k hk W G hG
    gi_wp2
    exact hG
  case body =>
    intro l Y k hk W h
    have hkp : k < ps.length := by rw [← HP.out.len]; exact hk
    have hkm : k < (ps.map partP).length := by simpa using hkp
    obtain ⟨_, _, _, _, hsk, hsv⟩ := HP.out.at k hkp
    have hxe : xs.getD k nil2 = xs[k] := by simp [List.getD, hk]
    have hpe : ps.getD k ([], []) = ps[k] := by simp [List.getD, hkp]
    have hme : (ps.map partP)[k] = partP ps[k] := by simp
    have hle := HM4.out ps[k] (List.getElem_mem hkp)
    rw [hxe, hpe] at hsk hsv
    generalize xs[k] = x at *
    generalize ps[k] = q at *
    obtain ⟨u1, u2⟩ := x
    obtain ⟨q1, q2⟩ := q
    simp only at hsk hsv hle
    obtain ⟨a1, c1, rfl⟩ := sl_form' hsk
    obtain ⟨a2, c2, rfl⟩ := sl_form' hsv
    have HME : Hid ((ps.map partP)[k] = 2 + q1.length + q2.length) := hme
    generalize q1.length = n1 at *
    generalize q2.length = n2 at *
    obtain ⟨hl1, hl2⟩ := hle
    obtain ⟨v, h1, h2, h3⟩ := h.box
    have hn1 : (ci ((ps.map partP).take k)).length = k := ci_len _ k (by omega)
    have hkn : k ≤ 255 := by have := HNP.out; omega
    obtain ⟨T, hT⟩ : ∃ T : Int, (1 : Int) + (n1 : Int) + 1 + (n2 : Int) = T := ⟨_, rfl⟩
    have HT : Hid (T = ((2 + n1 + n2 : Nat) : Int)) := by show T = _; omega
    obtain ⟨v2, w3, hr, hi2, hg2, hv2, ao2, cap2, rfl⟩ := run_append_int W w.heap.size v _ h2 T (by rw [hn1]; omega) (by have := h.size; omega)
    obtain ⟨p1, p2, p3, p4, p5, p6⟩ := push_box (lo := w.heap.size + 5) h1 ((Only.refl _ W).alloc _) hg2 hi2 (hv2.imp id (fun e => ⟨_, e, by omega⟩)) (fun j hj => (h3 j hj).1) (by omega) h.size
    have c0 : W.cell? ⟨w.heap.size + 1, 0, none⟩ = some v := h1.cell 0
    obtain ⟨ao1, cap1, hv1⟩ := h2.shape
    have HR := hide hr
    have HI := hide p4
    have HO := hide p5
    have HV := hide p6
    have HB3 := hide p3
    have HH := hide h
    have H3 := hide h3
    rw [hn1] at hv1 HR HI HB3 HO HV
    subst hv1
    clear hr hi2 hg2 hv2 h1 h2 h3 p3 p4 p5 p6 hsk hsv hxe hpe hme h hn1
    gi_wp2_with (first
      | (gi_at_builtin; (with_reducible refine wpListIn_append_run _ rfl (.tmp 13) (.tmp 21) 24 rfl _ _ ?_ ?_ _ _ HR.out ?_); exact rfl; exact rfl; clear HR))
    have hh := HH.out
    refine ⟨Keeps2.of_only HO.out ?_ ?_, fun j hj => HO.out.block j (hh.ys j hj).2 (fun e => ?_), hh.b0.only HO.out (fun e => ?_), ⟨_, HB3.out, ?_, fun j hj => ⟨(HV.out j hj).1, fun hy => ?_⟩⟩, hh.b2.only HO.out (fun e => ?_), hh.below.trans (HO.out.below hh.below.size (fun j hj e => ?_)), Nat.le_trans hh.size HO.out.size, fun j hj => ⟨(hh.ys j hj).1, Nat.lt_of_lt_of_le (hh.ys j hj).2 HO.out.size⟩⟩
    · rw [hs2]; exact fun e => e.elim (by omega) (fun e => by have := (H3.out _ e).1; omega)
    · rw [hs2]; exact fun e => e.elim (by omega) (fun e => by have := (H3.out _ e).1; omega)
    · exact e.elim (fun e => by have := (hh.ys j hj).1; omega) (fun e => (H3.out _ e).2 hj)
    · exact e.elim (by omega) (fun e => by have := (H3.out _ e).1; omega)
    · rw [ci_snoc _ k hkm, HME.out, ← HT.out]; exact HI.out
    · exact (HV.out j hj).2.elim (fun e => (H3.out _ e).2 hy) (fun e => by have := (hh.ys j hy).2; omega)
    · exact e.elim (by omega) (fun e => by have := (H3.out _ e).1; omega)
    · exact e.elim (by omega) (fun e => by have := (H3.out _ e).1; omega)
  case done =>
    intro Y W h hD
    have hL : (ps.map partP).take xs.length = ps.map partP := List.take_of_length_le (by simp [HP.out.len])
    have hJ : PtJ w bx (ps.map partP) W := by
      obtain ⟨v, h1, h2, h3⟩ := h.box
      rw [hL] at h2
      exact ⟨h.b0, ⟨v, h1, h2, fun j hj => (h3 j hj).1⟩, h.below, h.size, by rw [← hs2]; exact hD⟩
    have z2 : W.cell? ⟨w.heap.size, 2, none⟩ = some (.slice ka nk kc) := by rw [h.b0.cell 2, HBX.out]; rfl
    have HJ := hide hJ
    have HS2 := hide hs2
    clear hJ h hD hL hs2
    gi_wp2
    gi_loopw [26] (fun i wr => ∃ k : Nat, i = .int .i64 (k : Int) ∧ k ≤ nk ∧ PtJ w bx (ps.map partP ++ (ks.map partK).take k) wr) (fun i _ => nk + 1 - (intOf i).toNat)
    case atStart => exact ⟨0, rfl, Nat.zero_le _, by rw [List.take_zero, List.append_nil]; exact HJ.out⟩
    case round =>
      obtain ⟨k, rfl, hk, hj⟩ := hrel
      clear HJ
      by_cases hkn : k < nk
      · have hki : (k : Int) < (nk : Int) := by omega
        have hkl : k < ks.length := by rw [HNK.out]; exact hkn
        have hkm : k < (ks.map partK).length := by simpa using hkl
        obtain ⟨b, off, rfl, hq, hs⟩ := (HK.out.below hj.below).at k hkl
        have hle := HM5.out (ks.getD k []) (by simp only [List.getD, List.getElem?_eq_getElem hkl]; exact List.getElem_mem hkl)
        have hme : (ks.map partK)[k] = partK (ks.getD k []) := by simp [List.getD, hkl]
        generalize ys.getD k nilS = u at *
        generalize ks.getD k [] = q1 at *
        obtain ⟨a1, c1, rfl⟩ := sl_form' hs
        have HME : Hid ((ks.map partK)[k] = 3 + q1.length) := hme
        generalize q1.length = n1 at *
        obtain ⟨v, h1, h2, h3⟩ := hj.box
        have hn1 : (ci (ps.map partP ++ (ks.map partK).take k)).length = np + k := by rw [ci_length, List.length_append, List.length_map, HNP.out, List.length_take]; omega
        obtain ⟨T, hT⟩ : ∃ T : Int, (1 : Int) + (n1 : Int) + 2 = T := ⟨_, rfl⟩
        have HT : Hid (T = ((3 + n1 : Nat) : Int)) := by show T = _; omega
        obtain ⟨v2, w3, hr, hi2, hg2, hv2, ao2, cap2, rfl⟩ := run_append_int wr w.heap.size v _ h2 T (by rw [hn1]; omega) (by have := hj.size; omega)
        obtain ⟨p1, p2, p3, p4, p5, p6⟩ := push_box (lo := w.heap.size + 5) h1 ((Only.refl _ wr).alloc _) hg2 hi2 (hv2.imp id (fun e => ⟨_, e, by omega⟩)) (fun j hj => h3 j hj) (by omega) hj.size
        have c0 : wr.cell? ⟨w.heap.size + 1, 0, none⟩ = some v := h1.cell 0
        obtain ⟨ao1, cap1, hv1⟩ := h2.shape
        have HR := hide hr
        have HI := hide p4
        have HO := hide p5
        have HV := hide p6
        have HB3 := hide p3
        have HH := hide hj
        have H3 := hide h3
        rw [hn1] at hv1 HR HI HB3 HO HV
        subst hv1
        clear hr hi2 hg2 hv2 h1 h2 h3 p3 p4 p5 p6 hs hme hj hn1
        gi_wp2_with (first
          | (gi_at_builtin; (with_reducible refine wpListIn_append_run _ rfl (.tmp 30) (.tmp 35) 24 rfl _ _ ?_ ?_ _ _ HR.out ?_); exact rfl; exact rfl; clear HR))
        go_roundw
        case rel =>
          have hh := HH.out
          refine ⟨k + 1, by go_num, by omega, hh.b0.only HO.out (fun e => ?_), ⟨_, HB3.out, ?_, fun j hj => (HV.out j hj).1⟩, hh.below.trans (HO.out.below hh.below.size (fun j hj e => ?_)), Nat.le_trans hh.size HO.out.size, (HO.out.block _ (by have := hh.size; omega) (fun e => ?_)).trans hh.dfr⟩
          · exact e.elim (by omega) (fun e => by have := H3.out _ e; omega)
          · rw [take_snoc _ k hkm, HME.out, ← List.append_assoc, ci_append]
            have := HI.out
            rw [HT.out] at this
            exact this
          · exact e.elim (by omega) (fun e => by have := H3.out _ e; omega)
          · exact e.elim (by omega) (fun e => by have := H3.out _ e; omega)
        case measure => simp [intOf]; omega
      · obtain rfl : k = nk := by omega
        rw [List.take_of_length_le (by rw [List.length_map]; have := HNK.out; omega)] at hj
        obtain ⟨v, h1, h2, h3⟩ := hj.box
        have c0 : wr.cell? ⟨w.heap.size + 1, 0, none⟩ = some v := h1.cell 0
        obtain ⟨ao1, cap1, hv1⟩ := h2.shape
        have H2 := hide h2
        have H3 := hide h3
        have HH := hide hj
        generalize hq1 : (ci (ps.map partP ++ ks.map partK)).length = n1 at hv1
        subst hv1
        clear h1 h2 h3 hj hq1
        gi_wp2
        refine ⟨by simp, .inl ⟨_, _, rfl, run_takeDeferred (by rw [HS2.out]; exact HH.out.dfr), ?_⟩⟩
        have hoD : Only (· = w2.heap.size) wr (wr.putObj w2.heap.size (.deferred none)) := only_put1 wr _ _ _ rfl
        refine ⟨_, results_tmp (t := 2) rfl _ _ _, .slice ao1 n1 cap1, rfl, ?_, HH.out.below.trans (hoD.below HH.out.below.size (fun j hj e => by have := HS2.out; omega))⟩
        rw [HPN.out]
        exact H2.out.only hoD (fun j hj e => by have := H3.out j hj; have := HS2.out; omega)
  case stop =>
    intro c k W hk h
    exact h.elim

end Go.Proofs.Ytoamdbjailpgdaa
