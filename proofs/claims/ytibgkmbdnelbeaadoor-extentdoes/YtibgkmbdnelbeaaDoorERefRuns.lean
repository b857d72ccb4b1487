/- Contract: the document's own set: Runs. -/
import Derived.Test.YtibgkmbdnelbeaaDoorERefAll
import Derived.Test.YtibgkmbdnelbeaaDoorERunsL
namespace Go.Proofs.YtibgkmbdnelbeaaDoor
set_option maxRecDepth 20000
open Go.RowKit
set_option linter.unusedVariables false
set_option maxRecDepth 100000

/-- a row of rows of two numbers, each with a block of its own (G) -/
def gs (G : Nat → Nat) (n : Nat) : List Value := (List.range n).map (fun i => .slice (some ⟨G i, 0, none⟩) 2 2)
theorem gs_len (G : Nat → Nat) (n : Nat) : (gs G n).length = n := by simp [gs]
theorem gs_get (G : Nat → Nat) (n i : Nat) (h : i < n) : (gs G n)[i]? = some (.slice (some ⟨G i, 0, none⟩) 2 2) := by rw [gs, List.getElem?_map, List.getElem?_range h]; rfl
theorem gs_ext {G H : Nat → Nat} {n : Nat} (h : ∀ i, i < n → G i = H i) : gs G n = gs H n := by
  unfold gs
  apply List.map_congr_left
  intro i hi
  rw [h i (List.mem_range.1 hi)]
theorem gs_snoc (G : Nat → Nat) (n : Nat) : gs G (n + 1) = gs G n ++ [.slice (some ⟨G n, 0, none⟩) 2 2] := by simp [gs, List.range_succ]
abbrev two (x : Nat × Nat) : List Value := [.int .i64 (x.1 : Int), .int .i64 (x.2 : Int)]
structure RRow (w : World) (base : Nat) (v : Value) (L : List (Nat × Nat)) (G : Nat → Nat) : Prop where
  row : w.ownsRow base 37 1 v L.length (gs G L.length)
  inn : ∀ i x, L[i]? = some x → base ≤ G i ∧ Blk w (G i) 3 (two x)
  inj : ∀ i j, i < L.length → j < L.length → G i = G j → i = j
theorem RRow.own_ne {w : World} {base : Nat} {v : Value} {L : List (Nat × Nat)} {G : Nat → Nat} (h : RRow w base v L G) {i : Nat} {x : Nat × Nat} (hi : L[i]? = some x) : ¬ v.ownBlock = some (G i) := fun e => by
  have hB := (h.inn i x hi).2
  rcases h.row.2 with ⟨rfl, _⟩ | ⟨g, cap, cur, rfl, _, hg, _⟩
  · simp [Value.ownBlock] at e
  · simp [Value.ownBlock] at e
    subst e
    unfold Blk at hB
    rw [hg] at hB
    simp at hB
theorem RRow.only {S : Nat → Prop} {w w' : World} {base : Nat} {v : Value} {L : List (Nat × Nat)} {G : Nat → Nat} (h : RRow w base v L G) (ho : Only S w w') (h1 : ∀ k, v.ownBlock = some k → ¬ S k) (h2 : ∀ i, i < L.length → ¬ S (G i)) : RRow w' base v L G :=
  ⟨ownsRow_only h.row ho h1, fun i x hi => ⟨(h.inn i x hi).1, (h.inn i x hi).2.only ho (h2 i (List.getElem?_eq_some_iff.1 hi).1)⟩, h.inj⟩
theorem RRow.below {w w' : World} {base : Nat} {v : Value} {L : List (Nat × Nat)} {G : Nat → Nat} (h : RRow w base v L G) (hb : Below w.heap.size w w') : RRow w' base v L G :=
  h.only (Only.of_below (fun _ => False) hb) (fun _ _ h => h) (fun _ _ h => h)
theorem infoSlI : (Tryd.prog.info? 37).map (fun i => (i.zero, i.size, i.bytes)) = some (some (.slice none 0 0), 1, 24) := by kernel_rfl

/-- 'append(out, []int{k, 0})' -/
theorem run_append_row (w : World) (base : Nat) (v : Value) (L : List (Nat × Nat)) (G : Nat → Nat) (h : RRow w base v L G) (k : Nat) (hl : L.length + 1 ≤ 100000) (hb : base ≤ w.heap.size) :
    ∃ v' w' H, (Builtin.append_ #[66, 66] 66 #[v, .slice (some ⟨w.heap.size + 1, 0, none⟩) 1 1]).run Tryd.prog ((w.alloc (.cells #[.int .i64 k, .int .i64 0] 3)).alloc (.cells #[.slice (some ⟨w.heap.size, 0, none⟩) 2 2] 37)) = .ok v' w' ∧ RRow w' base v' (L ++ [(k, 0)]) H ∧ Only (fun j => v.ownBlock = some j) w w' := by
  obtain ⟨i1, hi, hz0, hz1, hz2⟩ := info_parts infoSlI
  obtain ⟨w1, hw1⟩ : ∃ w1, w.alloc (.cells #[.int .i64 k, .int .i64 0] 3) = w1 := ⟨_, rfl⟩
  have hs1 : w1.heap.size = w.heap.size + 1 := by rw [← hw1]; simp
  have o1 : Only (fun _ => False) w w1 := by rw [← hw1]; exact (Only.refl _ w).alloc _
  have bN : Blk w1 w.heap.size 3 (two (k, 0)) := by rw [← hw1]; exact Blk.new w _ _
  have h1 := h.only o1 (fun _ _ h => h) (fun _ _ h => h)
  rw [hw1]
  obtain ⟨w2, hw2⟩ : ∃ w2, w1.alloc (.cells #[.slice (some ⟨w.heap.size, 0, none⟩) 2 2] 37) = w2 := ⟨_, rfl⟩
  have o2 : Only (fun _ => False) w1 w2 := by rw [← hw2]; exact (Only.refl _ w1).alloc _
  have bS : Blk w2 (w.heap.size + 1) 37 [.slice (some ⟨w.heap.size, 0, none⟩) 2 2] := by rw [← hw2, ← hs1]; exact Blk.new w1 _ _
  have h2 := h1.only o2 (fun _ _ h => h) (fun _ _ h => h)
  have bN2 := bN.only o2 (fun h => h)
  rw [hw2]
  obtain ⟨u, wy, hr, k1, k2, _, k4⟩ := run_append_own_at (P := Tryd.prog) w2 base 66 66 37 i1 _ 1 24 Tryd.underlying66 hi hz0 hz1 hz2 rfl (by decide) v L.length (gs G L.length) h2.row ⟨w.heap.size + 1, 0, none⟩ 1 1 [.slice (some ⟨w.heap.size, 0, none⟩) 2 2] rfl
    (fun j v hv => by rw [Addr.add_mid, Nat.zero_add]; exact (bS.cell j).trans hv) (by intro v hv; simp at hv; subst hv; rfl) (by unfold maxLen; omega) (by omega) (by rw [← hw2]; simp; omega)
  have oA : Only (fun j => v.ownBlock = some j) w2 wy := (Only.refl _ w2).grown k2 (fun j hj _ => hj)
  obtain ⟨H, hH⟩ : ∃ H : Nat → Nat, H = fun i => if i = L.length then w.heap.size else G i := ⟨_, rfl⟩
  have hHo : ∀ i, i < L.length → H i = G i := fun i hi => by rw [hH]; simp [show i ≠ L.length by omega]
  have hHn : H L.length = w.heap.size := by rw [hH]; simp
  have hnv : ¬ v.ownBlock = some w.heap.size := fun e => by have := (World.ownsRow.lt h.row _ e).2; omega
  refine ⟨u, wy, H, hr, ⟨?_, fun i x hx => ?_, fun i j hi hj he => ?_⟩, (o1.mono (fun _ _ h => h.elim)).trans ((o2.mono (fun _ _ h => h.elim)).trans oA (fun _ _ h => h)) (fun _ _ h => h)⟩
  · rw [List.length_append, List.length_singleton, gs_snoc, hHn, gs_ext hHo]
    exact k1
  · rcases Nat.lt_trichotomy i L.length with hlt | heq | hgt
    · rw [List.getElem?_append_left hlt] at hx
      rw [hHo i hlt]
      exact ⟨(h2.inn i x hx).1, (h2.inn i x hx).2.only oA (h2.own_ne hx)⟩
    · subst heq
      rw [List.getElem?_append_right (Nat.le_refl _), Nat.sub_self] at hx
      simp at hx
      subst hx
      rw [hHn]
      exact ⟨hb, bN2.only oA hnv⟩
    · rw [List.getElem?_eq_none (by simp; omega)] at hx; cases hx
  · simp only [List.length_append, List.length_singleton] at hi hj
    by_cases ei : i = L.length <;> by_cases ej : j = L.length
    · omega
    · subst ei
      rw [hHn, hHo j (by omega)] at he
      have := ((h.inn j _ (List.getElem?_eq_getElem (show j < L.length by omega))).2).lt
      omega
    · subst ej
      rw [hHn, hHo i (by omega)] at he
      have := ((h.inn i _ (List.getElem?_eq_getElem (show i < L.length by omega))).2).lt
      omega
    · rw [hHo i (by omega), hHo j (by omega)] at he
      exact h.inj i j (by omega) (by omega) he
/-- the last one's number turned -/
theorem RRow.bump {w : World} {base : Nat} {v : Value} {L : List (Nat × Nat)} {x : Nat × Nat} {G : Nat → Nat} (h : RRow w base v (L ++ [x]) G) (y : Nat) : RRow (w.setCell ⟨G L.length, 1, none⟩ (.int .i64 (y : Int))) base v (L ++ [(x.1, y)]) G := by
  have hx : (L ++ [x])[L.length]? = some x := by simp
  have ho : Only (· = G L.length) w (w.setCell ⟨G L.length, 1, none⟩ (.int .i64 (y : Int))) := (Only.refl (· = G L.length) w).setCell ⟨G L.length, 1, none⟩ _ (fun _ => rfl)
  have hl : (L ++ [(x.1, y)]).length = (L ++ [x]).length := by simp
  refine ⟨?_, fun i z hz => ?_, fun i j hi hj => h.inj i j (by rw [← hl]; exact hi) (by rw [← hl]; exact hj)⟩
  · rw [hl]
    exact ownsRow_only h.row ho (fun k hk e => h.own_ne hx (by rw [hk, e]))
  · rcases Nat.lt_trichotomy i L.length with hlt | heq | hgt
    · rw [List.getElem?_append_left hlt] at hz
      have hz' : (L ++ [x])[i]? = some z := by rw [List.getElem?_append_left hlt]; exact hz
      exact ⟨(h.inn i z hz').1, (h.inn i z hz').2.only ho (fun e => by have := h.inj i L.length (by simp; omega) (by simp) e; omega)⟩
    · subst heq
      rw [List.getElem?_append_right (Nat.le_refl _), Nat.sub_self] at hz
      simp at hz
      subst hz
      exact ⟨(h.inn _ x hx).1, (h.inn _ x hx).2.set 1 (.int .i64 (y : Int))⟩
    · rw [List.getElem?_eq_none (by simp; omega)] at hz; cases hz

/-- what the loop's end needs: the last one at hand -/
theorem RRow.last {w : World} {base : Nat} {v : Value} {L : List (Nat × Nat)} {x : Nat × Nat} {G : Nat → Nat} (h : RRow w base v (L ++ [x]) G) : ∃ gr cp, v = .slice (some ⟨gr, 0, none⟩) (L.length + 1) cp ∧ L.length + 1 ≤ cp ∧ cp ≤ 9223372036854775807 ∧ w.cell? ⟨gr, L.length, none⟩ = some (.slice (some ⟨G L.length, 0, none⟩) 2 2) ∧ w.cell? ⟨G L.length, 1, none⟩ = some (.int .i64 (x.2 : Int)) ∧ w.frozen? ⟨G L.length, 1, none⟩ = false := by
  have hx : (L ++ [x])[L.length]? = some x := by simp
  have hn : (L ++ [x]).length = L.length + 1 := by simp
  have hr := h.row
  rw [hn] at hr
  have hB := (h.inn _ x hx).2
  rcases hr.2 with ⟨_, h0⟩ | ⟨gr, cp, cur, rfl, _⟩
  · omega
  · obtain ⟨k1, k2, k3, k4, sp, kB, _⟩ := own_blk hr
    unfold maxLen at k3
    refine ⟨gr, cp, rfl, k2, k3, ?_, hB.cell 1, hB.frozen 1⟩
    rw [kB.cell, List.getElem?_append_left (by rw [gs_len]; omega)]
    exact gs_get G _ _ (by omega)

set_option maxHeartbeats 1000000 in
theorem refRuns_any (w : World) (r g n : Nat) (f : Nat → Bool) (h : RefAt w r g n f) :
    Calls Tryd.prog 39 #[dp r] w fun e w' => ∃ v, e = .returned v ∧ (∃ G, RRow w' w.heap.size v (runsF f n) G) ∧ Below w.heap.size w w' := by
  have hn := h.hi
  have HX := hide h
  clear h
  go_enter Tryd.func39, Tryd.ntmps39
  go_wp2
  go_loopg [3, 4] n (fun gg l iv wr => ∃ k : Nat, gg + k = n ∧ iv = .int .i64 k ∧ Below w.heap.size w wr ∧ w.heap.size ≤ wr.heap.size ∧ ∃ G, RRow wr w.heap.size l (runsF f k) G)
  case atStart =>
    refine ⟨0, rfl, rfl, (Below.refl _ w).alloc (Nat.le_refl _) _, by simp, fun _ => 0, ⟨?_, (fun i x hx => by simp [runsF, rl, fstN, nx] at hx), (fun i j hi => by simp [runsF, rl, fstN, nx] at hi)⟩⟩
    have := World.ownsRow_lit (base := w.heap.size) (e := 37) (size := 1) w #[] 0 (Nat.le_refl _) (by simp [maxLen]) (by simp)
    exact this
  case round =>
    obtain ⟨k, hk, rfl, hb, hws, G, ho⟩ := hrel
    have hXr := HX.out.below hb
    have c0 := hXr.c0
    have HB := hide hb
    have hcl := runsF_len f k
    cases gk with
    | zero =>
      have hkn : k = n := by omega
      have h1 : ¬ (k : Int) < (n : Int) := by omega
      have HK := hide hkn
      obtain ⟨a2, cap2, rfl⟩ := own_form' ho.row
      have HO := hide ho
      generalize (runsF f k).length = m at *
      clear ho hXr hb hkn
      go_wp2
      go_ret
      rw [← HK.out]
      exact ⟨_, rfl, ⟨G, HO.out⟩, HB.out⟩
    | succ gg =>
      have hki : (k : Int) < (n : Int) := by omega
      have hkn : k < n := by omega
      have cb := hXr.cb k hkn
      cases hf : f k with
      | false =>
        rw [hf] at cb
        have HE := hide (runsF_same hf)
        have HO := hide ho
        clear ho hXr hb hf
        go_wp2
        go_roundg gg
        case measure => omega
        case rel => exact ⟨k + 1, by omega, by go_num, HB.out, hws, G, by rw [HE.out]; exact HO.out⟩
      | true =>
        rw [hf] at cb
        by_cases hk0 : k = 0
        · have hkz : ((k : Int) == 0) = true := by simp; omega
          have HNEW := hide (runsF_new hf (.inl hk0))
          clear hf hk0
          obtain ⟨v', W, G', hr, hR, hO⟩ := run_append_row wr w.heap.size _ (runsF f k) G ho k (by omega) hws
          have HBW : Hid (Below w.heap.size w W) := HB.out.trans (hO.below hws (fun j hj e => by have := (World.ownsRow.lt ho.row j e).1; omega))
          obtain ⟨L0, hL0⟩ : ∃ L0, runsF f k = L0 := ⟨_, rfl⟩
          obtain ⟨x, hx⟩ : ∃ x : Nat × Nat, x = (k, 0) := ⟨_, rfl⟩
          rw [hL0, ← hx] at hR
          have HRR := hide hR
          have HEQ : Hid (runsF f (k + 1) = L0 ++ [(x.1, x.2 + 1)]) := by show _ = _; rw [HNEW.out, hL0, hx]
          have HLL : Hid (L0.length ≤ 2048) := by show _ ≤ _; rw [← hL0]; omega
          have HXB : Hid (x.2 ≤ 2048) := by show _ ≤ _; rw [hx]; exact Nat.zero_le _
          have HR := hide hr
          obtain ⟨a2, cap2, rfl⟩ := own_form' ho.row
          generalize (runsF f k).length = ml at *
          clear ho hXr hb hr hR hO hL0 hx
          obtain ⟨gr, cp, hvv, hcp1, hcp2, q1, q2, q3⟩ := RRow.last HRR.out
          subst hvv
          have hBW := HBW.out
          obtain ⟨m0, hm0⟩ : ∃ m0, L0.length = m0 := ⟨_, rfl⟩
          have HM0 := hide hm0
          rw [hm0] at q1 q2 q3 hcp1
          rw [hm0] at HR
          obtain ⟨gm, hgm⟩ : ∃ gm, G' m0 = gm := ⟨_, rfl⟩
          rw [hgm] at q1 q2 q3
          have HGM := hide hgm
          obtain ⟨m, hm⟩ : ∃ m, m0 + 1 = m := ⟨_, rfl⟩
          rw [hm] at hcp1
          rw [hm] at HR
          have hmi : (m : Int) - 1 = (m0 : Int) := by omega
          have hml : (m0 : Int) < (m : Int) := by omega
          have hmb : m ≤ 3000 := by have := HLL.out; omega
          have hm0w := wrap_i64_in m0 (by omega)
          have HMM := hide hm
          obtain ⟨X2, hX2⟩ : ∃ X2, x.2 = X2 := ⟨_, rfl⟩
          rw [hX2] at q2
          have hXb : X2 ≤ 3000 := by have := HXB.out; omega
          obtain ⟨X3, hX3⟩ : ∃ X3, X2 + 1 = X3 := ⟨_, rfl⟩
          have hX3i : (X2 : Int) + 1 = (X3 : Int) := by omega
          have hX3w := wrap_i64_in X3 (by omega)
          have HX3 : Hid (x.2 + 1 = X3) := by show _ = _; omega
          have HCW : Hid (∀ wx, Only (fun _ => False) W wx → wx.cell? ⟨gr, m0, none⟩ = some (.slice (some ⟨gm, 0, none⟩) 2 2) ∧ wx.cell? ⟨gm, 1, none⟩ = some (.int .i64 (X2 : Int)) ∧ wx.frozen? ⟨gm, 1, none⟩ = false) := fun wx ho => by
            obtain ⟨gr', cp', hv', _, _, p1, p2, p3⟩ := RRow.last (HRR.out.only ho (fun _ _ h => h) (fun _ _ h => h))
            simp only [Value.slice.injEq, Option.some.injEq, Addr.mk.injEq, and_true, true_and] at hv'
            obtain ⟨rfl, _, _⟩ := hv'
            rw [hm0, hgm] at p1 p2 p3
            rw [hX2] at p2
            exact ⟨p1, p2, p3⟩
          clear hm0 hgm hm hX2 hX3 q1 q2 q3 hBW
          go_wp2_with (at_builtin; (with_reducible refine wpList_append_run _ rfl (.tmp 36) (.tmp 39) 66 rfl _ _ ?_ ?_ _ _ HR.out ?_); exact rfl; exact rfl; clear HR)
          refine wp_region_only (fun _ => False) [isV (.slice (some ⟨gr, 0, none⟩) m cp), isV (.slice (some ⟨gr, 0, none⟩) m cp), isV (.int .i64 (m : Int)), isV (.int .i64 (m0 : Int)), isV (.pointer (some ⟨gr, m0, none⟩)), isV (.slice (some ⟨gm, 0, none⟩) 2 2), isV (.slice (some ⟨gr, 0, none⟩) m cp), isV (.slice (some ⟨gr, 0, none⟩) m cp), isV (.int .i64 (m : Int)), isV (.int .i64 (m0 : Int)), isV (.pointer (some ⟨gr, m0, none⟩)), isV (.slice (some ⟨gm, 0, none⟩) 2 2), isV (.pointer (some ⟨gm, 1, none⟩)), isV (.int .i64 (X2 : Int)), isV (.int .i64 (X3 : Int)), isV (.pointer (some ⟨gm, 1, none⟩))] 99 58 16 (by kernel_rfl) (by kernel_rfl) (by kernel_rfl) (by kernel_rfl) rfl ?_ ?_ ?_
          · repeat (first | exact trivial | refine allStL_isV ?_)
          · refine ⟨?_, ?_, ?_, ?_, ?_, ?_, ?_, ?_, ?_, ?_, ?_, ?_, ?_, ?_, ?_, ?_, trivial⟩
            · intro act wx h
              have e3 : act.eval (.tmp 3) = .slice (some ⟨gr, 0, none⟩) m cp := h.old 3 (by kernel_rfl)
              have hrel := h.rel
              clear h
              refine gives_by rfl act.eval rfl ?_
              generalize act.eval = ρ at *
              intro hf hc
              go_simp
              exact ⟨relM_quiet (by decide) (Only.refl _ _), rfl⟩
            · intro act wx h
              have e3 : act.eval (.tmp 3) = .slice (some ⟨gr, 0, none⟩) m cp := h.old 3 (by kernel_rfl)
              have hrel := h.rel
              clear h
              refine gives_by rfl act.eval rfl ?_
              generalize act.eval = ρ at *
              intro hf hc
              go_simp
              exact ⟨relM_quiet (by decide) (Only.refl _ _), rfl⟩
            · intro act wx h
              obtain ⟨v42, e42, f42⟩ := h.val 1 42 (by kernel_rfl)
              obtain rfl : v42 = .slice (some ⟨gr, 0, none⟩) m cp := f42
              have hrel := h.rel
              clear h
              refine gives_by rfl act.eval rfl ?_
              generalize act.eval = ρ at *
              intro hf hc
              go_simp
              exact ⟨relM_quiet (by decide) (Only.refl _ _), rfl⟩
            · intro act wx h
              obtain ⟨v43, e43, f43⟩ := h.val 2 43 (by kernel_rfl)
              obtain rfl : v43 = .int .i64 (m : Int) := f43
              have hrel := h.rel
              clear h
              refine gives_by rfl act.eval rfl ?_
              generalize act.eval = ρ at *
              intro hf hc
              go_simp
              exact ⟨relM_quiet (by decide) (Only.refl _ _), rfl⟩
            · intro act wx h
              obtain ⟨v41, e41, f41⟩ := h.val 0 41 (by kernel_rfl)
              obtain rfl : v41 = .slice (some ⟨gr, 0, none⟩) m cp := f41
              obtain ⟨v44, e44, f44⟩ := h.val 3 44 (by kernel_rfl)
              obtain rfl : v44 = .int .i64 (m0 : Int) := f44
              have hrel := h.rel
              clear h
              refine gives_by rfl act.eval rfl ?_
              generalize act.eval = ρ at *
              intro hf hc
              go_simp
              exact ⟨relM_quiet (by decide) (Only.refl _ _), rfl⟩
            · intro act wx h
              obtain ⟨v45, e45, f45⟩ := h.val 4 45 (by kernel_rfl)
              obtain rfl : v45 = .pointer (some ⟨gr, m0, none⟩) := f45
              have hrel := h.rel
              clear h
              have cx := (HCW.out wx hrel).1
              refine gives_by rfl act.eval rfl ?_
              generalize act.eval = ρ at *
              intro hf hc
              go_simp
              exact ⟨relM_quiet (by decide) (Only.refl _ _), rfl⟩
            · intro act wx h
              have e3 : act.eval (.tmp 3) = .slice (some ⟨gr, 0, none⟩) m cp := h.old 3 (by kernel_rfl)
              have hrel := h.rel
              clear h
              refine gives_by rfl act.eval rfl ?_
              generalize act.eval = ρ at *
              intro hf hc
              go_simp
              exact ⟨relM_quiet (by decide) (Only.refl _ _), rfl⟩
            · intro act wx h
              have e3 : act.eval (.tmp 3) = .slice (some ⟨gr, 0, none⟩) m cp := h.old 3 (by kernel_rfl)
              have hrel := h.rel
              clear h
              refine gives_by rfl act.eval rfl ?_
              generalize act.eval = ρ at *
              intro hf hc
              go_simp
              exact ⟨relM_quiet (by decide) (Only.refl _ _), rfl⟩
            · intro act wx h
              obtain ⟨v48, e48, f48⟩ := h.val 7 48 (by kernel_rfl)
              obtain rfl : v48 = .slice (some ⟨gr, 0, none⟩) m cp := f48
              have hrel := h.rel
              clear h
              refine gives_by rfl act.eval rfl ?_
              generalize act.eval = ρ at *
              intro hf hc
              go_simp
              exact ⟨relM_quiet (by decide) (Only.refl _ _), rfl⟩
            · intro act wx h
              obtain ⟨v49, e49, f49⟩ := h.val 8 49 (by kernel_rfl)
              obtain rfl : v49 = .int .i64 (m : Int) := f49
              have hrel := h.rel
              clear h
              refine gives_by rfl act.eval rfl ?_
              generalize act.eval = ρ at *
              intro hf hc
              go_simp
              exact ⟨relM_quiet (by decide) (Only.refl _ _), rfl⟩
            · intro act wx h
              obtain ⟨v47, e47, f47⟩ := h.val 6 47 (by kernel_rfl)
              obtain rfl : v47 = .slice (some ⟨gr, 0, none⟩) m cp := f47
              obtain ⟨v50, e50, f50⟩ := h.val 9 50 (by kernel_rfl)
              obtain rfl : v50 = .int .i64 (m0 : Int) := f50
              have hrel := h.rel
              clear h
              refine gives_by rfl act.eval rfl ?_
              generalize act.eval = ρ at *
              intro hf hc
              go_simp
              exact ⟨relM_quiet (by decide) (Only.refl _ _), rfl⟩
            · intro act wx h
              obtain ⟨v51, e51, f51⟩ := h.val 10 51 (by kernel_rfl)
              obtain rfl : v51 = .pointer (some ⟨gr, m0, none⟩) := f51
              have hrel := h.rel
              clear h
              have cx := (HCW.out wx hrel).1
              refine gives_by rfl act.eval rfl ?_
              generalize act.eval = ρ at *
              intro hf hc
              go_simp
              exact ⟨relM_quiet (by decide) (Only.refl _ _), rfl⟩
            · intro act wx h
              obtain ⟨v52, e52, f52⟩ := h.val 11 52 (by kernel_rfl)
              obtain rfl : v52 = .slice (some ⟨gm, 0, none⟩) 2 2 := f52
              have hrel := h.rel
              clear h
              refine gives_by rfl act.eval rfl ?_
              generalize act.eval = ρ at *
              intro hf hc
              go_simp
              exact ⟨relM_quiet (by decide) (Only.refl _ _), rfl⟩
            · intro act wx h
              obtain ⟨v53, e53, f53⟩ := h.val 12 53 (by kernel_rfl)
              obtain rfl : v53 = .pointer (some ⟨gm, 1, none⟩) := f53
              have hrel := h.rel
              clear h
              have cx := (HCW.out wx hrel).2.1
              refine gives_by rfl act.eval rfl ?_
              generalize act.eval = ρ at *
              intro hf hc
              go_simp
              exact ⟨relM_quiet (by decide) (Only.refl _ _), rfl⟩
            · intro act wx h
              obtain ⟨v54, e54, f54⟩ := h.val 13 54 (by kernel_rfl)
              obtain rfl : v54 = .int .i64 (X2 : Int) := f54
              have hrel := h.rel
              clear h
              refine gives_by rfl act.eval rfl ?_
              generalize act.eval = ρ at *
              intro hf hc
              go_simp
              exact ⟨relM_quiet (by decide) (Only.refl _ _), rfl⟩
            · intro act wx h
              obtain ⟨v46, e46, f46⟩ := h.val 5 46 (by kernel_rfl)
              obtain rfl : v46 = .slice (some ⟨gm, 0, none⟩) 2 2 := f46
              have hrel := h.rel
              clear h
              refine gives_by rfl act.eval rfl ?_
              generalize act.eval = ρ at *
              intro hf hc
              go_simp
              exact ⟨relM_quiet (by decide) (Only.refl _ _), rfl⟩
          · intro oL hoL vals w3 ho3 hv
            simp only [List.getElem?_toArray, List.getElem?_cons_succ, List.getElem?_cons_zero, Option.some.injEq] at hoL
            subst hoL
            have hv14 : vals 14 = .int .i64 (X3 : Int) := hv 14 55 (by decide) (by kernel_rfl)
            have hv15 : vals 15 = .pointer (some ⟨gm, 1, none⟩) := hv 15 56 (by decide) (by kernel_rfl)
            clear hv
            generalize hact : putAll _ vals 0 _ = act
            have k1 := (HCW.out w3 ho3).2.1
            have k2 := (HCW.out w3 ho3).2.2
            have hRN := (HRR.out.only ho3 (fun _ _ h => h) (fun _ _ h => h)).bump X3
            rw [HM0.out, HGM.out, HMM.out] at hRN
            have hGM : W.heap.size ≤ w3.heap.size := ho3.size
            have hgmb : w.heap.size ≤ gm := by
              have := (HRR.out.inn L0.length x (by simp)).1
              rw [HM0.out, HGM.out] at this
              exact this
            have hbb : Below w.heap.size w (w3.setCell ⟨gm, 1, none⟩ (.int .i64 (X3 : Int))) := (HBW.out.trans (ho3.below HBW.out.size (fun _ _ h => h))).setCell (p := ⟨gm, 1, none⟩) hgmb _
            have HRN := hide hRN
            have HBB := hide hbb
            clear hRN hbb hGM hgmb
            subst hact
            simp only [List.dropLast, putAll, Act.put, List.setIfInBounds_toArray, List.set_cons_zero, List.set_cons_succ, hv14, hv15]
            refine gives_of_skip rfl (w' := w3.setCell ⟨gm, 1, none⟩ (.int .i64 (X3 : Int))) (by go_simp) ?_
            clear k1 k2
            generalize w3.setCell ⟨gm, 1, none⟩ (.int .i64 (X3 : Int)) = w4 at *
            go_wp2
            go_roundg gg
            case measure => omega
            case rel => exact ⟨k + 1, by omega, by go_num, HBB.out, HBB.out.size, G', by rw [HEQ.out, HX3.out]; exact HRN.out⟩
        · have hkz : ((k : Int) == 0) = false := by simp; omega
          obtain ⟨k0, hk1⟩ : ∃ k0, k0 + 1 = k := ⟨k - 1, by omega⟩
          have hki0 : (k : Int) - 1 = (k0 : Int) := by omega
          have hk0n : (k0 : Int) < (n : Int) := by omega
          have cb0 := hXr.cb k0 (by omega)
          cases hf0 : f k0 with
          | false =>
            rw [hf0] at cb0
            have HNEW := hide (runsF_new hf (.inr (by rw [← hk1]; exact hf0)))
            clear hf hk0 hf0 hk1
            obtain ⟨v', W, G', hr, hR, hO⟩ := run_append_row wr w.heap.size _ (runsF f k) G ho k (by omega) hws
            have HBW : Hid (Below w.heap.size w W) := HB.out.trans (hO.below hws (fun j hj e => by have := (World.ownsRow.lt ho.row j e).1; omega))
            obtain ⟨L0, hL0⟩ : ∃ L0, runsF f k = L0 := ⟨_, rfl⟩
            obtain ⟨x, hx⟩ : ∃ x : Nat × Nat, x = (k, 0) := ⟨_, rfl⟩
            rw [hL0, ← hx] at hR
            have HRR := hide hR
            have HEQ : Hid (runsF f (k + 1) = L0 ++ [(x.1, x.2 + 1)]) := by show _ = _; rw [HNEW.out, hL0, hx]
            have HLL : Hid (L0.length ≤ 2048) := by show _ ≤ _; rw [← hL0]; omega
            have HXB : Hid (x.2 ≤ 2048) := by show _ ≤ _; rw [hx]; exact Nat.zero_le _
            have HR := hide hr
            obtain ⟨a2, cap2, rfl⟩ := own_form' ho.row
            generalize (runsF f k).length = ml at *
            clear ho hXr hb hr hR hO hL0 hx
            obtain ⟨gr, cp, hvv, hcp1, hcp2, q1, q2, q3⟩ := RRow.last HRR.out
            subst hvv
            have hBW := HBW.out
            obtain ⟨m0, hm0⟩ : ∃ m0, L0.length = m0 := ⟨_, rfl⟩
            have HM0 := hide hm0
            rw [hm0] at q1 q2 q3 hcp1
            rw [hm0] at HR
            obtain ⟨gm, hgm⟩ : ∃ gm, G' m0 = gm := ⟨_, rfl⟩
            rw [hgm] at q1 q2 q3
            have HGM := hide hgm
            obtain ⟨m, hm⟩ : ∃ m, m0 + 1 = m := ⟨_, rfl⟩
            rw [hm] at hcp1
            rw [hm] at HR
            have hmi : (m : Int) - 1 = (m0 : Int) := by omega
            have hml : (m0 : Int) < (m : Int) := by omega
            have hmb : m ≤ 3000 := by have := HLL.out; omega
            have hm0w := wrap_i64_in m0 (by omega)
            have HMM := hide hm
            obtain ⟨X2, hX2⟩ : ∃ X2, x.2 = X2 := ⟨_, rfl⟩
            rw [hX2] at q2
            have hXb : X2 ≤ 3000 := by have := HXB.out; omega
            obtain ⟨X3, hX3⟩ : ∃ X3, X2 + 1 = X3 := ⟨_, rfl⟩
            have hX3i : (X2 : Int) + 1 = (X3 : Int) := by omega
            have hX3w := wrap_i64_in X3 (by omega)
            have HX3 : Hid (x.2 + 1 = X3) := by show _ = _; omega
            have HCW : Hid (∀ wx, Only (fun _ => False) W wx → wx.cell? ⟨gr, m0, none⟩ = some (.slice (some ⟨gm, 0, none⟩) 2 2) ∧ wx.cell? ⟨gm, 1, none⟩ = some (.int .i64 (X2 : Int)) ∧ wx.frozen? ⟨gm, 1, none⟩ = false) := fun wx ho => by
              obtain ⟨gr', cp', hv', _, _, p1, p2, p3⟩ := RRow.last (HRR.out.only ho (fun _ _ h => h) (fun _ _ h => h))
              simp only [Value.slice.injEq, Option.some.injEq, Addr.mk.injEq, and_true, true_and] at hv'
              obtain ⟨rfl, _, _⟩ := hv'
              rw [hm0, hgm] at p1 p2 p3
              rw [hX2] at p2
              exact ⟨p1, p2, p3⟩
            clear hm0 hgm hm hX2 hX3 q1 q2 q3 hBW
            go_wp2_with (at_builtin; (with_reducible refine wpList_append_run _ rfl (.tmp 36) (.tmp 39) 66 rfl _ _ ?_ ?_ _ _ HR.out ?_); exact rfl; exact rfl; clear HR)
            refine wp_region_only (fun _ => False) [isV (.slice (some ⟨gr, 0, none⟩) m cp), isV (.slice (some ⟨gr, 0, none⟩) m cp), isV (.int .i64 (m : Int)), isV (.int .i64 (m0 : Int)), isV (.pointer (some ⟨gr, m0, none⟩)), isV (.slice (some ⟨gm, 0, none⟩) 2 2), isV (.slice (some ⟨gr, 0, none⟩) m cp), isV (.slice (some ⟨gr, 0, none⟩) m cp), isV (.int .i64 (m : Int)), isV (.int .i64 (m0 : Int)), isV (.pointer (some ⟨gr, m0, none⟩)), isV (.slice (some ⟨gm, 0, none⟩) 2 2), isV (.pointer (some ⟨gm, 1, none⟩)), isV (.int .i64 (X2 : Int)), isV (.int .i64 (X3 : Int)), isV (.pointer (some ⟨gm, 1, none⟩))] 99 58 16 (by kernel_rfl) (by kernel_rfl) (by kernel_rfl) (by kernel_rfl) rfl ?_ ?_ ?_
            · repeat (first | exact trivial | refine allStL_isV ?_)
            · refine ⟨?_, ?_, ?_, ?_, ?_, ?_, ?_, ?_, ?_, ?_, ?_, ?_, ?_, ?_, ?_, ?_, trivial⟩
              · intro act wx h
                have e3 : act.eval (.tmp 3) = .slice (some ⟨gr, 0, none⟩) m cp := h.old 3 (by kernel_rfl)
                have hrel := h.rel
                clear h
                refine gives_by rfl act.eval rfl ?_
                generalize act.eval = ρ at *
                intro hf hc
                go_simp
                exact ⟨relM_quiet (by decide) (Only.refl _ _), rfl⟩
              · intro act wx h
                have e3 : act.eval (.tmp 3) = .slice (some ⟨gr, 0, none⟩) m cp := h.old 3 (by kernel_rfl)
                have hrel := h.rel
                clear h
                refine gives_by rfl act.eval rfl ?_
                generalize act.eval = ρ at *
                intro hf hc
                go_simp
                exact ⟨relM_quiet (by decide) (Only.refl _ _), rfl⟩
              · intro act wx h
                obtain ⟨v42, e42, f42⟩ := h.val 1 42 (by kernel_rfl)
                obtain rfl : v42 = .slice (some ⟨gr, 0, none⟩) m cp := f42
                have hrel := h.rel
                clear h
                refine gives_by rfl act.eval rfl ?_
                generalize act.eval = ρ at *
                intro hf hc
                go_simp
                exact ⟨relM_quiet (by decide) (Only.refl _ _), rfl⟩
              · intro act wx h
                obtain ⟨v43, e43, f43⟩ := h.val 2 43 (by kernel_rfl)
                obtain rfl : v43 = .int .i64 (m : Int) := f43
                have hrel := h.rel
                clear h
                refine gives_by rfl act.eval rfl ?_
                generalize act.eval = ρ at *
                intro hf hc
                go_simp
                exact ⟨relM_quiet (by decide) (Only.refl _ _), rfl⟩
              · intro act wx h
                obtain ⟨v41, e41, f41⟩ := h.val 0 41 (by kernel_rfl)
                obtain rfl : v41 = .slice (some ⟨gr, 0, none⟩) m cp := f41
                obtain ⟨v44, e44, f44⟩ := h.val 3 44 (by kernel_rfl)
                obtain rfl : v44 = .int .i64 (m0 : Int) := f44
                have hrel := h.rel
                clear h
                refine gives_by rfl act.eval rfl ?_
                generalize act.eval = ρ at *
                intro hf hc
                go_simp
                exact ⟨relM_quiet (by decide) (Only.refl _ _), rfl⟩
              · intro act wx h
                obtain ⟨v45, e45, f45⟩ := h.val 4 45 (by kernel_rfl)
                obtain rfl : v45 = .pointer (some ⟨gr, m0, none⟩) := f45
                have hrel := h.rel
                clear h
                have cx := (HCW.out wx hrel).1
                refine gives_by rfl act.eval rfl ?_
                generalize act.eval = ρ at *
                intro hf hc
                go_simp
                exact ⟨relM_quiet (by decide) (Only.refl _ _), rfl⟩
              · intro act wx h
                have e3 : act.eval (.tmp 3) = .slice (some ⟨gr, 0, none⟩) m cp := h.old 3 (by kernel_rfl)
                have hrel := h.rel
                clear h
                refine gives_by rfl act.eval rfl ?_
                generalize act.eval = ρ at *
                intro hf hc
                go_simp
                exact ⟨relM_quiet (by decide) (Only.refl _ _), rfl⟩
              · intro act wx h
                have e3 : act.eval (.tmp 3) = .slice (some ⟨gr, 0, none⟩) m cp := h.old 3 (by kernel_rfl)
                have hrel := h.rel
                clear h
                refine gives_by rfl act.eval rfl ?_
                generalize act.eval = ρ at *
                intro hf hc
                go_simp
                exact ⟨relM_quiet (by decide) (Only.refl _ _), rfl⟩
              · intro act wx h
                obtain ⟨v48, e48, f48⟩ := h.val 7 48 (by kernel_rfl)
                obtain rfl : v48 = .slice (some ⟨gr, 0, none⟩) m cp := f48
                have hrel := h.rel
                clear h
                refine gives_by rfl act.eval rfl ?_
                generalize act.eval = ρ at *
                intro hf hc
                go_simp
                exact ⟨relM_quiet (by decide) (Only.refl _ _), rfl⟩
              · intro act wx h
                obtain ⟨v49, e49, f49⟩ := h.val 8 49 (by kernel_rfl)
                obtain rfl : v49 = .int .i64 (m : Int) := f49
                have hrel := h.rel
                clear h
                refine gives_by rfl act.eval rfl ?_
                generalize act.eval = ρ at *
                intro hf hc
                go_simp
                exact ⟨relM_quiet (by decide) (Only.refl _ _), rfl⟩
              · intro act wx h
                obtain ⟨v47, e47, f47⟩ := h.val 6 47 (by kernel_rfl)
                obtain rfl : v47 = .slice (some ⟨gr, 0, none⟩) m cp := f47
                obtain ⟨v50, e50, f50⟩ := h.val 9 50 (by kernel_rfl)
                obtain rfl : v50 = .int .i64 (m0 : Int) := f50
                have hrel := h.rel
                clear h
                refine gives_by rfl act.eval rfl ?_
                generalize act.eval = ρ at *
                intro hf hc
                go_simp
                exact ⟨relM_quiet (by decide) (Only.refl _ _), rfl⟩
              · intro act wx h
                obtain ⟨v51, e51, f51⟩ := h.val 10 51 (by kernel_rfl)
                obtain rfl : v51 = .pointer (some ⟨gr, m0, none⟩) := f51
                have hrel := h.rel
                clear h
                have cx := (HCW.out wx hrel).1
                refine gives_by rfl act.eval rfl ?_
                generalize act.eval = ρ at *
                intro hf hc
                go_simp
                exact ⟨relM_quiet (by decide) (Only.refl _ _), rfl⟩
              · intro act wx h
                obtain ⟨v52, e52, f52⟩ := h.val 11 52 (by kernel_rfl)
                obtain rfl : v52 = .slice (some ⟨gm, 0, none⟩) 2 2 := f52
                have hrel := h.rel
                clear h
                refine gives_by rfl act.eval rfl ?_
                generalize act.eval = ρ at *
                intro hf hc
                go_simp
                exact ⟨relM_quiet (by decide) (Only.refl _ _), rfl⟩
              · intro act wx h
                obtain ⟨v53, e53, f53⟩ := h.val 12 53 (by kernel_rfl)
                obtain rfl : v53 = .pointer (some ⟨gm, 1, none⟩) := f53
                have hrel := h.rel
                clear h
                have cx := (HCW.out wx hrel).2.1
                refine gives_by rfl act.eval rfl ?_
                generalize act.eval = ρ at *
                intro hf hc
                go_simp
                exact ⟨relM_quiet (by decide) (Only.refl _ _), rfl⟩
              · intro act wx h
                obtain ⟨v54, e54, f54⟩ := h.val 13 54 (by kernel_rfl)
                obtain rfl : v54 = .int .i64 (X2 : Int) := f54
                have hrel := h.rel
                clear h
                refine gives_by rfl act.eval rfl ?_
                generalize act.eval = ρ at *
                intro hf hc
                go_simp
                exact ⟨relM_quiet (by decide) (Only.refl _ _), rfl⟩
              · intro act wx h
                obtain ⟨v46, e46, f46⟩ := h.val 5 46 (by kernel_rfl)
                obtain rfl : v46 = .slice (some ⟨gm, 0, none⟩) 2 2 := f46
                have hrel := h.rel
                clear h
                refine gives_by rfl act.eval rfl ?_
                generalize act.eval = ρ at *
                intro hf hc
                go_simp
                exact ⟨relM_quiet (by decide) (Only.refl _ _), rfl⟩
            · intro oL hoL vals w3 ho3 hv
              simp only [List.getElem?_toArray, List.getElem?_cons_succ, List.getElem?_cons_zero, Option.some.injEq] at hoL
              subst hoL
              have hv14 : vals 14 = .int .i64 (X3 : Int) := hv 14 55 (by decide) (by kernel_rfl)
              have hv15 : vals 15 = .pointer (some ⟨gm, 1, none⟩) := hv 15 56 (by decide) (by kernel_rfl)
              clear hv
              generalize hact : putAll _ vals 0 _ = act
              have k1 := (HCW.out w3 ho3).2.1
              have k2 := (HCW.out w3 ho3).2.2
              have hRN := (HRR.out.only ho3 (fun _ _ h => h) (fun _ _ h => h)).bump X3
              rw [HM0.out, HGM.out, HMM.out] at hRN
              have hGM : W.heap.size ≤ w3.heap.size := ho3.size
              have hgmb : w.heap.size ≤ gm := by
                have := (HRR.out.inn L0.length x (by simp)).1
                rw [HM0.out, HGM.out] at this
                exact this
              have hbb : Below w.heap.size w (w3.setCell ⟨gm, 1, none⟩ (.int .i64 (X3 : Int))) := (HBW.out.trans (ho3.below HBW.out.size (fun _ _ h => h))).setCell (p := ⟨gm, 1, none⟩) hgmb _
              have HRN := hide hRN
              have HBB := hide hbb
              clear hRN hbb hGM hgmb
              subst hact
              simp only [List.dropLast, putAll, Act.put, List.setIfInBounds_toArray, List.set_cons_zero, List.set_cons_succ, hv14, hv15]
              refine gives_of_skip rfl (w' := w3.setCell ⟨gm, 1, none⟩ (.int .i64 (X3 : Int))) (by go_simp) ?_
              clear k1 k2
              generalize w3.setCell ⟨gm, 1, none⟩ (.int .i64 (X3 : Int)) = w4 at *
              go_wp2
              go_roundg gg
              case measure => omega
              case rel => exact ⟨k + 1, by omega, by go_num, HBB.out, HBB.out.size, G', by rw [HEQ.out, HX3.out]; exact HRN.out⟩
          | true =>
            rw [hf0] at cb0
            obtain ⟨L0, x, hL0, HMO⟩ := runsF_more hf (by rw [← hk1]; exact hf0) (by omega)
            have HEQ := hide HMO
            have hR := ho
            rw [hL0] at hR
            obtain ⟨G', hGG⟩ : ∃ G', G = G' := ⟨_, rfl⟩
            rw [hGG] at hR
            obtain ⟨W, hW⟩ : ∃ W, wr = W := ⟨_, rfl⟩
            have HRR : Hid (RRow W w.heap.size u3 (L0 ++ [x]) G') := by rw [← hW]; exact hR
            have HBW : Hid (Below w.heap.size w W) := by rw [← hW]; exact hb
            have HLL : Hid (L0.length ≤ 2048) := by
              show _ ≤ _
              have : (L0 ++ [x]).length ≤ k := by rw [← hL0]; exact hcl
              simp at this; omega
            have HXB : Hid (x.2 ≤ 2048) := by
              have := (rl_mem (f := f) (n := k) (k + 1) 0 x (by have e : rl f k (k + 1) 0 = L0 ++ [x] := hL0; rw [e]; simp)).2.2.1
              show _ ≤ _; omega
            subst hW
            clear ho hXr hb hR hL0 hf hk0 hf0 hk1 hGG HMO
            obtain ⟨gr, cp, hvv, hcp1, hcp2, q1, q2, q3⟩ := RRow.last HRR.out
            subst hvv
            have hBW := HBW.out
            obtain ⟨m0, hm0⟩ : ∃ m0, L0.length = m0 := ⟨_, rfl⟩
            have HM0 := hide hm0
            rw [hm0] at q1 q2 q3 hcp1
            rw [hm0]
            obtain ⟨gm, hgm⟩ : ∃ gm, G' m0 = gm := ⟨_, rfl⟩
            rw [hgm] at q1 q2 q3
            have HGM := hide hgm
            obtain ⟨m, hm⟩ : ∃ m, m0 + 1 = m := ⟨_, rfl⟩
            rw [hm] at hcp1
            rw [hm]
            have hmi : (m : Int) - 1 = (m0 : Int) := by omega
            have hml : (m0 : Int) < (m : Int) := by omega
            have hmb : m ≤ 3000 := by have := HLL.out; omega
            have hm0w := wrap_i64_in m0 (by omega)
            have HMM := hide hm
            obtain ⟨X2, hX2⟩ : ∃ X2, x.2 = X2 := ⟨_, rfl⟩
            rw [hX2] at q2
            have hXb : X2 ≤ 3000 := by have := HXB.out; omega
            obtain ⟨X3, hX3⟩ : ∃ X3, X2 + 1 = X3 := ⟨_, rfl⟩
            have hX3i : (X2 : Int) + 1 = (X3 : Int) := by omega
            have hX3w := wrap_i64_in X3 (by omega)
            have HX3 : Hid (x.2 + 1 = X3) := by show _ = _; omega
            have HCW : Hid (∀ wx, Only (fun _ => False) wr wx → wx.cell? ⟨gr, m0, none⟩ = some (.slice (some ⟨gm, 0, none⟩) 2 2) ∧ wx.cell? ⟨gm, 1, none⟩ = some (.int .i64 (X2 : Int)) ∧ wx.frozen? ⟨gm, 1, none⟩ = false) := fun wx ho => by
              obtain ⟨gr', cp', hv', _, _, p1, p2, p3⟩ := RRow.last (HRR.out.only ho (fun _ _ h => h) (fun _ _ h => h))
              simp only [Value.slice.injEq, Option.some.injEq, Addr.mk.injEq, and_true, true_and] at hv'
              obtain ⟨rfl, _, _⟩ := hv'
              rw [hm0, hgm] at p1 p2 p3
              rw [hX2] at p2
              exact ⟨p1, p2, p3⟩
            clear hm0 hgm hm hX2 hX3 q1 q2 q3 hBW
            go_wp2
            refine wp_region_only (fun _ => False) [isV (.slice (some ⟨gr, 0, none⟩) m cp), isV (.slice (some ⟨gr, 0, none⟩) m cp), isV (.int .i64 (m : Int)), isV (.int .i64 (m0 : Int)), isV (.pointer (some ⟨gr, m0, none⟩)), isV (.slice (some ⟨gm, 0, none⟩) 2 2), isV (.slice (some ⟨gr, 0, none⟩) m cp), isV (.slice (some ⟨gr, 0, none⟩) m cp), isV (.int .i64 (m : Int)), isV (.int .i64 (m0 : Int)), isV (.pointer (some ⟨gr, m0, none⟩)), isV (.slice (some ⟨gm, 0, none⟩) 2 2), isV (.pointer (some ⟨gm, 1, none⟩)), isV (.int .i64 (X2 : Int)), isV (.int .i64 (X3 : Int)), isV (.pointer (some ⟨gm, 1, none⟩))] 99 58 16 (by kernel_rfl) (by kernel_rfl) (by kernel_rfl) (by kernel_rfl) rfl ?_ ?_ ?_
            · repeat (first | exact trivial | refine allStL_isV ?_)
            · refine ⟨?_, ?_, ?_, ?_, ?_, ?_, ?_, ?_, ?_, ?_, ?_, ?_, ?_, ?_, ?_, ?_, trivial⟩
              · intro act wx h
                have e3 : act.eval (.tmp 3) = .slice (some ⟨gr, 0, none⟩) m cp := h.old 3 (by kernel_rfl)
                have hrel := h.rel
                clear h
                refine gives_by rfl act.eval rfl ?_
                generalize act.eval = ρ at *
                intro hf hc
                go_simp
                exact ⟨relM_quiet (by decide) (Only.refl _ _), rfl⟩
              · intro act wx h
                have e3 : act.eval (.tmp 3) = .slice (some ⟨gr, 0, none⟩) m cp := h.old 3 (by kernel_rfl)
                have hrel := h.rel
                clear h
                refine gives_by rfl act.eval rfl ?_
                generalize act.eval = ρ at *
                intro hf hc
                go_simp
                exact ⟨relM_quiet (by decide) (Only.refl _ _), rfl⟩
              · intro act wx h
                obtain ⟨v42, e42, f42⟩ := h.val 1 42 (by kernel_rfl)
                obtain rfl : v42 = .slice (some ⟨gr, 0, none⟩) m cp := f42
                have hrel := h.rel
                clear h
                refine gives_by rfl act.eval rfl ?_
                generalize act.eval = ρ at *
                intro hf hc
                go_simp
                exact ⟨relM_quiet (by decide) (Only.refl _ _), rfl⟩
              · intro act wx h
                obtain ⟨v43, e43, f43⟩ := h.val 2 43 (by kernel_rfl)
                obtain rfl : v43 = .int .i64 (m : Int) := f43
                have hrel := h.rel
                clear h
                refine gives_by rfl act.eval rfl ?_
                generalize act.eval = ρ at *
                intro hf hc
                go_simp
                exact ⟨relM_quiet (by decide) (Only.refl _ _), rfl⟩
              · intro act wx h
                obtain ⟨v41, e41, f41⟩ := h.val 0 41 (by kernel_rfl)
                obtain rfl : v41 = .slice (some ⟨gr, 0, none⟩) m cp := f41
                obtain ⟨v44, e44, f44⟩ := h.val 3 44 (by kernel_rfl)
                obtain rfl : v44 = .int .i64 (m0 : Int) := f44
                have hrel := h.rel
                clear h
                refine gives_by rfl act.eval rfl ?_
                generalize act.eval = ρ at *
                intro hf hc
                go_simp
                exact ⟨relM_quiet (by decide) (Only.refl _ _), rfl⟩
              · intro act wx h
                obtain ⟨v45, e45, f45⟩ := h.val 4 45 (by kernel_rfl)
                obtain rfl : v45 = .pointer (some ⟨gr, m0, none⟩) := f45
                have hrel := h.rel
                clear h
                have cx := (HCW.out wx hrel).1
                refine gives_by rfl act.eval rfl ?_
                generalize act.eval = ρ at *
                intro hf hc
                go_simp
                exact ⟨relM_quiet (by decide) (Only.refl _ _), rfl⟩
              · intro act wx h
                have e3 : act.eval (.tmp 3) = .slice (some ⟨gr, 0, none⟩) m cp := h.old 3 (by kernel_rfl)
                have hrel := h.rel
                clear h
                refine gives_by rfl act.eval rfl ?_
                generalize act.eval = ρ at *
                intro hf hc
                go_simp
                exact ⟨relM_quiet (by decide) (Only.refl _ _), rfl⟩
              · intro act wx h
                have e3 : act.eval (.tmp 3) = .slice (some ⟨gr, 0, none⟩) m cp := h.old 3 (by kernel_rfl)
                have hrel := h.rel
                clear h
                refine gives_by rfl act.eval rfl ?_
                generalize act.eval = ρ at *
                intro hf hc
                go_simp
                exact ⟨relM_quiet (by decide) (Only.refl _ _), rfl⟩
              · intro act wx h
                obtain ⟨v48, e48, f48⟩ := h.val 7 48 (by kernel_rfl)
                obtain rfl : v48 = .slice (some ⟨gr, 0, none⟩) m cp := f48
                have hrel := h.rel
                clear h
                refine gives_by rfl act.eval rfl ?_
                generalize act.eval = ρ at *
                intro hf hc
                go_simp
                exact ⟨relM_quiet (by decide) (Only.refl _ _), rfl⟩
              · intro act wx h
                obtain ⟨v49, e49, f49⟩ := h.val 8 49 (by kernel_rfl)
                obtain rfl : v49 = .int .i64 (m : Int) := f49
                have hrel := h.rel
                clear h
                refine gives_by rfl act.eval rfl ?_
                generalize act.eval = ρ at *
                intro hf hc
                go_simp
                exact ⟨relM_quiet (by decide) (Only.refl _ _), rfl⟩
              · intro act wx h
                obtain ⟨v47, e47, f47⟩ := h.val 6 47 (by kernel_rfl)
                obtain rfl : v47 = .slice (some ⟨gr, 0, none⟩) m cp := f47
                obtain ⟨v50, e50, f50⟩ := h.val 9 50 (by kernel_rfl)
                obtain rfl : v50 = .int .i64 (m0 : Int) := f50
                have hrel := h.rel
                clear h
                refine gives_by rfl act.eval rfl ?_
                generalize act.eval = ρ at *
                intro hf hc
                go_simp
                exact ⟨relM_quiet (by decide) (Only.refl _ _), rfl⟩
              · intro act wx h
                obtain ⟨v51, e51, f51⟩ := h.val 10 51 (by kernel_rfl)
                obtain rfl : v51 = .pointer (some ⟨gr, m0, none⟩) := f51
                have hrel := h.rel
                clear h
                have cx := (HCW.out wx hrel).1
                refine gives_by rfl act.eval rfl ?_
                generalize act.eval = ρ at *
                intro hf hc
                go_simp
                exact ⟨relM_quiet (by decide) (Only.refl _ _), rfl⟩
              · intro act wx h
                obtain ⟨v52, e52, f52⟩ := h.val 11 52 (by kernel_rfl)
                obtain rfl : v52 = .slice (some ⟨gm, 0, none⟩) 2 2 := f52
                have hrel := h.rel
                clear h
                refine gives_by rfl act.eval rfl ?_
                generalize act.eval = ρ at *
                intro hf hc
                go_simp
                exact ⟨relM_quiet (by decide) (Only.refl _ _), rfl⟩
              · intro act wx h
                obtain ⟨v53, e53, f53⟩ := h.val 12 53 (by kernel_rfl)
                obtain rfl : v53 = .pointer (some ⟨gm, 1, none⟩) := f53
                have hrel := h.rel
                clear h
                have cx := (HCW.out wx hrel).2.1
                refine gives_by rfl act.eval rfl ?_
                generalize act.eval = ρ at *
                intro hf hc
                go_simp
                exact ⟨relM_quiet (by decide) (Only.refl _ _), rfl⟩
              · intro act wx h
                obtain ⟨v54, e54, f54⟩ := h.val 13 54 (by kernel_rfl)
                obtain rfl : v54 = .int .i64 (X2 : Int) := f54
                have hrel := h.rel
                clear h
                refine gives_by rfl act.eval rfl ?_
                generalize act.eval = ρ at *
                intro hf hc
                go_simp
                exact ⟨relM_quiet (by decide) (Only.refl _ _), rfl⟩
              · intro act wx h
                obtain ⟨v46, e46, f46⟩ := h.val 5 46 (by kernel_rfl)
                obtain rfl : v46 = .slice (some ⟨gm, 0, none⟩) 2 2 := f46
                have hrel := h.rel
                clear h
                refine gives_by rfl act.eval rfl ?_
                generalize act.eval = ρ at *
                intro hf hc
                go_simp
                exact ⟨relM_quiet (by decide) (Only.refl _ _), rfl⟩
            · intro oL hoL vals w3 ho3 hv
              simp only [List.getElem?_toArray, List.getElem?_cons_succ, List.getElem?_cons_zero, Option.some.injEq] at hoL
              subst hoL
              have hv14 : vals 14 = .int .i64 (X3 : Int) := hv 14 55 (by decide) (by kernel_rfl)
              have hv15 : vals 15 = .pointer (some ⟨gm, 1, none⟩) := hv 15 56 (by decide) (by kernel_rfl)
              clear hv
              generalize hact : putAll _ vals 0 _ = act
              have k1 := (HCW.out w3 ho3).2.1
              have k2 := (HCW.out w3 ho3).2.2
              have hRN := (HRR.out.only ho3 (fun _ _ h => h) (fun _ _ h => h)).bump X3
              rw [HM0.out, HGM.out, HMM.out] at hRN
              have hGM : wr.heap.size ≤ w3.heap.size := ho3.size
              have hgmb : w.heap.size ≤ gm := by
                have := (HRR.out.inn L0.length x (by simp)).1
                rw [HM0.out, HGM.out] at this
                exact this
              have hbb : Below w.heap.size w (w3.setCell ⟨gm, 1, none⟩ (.int .i64 (X3 : Int))) := (HBW.out.trans (ho3.below HBW.out.size (fun _ _ h => h))).setCell (p := ⟨gm, 1, none⟩) hgmb _
              have HRN := hide hRN
              have HBB := hide hbb
              clear hRN hbb hGM hgmb
              subst hact
              simp only [List.dropLast, putAll, Act.put, List.setIfInBounds_toArray, List.set_cons_zero, List.set_cons_succ, hv14, hv15]
              refine gives_of_skip rfl (w' := w3.setCell ⟨gm, 1, none⟩ (.int .i64 (X3 : Int))) (by go_simp) ?_
              clear k1 k2
              generalize w3.setCell ⟨gm, 1, none⟩ (.int .i64 (X3 : Int)) = w4 at *
              go_wp2
              go_roundg gg
              case measure => omega
              case rel => exact ⟨k + 1, by omega, by go_num, HBB.out, HBB.out.size, G', by rw [HEQ.out, HX3.out]; exact HRN.out⟩

end Go.Proofs.YtibgkmbdnelbeaaDoor
