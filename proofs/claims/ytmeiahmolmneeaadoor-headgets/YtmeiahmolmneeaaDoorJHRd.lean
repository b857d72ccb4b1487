/- Contracts: package pack's reader, once more: its bytes stay in the block that they are in. -/
import Derived.Test.YtmeiahmolmneeaaDoorFRd
import Derived.Test.YtmeiahmolmneeaaDoorHPut
import Derived.Test.YtmeiahmolmneeaaDoorRegionM
namespace Go.Proofs.YtmeiahmolmneeaaDoor
set_option maxRecDepth 20000
open Go.RowKit
set_option linter.unusedVariables false

set_option maxHeartbeats 400000 in
theorem take_k (w : World) (b : Nat) (u : Value) (zs : List Int) (er n : Int) (h : Rd w b u zs er) :
    Calls Tryd.prog 76 #[.pointer (some ⟨b, 0, none⟩), .int .i64 n] w fun e w' => ∃ v, e = .returned v ∧ Sl w' v (takeS zs er n).1 ∧ Off w' b v ∧ w.grownBy w' (some b) ∧ ∃ u', Rd w' b u' (takeS zs er n).2.1 (takeS zs er n).2.2 ∧ ∀ k, u'.ownBlock = some k → u.ownBlock = some k := by
  have HR := hide h
  have HE := err_any w b u zs er h
  obtain ⟨c0, c1, c2, hfr⟩ := h.cells
  obtain ⟨hg, ⟨hb, ao, cap, rfl, h1, h2, h3, h4⟩, hne⟩ := h
  unfold maxLen at h2
  have f1 := hfr 1
  have f2 := hfr 2
  have HNE := hide hne
  clear hfr h4 h3 hne
  by_cases e0 : er = 0
  · subst e0
    by_cases n0 : n < 0
    · have es : takeS zs 0 n = ([], zs, 1) := by simp [takeS, n0]
      rw [es]
      go_enter Tryd.func76, Tryd.ntmps76
      go_wp2_with (go_at_call 74; refine HE.mono ?_; rintro e w1 ⟨rfl, hw⟩; subst w1)
      go_ret
      exact ⟨_, rfl, Sl.nil _, Off.nil _ _, grown_set (grownBy_refl w _) _ _, _, rd_err HR.out 1, fun _ h => h⟩
    · by_cases n1 : (zs.length : Int) < n
      · have es : takeS zs 0 n = ([], zs, 10) := by simp [takeS, n0, n1]
        rw [es]
        go_enter Tryd.func76, Tryd.ntmps76
        go_wp2_with (go_at_call 74; refine HE.mono ?_; rintro e w1 ⟨rfl, hw⟩; subst w1)
        go_ret
        exact ⟨_, rfl, Sl.nil _, Off.nil _ _, grown_set (grownBy_refl w _) _ _, _, rd_err HR.out 10, fun _ h => h⟩
      · obtain ⟨m, rfl⟩ : ∃ m : Nat, n = m := ⟨n.toNat, by omega⟩
        have es : takeS zs 0 m = (zs.take m, zs.drop m, 0) := by simp only [takeS, if_neg n0, if_neg n1]; simp
        rw [es]
        have hm : m ≤ zs.length := by omega
        have ST := hide (sl_take m HR.out.2.1 hm)
        clear n0 n1
        by_cases hcm : cap = m
        · subst hcm
          go_enter Tryd.func76, Tryd.ntmps76
          go_wp2_with (go_at_call 74; refine HE.mono ?_; rintro e w1 ⟨rfl, hw⟩; subst w1)
          go_ret
          have hgg := grown_set (grownBy_refl w (some b)) 1 (.slice ao 0 0)
          refine ⟨_, rfl, ST.out.keep (fun k hk hlt => hgg.block k hlt (fun e => (HNE.out k (by cases ao <;> exact hk)).1 (by simpa using e))), fun k hk => by simpa using HNE.out k (by cases ao <;> exact hk), hgg, _, ⟨heap_set1 hg _, ?_, fun k hk => ?_⟩, fun k hk => ?_⟩
          · have S0 : Sl w (.slice ao 0 0) (zs.drop cap) := by
              have := sl_cut0 cap HR.out.2.1 hm rfl
              rwa [show zs.length - cap = 0 by omega] at this
            exact S0.keep (fun k hk hlt => hgg.block k hlt (fun e => (HNE.out k (by cases ao <;> exact hk)).1 (by simpa using e)))
          · simpa using HNE.out k (by cases ao <;> exact hk)
          · cases ao <;> exact hk
        · have hcm' : (cap == m) = false := by simpa using hcm
          go_enter Tryd.func76, Tryd.ntmps76
          go_wp2_with (go_at_call 74; refine HE.mono ?_; rintro e w1 ⟨rfl, hw⟩; subst w1)
          go_ret
          have hgg := grown_set (grownBy_refl w (some b)) 1 (.slice (Option.map (fun x => x.add m) ao) (zs.length - m) (cap - m))
          refine ⟨_, rfl, ST.out.keep (fun k hk hlt => hgg.block k hlt (fun e => (HNE.out k (by cases ao <;> exact hk)).1 (by simpa using e))), fun k hk => by simpa using HNE.out k (by cases ao <;> exact hk), hgg, _, ⟨heap_set1 hg _, ?_, fun k hk => ?_⟩, fun k hk => ?_⟩
          · exact (sl_cut m HR.out.2.1 hm).keep (fun k hk hlt => hgg.block k hlt (fun e => (HNE.out k (own_cut _ _ _ _ _ _ _ hk)).1 (by simpa using e)))
          · simpa using HNE.out k (own_cut _ _ _ _ _ _ _ hk)
          · exact own_cut _ _ _ _ _ _ _ hk
  · have es : takeS zs er n = ([], zs, er) := by simp [takeS, e0]
    rw [es]
    have e1 : (er == 0) = false := by simpa using e0
    go_enter Tryd.func76, Tryd.ntmps76
    go_wp2_with (go_at_call 74; refine HE.mono ?_; rintro e w1 ⟨rfl, hw⟩; subst w1)
    go_ret
    exact ⟨_, rfl, Sl.nil _, Off.nil _ _, grownBy_refl _ _, _, HR.out, fun _ h => h⟩

set_option maxRecDepth 20000 in
set_option maxHeartbeats 400000 in
theorem takeNumber_k (w : World) (b : Nat) (u : Value) (zs : List Int) (er : Int) (n : Nat) (h : Rd w b u zs er) (hn : n ≤ 8) :
    Calls Tryd.prog 73 #[.pointer (some ⟨b, 0, none⟩), .int .i64 n] w fun e w' => e = .returned (.int .u64 (numOf (takeS zs er n).1)) ∧ w.grownBy w' (some b) ∧ ∃ u', Rd w' b u' (takeS zs er n).2.1 (takeS zs er n).2.2 ∧ ∀ k, u'.ownBlock = some k → u.ownBlock = some k := by
  have HT := take_k w b u zs er n h
  have HL := takeS_len zs er n
  have HB := (takeS_ok zs er n h.2.1.bytes).1
  obtain ⟨⟨R, zs', er'⟩, hS⟩ : ∃ s, s = takeS zs er n := ⟨_, rfl⟩
  rw [← hS] at HT HL HB ⊢
  simp only at HT HL HB ⊢
  clear hS
  go_enter Tryd.func73, Tryd.ntmps73
  go_wp2_with (go_at_call 76; refine HT.mono ?_; rintro e w1 ⟨v, rfl, hs, hoff, hgr, u', hrd, hk'⟩; have HKK := hide hk'; clear hk'; obtain ⟨_, ao, cap, rfl, h1, h2, h3, h4⟩ := hs; have HGR := hide hgr; have HRD := hide hrd; have H4 := hide h4; clear hgr hrd h3 h4 hoff)
  unfold maxLen at h2
  go_loop [5, 12] (fun vv i => ∃ (k acc : Nat), k ≤ R.length ∧ acc < 256 ^ k ∧ numAcc acc (R.drop k) = numOf R ∧ vv = .int .u64 acc ∧ i = .int .i64 k) (fun _ i => R.length - (intOf i).toNat)
  case atStart => exact ⟨0, 0, Nat.zero_le _, by simp, rfl, rfl, rfl⟩
  case round =>
    obtain ⟨k, acc, hk, hacc, hnum, rfl, rfl⟩ := hrel
    by_cases hlt : k < R.length
    · obtain ⟨b', o, rfl, hc⟩ := H4.out (by intro h; simp [h] at hlt)
      have c1 := hc k hlt
      have hxb := HB.get k
      have hd := drop_cons R k hlt
      obtain ⟨x, hx⟩ : ∃ x, x = R.getD k 0 := ⟨_, rfl⟩
      rw [← hx] at c1 hxb hd
      have ha := Nat.lt_of_lt_of_le hacc (pow56 k (by omega))
      have hor := or_byte acc x ha hxb.1 hxb.2
      have hnext : numAcc (acc * 256 + x.toNat) (R.drop (k + 1)) = numOf R := by rw [← hnum, hd, numAcc]
      have hlt2 : acc * 256 + x.toNat < 256 ^ (k + 1) := by rw [Nat.pow_succ]; omega
      obtain ⟨N, hN⟩ : ∃ N, N = acc * 256 + x.toNat := ⟨_, rfl⟩
      rw [← hN] at hor hnext hlt2
      have HX := hide hnext
      clear hc H4 hx hd hnum hnext hN
      go_wp2
      go_round
      case rel => exact ⟨k + 1, N, by omega, hlt2, HX.out, by go_num, by go_num⟩
      case measure => simp [intOf]; omega
    · have he : numOf R = acc := by rw [← hnum, List.drop_eq_nil_of_le (by omega), numAcc]
      have HE := hide he
      clear he hnum
      go_wp2
      go_ret
      exact ⟨ret_int (by rw [HE.out]), HGR.out, _, HRD.out, HKK.out⟩

theorem readerU8_k (w : World) (b : Nat) (u : Value) (zs : List Int) (er : Int) (h : Rd w b u zs er) :
    Calls Tryd.prog 60 #[.pointer (some ⟨b, 0, none⟩)] w fun e w' => e = .returned (.int .u8 (numOf (takeS zs er 1).1)) ∧ w.grownBy w' (some b) ∧ ∃ u', Rd w' b u' (takeS zs er 1).2.1 (takeS zs er 1).2.2 ∧ ∀ k, u'.ownBlock = some k → u.ownBlock = some k := by
  have HT : Calls Tryd.prog 73 #[.pointer (some ⟨b, 0, none⟩), .int .i64 1] w fun e w' => e = .returned (.int .u64 (numOf (takeS zs er 1).1)) ∧ w.grownBy w' (some b) ∧ ∃ u', Rd w' b u' (takeS zs er 1).2.1 (takeS zs er 1).2.2 ∧ (∀ k, u'.ownBlock = some k → u.ownBlock = some k) := takeNumber_k w b u zs er 1 h (by omega)
  have hlt : numOf (takeS zs er 1).1 < 256 := numOf_lt _ 1 (takeS_ok zs er 1 h.2.1.bytes).1 (takeS_len zs er 1)
  obtain ⟨N, hN⟩ : ∃ N, N = numOf (takeS zs er 1).1 := ⟨_, rfl⟩
  rw [← hN] at HT hlt ⊢
  clear hN
  go_enter Tryd.func60, Tryd.ntmps60
  go_wp2_with (go_at_call 73; refine HT.mono ?_; rintro e w1 ⟨rfl, hg, u', hr, hk'⟩)
  go_ret
  exact ⟨rfl, hg, u', hr, hk'⟩

theorem readerU16_k (w : World) (b : Nat) (u : Value) (zs : List Int) (er : Int) (h : Rd w b u zs er) :
    Calls Tryd.prog 59 #[.pointer (some ⟨b, 0, none⟩)] w fun e w' => e = .returned (.int .u16 (numOf (takeS zs er 2).1)) ∧ w.grownBy w' (some b) ∧ ∃ u', Rd w' b u' (takeS zs er 2).2.1 (takeS zs er 2).2.2 ∧ ∀ k, u'.ownBlock = some k → u.ownBlock = some k := by
  have HT : Calls Tryd.prog 73 #[.pointer (some ⟨b, 0, none⟩), .int .i64 2] w fun e w' => e = .returned (.int .u64 (numOf (takeS zs er 2).1)) ∧ w.grownBy w' (some b) ∧ ∃ u', Rd w' b u' (takeS zs er 2).2.1 (takeS zs er 2).2.2 ∧ (∀ k, u'.ownBlock = some k → u.ownBlock = some k) := takeNumber_k w b u zs er 2 h (by omega)
  have hlt : numOf (takeS zs er 2).1 < 65536 := numOf_lt _ 2 (takeS_ok zs er 2 h.2.1.bytes).1 (takeS_len zs er 2)
  obtain ⟨N, hN⟩ : ∃ N, N = numOf (takeS zs er 2).1 := ⟨_, rfl⟩
  rw [← hN] at HT hlt ⊢
  clear hN
  go_enter Tryd.func59, Tryd.ntmps59
  go_wp2_with (go_at_call 73; refine HT.mono ?_; rintro e w1 ⟨rfl, hg, u', hr, hk'⟩)
  go_ret
  exact ⟨rfl, hg, u', hr, hk'⟩

/-- a reader, its block and its bytes' ahead of a place -/
def RdK (w : World) (b lim : Nat) (zs : List Int) (er : Int) : Prop := ∃ u, Rd w b u zs er ∧ b < lim ∧ ∀ k, u.ownBlock = some k → k < lim

theorem u8_k {w : World} {b lim : Nat} {zs : List Int} {er : Int} (h : RdK w b lim zs er) :
    Calls Tryd.prog 60 #[.pointer (some ⟨b, 0, none⟩)] w fun e w' => e = .returned (.int .u8 (numOf (takeS zs er 1).1)) ∧ w.grownBy w' (some b) ∧ RdK w' b lim (takeS zs er 1).2.1 (takeS zs er 1).2.2 := by
  obtain ⟨u, h1, h2, h3⟩ := h
  refine (readerU8_k w b u zs er h1).mono ?_
  rintro e w' ⟨rfl, hg, u', hr, hk⟩
  exact ⟨rfl, hg, u', hr, h2, fun k hh => h3 k (hk k hh)⟩
theorem u16_k {w : World} {b lim : Nat} {zs : List Int} {er : Int} (h : RdK w b lim zs er) :
    Calls Tryd.prog 59 #[.pointer (some ⟨b, 0, none⟩)] w fun e w' => e = .returned (.int .u16 (numOf (takeS zs er 2).1)) ∧ w.grownBy w' (some b) ∧ RdK w' b lim (takeS zs er 2).2.1 (takeS zs er 2).2.2 := by
  obtain ⟨u, h1, h2, h3⟩ := h
  refine (readerU16_k w b u zs er h1).mono ?_
  rintro e w' ⟨rfl, hg, u', hr, hk⟩
  exact ⟨rfl, hg, u', hr, h2, fun k hh => h3 k (hk k hh)⟩

end Go.Proofs.YtmeiahmolmneeaaDoor
/- What walks over heads share: numbers of the call's own, a result that is a head, the result's block so far. -/
namespace Go.Proofs.YtmeiahmolmneeaaDoor
set_option maxRecDepth 20000
open Go.RowKit
set_option linter.unusedVariables false

theorem infoInt : (Tryd.prog.info? 3).map (fun i => (i.zero, i.size, i.bytes)) = some (some (.int .i64 0), 1, 8) := by kernel_rfl
theorem oneCell_ints (zs : List Int) : ∀ v ∈ zs.map (Value.int .i64), v.oneCell' = true := by
  intro v hv
  obtain ⟨z, _, rfl⟩ := List.mem_map.1 hv
  rfl
/-- numbers of the call's own, as numbers that are read -/
theorem is_of_own {w : World} {base : Nat} {v : Value} {n : Nat} {zs : List Int} (h : w.ownsRow base 3 1 v n (zs.map (Value.int .i64))) : Is w v zs := by
  obtain ⟨h1, h2⟩ := h
  have hn : zs.length = n := by simpa using h1
  subst hn
  rcases h2 with ⟨rfl, h0⟩ | ⟨g, cap, cur, rfl, _, hg, hnc, hcm, hcs, ht⟩
  · exact ⟨none, 0, by rw [h0], by omega, by simp [maxLen], fun hz => absurd (List.eq_nil_of_length_eq_zero h0) hz⟩
  · refine ⟨_, cap, rfl, hnc, hcm, fun _ => ⟨g, 0, rfl, fun i hi => ?_⟩⟩
    rw [cell_of_row w g (0 + i) cur 3 (0, 0) hg]
    have : (cur.toList.take (zs.length * 1))[i]? = (zs.map (Value.int .i64))[i]? := by rw [ht]
    rw [List.getElem?_take, if_pos (by omega)] at this
    simp at this
    rw [Nat.zero_add, this]
    rw [getD_lt zs hi]
    simp [hi]

theorem run_append_int (w : World) (base : Nat) (a : Option Addr) (n c : Nat) (xs : List Int) (hown : w.ownsRow base 3 1 (.slice a n c) xs.length (xs.map (Value.int .i64))) (g : Nat) (x : Int) (hg : Blk w g 3 [.int .i64 x]) (hl : xs.length ≤ 1000) (hb : base ≤ w.heap.size) :
    ∃ v' w', (Builtin.append_ #[23, 23] 23 #[.slice a n c, .slice (some ⟨g, 0, none⟩) 1 1]).run Tryd.prog w = .ok v' w' ∧ w'.ownsRow base 3 1 v' (xs ++ [x]).length ((xs ++ [x]).map (Value.int .i64)) ∧ w.grownBy w' (Value.slice a n c).ownBlock := by
  obtain ⟨i0, hi, hz0, hz1, hz2⟩ := info_parts infoInt
  obtain ⟨v', w', hr, h1, h2, _⟩ := run_append_own (P := Tryd.prog) w base 23 23 3 i0 (.int .i64 0) 1 8 Tryd.underlying23 hi hz0 hz1 hz2 rfl (by decide) (.slice a n c) xs.length (xs.map (Value.int .i64)) hown ⟨g, 0, none⟩ 1 1 [.int .i64 x] rfl (by
    intro j u hj
    have hj1 := (List.getElem?_eq_some_iff.1 hj).1
    have : j = 0 := by simp at hj1; omega
    subst this
    simp [Addr.add]
    rw [hg.cell]
    exact hj) (by intro u hu; simp at hu; subst hu; rfl) (by unfold maxLen; omega) (by omega) hb
  refine ⟨v', w', hr, ?_, h2⟩
  have e : (xs ++ [x]).length = xs.length + 1 := by simp
  rw [e, List.map_append]
  exact h1

theorem sizeHead : (Tryd.prog.info? 26).map (·.size) = some 4 := by kernel_rfl
theorem zeroHeadRun (w : World) : (zeroValue 26).run Tryd.prog w = .ok (.agg #[.int .u64 0, .int .i64 0, .slice none 0 0, .slice none 0 0]) w := by kernel_rfl

theorem load_head (w : World) (b : Nat) (x0 x1 x2 x3 : Value) (hB : Blk w b 26 [x0, x1, x2, x3]) : (loadVar 26 ⟨b, 0, none⟩).run Tryd.prog w = .ok (.agg #[x0, x1, x2, x3]) w :=
  run_loadVar_row (P := Tryd.prog) w b 26 26 #[x0, x1, x2, x3] (0, 0) _ hB Tryd.underlying26 rfl sizeHead
/-- what is returned of a head's cells -/
theorem ret_head0 {fn : Func} {p : Tmp} (h : fn.results = #[.cell p 26]) (tmps : Array Value) (w : World) (b : Nat) (x0 x1 x2 x3 : Value) (hp : tmps.getD p undef = .pointer (some ⟨b, 0, none⟩)) (hB : Blk w b 26 [x0, x1, x2, x3]) :
    (results fn tmps).run Tryd.prog w = .ok (.agg #[x0, x1, x2, x3]) w :=
  results_cell_row h tmps w b 26 #[x0, x1, x2, x3] (0, 0) _ hp hB Tryd.underlying26 rfl sizeHead
/-- .. and of one more -/
theorem ret_head1 {fn : Func} {p u : Tmp} (h : fn.results = #[.cell p 26, .tmp u]) (tmps : Array Value) (w : World) (b : Nat) (x0 x1 x2 x3 er : Value) (hp : tmps.getD p undef = .pointer (some ⟨b, 0, none⟩)) (hu : tmps.getD u undef = er) (hB : Blk w b 26 [x0, x1, x2, x3]) :
    (results fn tmps).run Tryd.prog w = .ok (.tuple #[.agg #[x0, x1, x2, x3], er]) w := by
  rw [results_cell_tmp h, hp, hu]
  simp only [asAddr, Sem.run_pure, Result.andThen_ok]
  rw [load_head w b x0 x1 x2 x3 hB]
  rfl
theorem results_cell_tmp2 {fn : Func} {p u u' : Tmp} {ty : TypeId} (h : fn.results = #[.cell p ty, .tmp u, .tmp u']) (tmps : Array Value) (P : Program) (w : World) :
    (results fn tmps).run P w =
      ((asAddr (tmps.getD p undef)).run P w).andThen fun a w₁ => ((loadVar ty a).run P w₁).andThen fun v w₂ => .ok (.tuple #[v, tmps.getD u undef, tmps.getD u' undef]) w₂ := by
  simp only [results, h]
  simp [Sem.run_bind, Result.andThen]
/-- .. and of two more -/
theorem ret_head2 {fn : Func} {p u u' : Tmp} (h : fn.results = #[.cell p 26, .tmp u, .tmp u']) (tmps : Array Value) (w : World) (b : Nat) (x0 x1 x2 x3 n er : Value) (hp : tmps.getD p undef = .pointer (some ⟨b, 0, none⟩)) (hu : tmps.getD u undef = n) (hu' : tmps.getD u' undef = er) (hB : Blk w b 26 [x0, x1, x2, x3]) :
    (results fn tmps).run Tryd.prog w = .ok (.tuple #[.agg #[x0, x1, x2, x3], n, er]) w := by
  rw [results_cell_tmp2 h, hp, hu, hu']
  simp only [asAddr, Sem.run_pure, Result.andThen_ok]
  rw [load_head w b x0 x1 x2 x3 hB]
  rfl

/-- so far: what was there is as it was, and the result's block holds no head -/
def Hs (w w1 : World) : Prop := Below w.heap.size w w1 ∧ Blk w1 w.heap.size 26 [.int .u64 0, .int .i64 0, .slice none 0 0, .slice none 0 0]
theorem Hs.new (w : World) : Hs w (w.alloc (.cells #[.int .u64 0, .int .i64 0, .slice none 0 0, .slice none 0 0] 26)) := ⟨(Below.refl _ w).alloc (Nat.le_refl _) _, Blk.new w _ [.int .u64 0, .int .i64 0, .slice none 0 0, .slice none 0 0]⟩
theorem Hs.below {w w1 w2 : World} (h : Hs w w1) (hb : Below w1.heap.size w1 w2) : Hs w w2 := ⟨h.1.trans (hb.mono h.1.size), h.2.below hb h.2.lt⟩
theorem Hs.alloc {w w1 : World} (h : Hs w w1) (o : Obj) : Hs w (w1.alloc o) := h.below ((Below.refl _ w1).alloc (Nat.le_refl _) o)
theorem Hs.only {S : Nat → Prop} {w w1 w2 : World} (h : Hs w w1) (ho : Only S w1 w2) (hS : ∀ k, S k → w.heap.size < k) : Hs w w2 :=
  ⟨h.1.trans (ho.below h.1.size (fun k hk hs => by have := hS k hs; omega)), h.2.only ho (fun hs => by have := hS _ hs; omega)⟩
theorem Hs.grown {w w1 w2 : World} {b : Nat} (h : Hs w w1) (hg : w1.grownBy w2 (some b)) (hb : w.heap.size < b) : Hs w w2 :=
  h.only (S := fun k => k = b) ((Only.refl _ w1).grown hg (fun k hk _ => by cases hk; rfl)) (fun k hk => by omega)
/-- a head's cells laid into a block, one by one -/
def laidH (w1 : World) (b : Nat) (x0 x1 x2 x3 : Value) : World := (((w1.setCell ⟨b, 0, none⟩ x0).setCell ⟨b, 1, none⟩ x1).setCell ⟨b, 2, none⟩ x2).setCell ⟨b, 3, none⟩ x3
theorem laidH_blk {w : World} {b : Nat} {y0 y1 y2 y3 : Value} (h : Blk w b 26 [y0, y1, y2, y3]) (x0 x1 x2 x3 : Value) : Blk (laidH w b x0 x1 x2 x3) b 26 [x0, x1, x2, x3] := by
  have h2 := h.setMany [x0, x1, x2, x3] 0 w (by simp)
  have e : splice [y0, y1, y2, y3] 0 [x0, x1, x2, x3] = [x0, x1, x2, x3] := by simp [splice]
  rw [e] at h2
  exact h2
theorem laidH_only (w : World) (b : Nat) (x0 x1 x2 x3 : Value) : Only (fun k => k = b) w (laidH w b x0 x1 x2 x3) := Only.setCells b [x0, x1, x2, x3] 0 _ (Only.refl _ w) (fun _ => rfl)
theorem Hs.store {w w1 : World} (h : Hs w w1) (x0 x1 x2 x3 : Value) : Blk (laidH w1 w.heap.size x0 x1 x2 x3) w.heap.size 26 [x0, x1, x2, x3] ∧ Below w.heap.size w (laidH w1 w.heap.size x0 x1 x2 x3) ∧ ∀ k, k ≠ w.heap.size → (laidH w1 w.heap.size x0 x1 x2 x3).heap[k]? = w1.heap[k]? := by
  refine ⟨laidH_blk h.2 _ _ _ _, ?_, fun k hk => ?_⟩
  · have ho := laidH_only w1 w.heap.size x0 x1 x2 x3
    exact h.1.trans (ho.below h.1.size (fun k hk hs => by omega))
  · unfold laidH
    rw [Below.heap_setCell _ _ _ _ hk, Below.heap_setCell _ _ _ _ hk, Below.heap_setCell _ _ _ _ hk, Below.heap_setCell _ _ _ _ hk]
/-- what a store into a head's block asks for -/
theorem head_cells {w1 : World} {b : Nat} {x0 x1 x2 x3 : Value} (h : Blk w1 b 26 [x0, x1, x2, x3]) : (w1.cell? ⟨b, 0, none⟩ = some x0 ∧ w1.cell? ⟨b, 1, none⟩ = some x1 ∧ w1.cell? ⟨b, 2, none⟩ = some x2 ∧ w1.cell? ⟨b, 3, none⟩ = some x3) ∧
    w1.frozen? ⟨b, 0, none⟩ = false ∧ w1.frozen? ⟨b, 1, none⟩ = false ∧ w1.frozen? ⟨b, 2, none⟩ = false ∧ w1.frozen? ⟨b, 3, none⟩ = false :=
  ⟨box_cells h, h.frozen 0, h.frozen 1, h.frozen 2, h.frozen 3⟩

theorem only_grown {w w' : World} {b : Nat} (h : w.grownBy w' (some b)) : Only (fun k => k = b) w w' := (Only.refl _ w).grown h (fun k hk _ => by cases hk; rfl)
theorem only_grown' {w w' : World} {r : Option Nat} (h : w.grownBy w' r) : Only (fun k => r = some k) w w' := (Only.refl _ w).grown h (fun k hk _ => hk)
theorem RdK.only {G : Nat → Prop} {w w' : World} {b lim : Nat} {zs : List Int} {er : Int} (h : RdK w b lim zs er) (ho : Only G w w') (hG : ∀ k, G k → lim ≤ k) : RdK w' b lim zs er := by
  obtain ⟨u, ⟨h1, h2, h3⟩, hb, hk⟩ := h
  refine ⟨u, ⟨?_, h2.only ho (fun k hkk hg => by have := hk k hkk; have := hG k hg; omega), fun k hkk => ⟨(h3 k hkk).1, Nat.lt_of_lt_of_le (h3 k hkk).2 ho.size⟩⟩, hb, hk⟩
  rw [ho.block b (Array.getElem?_eq_some_iff.1 h1).1 (fun hg => by have := hG b hg; omega)]
  exact h1
theorem RdK.below {w w' : World} {b lim : Nat} {zs : List Int} {er : Int} (h : RdK w b lim zs er) (hb : Below w.heap.size w w') : RdK w' b lim zs er := h.only (Only.of_below (fun _ => False) hb) (fun _ h => h.elim)

theorem Is.only {S : Nat → Prop} {w w' : World} {v : Value} {ks : List Int} (h : Is w v ks) (ho : Only S w w') (hn : ∀ k, v.ownBlock = some k → ¬ S k) : Is w' v ks := by
  obtain ⟨ao, cap, rfl, h1, h2, h3⟩ := h
  refine ⟨ao, cap, rfl, h1, h2, fun hne => ?_⟩
  obtain ⟨b, off, rfl, hc⟩ := h3 hne
  refine ⟨b, off, rfl, fun i hi => ?_⟩
  rw [World.cell?_of_block (w := w) (ho.block b (World.block_lt_of_cell? w _ (hc i hi)) (hn b rfl))]
  exact hc i hi
/-- a head's value, its slices' blocks from B on -/
def HdO (w : World) (B : Nat) (v : Value) (h : Hd) : Prop := ∃ ma mc ua uc, v = hdV h.e h.p ma h.ms.length mc ua h.us.length uc ∧ Is w (.slice ma h.ms.length mc) h.ms ∧ Sl w (.slice ua h.us.length uc) h.us ∧ h.e < 18446744073709551616 ∧
  ∀ k, ((Value.slice ma h.ms.length mc).ownBlock = some k ∨ (Value.slice ua h.us.length uc).ownBlock = some k) → B ≤ k
theorem HdO.val {w : World} {B : Nat} {v : Value} {h : Hd} (hv : HdO w B v h) : HdV w v h := by
  obtain ⟨ma, mc, ua, uc, rfl, h1, h2, h3, _⟩ := hv
  exact ⟨ma, mc, ua, uc, rfl, h1, h2, h3⟩
theorem HdO.le {w : World} {B B' : Nat} {v : Value} {h : Hd} (hv : HdO w B v h) (hB : B' ≤ B) : HdO w B' v h := by
  obtain ⟨ma, mc, ua, uc, rfl, h1, h2, h3, h4⟩ := hv
  exact ⟨ma, mc, ua, uc, rfl, h1, h2, h3, fun k hk => Nat.le_trans hB (h4 k hk)⟩
theorem HdO.only {S : Nat → Prop} {w w' : World} {B : Nat} {v : Value} {h : Hd} (hv : HdO w B v h) (ho : Only S w w') (hS : ∀ k, S k → k < B) : HdO w' B v h := by
  obtain ⟨ma, mc, ua, uc, rfl, h1, h2, h3, h4⟩ := hv
  exact ⟨ma, mc, ua, uc, rfl, h1.only ho (fun k hk hs => by have := h4 k (.inl hk); have := hS k hs; omega), h2.only ho (fun k hk hs => by have := h4 k (.inr hk); have := hS k hs; omega), h3, h4⟩
theorem HdO.below {w w' : World} {B : Nat} {v : Value} {h : Hd} (hv : HdO w B v h) (hb : Below w.heap.size w w') : HdO w' B v h := hv.only (Only.of_below (fun _ => False) hb) (fun _ h => h.elim)
theorem HdO.alloc {w : World} {B : Nat} {v : Value} {h : Hd} (hv : HdO w B v h) (o : Obj) : HdO (w.alloc o) B v h := hv.below ((Below.refl _ w).alloc (Nat.le_refl _) o)
theorem HdO.no (w : World) (B : Nat) : HdO w B (hdV 0 0 none 0 0 none 0 0) noHd := ⟨none, 0, none, 0, rfl, Is.nil w, Sl.nil w, by decide, fun k hk => by rcases hk with hk | hk <;> cases hk⟩

/-- two operations of a region that write -/
def two (m1 m2 : Nat) (F G : Nat → Prop) : Nat → Nat → Prop := fun i k => (i = m1 ∧ F k) ∨ (i = m2 ∧ G k)
theorem two_all {m1 m2 : Nat} {F G : Nat → Prop} {w w' : World} (h : Only (fun k => ∃ i, two m1 m2 F G i k) w w') : Only (fun k => F k ∨ G k) w w' := h.mono (fun k _ ⟨i, hi⟩ => hi.elim (fun h => .inl h.2) (fun h => .inr h.2))
theorem two_1 {m1 m2 : Nat} {F G : Nat → Prop} {w w' : World} (h : Only (fun k => ∃ j, j ≠ m1 ∧ two m1 m2 F G j k) w w') : Only G w w' := h.mono (fun k _ ⟨i, hn, hi⟩ => hi.elim (fun h => absurd h.1 hn) (fun h => h.2))
theorem two_2 {m1 m2 : Nat} {F G : Nat → Prop} {w w' : World} (h : Only (fun k => ∃ j, j ≠ m2 ∧ two m1 m2 F G j k) w w') : Only F w w' := h.mono (fun k _ ⟨i, hn, hi⟩ => hi.elim (fun h => h.2) (fun h => absurd h.1 hn))
theorem of_1 {m1 m2 : Nat} {F G : Nat → Prop} {w w' : World} (h : Only F w w') : Only (two m1 m2 F G m1) w w' := h.mono (fun _ _ h => .inl ⟨rfl, h⟩)
theorem of_2 {m1 m2 : Nat} {F G : Nat → Prop} {w w' : World} (h : Only G w w') : Only (two m1 m2 F G m2) w w' := h.mono (fun _ _ h => .inr ⟨rfl, h⟩)
theorem two_st {m1 m2 k0 : Nat} {F G : Nat → Prop} {p : Value → World → Prop} (hm : m1 ≠ m2) (h1 : k0 ≠ m1 → ∀ v w w', Only F w w' → p v w → p v w') (h2 : k0 ≠ m2 → ∀ v w w', Only G w w' → p v w → p v w') (h0 : ∀ v w w', Only (fun _ => False) w w' → p v w → p v w') : ∀ i, i ≠ k0 → StS (two m1 m2 F G i) p := by
  intro i hi v w w' ho hp
  by_cases e1 : i = m1
  · subst e1
    exact h1 (Ne.symm hi) v w w' (ho.mono (fun k _ h => h.elim (fun h => h.2) (fun h => absurd h.1 hm))) hp
  · by_cases e2 : i = m2
    · subst e2
      exact h2 (Ne.symm hi) v w w' (ho.mono (fun k _ h => h.elim (fun h => absurd h.1 e1) (fun h => h.2))) hp
    · exact h0 v w w' (ho.mono (fun k _ h => h.elim (fun h => absurd h.1 e1) (fun h => absurd h.1 e2))) hp

end Go.Proofs.YtmeiahmolmneeaaDoor
/- Contract: what is read of a page's bytes (head.read). -/
namespace Go.Proofs.YtmeiahmolmneeaaDoor
set_option maxRecDepth 20000
open Go.RowKit
set_option linter.unusedVariables false

theorem read_k (w : World) (v : Value) (zs : List Int) (h : Sl w v zs) (hl : zs.length ≤ 100000) :
    Calls Tryd.prog 58 #[v] w fun e w' => ∃ b, e = .returned (.pointer (some ⟨b, 0, none⟩)) ∧ w.heap.size ≤ b ∧ RdK w' b w'.heap.size zs 0 ∧ Below w.heap.size w w' := by
  refine (read_any w v zs h hl).mono ?_
  rintro e w' ⟨b, u, rfl, hb, hr, hf, hbel⟩
  exact ⟨b, rfl, hb, ⟨u, hr, hr.lt, fun k hk => (hf k hk).2⟩, hbel⟩

def isQ16 (X : Nat) (Q : World → Prop) : Value → World → Prop := fun v w => v = .int .u16 X ∧ Q w
def isN1 (B : Nat) (x : Int) : Value → World → Prop := fun v w => ∃ g, v = .slice (some ⟨g, 0, none⟩) 1 1 ∧ B ≤ g ∧ Blk w g 3 [.int .i64 x]
def isInts (B : Nat) (xs : List Int) : Value → World → Prop := fun v w => ∃ a n c, v = .slice a n c ∧ w.ownsRow B 3 1 (.slice a n c) xs.length (xs.map (Value.int .i64))

/-- how far a head is read: the result's block, the head's, its maps, the reader -/
structure Rs (w : World) (b lim H : Nat) (e : Nat) (p : Int) (a : Option Addr) (n c : Nat) (xs zs : List Int) (er : Int) (wr : World) : Prop where
  st : Hs w wr
  hb : w.heap.size < b
  hl : b < lim
  hH : lim ≤ H
  blk : Blk wr H 26 [.int .u64 e, .int .i64 p, .slice a n c, .slice none 0 0]
  own : wr.ownsRow lim 3 1 (.slice a n c) xs.length (xs.map (Value.int .i64))
  rd : RdK wr b lim zs er

theorem own_ne {w : World} {base H n c m : Nat} {a : Option Addr} {xs cs : List Value} {t : TypeId} (h : w.ownsRow base 3 1 (.slice a n c) m xs) (hB : Blk w H t cs) (ht : t ≠ 3) : ∀ k, (Value.slice a n c).ownBlock = some k → k ≠ H := by
  rcases h.2 with ⟨h1, _⟩ | ⟨g, cap, cur, h1, h2, h3, _⟩
  · intro k hk; rw [h1] at hk; cases hk
  · intro k hk hkH
    rw [h1] at hk
    cases hk
    subst hkH
    have := hB.symm.trans h3
    simp at this
    exact ht this.2
theorem own_lt {w : World} {base n c m : Nat} {a : Option Addr} {xs : List Value} (h : w.ownsRow base 3 1 (.slice a n c) m xs) : ∀ k, (Value.slice a n c).ownBlock = some k → base ≤ k ∧ k < w.heap.size := fun k hk => h.lt k hk

/-- behind one more number: the block of the maps may be another one -/
theorem Rs.next {w wr w3 : World} {b lim H e : Nat} {p : Int} {a a' : Option Addr} {n c n' c' : Nat} {xs xs' zs zs' : List Int} {er er' : Int} (h : Rs w b lim H e p a n c xs zs er wr)
    (ho : Only (fun k => k = b ∨ (Value.slice a n c).ownBlock = some k) wr w3) (hown : w3.ownsRow lim 3 1 (.slice a' n' c') xs'.length (xs'.map (Value.int .i64))) (hr : RdK w3 b lim zs' er') :
    Rs w b lim H e p a' n' c' xs' zs' er' (w3.setCell ⟨H, 2, none⟩ (.slice a' n' c')) := by
  have hne := own_ne h.own h.blk (by decide)
  have hlt := own_lt h.own
  have hlim := h.hl
  have hbb := h.hb
  have hHH := h.hH
  have hB3 : Blk w3 H 26 [.int .u64 e, .int .i64 p, .slice a n c, .slice none 0 0] := h.blk.only ho (fun hk => by
    rcases hk with hk | hk
    · omega
    · exact hne H hk rfl)
  have hne3 := own_ne hown hB3 (by decide)
  have h3 : Hs w w3 := h.st.only ho (fun k hk => by
    rcases hk with hk | hk
    · omega
    · have := (hlt k hk).1; omega)
  have oS : Only (fun k => k = H) w3 (w3.setCell ⟨H, 2, none⟩ (.slice a' n' c')) := (Only.refl _ w3).setCell ⟨H, 2, none⟩ _ (fun _ => rfl)
  refine ⟨h3.only oS (fun k hk => by omega), h.hb, h.hl, h.hH, ?_, ?_, ?_⟩
  · have := hB3.set 2 (.slice a' n' c')
    exact this
  · exact ownsRow_only hown oS (fun k hk hh => hne3 k hk hh)
  · exact hr.only oS (fun k hk => by omega)

theorem Rs.cells {w wr : World} {b lim H e : Nat} {p : Int} {a : Option Addr} {n c : Nat} {xs zs : List Int} {er : Int} (h : Rs w b lim H e p a n c xs zs er wr) (wx : World) (ho : Only (fun k => k = b ∨ (Value.slice a n c).ownBlock = some k) wr wx) :
    Blk wx H 26 [.int .u64 e, .int .i64 p, .slice a n c, .slice none 0 0] := h.blk.only ho (fun hk => by
  have hlim := h.hl
  have hHH := h.hH
  rcases hk with hk | hk
  · omega
  · exact own_ne h.own h.blk (by decide) H hk rfl)

theorem takesS_step (n : Nat) (zs : List Int) (er : Int) (xs ys zs' : List Int) (er' : Int) (T : List Int × List Int × Int) (h : T = (xs ++ (takesS (n + 1) zs er).1, (takesS (n + 1) zs er).2)) :
    T = ((xs ++ [((numOf (takeS zs er 2).1 : Nat) : Int)]) ++ (takesS n (takeS zs er 2).2.1 (takeS zs er 2).2.2).1, (takesS n (takeS zs er 2).2.1 (takeS zs er 2).2.2).2) := by
  rw [h, takesS, List.append_assoc]
  rfl

/-- behind the text: the head that was read -/
theorem Rs.done {w wr w3 : World} {b lim H e : Nat} {p : Int} {a : Option Addr} {n c : Nat} {xs zs us : List Int} {er : Int} {u : Value} (h : Rs w b lim H e p a n c xs zs er wr) (he : e < 18446744073709551616) (hg : wr.grownBy w3 (some b))
    (hu : w3.ownsRow wr.heap.size 5 1 u us.length (us.map (Value.int .u8))) (hok : ByteOk us) :
    Blk (laidH (w3.setCell ⟨H, 3, none⟩ u) w.heap.size (.int .u64 e) (.int .i64 p) (.slice a n c) u) w.heap.size 26 [.int .u64 e, .int .i64 p, .slice a n c, u] ∧
      HdO (laidH (w3.setCell ⟨H, 3, none⟩ u) w.heap.size (.int .u64 e) (.int .i64 p) (.slice a n c) u) (w.heap.size + 1) (.agg #[.int .u64 e, .int .i64 p, .slice a n c, u]) ⟨e, p, xs, us⟩ ∧
      Below w.heap.size w (laidH (w3.setCell ⟨H, 3, none⟩ u) w.heap.size (.int .u64 e) (.int .i64 p) (.slice a n c) u) := by
  have hlim := h.hl
  have hbb := h.hb
  have hHH := h.hH
  have hH3 := (h.blk.only (only_grown hg) (fun hk => by omega))
  have h3 : Hs w w3 := h.st.grown hg h.hb
  have oS : Only (fun k => k = H) w3 (w3.setCell ⟨H, 3, none⟩ u) := (Only.refl _ w3).setCell ⟨H, 3, none⟩ _ (fun _ => rfl)
  have h4 := h3.only oS (fun k hk => by omega)
  obtain ⟨s1, s2, s3⟩ := h4.store (.int .u64 e) (.int .i64 p) (.slice a n c) u
  refine ⟨s1, ?_, s2⟩
  have oL := laidH_only (w3.setCell ⟨H, 3, none⟩ u) w.heap.size (.int .u64 e) (.int .i64 p) (.slice a n c) u
  have own3 := ownsRow_only h.own (only_grown hg) (fun k hk hh => by have := (own_lt h.own k hk).1; omega)
  have own4 := ownsRow_only (ownsRow_only own3 oS (fun k hk hh => own_ne own3 hH3 (by decide) k hk hh)) oL (fun k hk hh => by have := (own_lt h.own k hk).1; omega)
  have hHlt := h.blk.lt
  have u4 := ownsRow_only (ownsRow_only hu oS (fun k hk hh => by have := (hu.lt k hk).1; omega)) oL (fun k hk hh => by have := (hu.lt k hk).1; omega)
  have hI := is_of_own own4
  have hS := sl_of_own_len u4 hok
  obtain ⟨a', c', hn', _⟩ := hI
  obtain ⟨ua, uc, rfl⟩ := sl_form' hS
  simp only [Value.slice.injEq] at hn'
  obtain ⟨rfl, rfl, rfl⟩ := hn'
  refine ⟨a, c, ua, uc, rfl, is_of_own own4, hS, he, fun k hk => ?_⟩
  have hsz := h.st.2.lt
  rcases hk with hk | hk
  · have := (own_lt h.own k hk).1; omega
  · have := (hu.lt k hk).1; omega

theorem textS_ok (zs : List Int) (er most : Int) (h : ByteOk zs) : ByteOk (textS zs er most).1 := by
  have h0 : ByteOk ([] : List Int) := by intro z hz; cases hz
  unfold textS
  split
  · exact h0
  · split
    · exact h0
    · exact (h.take _).drop _

theorem numOf_takeS (zs : List Int) (er : Int) (n : Nat) (h : ByteOk zs) : numOf (takeS zs er n).1 < 256 ^ n := numOf_lt _ n (takeS_ok zs er n h).1 (takeS_len zs er n)

set_option maxHeartbeats 4000000 in
theorem hread_any (w : World) (e : Nat) (v : Value) (zs : List Int) (h : Sl w v zs) (hl : zs.length ≤ 50000) (he : e < 18446744073709551616) :
    Calls Tryd.prog 38 #[.int .u64 e, v] w fun r w' => ∃ u, r = .returned u ∧ HdO w' (w.heap.size + 1) u (readS e zs) ∧ Below w.heap.size w w' := by
  have HN := hide (Hs.new w)
  have HR0 := hide (read_k _ v zs (h.below HN.out.1) (by omega))
  have hok := h.bytes
  obtain ⟨ao, cap, rfl⟩ := sl_form' h
  have hza := zeroHeadRun
  have HRS : Hid (readS e zs = ⟨e, (numOf (takeS zs 0 2).1 : Nat), (mapsS zs).1, (textS (mapsS zs).2.1 (mapsS zs).2.2 32).1⟩) := rfl
  have HMS : Hid (mapsS zs = takesS (numOf (takeS (takeS zs 0 2).2.1 (takeS zs 0 2).2.2 1).1) (takeS (takeS zs 0 2).2.1 (takeS zs 0 2).2.2 1).2.1 (takeS (takeS zs 0 2).2.1 (takeS zs 0 2).2.2 1).2.2) := rfl
  have ht1 := takeS_ok zs 0 2 hok
  have hp1 : numOf (takeS zs 0 2).1 < 256 ^ 2 := numOf_takeS zs 0 2 hok
  obtain ⟨P, hP⟩ : ∃ P, P = numOf (takeS zs 0 2).1 := ⟨_, rfl⟩
  have HU1 : Hid (∀ wx b lim, RdK wx b lim zs 0 → Calls Tryd.prog 59 #[.pointer (some ⟨b, 0, none⟩)] wx fun e w' => e = .returned (.int .u16 (P : Int)) ∧ wx.grownBy w' (some b) ∧ RdK w' b lim (takeS zs 0 2).2.1 (takeS zs 0 2).2.2) := by
    intro wx b lim hr
    rw [hP]
    exact u16_k hr
  rw [← hP] at HRS hp1
  obtain ⟨z1, hz1⟩ : ∃ z, z = (takeS zs 0 2).2.1 := ⟨_, rfl⟩
  obtain ⟨e1, he1⟩ : ∃ z, z = (takeS zs 0 2).2.2 := ⟨_, rfl⟩
  rw [← hz1, ← he1] at HU1 HMS
  rw [← hz1] at ht1
  have ht2 := takeS_ok z1 e1 1 ht1.2
  have hn1 : numOf (takeS z1 e1 1).1 < 256 ^ 1 := numOf_takeS z1 e1 1 ht1.2
  obtain ⟨N, hN⟩ : ∃ N, N = numOf (takeS z1 e1 1).1 := ⟨_, rfl⟩
  have HU2 : Hid (∀ wx b lim, RdK wx b lim z1 e1 → Calls Tryd.prog 60 #[.pointer (some ⟨b, 0, none⟩)] wx fun e w' => e = .returned (.int .u8 (N : Int)) ∧ wx.grownBy w' (some b) ∧ RdK w' b lim (takeS z1 e1 1).2.1 (takeS z1 e1 1).2.2) := by
    intro wx b lim hr
    rw [hN]
    exact u8_k hr
  rw [← hN] at HMS hn1
  obtain ⟨z2, hz2⟩ : ∃ z, z = (takeS z1 e1 1).2.1 := ⟨_, rfl⟩
  obtain ⟨e2, he2⟩ : ∃ z, z = (takeS z1 e1 1).2.2 := ⟨_, rfl⟩
  rw [← hz2, ← he2] at HU2 HMS
  rw [← hz2] at ht2
  have hok2 := ht2.2
  have hp16 : P < 65536 := by simpa using hp1
  have hn8 : N < 256 := by simpa using hn1
  clear h hP hz1 he1 hN hz2 he2 ht1 ht2 hp1 hn1 hok
  go_enter Tryd.func38, Tryd.ntmps38
  go_wp2_with (first
    | (go_at_call 58; refine HR0.out.mono ?_; rintro e3 w2 ⟨b, rfl, hb2, rd2, bel2⟩; have hs2 := HN.out.below bel2; have hbb : w.heap.size < b := (by have := HN.out.2.lt; omega); have HU1' := hide (HU1.out w2 b w2.heap.size rd2); have HS2 := hide hs2; have hlm : b < w2.heap.size := (by obtain ⟨_, _, h, _⟩ := rd2; exact h); clear HR0 HU1 HN hb2 rd2 bel2 hs2)
    | (go_at_call 59; refine HU1'.out.mono ?_; rintro e3 w3 ⟨rfl, g3, rd3⟩; have hs3 := HS2.out.grown g3 hbb; have hsz3 := g3.size; have rd4 := rd3.below ((Below.refl _ w3).alloc (Nat.le_refl _) (.cells #[.int .u64 e, .int .i64 (P : Int), .slice none 0 0, .slice none 0 0] 26)); have HU2' := hide (HU2.out _ b _ rd4); have HR4 : Hid (Rs w b w2.heap.size w3.heap.size e (P : Int) none 0 0 [] z1 e1 (w3.alloc (.cells #[.int .u64 e, .int .i64 (P : Int), .slice none 0 0, .slice none 0 0] 26))) := ⟨hs3.alloc _, hbb, hlm, hsz3, Blk.new w3 _ _, own_nil _ _ _, rd4⟩; clear HU1' HU2 HS2 g3 rd3 hs3 rd4)
    | (go_at_call 60; refine HU2'.out.mono ?_; rintro e3 w5 ⟨rfl, g5, rd5⟩; have HR5 : Hid (Rs w b w2.heap.size w3.heap.size e (P : Int) none 0 0 [] z2 e2 w5) := ⟨HR4.out.st.grown g5 hbb, hbb, hlm, hsz3, HR4.out.blk.only (only_grown g5) (fun hk => (by omega)), own_nil _ _ _, rd5⟩; clear HU2' HR4 g5 rd5))
  obtain ⟨L, hL⟩ : ∃ L, L = w2.heap.size := ⟨_, rfl⟩
  obtain ⟨H, hH⟩ : ∃ H, H = w3.heap.size := ⟨_, rfl⟩
  rw [← hL, ← hH] at HR5
  rw [← hL] at hlm hsz3
  rw [← hH] at hsz3
  simp only [← hH]
  clear hL hH
  go_loopg [16] N (fun g i wr => ∃ (j : Nat) (a : Option Addr) (n c : Nat) (xs zr : List Int) (er : Int), g + j = N ∧ i = .int .u8 j ∧ xs.length = j ∧ ByteOk zr ∧ Rs w b L H e (P : Int) a n c xs zr er wr ∧ mapsS zs = (xs ++ (takesS g zr er).1, (takesS g zr er).2))
  case atStart => exact ⟨0, none, 0, 0, [], z2, e2, by omega, rfl, rfl, hok2, HR5.out, HMS.out⟩
  case round =>
    obtain ⟨j, a, n, c, xs, zr, er, hj, rfl, hxl, hokr, hrs, hms⟩ := hrel
    have HRS2 := hide hrs
    have HMS2 := hide hms
    have HXL := hide hxl
    obtain ⟨⟨c0, c1, c2, c3⟩, f0, f1, f2, f3⟩ := head_cells hrs.blk
    clear HR5 HMS hrs hms hxl
    cases gk with
    | zero =>
      obtain rfl : j = N := by omega
      have hm := HMS2.out
      rw [show takesS 0 zr er = ([], zr, er) from rfl, List.append_nil] at hm
      simp only at hm
      have HRE : Hid (readS e zs = ⟨e, (P : Int), xs, (textS zr er 32).1⟩) := by
        show readS e zs = _
        rw [HRS.out, hm]
      obtain ⟨u0, rd0, _⟩ := HRS2.out.rd
      have HTX := hide (readerText_any wr b u0 zr er 32 rd0)
      have HOK := hide (textS_ok zr er 32 hokr)
      clear hm HMS2 HRS rd0
      go_wp2_with (go_at_call 61; refine HTX.out.mono ?_; rintro e3 w6 ⟨u6, rfl, ou6, g6, _⟩; obtain ⟨a6, c6, rfl⟩ := own_slice ou6; have hH6 := HRS2.out.blk.only (only_grown g6) (fun hk => (by have := HRS2.out.hl; have := HRS2.out.hH; omega)); have hR6 := HRS2.out.st.grown g6 HRS2.out.hb; have hRS := hR6.only (S := fun k => k = H) ((Only.refl _ w6).setCell ⟨H, 3, none⟩ (.slice a6 (textS zr er 32).1.length c6) (fun _ => rfl)) (fun k hk => (by have := HRS2.out.hl; have := HRS2.out.hH; have := HRS2.out.hb; omega)); have hHS := hH6.set 3 (.slice a6 (textS zr er 32).1.length c6); clear c0 c1 c2 c3 f0 f1 f2 f3; obtain ⟨⟨c0, c1, c2, c3⟩, f0, f1, f2, f3⟩ := head_cells hH6; obtain ⟨⟨d0, d1, d2, d3⟩, k0, k1, k2, k3⟩ := head_cells hRS.2; obtain ⟨⟨q0, q1, q2, q3⟩, _⟩ := head_cells (b := H) hHS; have HD := hide (HRS2.out.done he g6 ou6 HOK.out); clear HTX ou6 g6 hH6 hR6 hRS hHS)
      (try simp only [Exit.inBlock, Exit.then])
      refine bodyPost_ret (ret_head0 rfl _ _ w.heap.size _ _ _ _ rfl HD.out.1) rfl ?_
      rw [HRE.out]
      exact ⟨_, rfl, HD.out.2.1, HD.out.2.2⟩
    | succ g =>
      have hjN : (j : Int) < (N : Int) := by omega
      have hX := numOf_takeS zr er 2 hokr
      have hX : numOf (takeS zr er 2).1 < 256 ^ 2 := hX
      have hokn := (takeS_ok zr er 2 hokr).2
      have hms := takesS_step g zr er xs [] [] 0 _ HMS2.out
      have HRN : Hid (∀ w3 a' n' c', Only (fun k => k = b ∨ (Value.slice a n c).ownBlock = some k) wr w3 → w3.ownsRow L 3 1 (.slice a' n' c') (xs ++ [((numOf (takeS zr er 2).1 : Nat) : Int)]).length ((xs ++ [((numOf (takeS zr er 2).1 : Nat) : Int)]).map (Value.int .i64)) → RdK w3 b L (takeS zr er 2).2.1 (takeS zr er 2).2.2 → Rs w b L H e (P : Int) a' n' c' (xs ++ [((numOf (takeS zr er 2).1 : Nat) : Int)]) (takeS zr er 2).2.1 (takeS zr er 2).2.2 (w3.setCell ⟨H, 2, none⟩ (.slice a' n' c'))) := fun w3 a' n' c' h1 h2 h3 => HRS2.out.next h1 h2 h3
      have HU3 : Hid (∀ wx, Only (fun k => (Value.slice a n c).ownBlock = some k) wr wx → Calls Tryd.prog 59 #[.pointer (some ⟨b, 0, none⟩)] wx fun e w' => e = .returned (.int .u16 ((numOf (takeS zr er 2).1 : Nat) : Int)) ∧ RdK w' b L (takeS zr er 2).2.1 (takeS zr er 2).2.2 ∧ Only (fun k => k = b) wx w') := by
        intro wx ho
        refine (u16_k (HRS2.out.rd.only ho (fun k hk => (own_lt HRS2.out.own k hk).1))).mono ?_
        rintro r w' ⟨rfl, hg, hr⟩
        exact ⟨rfl, hr, only_grown hg⟩
      obtain ⟨X, hXX⟩ : ∃ X, X = numOf (takeS zr er 2).1 := ⟨_, rfl⟩
      obtain ⟨zn, hzn⟩ : ∃ z, z = (takeS zr er 2).2.1 := ⟨_, rfl⟩
      obtain ⟨en, hen⟩ : ∃ z, z = (takeS zr er 2).2.2 := ⟨_, rfl⟩
      rw [← hXX] at HRN HU3 hms hX
      rw [← hzn, ← hen] at HRN HU3 hms
      rw [← hzn] at hokn
      have hX16 : X < 65536 := by simpa using hX
      have HMN := hide hms
      have HCX : Hid (∀ wx, Only (fun k => k = b ∨ (Value.slice a n c).ownBlock = some k) wr wx → Blk wx H 26 [.int .u64 e, .int .i64 (P : Int), .slice a n c, .slice none 0 0]) := HRS2.out.cells
      have HAP : Hid (∀ wx gx, Only (fun k => k = b) wr wx → Blk wx gx 3 [.int .i64 (X : Int)] → ∃ v' w', (Builtin.append_ #[23, 23] 23 #[.slice a n c, .slice (some ⟨gx, 0, none⟩) 1 1]).run Tryd.prog wx = .ok v' w' ∧ isInts L (xs ++ [(X : Int)]) v' w' ∧ Only (fun k => (Value.slice a n c).ownBlock = some k) wx w') := by
        intro wx gx ho hg
        have hb1 := HRS2.out.hl
        have hb2 := HRS2.out.hH
        have hb3 := HRS2.out.blk.lt
        have hsz := ho.size
        have o2 := ownsRow_only HRS2.out.own ho (fun k hk hh => by have := (own_lt HRS2.out.own k hk).1; omega)
        obtain ⟨v', w', r1, r2, r3⟩ := run_append_int wx L a n c xs o2 gx (X : Int) hg (by have := HXL.out; omega) (by omega)
        obtain ⟨a', c', rfl⟩ := own_slice r2
        exact ⟨_, w', r1, ⟨a', _, c', rfl, r2⟩, only_grown' r3⟩
      have hlb : b < L := HRS2.out.hl
      have hgl : ∀ k, (Value.slice a n c).ownBlock = some k → L ≤ k ∧ k < wr.heap.size := own_lt HRS2.out.own
      have hbw : b < wr.heap.size := by have := HRS2.out.hH; have := HRS2.out.blk.lt; omega
      have HGL := hide hgl
      have HWX : Hid (IntKind.i64.wrap (X : Int) = (X : Int)) := by show IntKind.i64.wrap (X : Int) = (X : Int); exact IntWalk.i64_in _ (by omega)
      clear hms hX hXX hzn hen HMS2 HRS2 hgl c0 c1 c2 c3
      go_wp2
      refine wp_region_many (two 3 6 (fun k => k = b) (fun k => (Value.slice a n c).ownBlock = some k)) [isV (.pointer (some ⟨H, 2, none⟩)), isV (.slice a n c), isV (.pointer (some ⟨b, 0, none⟩)), isQ16 X (fun wz => RdK wz b L zn en), isV (.int .i64 (X : Int)), isN1 wr.heap.size (X : Int), isInts L (xs ++ [(X : Int)]), isV (.pointer (some ⟨H, 2, none⟩))] 31 8 (by kernel_rfl) (by kernel_rfl) (by kernel_rfl) (by kernel_rfl) rfl ?_ ?_ ?_
      · repeat (first | exact trivial | refine allStM_isV ?_ | refine ⟨two_st (by decide) (fun h => absurd rfl h) (fun _ v w1 w2 ho ⟨h1, h2⟩ => ⟨h1, h2.only ho (fun k hk => (HGL.out k hk).1)⟩) (fun v w1 w2 ho ⟨h1, h2⟩ => ⟨h1, h2.only ho (fun k hk => hk.elim)⟩), ?_⟩ | refine ⟨two_st (by decide) (fun _ v w1 w2 ho ⟨g, h1, h2, h3⟩ => ⟨g, h1, h2, h3.only ho (fun hk => by omega)⟩) (fun _ v w1 w2 ho ⟨g, h1, h2, h3⟩ => ⟨g, h1, h2, h3.only ho (fun hk => by have := (HGL.out g hk).2; omega)⟩) (fun v w1 w2 ho ⟨g, h1, h2, h3⟩ => ⟨g, h1, h2, h3.only ho (fun hk => hk.elim)⟩), ?_⟩ | refine ⟨two_st (by decide) (fun _ v w1 w2 ho ⟨x, y, z, h1, h2⟩ => ⟨x, y, z, h1, ownsRow_only h2 ho (fun k hk hh => by have := (own_lt h2 k hk).1; omega)⟩) (fun h => absurd rfl h) (fun v w1 w2 ho ⟨x, y, z, h1, h2⟩ => ⟨x, y, z, h1, ownsRow_only h2 ho (fun k hk hh => hh.elim)⟩), ?_⟩)
      · refine ⟨?_, ?_, ?_, ?_, ?_, ?_, ?_, ?_, trivial⟩
        · intro act wx h
          have e6 : act.eval (.tmp 6) = .pointer (some ⟨H, 0, none⟩) := h.old 6 (by kernel_rfl)
          have hrel := two_all h.rel
          clear h
          refine gives_by rfl act.eval rfl ?_
          generalize act.eval = ρ at *
          intro hf hc
          go_simp
          exact ⟨Only.refl _ _, rfl⟩
        · intro act wx h
          obtain ⟨v18, e18, f18⟩ := h.val 0 18 (by kernel_rfl)
          obtain rfl : v18 = .pointer (some ⟨H, 2, none⟩) := f18
          have hrel := two_all h.rel
          clear h
          obtain ⟨⟨x0, x1, x2, x3⟩, _⟩ := head_cells (HCX.out wx hrel)
          refine gives_by rfl act.eval rfl ?_
          generalize act.eval = ρ at *
          intro hf hc
          go_simp
          exact ⟨Only.refl _ _, rfl⟩
        · intro act wx h
          have e5 : act.eval (.tmp 5) = .pointer (some ⟨b, 0, none⟩) := h.old 5 (by kernel_rfl)
          have hrel := two_all h.rel
          clear h
          refine gives_by rfl act.eval rfl ?_
          generalize act.eval = ρ at *
          intro hf hc
          go_simp
          exact ⟨Only.refl _ _, rfl⟩
        · intro act wx h
          obtain ⟨v20, e20, f20⟩ := h.val 2 20 (by kernel_rfl)
          obtain rfl : v20 = .pointer (some ⟨b, 0, none⟩) := f20
          have hrel := two_1 h.relq
          clear h
          refine gives_by rfl act.eval rfl ?_
          generalize act.eval = ρ at *
          intro hf hc
          go_simp
          refine (HU3.out wx hrel).mono ?_
          rintro e wy ⟨rfl, hd, ho⟩
          exact ⟨_, rfl, of_1 ho, rfl, hd⟩
        · intro act wx h
          obtain ⟨v21, e21, f21⟩ := h.val 3 21 (by kernel_rfl)
          obtain ⟨rfl, _⟩ := f21
          have hrel := two_all h.rel
          clear h
          refine gives_by rfl act.eval rfl ?_
          generalize act.eval = ρ at *
          intro hf hc
          go_simp
          rw [HWX.out]
          exact ⟨Only.refl _ _, rfl⟩
        · intro act wx h
          obtain ⟨v22, e22, f22⟩ := h.val 4 22 (by kernel_rfl)
          obtain rfl : v22 = .int .i64 (X : Int) := f22
          have hrel := two_all h.rel
          clear h
          refine gives_by rfl act.eval rfl ?_
          generalize act.eval = ρ at *
          intro hf hc
          go_simp
          exact ⟨(Only.refl _ wx).alloc _, wx.heap.size, rfl, hrel.size, Blk.new wx _ [.int .i64 (X : Int)]⟩
        · intro act wx h
          obtain ⟨v19, e19, f19⟩ := h.val 1 19 (by kernel_rfl)
          obtain rfl : v19 = .slice a n c := f19
          obtain ⟨v23, e23, f23⟩ := h.val 5 23 (by kernel_rfl)
          obtain ⟨g23, rfl, hg23, hk23⟩ := f23
          have hrel := two_2 h.relq
          clear h
          obtain ⟨v', w', r9, o9, b9⟩ := HAP.out wx g23 hrel hk23
          exact gives_of_run rfl (exec_append (.tmp 19) (.tmp 23) 23 rfl _ _ e19 e23 v' r9) ⟨of_2 b9, o9⟩
        · intro act wx h
          have e6 : act.eval (.tmp 6) = .pointer (some ⟨H, 0, none⟩) := h.old 6 (by kernel_rfl)
          have hrel := two_all h.rel
          clear h
          refine gives_by rfl act.eval rfl ?_
          generalize act.eval = ρ at *
          intro hf hc
          go_simp
          exact ⟨Only.refl _ _, rfl⟩
      · intro oL hoL vals w3 ho3 hv
        simp only [List.getElem?_toArray, List.getElem?_cons_succ, List.getElem?_cons_zero, Option.some.injEq] at hoL
        subst hoL
        generalize hact : putAll _ vals 0 _ = act
        obtain ⟨a', n', c', hv6, O6⟩ : isInts L (xs ++ [(X : Int)]) (vals 6) w3 := hv 6 24 (by decide) (by kernel_rfl)
        obtain ⟨_, hrd⟩ : isQ16 X (fun wz => RdK wz b L zn en) (vals 3) w3 := hv 3 21 (by decide) (by kernel_rfl)
        have hv7 : vals 7 = .pointer (some ⟨H, 2, none⟩) := hv 7 25 (by decide) (by kernel_rfl)
        clear hv
        have ho3 := two_all ho3
        have HRR := hide (HRN.out w3 a' n' c' ho3 O6 hrd)
        obtain ⟨⟨c0, c1, c2, c3⟩, f0, f1, f2, f3⟩ := head_cells (HCX.out w3 ho3)
        clear O6 hrd ho3 HRN HCX HAP HU3
        subst hact
        simp only [List.dropLast, putAll, Act.put, List.setIfInBounds_toArray, List.set_cons_zero, List.set_cons_succ, hv6, hv7, Nat.zero_add, Nat.reduceAdd]
        refine gives_by rfl _ rfl ?_
        intro hf hc
        go_simp
        simp only [gUpon]
        go_wp2
        go_roundg g
        case measure => omega
        case rel => exact ⟨j + 1, a', n', c', xs ++ [(X : Int)], zn, en, by omega, by go_num, by rw [List.length_append, HXL.out]; rfl, hokn, HRR.out, HMN.out⟩

end Go.Proofs.YtmeiahmolmneeaaDoor
/- Contract: the head of what a page bears (head.Get). -/
namespace Go.Proofs.YtmeiahmolmneeaaDoor
set_option maxRecDepth 20000
open Go.RowKit
set_option linter.unusedVariables false

theorem readS_e (e : Nat) (zs : List Int) : (readS e zs).e = e := rfl

theorem getB_no1 {e : Nat} {zs : List Int} (h : mayB (readS e zs).p (readS e zs).ms (readS e zs).us.length = false) : getB e zs = false := by unfold getB; rw [h]; rfl
theorem getB_no2 {e : Nat} {zs : List Int} (h : ¬ bearS (readS e zs).p (readS e zs).ms (readS e zs).us = zs) : getB e zs = false := by unfold getB; rw [decide_eq_false h, Bool.and_false]
theorem getB_yes {e : Nat} {zs : List Int} (h : mayB (readS e zs).p (readS e zs).ms (readS e zs).us.length = true) (h2 : bearS (readS e zs).p (readS e zs).ms (readS e zs).us = zs) : getB e zs = true := by unfold getB; rw [h, decide_eq_true h2]; rfl

/-- a head that was answered, with an error -/
def GivesH (w : World) (h : Hd) (er : Int) (r : Ending) (w' : World) : Prop :=
  ∃ ma mc ua uc, r = .returned (.tuple #[hdV h.e h.p ma h.ms.length mc ua h.us.length uc, .int .i64 er]) ∧ HdO w' (w.heap.size + 1) (hdV h.e h.p ma h.ms.length mc ua h.us.length uc) h ∧ Below w.heap.size w w'
theorem GivesH.no {w w' : World} (er : Int) (hb : Below w.heap.size w w') : GivesH w noHd er (.returned (.tuple #[hdV 0 0 none 0 0 none 0 0, .int .i64 er])) w' := ⟨none, 0, none, 0, rfl, HdO.no w' _, hb⟩

set_option maxHeartbeats 2000000 in
theorem hget_any (w : World) (e : Nat) (v : Value) (zs : List Int) (h : Sl w v zs) (hl : zs.length ≤ 50000) (he : e < 18446744073709551616) :
    Calls Tryd.prog 23 #[.int .u64 e, v] w (GivesH w (getH e zs) (getE e zs)) := by
  have HN := hide (Hs.new w)
  have HRD := hide (hread_any _ e v zs (h.below HN.out.1) hl he)
  have HSL := hide (h.below HN.out.1)
  obtain ⟨ao, cap, rfl⟩ := sl_form' h
  have hza := zeroHeadRun
  have hre := readS_e e zs
  have HN1 := hide (getB_no1 (e := e) (zs := zs))
  have HN2 := hide (getB_no2 (e := e) (zs := zs))
  have HY := hide (getB_yes (e := e) (zs := zs))
  have HGH : Hid (getH e zs = if getB e zs = true then readS e zs else noHd) := rfl
  have HGE : Hid (getE e zs = if getB e zs = true then 0 else 60) := rfl
  obtain ⟨G, hG⟩ : ∃ G, G = readS e zs := ⟨_, rfl⟩
  rw [← hG] at HRD HN1 HN2 HY HGH hre
  obtain ⟨e', p, ms, us⟩ := G
  simp only at hre HN1 HN2 HY
  subst hre
  clear h hG
  have HPB : Hid (∀ (w1 : World) ma mc ua uc, HdV w1 (hdV e' p ma ms.length mc ua us.length uc) ⟨e', p, ms, us⟩ → mayB p ms us.length = false → Calls Tryd.prog 11 #[.agg #[.int .u64 e', .int .i64 p, .slice ma ms.length mc, .slice ua us.length uc]] w1 fun r w' => r = .returned (.tuple #[.slice none 0 0, .int .i64 60]) ∧ Below w1.heap.size w1 w') := by
    intro w1 ma mc ua uc hv hm
    obtain ⟨ma', mc', ua', uc', hh, hI, _⟩ := hv
    unfold hdV at hh
    simp at hh
    obtain ⟨⟨rfl, rfl⟩, rfl, rfl⟩ := hh
    exact hput_bad w1 e' p ma ua mc us.length uc ms hI hm
  have HPO : Hid (∀ (w1 : World) ma mc ua uc, HdV w1 (hdV e' p ma ms.length mc ua us.length uc) ⟨e', p, ms, us⟩ → mayB p ms us.length = true → Calls Tryd.prog 11 #[.agg #[.int .u64 e', .int .i64 p, .slice ma ms.length mc, .slice ua us.length uc]] w1 fun r w' => ∃ g, r = .returned (.tuple #[.slice (some ⟨g, 0, none⟩) 240 240, .int .i64 0]) ∧ w1.heap.size ≤ g ∧ Blk w' g 5 (pc (bearS p ms us)) ∧ Below w1.heap.size w1 w') := by
    intro w1 ma mc ua uc hv hm
    exact hput_ok w1 _ ⟨e', p, ms, us⟩ hv hm
  cases hm : mayB p ms us.length with
  | false =>
    have hb := HN1.out hm
    rw [HGH.out, HGE.out, hb]
    simp only [Bool.false_eq_true, if_false]
    clear HN1 HN2 HY HGH HGE hb HPO
    go_enter Tryd.func23, Tryd.ntmps23
    go_wp2_with (first
      | (go_at_call 38; refine HRD.out.mono ?_; rintro e3 w2 ⟨u2, rfl, hv2, bel2⟩; have hvo := hv2; obtain ⟨ma, mc, ua, uc, rfl, hI, hS, _, _⟩ := hv2; have hs2 := HN.out.below bel2; have hv2 := hvo.val; have hs3 := hs2.alloc (.cells #[.int .u64 e', .int .i64 p, .slice ma ms.length mc, .slice ua us.length uc] 26); have HP2 := hide (HPB.out _ ma mc ua uc (hv2.alloc (.cells #[.int .u64 e', .int .i64 p, .slice ma ms.length mc, .slice ua us.length uc] 26)) hm); have HS3 := hide hs3; unfold hdV; clear HRD HPB HN hI hS hs2 hv2 hvo hs3 bel2)
      | (go_at_call 11; refine HP2.out.mono ?_; rintro e3 w4 ⟨rfl, bel4⟩; have hs4 := HS3.out.below bel4; obtain ⟨⟨d0, d1, d2, d3⟩, k0, k1, k2, k3⟩ := head_cells hs4.2; have HS4 := hide hs4; clear HP2 HS3 hs4 bel4))
    (try simp only [Exit.inBlock, Exit.then])
    obtain ⟨s1, s2, s3⟩ := HS4.out.store (.int .u64 0) (.int .i64 0) (.slice none 0 0) (.slice none 0 0)
    refine bodyPost_ret (ret_head1 rfl _ _ w.heap.size _ _ _ _ _ rfl rfl s1) rfl ?_
    exact GivesH.no 60 s2
  | true =>
    have HXE : Hid (∀ (w1 : World) (g : Nat), Blk w1 g 5 (pc (bearS p ms us)) → Sl w1 (.slice ao zs.length cap) zs → Sl w1 (.slice (some ⟨g, 0, none⟩) 240 240) (bearS p ms us) → Calls Tryd.prog 19 #[.slice (some ⟨g, 0, none⟩) 240 240, .slice ao zs.length cap] w1 fun r w' => r = .returned (.bool (decide (bearS p ms us = zs))) ∧ w' = w1) := fun w1 g hk hs hb => equal_any w1 _ _ _ _ hb hs
    by_cases hbz : bearS p ms us = zs
    · have hb := HY.out hm hbz
      rw [HGH.out, HGE.out, hb]
      simp only [if_true]
      rw [decide_eq_true hbz] at HXE
      clear HN1 HN2 HY HGH HGE hb HPB
      go_enter Tryd.func23, Tryd.ntmps23
      go_wp2_with (first
        | (go_at_call 38; refine HRD.out.mono ?_; rintro e3 w2 ⟨u2, rfl, hv2, bel2⟩; have hvo := hv2; obtain ⟨ma, mc, ua, uc, rfl, hI, hS, _, _⟩ := hv2; have hs2 := HN.out.below bel2; have hv2 := hvo.val; have hv3 := hv2.alloc (.cells #[.int .u64 e', .int .i64 p, .slice ma ms.length mc, .slice ua us.length uc] 26); have hs3 := hs2.alloc (.cells #[.int .u64 e', .int .i64 p, .slice ma ms.length mc, .slice ua us.length uc] 26); have HP2 := hide (HPO.out _ ma mc ua uc hv3 hm); have HS3 := hide hs3; have HV3 := hide (hvo.alloc (.cells #[.int .u64 e', .int .i64 p, .slice ma ms.length mc, .slice ua us.length uc] 26)); have HZ3 := hide ((HSL.out.below bel2).alloc (.cells #[.int .u64 e', .int .i64 p, .slice ma ms.length mc, .slice ua us.length uc] 26)); have HOK := hide (bearS_ok hm hS.bytes); have HK3 := hide (Blk.new w2 26 [.int .u64 e', .int .i64 p, .slice ma ms.length mc, .slice ua us.length uc]); unfold hdV; clear HRD HPO HN hI hS hs2 hv2 hv3 hvo hs3 bel2)
        | (go_at_call 11; refine HP2.out.mono ?_; rintro e3 w4 ⟨g4, rfl, hg4, k4, bel4⟩; have hs4 := HS3.out.below bel4; have hv4 := HV3.out.below bel4; have HE4 := hide (HXE.out w4 g4 k4 (HZ3.out.below bel4) (sl_blk k4 HOK.out (bearS_len hm) (by unfold maxLen; omega))); obtain ⟨⟨c0, c1, c2, c3⟩, _⟩ := head_cells (HK3.out.below bel4 HK3.out.lt); obtain ⟨⟨d0, d1, d2, d3⟩, k0, k1, k2, k3⟩ := head_cells hs4.2; have HS4 := hide hs4; have HV4 := hide hv4; clear HP2 HS3 HV3 HZ3 HXE HK3 hs4 hv4 k4 bel4)
        | (go_at_call 19; refine HE4.out.mono ?_; rintro e3 w5 ⟨rfl, hw⟩; subst w5; clear HE4))
      (try simp only [Exit.inBlock, Exit.then])
      obtain ⟨s1, s2, s3⟩ := HS4.out.store (.int .u64 e') (.int .i64 p) (.slice ma ms.length mc) (.slice ua us.length uc)
      refine bodyPost_ret (ret_head1 rfl _ _ w.heap.size _ _ _ _ _ rfl rfl s1) rfl ?_
      refine ⟨ma, mc, ua, uc, rfl, ?_, s2⟩
      rw [World.size_alloc] at HV4
      exact (HV4.out.only (laidH_only w4 w.heap.size _ _ _ _) (fun k hk => by omega)).le (by omega)
    · have hb := HN2.out hbz
      rw [HGH.out, HGE.out, hb]
      simp only [Bool.false_eq_true, if_false]
      rw [decide_eq_false hbz] at HXE
      clear HN1 HN2 HY HGH HGE hb HPB
      go_enter Tryd.func23, Tryd.ntmps23
      go_wp2_with (first
        | (go_at_call 38; refine HRD.out.mono ?_; rintro e3 w2 ⟨u2, rfl, hv2, bel2⟩; have hvo := hv2; obtain ⟨ma, mc, ua, uc, rfl, hI, hS, _, _⟩ := hv2; have hs2 := HN.out.below bel2; have hv2 := hvo.val; have hv3 := hv2.alloc (.cells #[.int .u64 e', .int .i64 p, .slice ma ms.length mc, .slice ua us.length uc] 26); have hs3 := hs2.alloc (.cells #[.int .u64 e', .int .i64 p, .slice ma ms.length mc, .slice ua us.length uc] 26); have HP2 := hide (HPO.out _ ma mc ua uc hv3 hm); have HS3 := hide hs3; have HV3 := hide (hvo.alloc (.cells #[.int .u64 e', .int .i64 p, .slice ma ms.length mc, .slice ua us.length uc] 26)); have HZ3 := hide ((HSL.out.below bel2).alloc (.cells #[.int .u64 e', .int .i64 p, .slice ma ms.length mc, .slice ua us.length uc] 26)); have HOK := hide (bearS_ok hm hS.bytes); have HK3 := hide (Blk.new w2 26 [.int .u64 e', .int .i64 p, .slice ma ms.length mc, .slice ua us.length uc]); unfold hdV; clear HRD HPO HN hI hS hs2 hv2 hv3 hvo hs3 bel2)
        | (go_at_call 11; refine HP2.out.mono ?_; rintro e3 w4 ⟨g4, rfl, hg4, k4, bel4⟩; have hs4 := HS3.out.below bel4; have hv4 := HV3.out.below bel4; have HE4 := hide (HXE.out w4 g4 k4 (HZ3.out.below bel4) (sl_blk k4 HOK.out (bearS_len hm) (by unfold maxLen; omega))); obtain ⟨⟨c0, c1, c2, c3⟩, _⟩ := head_cells (HK3.out.below bel4 HK3.out.lt); obtain ⟨⟨d0, d1, d2, d3⟩, k0, k1, k2, k3⟩ := head_cells hs4.2; have HS4 := hide hs4; have HV4 := hide hv4; clear HP2 HS3 HV3 HZ3 HXE HK3 hs4 hv4 k4 bel4)
        | (go_at_call 19; refine HE4.out.mono ?_; rintro e3 w5 ⟨rfl, hw⟩; subst w5; clear HE4))
      (try simp only [Exit.inBlock, Exit.then])
      obtain ⟨s1, s2, s3⟩ := HS4.out.store (.int .u64 0) (.int .i64 0) (.slice none 0 0) (.slice none 0 0)
      refine bodyPost_ret (ret_head1 rfl _ _ w.heap.size _ _ _ _ _ rfl rfl s1) rfl ?_
      exact GivesH.no 60 s2

end Go.Proofs.YtmeiahmolmneeaaDoor
