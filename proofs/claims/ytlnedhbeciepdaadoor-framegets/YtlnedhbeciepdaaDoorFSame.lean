/- Contract: whether two frames are the same, but for noughts at the end of what they bear (frame.Same). -/
import Derived.Test.YtlnedhbeciepdaaDoorFShort
import Derived.Stop.BytesEq
namespace Go.Proofs.YtlnedhbeciepdaaDoor
open Go.RowKit
set_option linter.unusedVariables false

def u8s (zs : List Int) : List UInt8 := zs.map (fun z => UInt8.ofNat z.toNat)
theorem pc_u8s {zs : List Int} (h : ByteOk zs) : pc zs = (u8s zs).map Extern.Stop.cell := by
  unfold pc u8s
  rw [List.map_map]
  apply List.map_congr_left
  intro z hz
  have := h z hz
  simp only [Function.comp_def, Extern.Stop.cell, UInt8.toNat_ofNat']
  rw [Nat.mod_eq_of_lt (by omega)]
  exact congrArg (Value.int .u8) (Int.toNat_of_nonneg this.1).symm
theorem u8s_inj {xs ys : List Int} (hx : ByteOk xs) (hy : ByteOk ys) : u8s xs = u8s ys ↔ xs = ys := by
  constructor
  · intro h
    have hl : xs.length = ys.length := by simpa [u8s] using congrArg List.length h
    apply List.ext_getElem hl
    intro i h1 h2
    have := congrArg (fun l : List UInt8 => l[i]?) h
    simp [u8s, h1, h2] at this
    have a := hx xs[i] (List.getElem_mem h1)
    have b := hy ys[i] (List.getElem_mem h2)
    have := congrArg UInt8.toNat this
    simp at this
    omega
  · intro h; rw [h]
theorem sizeByte (w : World) : (Go.sizeOf 5).run Tryd.prog w = .ok 1 w := by kernel_rfl
theorem undLoad : Tryd.prog.underlying 52 = some (.array 240 5) := Tryd.underlying52
theorem guardLoad : Tryd.prog.eqGuardType Tryd.prog.depth 52 = false := by kernel_rfl
/-- two loads as arrays -/
theorem run_neq_load (w : World) (xs ys : List Int) (hx : ByteOk xs) (hy : ByteOk ys) (lx : xs.length = 240) (ly : ys.length = 240) :
    (binOp .neq 52 (.agg (pc xs).toArray) (.agg (pc ys).toArray)).run Tryd.prog w = .ok (.bool (!decide (xs = ys))) w := by
  rw [pc_u8s hx, pc_u8s hy, run_neq_struct, run_equalIn_bytes w 9998 52 5 240 undLoad Tryd.underlying5 sizeByte (u8s xs) (u8s ys) (by simpa [u8s] using lx) (by simpa [u8s] using ly)]
  simp only [Result.andThen_ok]
  congr 3
  rw [Bool.eq_iff_iff]
  simp [u8s_inj hx hy]
theorem exec_neq_agg {P : Program} {o : Oper} {a : Act} {w : World} (t t' : TypeId) (x y : Operand) (ho : o.op = .binOp .neq t x y t') (xs ys : Array Value) (hx : a.eval x = .agg xs) (hy : a.eval y = .agg ys) (hm : P.eqGuardType P.depth t = false) (b : Bool)
    (hr : (binOp .neq t (.agg xs) (.agg ys)).run P w = .ok (.bool b) w) : (execOp a.eval o).run P w = .ok (.value (.bool b)) w := by
  unfold execOp
  simp only [ho, hx, hy, Sem.run_bind, run_eqGuard_agg w .neq t x y xs ys hm, Result.andThen_ok, hr, Sem.run_pure]

def sameB (k p : Int) (e : Nat) (xs : List Int) (k' p' : Int) (e' : Nat) (ys : List Int) : Bool := decide (k = k' ∧ p = p' ∧ e = e' ∧ trimD xs = trimD ys)

/-- what the loads up to a place tell -/
theorem load_same (xs ys : List Int) (o : Nat) : loadS xs o = loadS ys o ↔ ∀ i, i < 240 → xs.getD (o + i) 0 = ys.getD (o + i) 0 := by
  constructor
  · intro h i hi
    rw [← loadS_getD xs o i hi, ← loadS_getD ys o i hi, h]
  · intro h
    apply List.ext_getElem (by rw [loadS_len, loadS_len])
    intro i h1 h2
    rw [loadS_len] at h1
    have := h i h1
    rw [← loadS_getD xs o i h1, ← loadS_getD ys o i h1] at this
    rwa [getD_lt _ (by rw [loadS_len]; exact h1), getD_lt _ (by rw [loadS_len]; exact h1)] at this

theorem load_call (w wx : World) (a : Option Addr) (n c : Nat) (zs : List Int) (at' : Nat) (h : Sl w (.slice a n c) zs) (hz : zs.length ≤ 1000000) (ha : at' ≤ 10000000) (hb : Below w.heap.size w wx) (F : Value → World → Prop) (hF : ∀ w', F (.agg (pc (loadS zs at')).toArray) w') :
    Calls Tryd.prog 27 #[.slice a n c, .int .i64 at'] wx fun e w' => ∃ v, e = .returned v ∧ Below wx.heap.size wx w' ∧ F v w' := by
  refine (loadFrom_any wx _ zs at' (h.below hb) hz ha).mono ?_
  rintro e w' ⟨rfl, hb2⟩
  exact ⟨_, rfl, hb2, hF w'⟩

set_option maxHeartbeats 2000000 in
theorem same_any (w : World) (k p k' p' : Int) (e e' : Nat) (a a' : Option Addr) (c c' : Nat) (xs ys : List Int) (hx : Sl w (.slice a xs.length c) xs) (hy : Sl w (.slice a' ys.length c') ys) (lx : xs.length ≤ 3000) (ly : ys.length ≤ 3000) :
    Calls Tryd.prog 15 #[.agg #[.int .i64 k, .int .i64 p, .int .u64 e, .slice a xs.length c], .agg #[.int .i64 k', .int .i64 p', .int .u64 e', .slice a' ys.length c']] w fun r w' => r = .returned (.bool (sameB k p e xs k' p' e' ys)) ∧ Below w.heap.size w w' := by
  have HB : Hid (Below w.heap.size w ((w.alloc (.cells #[.int .i64 k, .int .i64 p, .int .u64 e, .slice a xs.length c] 25)).alloc (.cells #[.int .i64 k', .int .i64 p', .int .u64 e', .slice a' ys.length c'] 25))) := ((Below.refl _ w).alloc (Nat.le_refl _) _).alloc (by simp) _
  have hA := (Blk.new w 25 [.int .i64 k, .int .i64 p, .int .u64 e, .slice a xs.length c]).alloc (.cells #[.int .i64 k', .int .i64 p', .int .u64 e', .slice a' ys.length c'] 25)
  have hB := Blk.new (w.alloc (.cells #[.int .i64 k, .int .i64 p, .int .u64 e, .slice a xs.length c] 25)) 25 [.int .i64 k', .int .i64 p', .int .u64 e', .slice a' ys.length c']
  rw [World.size_alloc] at hB
  by_cases h1 : k = k'
  · by_cases h2 : p = p'
    · by_cases h3 : e = e'
      · have es : sameB k p e xs k' p' e' ys = decide (trimD xs = trimD ys) := by unfold sameB; simp [h1, h2, h3]
        rw [es]
        have HD : Hid (trimD xs = trimD ys ↔ sameD xs ys) := trimD_same xs ys
        obtain ⟨d, hd⟩ : ∃ d, d = decide (trimD xs = trimD ys) := ⟨_, rfl⟩
        have HDD : Hid ((sameD xs ys → d = true) ∧ (¬ sameD xs ys → d = false)) := ⟨fun h => by rw [hd]; exact decide_eq_true (HD.out.2 h), fun h => by rw [hd]; exact decide_eq_false (fun hh => h (HD.out.1 hh))⟩
        rw [← hd]
        subst h1 h2 h3
        have hxs := (hx.alloc (.cells #[.int .i64 k, .int .i64 p, .int .u64 e, .slice a xs.length c] 25)).alloc (.cells #[.int .i64 k, .int .i64 p, .int .u64 e, .slice a' ys.length c'] 25)
        have hys := (hy.alloc (.cells #[.int .i64 k, .int .i64 p, .int .u64 e, .slice a xs.length c] 25)).alloc (.cells #[.int .i64 k, .int .i64 p, .int .u64 e, .slice a' ys.length c'] 25)
        obtain ⟨M, hM⟩ : ∃ M, M = max xs.length ys.length := ⟨_, rfl⟩
        have hmax : (if xs.length < ys.length then (ys.length : Int) else (xs.length : Int)) = (M : Int) := by split <;> omega
        have hmax2 : (if ys.length < xs.length then (xs.length : Int) else (ys.length : Int)) = (M : Int) := by split <;> omega
        have hMM : xs.length ≤ M ∧ ys.length ≤ M ∧ M ≤ 3000 := by omega
        have HX := hide hx
        have HY := hide hy
        have HXS := hide hxs
        have HYS := hide hys
        have HA := hide hA
        have HBB := hide hB
        have okx := hx.bytes
        have oky := hy.bytes
        clear hd es HD hxs hys hM hA hB hx hy
        go_enter Tryd.func15, Tryd.ntmps15
        go_wp2
        obtain ⟨W, hW⟩ : ∃ W, W = (w.alloc (.cells #[.int .i64 k, .int .i64 p, .int .u64 e, .slice a xs.length c] 25)).alloc (.cells #[.int .i64 k, .int .i64 p, .int .u64 e, .slice a' ys.length c'] 25) := ⟨_, rfl⟩
        rw [← hW] at HB HA HBB HXS HYS ⊢
        clear hW
        go_loopg [5] ((M + 239) / 240) (fun g i wr => ∃ j : Nat, g + j = (M + 239) / 240 ∧ i = .int .i64 ((240 * j : Nat) : Int) ∧ Below W.heap.size W wr ∧ ∀ i, i < 240 * j → xs.getD i 0 = ys.getD i 0)
        case atStart => exact ⟨0, by omega, rfl, Below.refl _ _, fun i hi => by omega⟩
        case round =>
          obtain ⟨j, hj, rfl, hb, hall⟩ := hrel
          have HAL := hide hall
          have Hb := hide hb
          obtain ⟨T, hT⟩ : ∃ T, T = 240 * j := ⟨_, rfl⟩
          rw [← hT] at HAL ⊢
          obtain ⟨c0, c1, c2, c3⟩ := box_cells (HA.out.below hb HA.out.lt)
          obtain ⟨d0, d1, d2, d3⟩ := box_cells (HBB.out.below hb HBB.out.lt)
          clear hall
          cases gk with
          | zero =>
            have hTi : ¬ (T : Int) < (M : Int) := by omega
            clear hb
            go_wp2
            go_ret
            refine ⟨ret_bool ?_, HB.out.trans (Hb.out.mono HB.out.size)⟩
            refine (HDD.out.1 (fun i => ?_)).symm
            rcases Nat.lt_or_ge i T with h | h
            · exact HAL.out i h
            · rw [getD_ge xs (by omega), getD_ge ys (by omega)]
          | succ g =>
            have hTi : (T : Int) < (M : Int) := by omega
            have hT3 : T ≤ 3240 := by omega
            have hTw : IntKind.i64.wrap ((T : Int) + 240) = (T : Int) + 240 := IntWalk.i64_in _ (by omega)
            have HLS := hide (load_same xs ys T)
            have HNE : Hid (∀ wx, (binOp .neq 52 (.agg (pc (loadS xs T)).toArray) (.agg (pc (loadS ys T)).toArray)).run Tryd.prog wx = .ok (.bool (!decide (loadS xs T = loadS ys T))) wx) := fun wx => run_neq_load wx _ _ (loadS_ok okx T) (loadS_ok oky T) (loadS_len _ _) (loadS_len _ _)
            have HSX := hide (HXS.out.below hb)
            have HSY := hide (HYS.out.below hb)
            have HT := hide hT
            have HC3 : Hid (∀ wx, Below wr.heap.size wr wx → wx.cell? ⟨w.heap.size, 3, none⟩ = some (.slice a xs.length c)) := fun wx hh => (box_cells ((HA.out.below Hb.out HA.out.lt).below hh (HA.out.below Hb.out HA.out.lt).lt)).2.2.2
            have HD3 : Hid (∀ wx, Below wr.heap.size wr wx → wx.cell? ⟨w.heap.size + 1, 3, none⟩ = some (.slice a' ys.length c')) := fun wx hh => (box_cells ((HBB.out.below Hb.out HBB.out.lt).below hh (HBB.out.below Hb.out HBB.out.lt).lt)).2.2.2
            clear hb okx oky hT
            go_wp2
            refine wp_region_facts (FL [isV (.pointer (some ⟨w.heap.size, 3, none⟩)), isV (.slice a xs.length c), isV (.int .i64 (T : Int)), isV (.agg (pc (loadS xs T)).toArray), isV (.pointer (some ⟨w.heap.size + 1, 3, none⟩)), isV (.slice a' ys.length c'), isV (.int .i64 (T : Int)), isV (.agg (pc (loadS ys T)).toArray), isV (.bool (!decide (loadS xs T = loadS ys T)))]) 45 (by kernel_rfl) (by kernel_rfl) (by kernel_rfl) rfl (FL_stable _ (by repeat (first | exact trivial | refine ⟨stable_isV _, ?_⟩))) ?_ ?_
            · refine ⟨?_, ?_, ?_, ?_, ?_, ?_, ?_, ?_, ?_, trivial⟩
              · intro act wx h
                have e2 : act.eval (.tmp 2) = .pointer (some ⟨w.heap.size, 0, none⟩) := h.old 2 (by kernel_rfl)
                have hbel := h.below
                clear h
                refine gives_by rfl act.eval rfl ?_
                generalize act.eval = ρ at *
                intro hf hc
                go_simp
                exact ⟨Below.refl _ _, rfl⟩
              · intro act wx h
                obtain ⟨v36, e36, f36⟩ := h.val 0 36 (by kernel_rfl)
                obtain rfl : v36 = .pointer (some ⟨w.heap.size, 3, none⟩) := f36
                have hbel := h.below
                clear h
                have cx := HC3.out wx hbel
                refine gives_by rfl act.eval rfl ?_
                generalize act.eval = ρ at *
                intro hf hc
                go_simp
                exact ⟨Below.refl _ _, rfl⟩
              · intro act wx h
                have e5 : act.eval (.tmp 5) = .int .i64 (T : Int) := h.old 5 (by kernel_rfl)
                have hbel := h.below
                clear h
                refine gives_by rfl act.eval rfl ?_
                generalize act.eval = ρ at *
                intro hf hc
                go_simp
                exact ⟨Below.refl _ _, rfl⟩
              · intro act wx h
                obtain ⟨v37, e37, f37⟩ := h.val 1 37 (by kernel_rfl)
                obtain rfl : v37 = .slice a xs.length c := f37
                obtain ⟨v38, e38, f38⟩ := h.val 2 38 (by kernel_rfl)
                obtain rfl : v38 = .int .i64 (T : Int) := f38
                have hbel := h.below
                clear h
                refine gives_by rfl act.eval rfl ?_
                generalize act.eval = ρ at *
                intro hf hc
                go_simp
                exact load_call wr wx _ _ _ xs T HSX.out (by omega) (by omega) hbel _ (fun _ => rfl)
              · intro act wx h
                have e3 : act.eval (.tmp 3) = .pointer (some ⟨w.heap.size + 1, 0, none⟩) := h.old 3 (by kernel_rfl)
                have hbel := h.below
                clear h
                refine gives_by rfl act.eval rfl ?_
                generalize act.eval = ρ at *
                intro hf hc
                go_simp
                exact ⟨Below.refl _ _, rfl⟩
              · intro act wx h
                obtain ⟨v40, e40, f40⟩ := h.val 4 40 (by kernel_rfl)
                obtain rfl : v40 = .pointer (some ⟨w.heap.size + 1, 3, none⟩) := f40
                have hbel := h.below
                clear h
                have cx := HD3.out wx hbel
                refine gives_by rfl act.eval rfl ?_
                generalize act.eval = ρ at *
                intro hf hc
                go_simp
                exact ⟨Below.refl _ _, rfl⟩
              · intro act wx h
                have e5 : act.eval (.tmp 5) = .int .i64 (T : Int) := h.old 5 (by kernel_rfl)
                have hbel := h.below
                clear h
                refine gives_by rfl act.eval rfl ?_
                generalize act.eval = ρ at *
                intro hf hc
                go_simp
                exact ⟨Below.refl _ _, rfl⟩
              · intro act wx h
                obtain ⟨v41, e41, f41⟩ := h.val 5 41 (by kernel_rfl)
                obtain rfl : v41 = .slice a' ys.length c' := f41
                obtain ⟨v42, e42, f42⟩ := h.val 6 42 (by kernel_rfl)
                obtain rfl : v42 = .int .i64 (T : Int) := f42
                have hbel := h.below
                clear h
                refine gives_by rfl act.eval rfl ?_
                generalize act.eval = ρ at *
                intro hf hc
                go_simp
                exact load_call wr wx _ _ _ ys T HSY.out (by omega) (by omega) hbel _ (fun _ => rfl)
              · intro act wx h
                obtain ⟨v39, e39, f39⟩ := h.val 3 39 (by kernel_rfl)
                obtain rfl : v39 = .agg (pc (loadS xs T)).toArray := f39
                obtain ⟨v43, e43, f43⟩ := h.val 7 43 (by kernel_rfl)
                obtain rfl : v43 = .agg (pc (loadS ys T)).toArray := f43
                have hbel := h.below
                clear h
                exact gives_of_run rfl (exec_neq_agg 52 52 (.tmp 39) (.tmp 43) rfl _ _ e39 e43 guardLoad _ (HNE.out wx)) ⟨Below.refl _ _, rfl⟩
            · intro vals w3 hb3 hv
              have hv8 : vals 8 = .bool (!decide (loadS xs T = loadS ys T)) := hv 8 44 (by kernel_rfl)
              clear hv
              have HB3 : Hid (Below W.heap.size W w3) := Hb.out.trans (hb3.mono Hb.out.size)
              by_cases hse : loadS xs T = loadS ys T
              · rw [decide_eq_true hse] at hv8
                simp only [putAll, Act.put, List.setIfInBounds_toArray, List.set_cons_zero, List.set_cons_succ, hv8, Nat.zero_add, Nat.reduceAdd, Bool.not_true]
                have HSE := hide (HLS.out.1 hse)
                clear hse hv8 hb3
                go_wp2
                go_roundg g
                case measure => omega
                case rel =>
                  refine ⟨j + 1, by omega, by have := HT.out; go_num, HB3.out, fun i hi => ?_⟩
                  rcases Nat.lt_or_ge i T with h | h
                  · exact HAL.out i h
                  · have := HSE.out (i - T) (by have := HT.out; omega)
                    rwa [show T + (i - T) = i by omega] at this
              · rw [decide_eq_false hse] at hv8
                simp only [putAll, Act.put, List.setIfInBounds_toArray, List.set_cons_zero, List.set_cons_succ, hv8, Nat.zero_add, Nat.reduceAdd, Bool.not_false]
                have HSE : Hid (¬ sameD xs ys) := fun h => hse (HLS.out.2 (fun i _ => h (T + i)))
                clear hse hv8 hb3
                go_wp2
                go_ret
                exact ⟨ret_bool (HDD.out.2 HSE.out).symm, HB.out.trans (HB3.out.mono HB.out.size)⟩
      · have es : sameB k p e xs k' p' e' ys = false := by unfold sameB; simp [h3]
        rw [es]
        have h3i : ((e : Int) == (e' : Int)) = false := by simp; omega
        have h3j : ((e : Int) != (e' : Int)) = true := by simp; omega
        subst h1 h2
        clear es hA hB hx hy
        go_enter Tryd.func15, Tryd.ntmps15
        go_wp2
        go_ret
        exact ⟨rfl, HB.out⟩
    · have es : sameB k p e xs k' p' e' ys = false := by unfold sameB; simp [h2]
      rw [es]
      have h2i : (p == p') = false := by simpa using h2
      have h2j : (p != p') = true := by simpa using h2
      subst h1
      clear es hA hB hx hy
      go_enter Tryd.func15, Tryd.ntmps15
      go_wp2
      go_ret
      exact ⟨rfl, HB.out⟩
  · have es : sameB k p e xs k' p' e' ys = false := by unfold sameB; simp [h1]
    rw [es]
    have h1i : (k == k') = false := by simpa using h1
    have h1j : (k != k') = true := by simpa using h1
    clear es hA hB hx hy
    go_enter Tryd.func15, Tryd.ntmps15
    go_wp2
    go_ret
    exact ⟨rfl, HB.out⟩

end Go.Proofs.YtlnedhbeciepdaaDoor
