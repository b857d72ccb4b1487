/- Contract of the document's own device: Write. -/
import Derived.Test.YtoplhehcjgldeaaGreatJDRef
namespace Go.Proofs.YtoplhehcjgldeaaGreat
open Go.RowKit
set_option linter.unusedVariables false
set_option maxRecDepth 100000

theorem exec_build2 {P : Program} {o : Oper} {a : Act} {w w' : World} (t : TypeId) (i j : Nat) (x y : Operand) (ho : o.op = .build t #[(i, x), (j, y)]) (v v' u : Value) (hx : a.eval x = v) (hy : a.eval y = v')
    (hr : (Instr.build t #[(i, v), (j, v')]).run P w = .ok u w') : (execOp a.eval o).run P w = .ok (.value u) w' := by
  unfold execOp
  simp only [ho, List.map_toArray, List.map_cons, List.map_nil, hx, hy, Sem.run_bind, hr, Result.andThen_ok, Sem.run_pure]
theorem buildRW (p : Int) (ao : Option Addr) (n cap : Nat) (w : World) : (Instr.build 107 #[(0, .int .i64 p), (1, .slice ao n cap)]).run Tryz.prog w = .ok (.agg [Value.int .i64 p, .slice ao n cap].toArray) w := by kernel_rfl
theorem infoRW : (Tryz.prog.info? 107).map (fun i => (i.zero, i.size, i.bytes)) = some (some (.agg #[.int .i64 0, .slice none 0 0]), 2, 32) := by kernel_rfl

def isJ (base : Nat) (zs : List Int) : Value → World → Prop := fun v w => w.ownsRow base 5 1 v 256 (pc zs)
theorem stS_isJ (S : Nat → Prop) (base : Nat) (zs : List Int) (hS : ∀ k, S k → k < base) : StS S (isJ base zs) := fun v w w' ho h => ownsRow_only h ho (fun k hk hs => by have := (h.lt k hk).1; have := hS k hs; omega)
def isG (base p : Nat) (zs : List Int) : Value → World → Prop := fun v w => ∃ ao cap, v = .agg [Value.int .i64 p, .slice ao 256 cap].toArray ∧ isJ base zs (.slice ao 256 cap) w
theorem stS_isG (S : Nat → Prop) (base p : Nat) (zs : List Int) (hS : ∀ k, S k → k < base) : StS S (isG base p zs) := by
  rintro v w w' ho ⟨ao, cap, rfl, h⟩
  exact ⟨ao, cap, rfl, stS_isJ S base zs hS _ _ _ ho h⟩
def isBW (base p : Nat) (zs : List Int) : Value → World → Prop := fun v w => ∃ g ao cap, v = .slice (some ⟨g, 0, none⟩) 1 1 ∧ Blk w g 107 [.int .i64 p, .slice ao 256 cap] ∧ base ≤ g ∧ isJ base zs (.slice ao 256 cap) w
theorem stS_isBW (S : Nat → Prop) (base p : Nat) (zs : List Int) (hS : ∀ k, S k → k < base) : StS S (isBW base p zs) := by
  rintro v w w' ho ⟨g, ao, cap, rfl, hB, hg, h⟩
  exact ⟨g, ao, cap, rfl, hB.only ho (fun hs => by have := hS g hs; omega), hg, stS_isJ S base zs hS _ _ _ ho h⟩
def isAW (base : Nat) (old : Option Nat) (ws : List (Nat × List Int)) (wvs : List Value) (zs : List Int) : Value → World → Prop := fun v w => ∃ u ao cap, v = .slice ao ws.length cap ∧ w.ownsRow 0 107 2 (.slice ao ws.length cap) ws.length (flatR ws (wvs ++ [u])) ∧ isJ base zs u w ∧ ∀ k, (Value.slice ao ws.length cap).ownBlock = some k → old = some k ∨ base ≤ k
theorem stS_isAW (base : Nat) (old : Option Nat) (ws : List (Nat × List Int)) (wvs : List Value) (zs : List Int) : StS (fun _ => False) (isAW base old ws wvs zs) := by
  rintro v w w' ho ⟨u, ao, cap, rfl, h1, h2, h3⟩
  exact ⟨u, ao, cap, rfl, ownsRow_only h1 ho (fun _ _ h => h), stS_isJ _ base zs (fun _ h => h.elim) _ _ _ ho h2, h3⟩

theorem refWrite_arg (w : World) (r : Nat) (G : Nat → Prop) (d : Dv) (p : Int) (v : Value) (zs : List Int) (h : Ref w r G d) (hS : Sl w v zs) (hp : ¬ ((0 ≤ p ∧ p < d.st.length) ∧ zs.length = 256)) :
    Calls Tryz.prog 68 #[dp r, .int .i64 p, v] w fun e w' => e = .returned (.int .i64 1) ∧ w' = w := by
  have hI := refIs_any w r G d p h
  obtain ⟨ao, cp, rfl⟩ := sl_form' hS
  clear h hS
  by_cases h1 : 0 ≤ p ∧ p < d.st.length
  · rw [decide_eq_true h1] at hI
    have h2 : ((zs.length : Int) == 256) = false := by
      have : zs.length ≠ 256 := fun e => hp ⟨h1, e⟩
      simp; omega
    have HI := hide hI
    clear hI h1 hp
    go_enter Tryz.func68, Tryz.ntmps68
    go_wp2_with (go_at_call 49; refine HI.out.mono ?_; rintro e w1 ⟨rfl, hw⟩; subst w1; clear HI)
    go_ret
    exact ⟨rfl, rfl⟩
  · rw [decide_eq_false h1] at hI
    have HI := hide hI
    clear hI h1 hp
    go_enter Tryz.func68, Tryz.ntmps68
    go_wp2_with (go_at_call 49; refine HI.out.mono ?_; rintro e w1 ⟨rfl, hw⟩; subst w1; clear HI)
    go_ret
    exact ⟨rfl, rfl⟩
theorem refWrite_off (w : World) (r : Nat) (G : Nat → Prop) (d : Dv) (p : Int) (v : Value) (zs : List Int) (h : Ref w r G d) (hS : Sl w v zs) (hp : 0 ≤ p ∧ p < d.st.length) (hzl : zs.length = 256) (hoff : d.off = true) :
    Calls Tryz.prog 68 #[dp r, .int .i64 p, v] w fun e w' => e = .returned (.int .i64 5) ∧ w' = w := by
  have hI := refIs_any w r G d p h
  obtain ⟨ao, cp, rfl⟩ := sl_form' hS
  rw [decide_eq_true hp] at hI
  rw [hzl]
  have HI := hide hI
  obtain ⟨sv, wv, svs, wvs, h⟩ := h
  have c3 := h.blk.c3
  rw [hoff] at c3
  clear hI h hS hp hzl hoff
  go_enter Tryz.func68, Tryz.ntmps68
  go_wp2_with (go_at_call 49; refine HI.out.mono ?_; rintro e w1 ⟨rfl, hw⟩; subst w1; clear HI)
  go_ret
  exact ⟨rfl, rfl⟩

set_option maxHeartbeats 2000000 in
theorem refWrite_ok (w : World) (r : Nat) (G : Nat → Prop) (d : Dv) (p : Nat) (v : Value) (zs : List Int) (h : Ref w r G d) (hp : p < d.st.length) (hon : d.off = false) (hS : Sl w v zs) (hv : ∀ k, v.ownBlock = some k → ¬ G k) (hzl : zs.length = 256) (hwl : d.ws.length < 1000000) (hdl : d.done < 1000000000) :
    Calls Tryz.prog 68 #[dp r, .int .i64 p, v] w fun e w' => e = .returned (.int .i64 (spendE d)) ∧ Ref w' r (fun k => G k ∨ w.heap.size ≤ k) (writeD d p zs) ∧ Only G w w' := by
  have hI := refIs_any w r G d p h
  rw [decide_eq_true ⟨by omega, by omega⟩] at hI
  have HI := hide hI
  have hbz := hS.bytes
  have HS := hide hS
  obtain ⟨ao, cp, rfl⟩ := sl_form' hS
  obtain ⟨sv, wv, svs, wvs, h⟩ := h
  obtain ⟨aw, cw, rfl⟩ := own_form' h.ws
  have c1 := h.blk.c1
  have c3 := h.blk.c3
  rw [hon] at c3
  have hrl := Blk.lt h.blk
  have HX := hide h
  have HLt : Hid (∀ k, (Value.slice aw d.ws.length cw).ownBlock = some k → k < w.heap.size) := fun k hk => (h.ws.lt k hk).2
  have hnr : ¬ (Value.slice aw d.ws.length cw).ownBlock = some r := fun hk => h.wv_r hk rfl
  have HC1 : Hid (∀ wx, Only (fun k => (Value.slice aw d.ws.length cw).ownBlock = some k) w wx → wx.cell? ⟨r, 1, none⟩ = some (.slice aw d.ws.length cw)) := fun wx ho => Blk.cell (Blk.only h.blk ho hnr) 1
  have HF1 : Hid (∀ wx, Only (fun k => (Value.slice aw d.ws.length cw).ownBlock = some k) w wx → wx.frozen? ⟨r, 1, none⟩ = false) := fun wx ho => Blk.frozen (Blk.only h.blk ho hnr) 1
  have HSr : Hid (∀ wx, Only (fun k => (Value.slice aw d.ws.length cw).ownBlock = some k) w wx → Sl wx (.slice ao zs.length cp) zs) := fun wx ho => hS.only ho (fun k hk hs => hv k hk (h.fw k hs))
  have HJ : Hid (∀ wx, Sl wx (.slice ao zs.length cp) zs → Calls Tryz.prog 50 #[.slice none 0 0, .slice ao zs.length cp] wx fun e w' => ∃ u, e = .returned u ∧ isJ wx.heap.size zs u w' ∧ Below wx.heap.size wx w') := fun wx hs => by
    refine (refJoin_any wx _ _ [] zs (Sl.nil wx) hs (by rw [hzl]; simp)).mono ?_
    rintro e w' ⟨u, rfl, ho, _, hb, _⟩
    rw [List.nil_append, hzl] at ho
    exact ⟨u, rfl, ho, hb⟩
  have HBO : Hid (∀ wx ao' cap', (Instr.buildSlice 43 1 #[(0, .agg [Value.int .i64 p, .slice ao' 256 cap'].toArray)]).run Tryz.prog wx = .ok (.slice (some ⟨wx.heap.size, 0, none⟩) 1 1) (wx.alloc (.cells [Value.int .i64 p, .slice ao' 256 cap'].toArray 107))) := by
    intro wx ao' cap'
    obtain ⟨i1, hi, hz0, hz1, hz2⟩ := info_parts infoRW
    exact run_build_one wx 43 107 i1 _ [.int .i64 p, .slice ao' 256 cap'] Tryz.underlying43 hi hz0 hz1 (by simp) (by simp)
  have HAP : Hid (∀ wx g ao' cap', Only (fun k => False) w wx → Blk wx g 107 [.int .i64 p, .slice ao' 256 cap'] → w.heap.size ≤ g → isJ w.heap.size zs (.slice ao' 256 cap') wx → ∃ u wy, (Builtin.append_ #[43, 43] 43 #[.slice aw d.ws.length cw, .slice (some ⟨g, 0, none⟩) 1 1]).run Tryz.prog wx = .ok u wy ∧ Only (fun k => (Value.slice aw d.ws.length cw).ownBlock = some k) wx wy ∧ isAW w.heap.size ((Value.slice aw d.ws.length cw).ownBlock) (d.ws ++ [(p, zs)]) wvs zs u wy) := by
    intro wx g ao' cap' ho hB hg hJ
    obtain ⟨i1, hi, hz0, hz1, hz2⟩ := info_parts infoRW
    have hown := ownsRow_only h.ws ho (fun _ _ h => h)
    obtain ⟨u, wy, hr, h1, h2, _, h4⟩ := run_append_own_at (P := Tryz.prog) wx 0 43 43 107 i1 _ 2 32 Tryz.underlying43 hi hz0 hz1 hz2 rfl (by decide) _ _ _ hown ⟨g, 0, none⟩ 1 1 [.int .i64 p, .slice ao' 256 cap'] rfl (fun j v hv => by rw [Addr.add_mid, Nat.zero_add, hB.cell]; exact hv) (fun x hx => by simp at hx; rcases hx with rfl | rfl <;> rfl) (by unfold maxLen; omega) (by omega) (Nat.zero_le _)
    have hoa : Only (fun k => (Value.slice aw d.ws.length cw).ownBlock = some k) wx wy := (Only.refl _ wx).grown h2 (fun k hk _ => hk)
    have hl1 : (d.ws ++ [(p, zs)]).length = d.ws.length + 1 := by simp
    obtain ⟨au, cu, rfl⟩ := own_form' h1
    refine ⟨_, wy, hr, hoa, .slice ao' 256 cap', au, cu, by rw [hl1], ?_, stS_isJ _ _ zs (fun k hk => HLt.out k hk) _ _ _ hoa hJ, fun k hk => ?_⟩
    · rw [hl1, flatR_snoc _ _ _ _ h.wl]; exact h1
    · rw [hl1] at hk
      rcases h4 with h4 | h4
      · left; rw [← h4]; exact hk
      · right; rw [h4] at hk; cases hk; exact ho.size
  have hspend := spendE
  rw [hzl] at HJ HSr HS ⊢
  clear h hS hI hspend hv
  go_enter Tryz.func68, Tryz.ntmps68
  go_wp2_with (go_at_call 49; refine HI.out.mono ?_; rintro e w1 ⟨rfl, hw⟩; subst w1; clear HI)
  refine wp_region_only (fun k => (Value.slice aw d.ws.length cw).ownBlock = some k) [isV (.pointer (some ⟨r, 0, none⟩)), isV (.pointer (some ⟨r, 0, none⟩)), isV (.pointer (some ⟨r, 0, none⟩)), isV (.pointer (some ⟨r, 1, none⟩)), isV (.slice aw d.ws.length cw), isV (.int .i64 (p : Int)), isV (.slice ao 256 cp), isJ w.heap.size zs, isG w.heap.size p zs, isBW w.heap.size p zs, isAW w.heap.size ((Value.slice aw d.ws.length cw).ownBlock) (d.ws ++ [(p, zs)]) wvs zs, isV (.pointer (some ⟨r, 0, none⟩)), isV (.pointer (some ⟨r, 1, none⟩))] 10 35 13 (by kernel_rfl) (by kernel_rfl) (by kernel_rfl) (by kernel_rfl) rfl ?_ ?_ ?_
  · repeat (first | exact trivial | refine allStL_isV ?_ | refine ⟨stS_isJ _ _ _ (fun _ h => h.elim), fun _ => stS_isJ _ _ _ (fun k hk => HLt.out k hk), ?_⟩ | refine ⟨stS_isG _ _ _ _ (fun _ h => h.elim), fun _ => stS_isG _ _ _ _ (fun k hk => HLt.out k hk), ?_⟩ | refine ⟨stS_isBW _ _ _ _ (fun _ h => h.elim), fun _ => stS_isBW _ _ _ _ (fun k hk => HLt.out k hk), ?_⟩ | refine ⟨stS_isAW _ _ _ _ _, fun h => absurd rfl h, ?_⟩)
  · refine ⟨?_, ?_, ?_, ?_, ?_, ?_, ?_, ?_, ?_, ?_, ?_, ?_, ?_, trivial⟩
    · intro a wx h
      have e0 : a.eval (.tmp 0) = .pointer (some ⟨r, 0, none⟩) := h.old 0 (by kernel_rfl)
      have hrel := h.rel
      clear h
      refine gives_by rfl a.eval rfl ?_
      generalize a.eval = ρ at *
      intro hf hc
      go_simp
      exact ⟨relM_quiet (by decide) (Only.refl _ _), rfl⟩
    · intro a wx h
      have e0 : a.eval (.tmp 0) = .pointer (some ⟨r, 0, none⟩) := h.old 0 (by kernel_rfl)
      have hrel := h.rel
      clear h
      refine gives_by rfl a.eval rfl ?_
      generalize a.eval = ρ at *
      intro hf hc
      go_simp
      exact ⟨relM_quiet (by decide) (Only.refl _ _), rfl⟩
    · intro a wx h
      obtain ⟨v21, e21, f21⟩ := h.val 1 21 (by kernel_rfl)
      obtain rfl : v21 = .pointer (some ⟨r, 0, none⟩) := f21
      have hrel := h.rel
      clear h
      refine gives_by rfl a.eval rfl ?_
      generalize a.eval = ρ at *
      intro hf hc
      go_simp
      exact ⟨relM_quiet (by decide) (Only.refl _ _), rfl⟩
    · intro a wx h
      obtain ⟨v22, e22, f22⟩ := h.val 2 22 (by kernel_rfl)
      obtain rfl : v22 = .pointer (some ⟨r, 0, none⟩) := f22
      have hrel := h.rel
      clear h
      refine gives_by rfl a.eval rfl ?_
      generalize a.eval = ρ at *
      intro hf hc
      go_simp
      exact ⟨relM_quiet (by decide) (Only.refl _ _), rfl⟩
    · intro a wx h
      obtain ⟨v23, e23, f23⟩ := h.val 3 23 (by kernel_rfl)
      obtain rfl : v23 = .pointer (some ⟨r, 1, none⟩) := f23
      have hrel := h.rel
      clear h
      have c1x := HC1.out wx hrel
      refine gives_by rfl a.eval rfl ?_
      generalize a.eval = ρ at *
      intro hf hc
      go_simp
      exact ⟨relM_quiet (by decide) (Only.refl _ _), rfl⟩
    · intro a wx h
      have e1 : a.eval (.tmp 1) = .int .i64 (p : Int) := h.old 1 (by kernel_rfl)
      have hrel := h.rel
      clear h
      refine gives_by rfl a.eval rfl ?_
      generalize a.eval = ρ at *
      intro hf hc
      go_simp
      exact ⟨relM_quiet (by decide) (Only.refl _ _), rfl⟩
    · intro a wx h
      have e2 : a.eval (.tmp 2) = .slice ao 256 cp := h.old 2 (by kernel_rfl)
      have hrel := h.rel
      clear h
      refine gives_by rfl a.eval rfl ?_
      generalize a.eval = ρ at *
      intro hf hc
      go_simp
      exact ⟨relM_quiet (by decide) (Only.refl _ _), rfl⟩
    · intro a wx h
      obtain ⟨v26, e26, f26⟩ := h.val 6 26 (by kernel_rfl)
      obtain rfl : v26 = .slice ao 256 cp := f26
      have hrel := h.rel
      clear h
      refine gives_by rfl a.eval rfl ?_
      generalize a.eval = ρ at *
      intro hf hc
      go_simp
      refine (HJ.out wx (HSr.out wx hrel)).mono ?_
      rintro e wy ⟨u, rfl, hj, hb⟩
      have hsz := hrel.size
      exact ⟨u, rfl, relM_quiet (by decide) (Only.of_below _ hb), ownsRow_base hj hsz⟩
    · intro a wx h
      obtain ⟨v25, e25, f25⟩ := h.val 5 25 (by kernel_rfl)
      obtain rfl : v25 = .int .i64 (p : Int) := f25
      obtain ⟨v27, e27, f27⟩ := h.val 7 27 (by kernel_rfl)
      obtain hJ : isJ w.heap.size zs v27 wx := f27
      have hrel := h.rel
      clear h
      obtain ⟨ao', cap', rfl⟩ := own_form' f27
      have hJ := f27
      exact gives_of_run rfl (exec_build2 107 0 1 (.tmp 25) (.tmp 27) rfl _ _ _ e25 e27 (buildRW p ao' 256 cap' wx)) ⟨relM_quiet (by decide) (Only.refl _ _), ⟨ao', cap', rfl, hJ⟩⟩
    · intro a wx h
      obtain ⟨v28, e28, f28⟩ := h.val 8 28 (by kernel_rfl)
      obtain ⟨ao', cap', rfl, hJ⟩ := f28
      have hrel := h.rel
      clear h
      exact gives_of_run rfl (exec_buildSlice1 43 1 (.tmp 28) rfl _ _ e28 (HBO.out wx ao' cap')) ⟨relM_quiet (by decide) ((Only.refl _ _).alloc _), ⟨_, ao', cap', rfl, Blk.new wx _ _, hrel.size, ownsRow_only hJ ((Only.refl (fun _ => False) _).alloc _) (fun _ _ h => h)⟩⟩
    · intro a wx h
      obtain ⟨v24, e24, f24⟩ := h.val 4 24 (by kernel_rfl)
      obtain rfl : v24 = .slice aw d.ws.length cw := f24
      obtain ⟨v29, e29, f29⟩ := h.val 9 29 (by kernel_rfl)
      obtain ⟨g, ao', cap', rfl, hB, hg, hJ⟩ := f29
      have hrel := h.rel
      have hq := h.relq rfl
      clear h
      obtain ⟨u, wy, hr, h1, h2⟩ := HAP.out wx g ao' cap' hq hB hg hJ
      exact gives_of_run rfl (exec_append (.tmp 24) (.tmp 29) 43 rfl _ _ e24 e29 u hr) ⟨relM_turn h1, h2⟩
    · intro a wx h
      obtain ⟨v20, e20, f20⟩ := h.val 0 20 (by kernel_rfl)
      obtain rfl : v20 = .pointer (some ⟨r, 0, none⟩) := f20
      have hrel := h.rel
      clear h
      refine gives_by rfl a.eval rfl ?_
      generalize a.eval = ρ at *
      intro hf hc
      go_simp
      exact ⟨relM_quiet (by decide) (Only.refl _ _), rfl⟩
    · intro a wx h
      obtain ⟨v31, e31, f31⟩ := h.val 11 31 (by kernel_rfl)
      obtain rfl : v31 = .pointer (some ⟨r, 0, none⟩) := f31
      have hrel := h.rel
      clear h
      refine gives_by rfl a.eval rfl ?_
      generalize a.eval = ρ at *
      intro hf hc
      go_simp
      exact ⟨relM_quiet (by decide) (Only.refl _ _), rfl⟩
  · intro oL hoL vals w3 ho3 hv
    simp only [List.getElem?_toArray, List.getElem?_cons_succ, List.getElem?_cons_zero, Option.some.injEq] at hoL
    subst hoL
    have hv10 : isAW w.heap.size ((Value.slice aw d.ws.length cw).ownBlock) (d.ws ++ [(p, zs)]) wvs zs (vals 10) w3 := hv 10 30 (by decide) (by kernel_rfl)
    have hv12 : vals 12 = .pointer (some ⟨r, 1, none⟩) := hv 12 32 (by decide) (by kernel_rfl)
    clear hv
    generalize hact : putAll _ vals 0 _ = act
    obtain ⟨u, au, cu, hu, hown3, hJ3, hloc⟩ := hv10
    have k1 := HC1.out w3 ho3
    have k2 := HF1.out w3 ho3
    have hl1 : (d.ws ++ [(p, zs)]).length = d.ws.length + 1 := by simp
    have hX := HX.out
    have hsz := ho3.size
    obtain ⟨N, hN⟩ : ∃ N, N = (d.ws ++ [(p, zs)]).length := ⟨_, rfl⟩
    rw [← hN] at hu hown3 hloc
    have hoS : Only (· = r) w3 (w3.setCell ⟨r, 1, none⟩ (.slice au N cu)) := (Only.refl (· = r) w3).setCell ⟨r, 1, none⟩ _ (fun _ => rfl)
    have hR3 : Ref (w3.setCell ⟨r, 1, none⟩ (.slice au N cu)) r (fun k => G k ∨ w.heap.size ≤ k) { d with ws := d.ws ++ [(p, zs)] } := by
      have hB3 := Blk.set (Blk.only hX.blk ho3 hnr) 1 (.slice au N cu)
      have hrow3 : ∀ (x : Value) (ys : List Int), RowR w G x ys → RowR (w3.setCell ⟨r, 1, none⟩ (.slice au N cu)) (fun k => G k ∨ w.heap.size ≤ k) x ys := fun x ys hx =>
        ⟨ownsRow_only (ownsRow_only hx.1 ho3 (fun k hk hk' => own_apart2 hx.1 hX.ws (by decide) hk hk')) hoS (fun k hk => own_apart hx.1 hX.blk (by decide) hk), fun k hk => .inl (hx.2 k hk)⟩
      refine ⟨sv, .slice au N cu, svs, wvs ++ [u], ⟨hX.ok.pos, hX.ok.few, hX.ok.st, ?_, hX.ok.left⟩, hB3, ?_, ?_, ?_, fun i x hx => hrow3 _ _ (hX.rows i x hx), fun i x hx => ?_, .inl hX.fr, fun k hk => .inl (hX.fs k hk), fun k hk => ?_⟩
      · intro x hx
        rcases List.mem_append.1 hx with hx | hx
        · exact hX.ok.ws x hx
        · simp at hx; subst hx; exact ⟨hp, hzl, hbz⟩
      · exact ownsRow_only (ownsRow_only hX.st ho3 (fun k hk hk' => own_apart2 hX.st hX.ws (by decide) hk hk')) hoS (fun k hk => hX.sv_r hk)
      · show World.ownsRow _ 0 _ 2 _ (d.ws ++ [(p, zs)]).length _
        rw [← hN]
        exact ownsRow_only hown3 hoS (fun k hk => by
          rcases hloc k hk with h | h
          · exact hX.wv_r h
          · omega)
      · show (wvs ++ [u]).length = (d.ws ++ [(p, zs)]).length
        simp [hX.wl]
      · rw [List.getElem?_append] at hx
        have hwl' := hX.wl
        split at hx
        · rename_i hi
          have e : wAt (d.ws ++ [(p, zs)]) i = wAt d.ws i := by
            rw [wAt_lt (by omega : i < d.ws.length), wAt_lt (by simp; omega), List.getElem_append_left]
          show RowR _ _ _ (wAt (d.ws ++ [(p, zs)]) i).2
          rw [e]
          exact hrow3 _ _ (hX.wrs i x hx)
        · rename_i hi
          have hi0 : i - wvs.length = 0 := by
            rcases Nat.eq_zero_or_pos (i - wvs.length) with h | h
            · exact h
            · rw [List.getElem?_eq_none (by simp; omega)] at hx; cases hx
          rw [hi0] at hx
          simp at hx
          subst hx
          have e : wAt (d.ws ++ [(p, zs)]) i = (p, zs) := by
            have : i = d.ws.length := by omega
            subst this
            rw [wAt_lt (by simp)]; simp
          show RowR _ _ _ (wAt (d.ws ++ [(p, zs)]) i).2
          rw [e]
          have hJ4 : (w3.setCell ⟨r, 1, none⟩ (.slice au N cu)).ownsRow w.heap.size 5 1 u 256 (pc zs) := ownsRow_only hJ3 hoS (fun k hk => by have := (hJ3.lt k hk).1; omega)
          exact ⟨ownsRow_base hJ4 (Nat.zero_le _), fun k hk => .inr (hJ4.lt k hk).1⟩
      · rcases hloc k hk with h | h
        · exact .inl (hX.fw k h)
        · exact .inr h
    have hG3 : Only G w (w3.setCell ⟨r, 1, none⟩ (.slice au N cu)) := (ho3.mono (fun k _ hk => hX.fw k hk)).trans hoS (fun k _ e => by rw [e]; exact hX.fr)
    have HGo := hide (refGoes_any _ r _ _ hR3 hdl)
    have HG3 := hide hG3
    have HFr := hide hX.fr
    have hE : spendE d = if d.left = some 0 then 5 else 0 := by
      unfold spendE
      cases d.left with
      | none => rfl
      | some n => cases n <;> simp
    have HE := hide hE
    have e2 : ({ d with ws := d.ws ++ [(p, zs)] } : Dv).left = d.left := rfl
    rw [e2] at HGo
    have HW : Hid (spendD { d with ws := d.ws ++ [(p, zs)] } = writeD d p zs) := rfl
    clear hX hR3 hG3 hoS hown3 hJ3 hloc hsz hE e2 hl1 hN
    subst hact
    simp only [List.dropLast, putAll, Act.put, List.setIfInBounds_toArray, List.set_cons_zero, List.set_cons_succ, hv12, hu]
    refine gives_of_skip rfl (w' := w3.setCell ⟨r, 1, none⟩ (.slice au N cu)) (by go_simp) ?_
    clear hv12 hu k1 k2 ho3
    by_cases h0 : d.left = some 0
    · rw [decide_eq_true h0] at HGo
      have H0 : Hid (spendE d = 5) := by show _ = _; rw [HE.out, if_pos h0]
      clear h0
      go_wp2_with (go_at_call 72; refine HGo.out.mono ?_; rintro e w4 ⟨rfl, hd4, ho4⟩; clear HGo)
      go_ret
      exact ⟨by rw [H0.out]; rfl, hd4, HG3.out.trans ho4 (fun k _ e => by rw [e]; exact HFr.out)⟩
    · rw [decide_eq_false h0] at HGo
      have H0 : Hid (spendE d = 0) := by show _ = _; rw [HE.out, if_neg h0]
      clear h0
      go_wp2_with (go_at_call 72; refine HGo.out.mono ?_; rintro e w4 ⟨rfl, hd4, ho4⟩; clear HGo)
      go_ret
      exact ⟨by rw [H0.out]; rfl, hd4, HG3.out.trans ho4 (fun k _ e => by rw [e]; exact HFr.out)⟩

end Go.Proofs.YtoplhehcjgldeaaGreat
