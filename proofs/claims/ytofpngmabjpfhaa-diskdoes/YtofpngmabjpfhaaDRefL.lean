/- Contract of the document's own device: Load. -/
import Derived.Test.YtofpngmabjpfhaaDRefC
namespace Go.Proofs.Ytofpngmabjpfhaa
open Go.RowKit
set_option linter.unusedVariables false

theorem exec_slice_lh {P : Program} {o : Oper} {a : Act} {w : World} (t : TypeId) (hu : P.underlying t = some (.slice (P.elem t))) (x y z : Operand) (ho : o.op = .slice t x (some y) (some z) none) (v u u' r : Value) (hx : a.eval x = v) (hy : a.eval y = u) (hz : a.eval z = u')
    (hr : (Instr.slice t v (some u) (some u') none).run P w = .ok r w) : (execOp a.eval o).run P w = .ok (.value r) w := by
  unfold execOp
  simp only [ho, hx, hy, hz, Option.map_some, Option.map_none, Sem.run_bind, run_sliceAt_slice w t v _ _ _ hu, hr, Result.andThen_ok, Sem.run_pure]

theorem refLoad_arg (w : World) (r : Nat) (G : Nat → Prop) (d : Dv) (v : Value) (zs : List Int) (h : Ref w r G d) (hS : Sl w v zs) (hl : zs.length ≠ d.st.length * 256) :
    Calls Try.prog 37 #[dp r, v] w fun e w' => e = .returned (.int .i64 1) ∧ w' = w := by
  obtain ⟨sv, wv, svs, wvs, h⟩ := h
  obtain ⟨asv, csv, rfl⟩ := own_form' h.st
  obtain ⟨ao, cp, rfl⟩ := sl_form' hS
  have c0 := h.blk.c0
  have hfew := h.ok.few
  obtain ⟨N, hN⟩ : ∃ N, N = d.st.length * 256 := ⟨_, rfl⟩
  have hNi : 256 * (d.st.length : Int) = (N : Int) := by omega
  have hNw : IntKind.i64.wrap (N : Int) = (N : Int) := IntWalk.i64_in _ (by omega)
  have hne : ((zs.length : Int) == (N : Int)) = false := by simp; omega
  clear h hS hl hN
  go_enter Try.func37, Try.ntmps37
  go_wp2
  go_ret
  exact ⟨rfl, rfl⟩

set_option maxHeartbeats 4000000 in
theorem refLoad_ok (w : World) (r : Nat) (G : Nat → Prop) (d : Dv) (v : Value) (zs : List Int) (h : Ref w r G d) (hS : Sl w v zs) (hl : zs.length = d.st.length * 256) (hv : ∀ k, v.ownBlock = some k → ¬ G k) :
    Calls Try.prog 37 #[dp r, v] w fun e w' => e = .returned (.int .i64 0) ∧ Ref w' r (fun k => G k ∨ w.heap.size ≤ k) (loadD d zs) ∧ Only G w w' := by
  obtain ⟨sv, wv, svs, wvs, h⟩ := h
  obtain ⟨asv, csv, rfl⟩ := own_form' h.st
  rcases own_form h.st with ⟨_, h0⟩ | ⟨sg, c', hsg⟩
  · have := h.ok.pos; omega
  obtain ⟨rfl, rfl⟩ : asv = some ⟨sg, 0, none⟩ ∧ csv = c' := by simpa using hsg
  have hcs : d.st.length ≤ csv ∧ csv ≤ 9223372036854775807 := own_len h.st
  obtain ⟨ao, cp, rfl⟩ := sl_form' hS
  have c0w := h.blk.c0
  have hfew := h.ok.few
  obtain ⟨N, hN⟩ : ∃ N, N = d.st.length * 256 := ⟨_, rfl⟩
  have hNi : 256 * (d.st.length : Int) = (N : Int) := by omega
  have hNw : IntKind.i64.wrap (N : Int) = (N : Int) := IntWalk.i64_in _ (by omega)
  have hzN : zs.length = N := by omega
  have HS := hide hS
  have HV := hide hv
  have HRG := hide h.fr
  have HSG : Hid (G sg) := h.fs sg rfl
  have HL := hide hl
  have HX : Hid (RefAt w r (fun k => G k ∨ w.heap.size ≤ k) { d with st := loadK d.st zs 0 } (.slice (some ⟨sg, 0, none⟩) d.st.length csv) wv svs wvs) := h.mono (fun k _ h => .inl h)
  have HOk := hide h.ok
  rw [hzN] at HS HV ⊢
  have HzN := hide hzN
  clear h hsg hS hv hl hN hzN
  go_enter Try.func37, Try.ntmps37
  go_wp2
  clear c0w
  go_loopg [5] d.st.length (fun g i wr => ∃ (k : Nat) (svs : List Value), g + k = d.st.length ∧ i = .int .i64 k ∧ RefAt wr r (fun k => G k ∨ w.heap.size ≤ k) { d with st := loadK d.st zs k } (.slice (some ⟨sg, 0, none⟩) d.st.length csv) wv svs wvs ∧ Only G w wr)
  case atStart => exact ⟨0, svs, by omega, rfl, HX.out, Only.refl _ _⟩
  case round =>
    obtain ⟨k, svs', hk, rfl, hr, ho⟩ := hrel
    have HR := hide hr
    have HO := hide ho
    have c0 := hr.blk.c0
    have hsz := ho.size
    cases gk with
    | zero =>
      obtain rfl : k = d.st.length := by omega
      have f1 := Blk.frozen hr.blk 1
      have f2 := Blk.frozen hr.blk 2
      have f3 := Blk.frozen hr.blk 3
      obtain ⟨aw, cw, rfl⟩ := own_form' hr.ws
      have c1 := hr.blk.c1
      have c2 := hr.blk.c2
      have c3 := hr.blk.c3
      clear hr ho HX
      go_wp2
      go_ret
      have ho2 : Only (· = r) wr (((wr.setCell ⟨r, 1, none⟩ (.slice none 0 0)).setCell ⟨r, 3, none⟩ (.bool false)).setCell ⟨r, 2, none⟩ (.int .i64 (-1))) := (only_set2 wr r 1 3 _ _).setCell ⟨r, 2, none⟩ _ (fun _ => rfl)
      refine ⟨rfl, ?_, HO.out.trans ho2 (fun k _ e => by rw [e]; exact HRG.out)⟩
      exact HR.out.empty (d' := loadD d zs) rfl rfl ⟨HR.out.ok.pos, HR.out.ok.few, HR.out.ok.st, (fun x hx => by cases hx), (fun n hn => by cases hn)⟩ (((Blk.set HR.out.blk 1 _).set 3 _).set 2 _) ho2
    | succ g =>
      have hkl : k < d.st.length := by omega
      have hki : (k : Int) < (d.st.length : Int) := by omega
      have hstl : (loadK d.st zs k).length = d.st.length := loadK_len _ _ k
      have hpg := pageOf_ok HL.out hkl HS.out.bytes
      have e1 : loadK d.st zs (k + 1) = (loadK d.st zs k).set k (pageOf zs k) := rfl
      obtain ⟨old, hold, hrowS, hget⟩ := hr.sget hstl hkl
      obtain ⟨ug, uc, rfl, huc1, huc2⟩ := hrowS.form
      obtain ⟨K, hK⟩ : ∃ K, K = 256 * k := ⟨_, rfl⟩
      obtain ⟨K2, hK2⟩ : ∃ K2, K2 = K + 256 := ⟨_, rfl⟩
      have hKi : 256 * (k : Int) = (K : Int) := by omega
      have hK2i : (K : Int) + 256 = (K2 : Int) := by omega
      have hKw : IntKind.i64.wrap (K : Int) = (K : Int) := IntWalk.i64_in _ (by omega)
      have hK2w : IntKind.i64.wrap (K2 : Int) = (K2 : Int) := IntWalk.i64_in _ (by omega)
      have hSr : Sl wr (.slice ao zs.length cp) zs := by rw [HzN.out]; exact HS.out.only ho (fun j hj hg => HV.out j hj hg)
      have cut := cut_lh wr ao zs cp K K2 hSr (by omega) (by rw [HzN.out]; omega)
      have ep : (zs.take K2).drop K = pageOf zs k := by
        unfold pageOf
        rw [List.drop_take, hK2, Nat.add_sub_cancel_left, hK, Nat.mul_comm]
      rw [ep, hpg.1, HzN.out] at cut
      obtain ⟨a1, k1, cx1, cx2⟩ := cut
      rw [HzN.out] at hSr
      have HJ : Hid (∀ wx, Only (fun _ => False) wr wx → Calls Try.prog 36 #[.slice none 0 0, .slice a1 256 k1] wx fun e w' => ∃ u, e = .returned u ∧ isJ wr.heap.size (pageOf zs k) u w' ∧ Below wx.heap.size wx w') := fun wx hx => by
        refine (refJoin_any wx _ _ [] (pageOf zs k) (Sl.nil wx) (cx2 wx (hSr.only hx (fun _ _ h => h))) (by rw [hpg.1]; simp)).mono ?_
        rintro e w' ⟨u, rfl, ho', _, hb, _⟩
        rw [List.nil_append, hpg.1] at ho'
        exact ⟨u, rfl, ownsRow_base ho' hx.size, hb⟩
      have HP : Hid (∀ w3 au cu, Only (fun _ => False) wr w3 → isJ wr.heap.size (pageOf zs k) (.slice au 256 cu) w3 → (∃ svs2, RefAt (w3.setCell ⟨sg, k, none⟩ (.slice au 256 cu)) r (fun k => G k ∨ w.heap.size ≤ k) { d with st := loadK d.st zs (k + 1) } (.slice (some ⟨sg, 0, none⟩) d.st.length csv) wv svs2 wvs) ∧ Only G w (w3.setCell ⟨sg, k, none⟩ (.slice au 256 cu)) ∧ w3.cell? ⟨sg, k, none⟩ = some (.slice (some ⟨ug, 0, none⟩) 256 uc) ∧ w3.frozen? ⟨sg, k, none⟩ = false) := fun w3 au cu h3 hj => by
        have hrw : RowR w3 (fun k => G k ∨ w.heap.size ≤ k) (.slice au 256 cu) (pageOf zs k) := ⟨ownsRow_base hj (Nat.zero_le _), fun k hk => .inr (by have := (hj.lt k hk).1; omega)⟩
        have hq := hr.put2 hstl hkl h3 hrw hpg
        refine ⟨⟨_, (?_ : RefAt _ _ _ _ _ _ (svs'.set k (.slice au 256 cu)) _)⟩, (ho.trans h3 (fun _ _ h => h.elim)).trans hq.2 (fun j _ e => by rw [e]; exact HSG.out), hget w3 h3⟩
        rw [e1]
        exact hq.1
      have HC : Hid (∀ wx, Only (fun _ => False) wr wx → wx.cell? ⟨r, 0, none⟩ = some (.slice (some ⟨sg, 0, none⟩) d.st.length csv)) := fun wx hx => (Blk.only hr.blk hx (fun h => h)).cell 0
      have HCX := hide cx1
      clear hr ho hpg hrowS hold hget hstl HR HO HX e1 cx1 cx2 ep hSr hK hK2
      go_wp2
      refine wp_region_only (fun _ => False) [isV (.pointer (some ⟨r, 0, none⟩)), isV (.pointer (some ⟨r, 0, none⟩)), isV (.pointer (some ⟨r, 0, none⟩)), isV (.slice (some ⟨sg, 0, none⟩) d.st.length csv), isV (.int .i64 (k : Int)), isV (.slice ao N cp), isV (.int .i64 (k : Int)), isV (.int .i64 (K : Int)), isV (.int .i64 (k : Int)), isV (.int .i64 (K : Int)), isV (.int .i64 (K2 : Int)), isV (.slice a1 256 k1), isJ wr.heap.size (pageOf zs k), isV (.pointer (some ⟨sg, k, none⟩))] 99 47 14 (by kernel_rfl) (by kernel_rfl) (by kernel_rfl) (by kernel_rfl) rfl ?_ ?_ ?_
      · repeat (first | exact trivial | refine allStL_isV ?_ | refine ⟨stS_isJ _ _ _ (fun _ h => h.elim), fun _ => stS_isJ _ _ _ (fun _ h => h.elim), ?_⟩)
      · refine ⟨?_, ?_, ?_, ?_, ?_, ?_, ?_, ?_, ?_, ?_, ?_, ?_, ?_, ?_, trivial⟩
        · intro a wx h
          have e0 : a.eval (.tmp 0) = .pointer (some ⟨r, 0, none⟩) := h.old 0 (by kernel_rfl)
          have hrel := h.rel
          clear h
          refine gives_by rfl a.eval rfl ?_
          generalize a.eval = ρ at *
          intro hf hc
          go_simp
          exact ⟨relM_quiet (by decide) (Only.refl _ _), rfl⟩
        · intro a wx h
          obtain ⟨v24, e24, f24⟩ := h.val 0 24 (by kernel_rfl)
          obtain rfl : v24 = .pointer (some ⟨r, 0, none⟩) := f24
          have hrel := h.rel
          clear h
          refine gives_by rfl a.eval rfl ?_
          generalize a.eval = ρ at *
          intro hf hc
          go_simp
          exact ⟨relM_quiet (by decide) (Only.refl _ _), rfl⟩
        · intro a wx h
          obtain ⟨v25, e25, f25⟩ := h.val 1 25 (by kernel_rfl)
          obtain rfl : v25 = .pointer (some ⟨r, 0, none⟩) := f25
          have hrel := h.rel
          clear h
          refine gives_by rfl a.eval rfl ?_
          generalize a.eval = ρ at *
          intro hf hc
          go_simp
          exact ⟨relM_quiet (by decide) (Only.refl _ _), rfl⟩
        · intro a wx h
          obtain ⟨v26, e26, f26⟩ := h.val 2 26 (by kernel_rfl)
          obtain rfl : v26 = .pointer (some ⟨r, 0, none⟩) := f26
          have hrel := h.rel
          clear h
          have cx := HC.out wx hrel
          refine gives_by rfl a.eval rfl ?_
          generalize a.eval = ρ at *
          intro hf hc
          go_simp
          exact ⟨relM_quiet (by decide) (Only.refl _ _), rfl⟩
        · intro a wx h
          have e5 : a.eval (.tmp 5) = .int .i64 (k : Int) := h.old 5 (by kernel_rfl)
          have hrel := h.rel
          clear h
          refine gives_by rfl a.eval rfl ?_
          generalize a.eval = ρ at *
          intro hf hc
          go_simp
          exact ⟨relM_quiet (by decide) (Only.refl _ _), rfl⟩
        · intro a wx h
          have e1 : a.eval (.tmp 1) = .slice ao N cp := h.old 1 (by kernel_rfl)
          have hrel := h.rel
          clear h
          refine gives_by rfl a.eval rfl ?_
          generalize a.eval = ρ at *
          intro hf hc
          go_simp
          exact ⟨relM_quiet (by decide) (Only.refl _ _), rfl⟩
        · intro a wx h
          have e5 : a.eval (.tmp 5) = .int .i64 (k : Int) := h.old 5 (by kernel_rfl)
          have hrel := h.rel
          clear h
          refine gives_by rfl a.eval rfl ?_
          generalize a.eval = ρ at *
          intro hf hc
          go_simp
          exact ⟨relM_quiet (by decide) (Only.refl _ _), rfl⟩
        · intro a wx h
          obtain ⟨v30, e30, f30⟩ := h.val 6 30 (by kernel_rfl)
          obtain rfl : v30 = .int .i64 (k : Int) := f30
          have hrel := h.rel
          clear h
          refine gives_by rfl a.eval rfl ?_
          generalize a.eval = ρ at *
          intro hf hc
          go_simp
          exact ⟨relM_quiet (by decide) (Only.refl _ _), rfl⟩
        · intro a wx h
          have e5 : a.eval (.tmp 5) = .int .i64 (k : Int) := h.old 5 (by kernel_rfl)
          have hrel := h.rel
          clear h
          refine gives_by rfl a.eval rfl ?_
          generalize a.eval = ρ at *
          intro hf hc
          go_simp
          exact ⟨relM_quiet (by decide) (Only.refl _ _), rfl⟩
        · intro a wx h
          obtain ⟨v32, e32, f32⟩ := h.val 8 32 (by kernel_rfl)
          obtain rfl : v32 = .int .i64 (k : Int) := f32
          have hrel := h.rel
          clear h
          refine gives_by rfl a.eval rfl ?_
          generalize a.eval = ρ at *
          intro hf hc
          go_simp
          exact ⟨relM_quiet (by decide) (Only.refl _ _), rfl⟩
        · intro a wx h
          obtain ⟨v33, e33, f33⟩ := h.val 9 33 (by kernel_rfl)
          obtain rfl : v33 = .int .i64 (K : Int) := f33
          have hrel := h.rel
          clear h
          refine gives_by rfl a.eval rfl ?_
          generalize a.eval = ρ at *
          intro hf hc
          go_simp
          exact ⟨relM_quiet (by decide) (Only.refl _ _), rfl⟩
        · intro a wx h
          obtain ⟨v29, e29, f29⟩ := h.val 5 29 (by kernel_rfl)
          obtain rfl : v29 = .slice ao N cp := f29
          obtain ⟨v31, e31, f31⟩ := h.val 7 31 (by kernel_rfl)
          obtain rfl : v31 = .int .i64 (K : Int) := f31
          obtain ⟨v34, e34, f34⟩ := h.val 10 34 (by kernel_rfl)
          obtain rfl : v34 = .int .i64 (K2 : Int) := f34
          have hrel := h.rel
          clear h
          exact gives_of_run rfl (exec_slice_lh 33 tySl (.tmp 29) (.tmp 31) (.tmp 34) rfl _ _ _ _ e29 e31 e34 (HCX.out wx)) ⟨relM_quiet (by decide) (Only.refl _ _), rfl⟩
        · intro a wx h
          obtain ⟨v35, e35, f35⟩ := h.val 11 35 (by kernel_rfl)
          obtain rfl : v35 = .slice a1 256 k1 := f35
          have hrel := h.rel
          clear h
          refine gives_by rfl a.eval rfl ?_
          generalize a.eval = ρ at *
          intro hf hc
          go_simp
          refine (HJ.out wx hrel).mono ?_
          rintro e wy ⟨u, rfl, hj, hb⟩
          exact ⟨u, rfl, relM_quiet (by decide) (Only.of_below _ hb), hj⟩
        · intro a wx h
          obtain ⟨v27, e27, f27⟩ := h.val 3 27 (by kernel_rfl)
          obtain rfl : v27 = .slice (some ⟨sg, 0, none⟩) d.st.length csv := f27
          obtain ⟨v28, e28, f28⟩ := h.val 4 28 (by kernel_rfl)
          obtain rfl : v28 = .int .i64 (k : Int) := f28
          have hrel := h.rel
          clear h
          refine gives_by rfl a.eval rfl ?_
          generalize a.eval = ρ at *
          intro hf hc
          go_simp
          exact ⟨relM_quiet (by decide) (Only.refl _ _), rfl⟩
      · intro oL hoL vals w3 ho3 hv
        simp only [List.getElem?_toArray, List.getElem?_cons_succ, List.getElem?_cons_zero, Option.some.injEq] at hoL
        subst hoL
        have hv12 : isJ wr.heap.size (pageOf zs k) (vals 12) w3 := hv 12 36 (by decide) (by kernel_rfl)
        have hv13 : vals 13 = .pointer (some ⟨sg, k, none⟩) := hv 13 37 (by decide) (by kernel_rfl)
        clear hv
        generalize hact : putAll _ vals 0 _ = act
        obtain ⟨au, cu, hu⟩ := own_form' hv12
        rw [hu] at hv12
        obtain ⟨p1, p2, k1, k2⟩ := HP.out w3 au cu ho3 hv12
        have HP1 := hide p1
        have HP2 := hide p2
        clear p1 p2 HP ho3 hv12
        subst hact
        simp only [List.dropLast, putAll, Act.put, List.setIfInBounds_toArray, List.set_cons_zero, List.set_cons_succ, hu, hv13]
        refine gives_of_skip rfl (w' := w3.setCell ⟨sg, k, none⟩ (.slice au 256 cu)) (by go_simp) ?_
        clear hu hv13 k1 k2
        go_wp2
        go_roundg g
        case measure => omega
        case rel =>
          obtain ⟨svs2, hr2⟩ := HP1.out
          exact ⟨k + 1, svs2, by omega, by go_num, hr2, HP2.out⟩

end Go.Proofs.Ytofpngmabjpfhaa
