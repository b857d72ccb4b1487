/- Contract: the document's answer: the frame of bytes (incipitref04.Get). -/
import Derived.Test.YtmeiahmolmneeaaDoorFWant
import Derived.Test.YtmeiahmolmneeaaDoorFRef
import Derived.Test.YtmeiahmolmneeaaDoorCrcRefs
namespace Go.Proofs.YtmeiahmolmneeaaDoor
set_option maxRecDepth 20000
open Go.RowKit
set_option linter.unusedVariables false

set_option maxHeartbeats 1000000 in
theorem refGet_len (w : World) (v : Value) (zs : List Int) (q : Int) (h : Sl w v zs) (hl : zs.length ≠ 256) :
    Calls Tryd.prog 63 #[v, .int .i64 q] w (GivesS w (getS zs q)) := by
  have es : getS zs q = noFr 1 := by unfold getS; rw [if_pos hl]
  rw [es]
  obtain ⟨ao, cap, rfl⟩ := sl_form' h
  have hne : ((zs.length : Int) != 256) = true := by simp; omega
  have hne2 : ¬ ((zs.length : Int) = 256) := by omega
  clear h es
  go_enter Tryd.func63, Tryd.ntmps63
  go_wp2
  (try simp only [Exit.inBlock, Exit.then])
  refine bodyPost_ret (ret_frame rfl _ _ w.heap.size _ _ _ _ _ rfl rfl (St.new w).2) rfl ?_
  exact GivesS.no 1 (St.new w).1

theorem refOpen_st (w : World) (v : Value) (zs : List Int) (h : Sl w v zs) (hz : zs.length ≤ 100000) (hw : World) (hs : St w hw) :
    Calls Tryd.prog 78 #[v] hw fun r w' => ∃ a n c, r = .returned (.tuple #[.slice a n c, .bool (sealB zs)]) ∧ w'.ownsRow (w.heap.size + 1) 5 1 (.slice a n c) (openB zs).length ((openB zs).map (Value.int .u8)) ∧ St w w' := by
  refine (refOpen_any hw v zs (h.below hs.1) hz).mono ?_
  rintro r w' ⟨u, rfl, ho, hb⟩
  obtain ⟨a, n, c, rfl⟩ : ∃ a n c, u = .slice a n c := by
    rcases ho.2 with ⟨h, _⟩ | ⟨g, cap, cur, h, _⟩
    · exact ⟨_, _, _, h⟩
    · exact ⟨_, _, _, h⟩
  exact ⟨a, n, c, rfl, own_of_le ho hs.2.lt, hs.below hb⟩

set_option maxHeartbeats 1000000 in
theorem refGet_sum (w : World) (v : Value) (zs : List Int) (q : Int) (h : Sl w v zs) (hl : zs.length = 256) (hs : sealB zs = false) :
    Calls Tryd.prog 63 #[v, .int .i64 q] w (GivesS w (getS zs q)) := by
  have es : getS zs q = noFr 40 := by unfold getS; rw [if_neg (by omega), if_pos hs]
  rw [es]
  have HO := hide (refOpen_st w v zs h (by omega))
  rw [hs] at HO
  obtain ⟨ao, cap, rfl⟩ := sl_form' h
  rw [hl] at HO ⊢
  have HN := hide (St.new w)
  clear h es hs
  go_enter Tryd.func63, Tryd.ntmps63
  go_wp2_with (first
    | (go_at_call 78; refine (HO.out _ HN.out).mono ?_; rintro e1 w1 ⟨a1, n1, l1, rfl, S1, st1⟩; obtain ⟨⟨c0, c1, c2, c3⟩, f0, f1, f2, f3⟩ := st1.cells; have HST := hide st1; clear HO HN S1 st1))
  (try simp only [Exit.inBlock, Exit.then])
  refine bodyPost_ret (ret_frame rfl _ _ w.heap.size _ _ _ _ _ rfl rfl (HST.out.store (.int .i64 0) (.int .i64 0) (.int .u64 0) (.slice none 0 0)).1) rfl ?_
  exact GivesS.no 40 (HST.out.store _ _ _ _).2.1

theorem own_at {w : World} {base n c : Nat} {e : TypeId} {a : Option Addr} {xs : List Value} (h : w.ownsRow base e 1 (.slice a n c) n xs) (hn : 0 < n) : ∃ g, a = some ⟨g, 0, none⟩ ∧ base ≤ g := by
  rcases h.2 with ⟨_, hh⟩ | ⟨g, cp, cur, hv, hg, _⟩
  · omega
  · simp only [Value.slice.injEq] at hv
    exact ⟨g, hv.1, hg⟩
theorem St.at {w w1 w2 : World} (h : St w w1) (g : Nat) (hg : w.heap.size < g) (ho : Only (fun k => k = g) w1 w2) : St w w2 :=
  ⟨h.1.trans (ho.below h.1.size (fun k hk e => by omega)), h.2.only ho (by show w.heap.size ≠ g; omega)⟩
theorem only_setCells (w : World) (g : Nat) (vs : List Value) : Only (fun k => k = g) w (w.setCells g 0 vs) := Only.setCells g vs 0 w (Only.refl _ w) (fun _ => rfl)
theorem only_setCell (w : World) (g j : Nat) (v : Value) : Only (fun k => k = g) w (w.setCell ⟨g, j, none⟩ v) := (Only.refl _ w).setCell ⟨g, j, none⟩ v (fun _ => rfl)
theorem St.drewN {w w1 : World} (h : St w w1) (n : Nat) : St w (w1.drewN n) := ⟨below_drewN h.1 n, h.2.drewN n⟩
theorem St.only {w w1 w2 : World} (h : St w w1) (ho : Only (fun _ => False) w1 w2) : St w w2 := h.below (ho.below (Nat.le_refl _) (fun _ _ h => h))
/-- a frame's block of the call's own -/
def isG (B : Nat) : Value → World → Prop := fun v w => ∃ g, v = .pointer (some ⟨g, 0, none⟩) ∧ B ≤ g ∧ Blk w g 59 [.int .i64 0, .int .i64 0, .int .u64 0, .slice none 0 0]
theorem stS_isG (B : Nat) : StS (fun _ => False) (isG B) := fun v w w' ho ⟨g, h1, h2, h3⟩ => ⟨g, h1, h2, h3.only ho (fun h => h)⟩

theorem numOf_step (x : List Int) (j : Nat) (h : j < x.length) : numOf (x.take (j + 1)) = numOf (x.take j) * 256 + (x.getD j 0).toNat := by
  rw [take_getD x h]
  exact numAcc_snoc _ 0 _

set_option maxRecDepth 20000 in
set_option maxHeartbeats 16000000 in
theorem refGet_tell (w : World) (v : Value) (zs : List Int) (q : Int) (h : Sl w v zs) (hl : zs.length = 256) (hs : sealB zs = true) :
    Calls Tryd.prog 63 #[v, .int .i64 q] w (GivesS w (getS zs q)) := by
  have es : getS zs q = tellS (zs.drop 4) q := by unfold getS; rw [if_neg (by omega), if_neg (by rw [hs]; simp)]
  rw [es]
  have HO := hide (refOpen_st w v zs h (by omega))
  have ho : openB zs = zs.drop 4 := if_pos hs
  rw [hs, ho] at HO
  obtain ⟨ao, cap, rfl⟩ := sl_form' h
  have hx := h.bytes.drop 4
  have hxl : (zs.drop 4).length = 252 := by simp; omega
  obtain ⟨x, hxx⟩ : ∃ x, x = zs.drop 4 := ⟨_, rfl⟩
  rw [← hxx] at HO hx hxl ⊢
  rw [hl] at HO ⊢
  rw [hxl] at HO
  have HN := hide (St.new w)
  have hza := zeroFrameRun
  have HTE : Hid (tellS x q = if (kindOf x < 1 ∨ 4 < kindOf x) ∨ x.getD 1 0 ≠ 0 then noFr 42 else if pageOf x ≠ q ∨ 2047 < pageOf x then noFr 41 else ⟨0, kindOf x, pageOf x, epochOf x, x.drop 12⟩) := rfl
  have k0 : 0 ≤ kindOf x ∧ kindOf x ≤ 255 := hx.get 0
  have k1 := hx.get 1
  have k2 := hx.get 2
  have k3 := hx.get 3
  have HX := hide hx
  have HXL := hide hxl
  have HCE : Hid (∀ (w1 : World) (g c : Nat), w1.ownsRow (w.heap.size + 1) 5 1 (.slice (some ⟨g, 0, none⟩) 252 c) 252 (x.map (Value.int .u8)) → ∀ i, i < 252 → w1.cell? ⟨g, i, none⟩ = some (.int .u8 (x.getD i 0))) := by
    intro w1 g c ho i hi
    rw [ho.cellAt i (by omega), getD_lt _ (by omega), List.getElem?_map, List.getElem?_eq_getElem (by omega)]
    rfl
  have HCU : Hid (∀ (w1 : World) (g c : Nat), w1.ownsRow (w.heap.size + 1) 5 1 (.slice (some ⟨g, 0, none⟩) 252 c) 252 (x.map (Value.int .u8)) → 252 ≤ c ∧ c ≤ 9223372036854775807 ∧ ∃ a' c', (∀ wx, (Instr.slice 24 (.slice (some ⟨g, 0, none⟩) 252 c) (some (.int .i64 12)) none none).run Tryd.prog wx = .ok (.slice a' 240 c') wx) ∧ (∀ wx, wx.ownsRow (w.heap.size + 1) 5 1 (.slice (some ⟨g, 0, none⟩) 252 c) 252 (x.map (Value.int .u8)) → Sl wx (.slice a' 240 c') (x.drop 12)) ∧ ∀ k, (Value.slice a' 240 c').ownBlock = some k → k = g) := by
    intro w1 g c ho
    have hS : Sl w1 (.slice (some ⟨g, 0, none⟩) 252 c) x := sl_of_own ho HX.out rfl
    have hcap := (sl_cap hS).2
    unfold maxLen at hcap
    have hdl : (x.drop 12).length = 240 := by simp [HXL.out]
    refine ⟨by have := HXL.out; omega, by omega, some ⟨g, 12, none⟩, c - 12, fun wx => ?_, fun wx hh => ?_, fun k hk => by simpa [Value.ownBlock] using hk.symm⟩
    · rw [run_slice_l wx 24 (some ⟨g, 0, none⟩) 252 c tySl .i64 12 (by omega) (by have := HXL.out; omega), szSl]
      simp only [Result.andThen, sliced]
      rw [if_neg (by have := HXL.out; omega)]
      simp [Addr.add]
    · have hSx : Sl wx (.slice (some ⟨g, 0, none⟩) 252 c) x := sl_of_own hh HX.out rfl
      rw [← HXL.out] at hSx
      have := sl_drop' 12 hSx (by have := HXL.out; omega)
      rw [hdl] at this
      simpa [Addr.add] using this
  obtain ⟨K, hK⟩ : ∃ K, K = kindOf x := ⟨_, rfl⟩
  have hK' : x.getD 0 0 = K := hK.symm
  obtain ⟨O, hO⟩ : ∃ O, O = x.getD 1 0 := ⟨_, rfl⟩
  obtain ⟨A, hA⟩ : ∃ A, A = x.getD 2 0 := ⟨_, rfl⟩
  obtain ⟨B, hB⟩ : ∃ B, B = x.getD 3 0 := ⟨_, rfl⟩
  obtain ⟨N, hN⟩ : ∃ N, N = pageOf x := ⟨_, rfl⟩
  have hNAB : A * 256 + B = N := by rw [hA, hB, hN]; rfl
  rw [← hK, ← hO, ← hN] at HTE
  rw [← hK] at k0
  rw [← hO] at k1
  rw [← hA] at k2
  rw [← hB] at k3
  have hNb : 0 ≤ N ∧ N ≤ 65535 := by omega
  have HK := hide hK'
  have HOO := hide hO
  have HA := hide hA
  have HB := hide hB
  clear h es hs ho hxx hK hK' hO hA hB hN hx
  by_cases h1 : K < 1
  · rw [HTE.out, if_pos (by omega)]
    clear HTE HCU
    go_enter Tryd.func63, Tryd.ntmps63
    go_wp2_with (go_at_call 78; refine (HO.out _ HN.out).mono ?_; rintro e1 w1 ⟨a1, n1, l1, rfl, O1, st1⟩; obtain rfl := own_n O1; obtain ⟨g, rfl, hgb⟩ := own_at O1 (by omega); have cc := HCE.out w1 g l1 O1; have x0 := cc 0 (by omega); have x1 := cc 1 (by omega); have x2 := cc 2 (by omega); have x3 := cc 3 (by omega); rw [HK.out] at x0; rw [← HOO.out] at x1; rw [← HA.out] at x2; rw [← HB.out] at x3; obtain ⟨⟨c0, c1, c2, c3⟩, f0, f1, f2, f3⟩ := st1.cells; have HST := hide st1; have HO1 := hide O1; clear HO HN O1 st1 cc)
    (try simp only [Exit.inBlock, Exit.then])
    refine bodyPost_ret (ret_frame rfl _ _ w.heap.size _ _ _ _ _ rfl rfl ((HST.out).store (.int .i64 0) (.int .i64 0) (.int .u64 0) (.slice none 0 0)).1) rfl ?_
    exact GivesS.no 42 ((HST.out).store _ _ _ _).2.1
  · have h1' : decide (K < 1) = false := decide_eq_false h1
    by_cases h2 : 4 < K
    · rw [HTE.out, if_pos (by omega)]
      clear HTE HCU
      go_enter Tryd.func63, Tryd.ntmps63
      go_wp2_with (go_at_call 78; refine (HO.out _ HN.out).mono ?_; rintro e1 w1 ⟨a1, n1, l1, rfl, O1, st1⟩; obtain rfl := own_n O1; obtain ⟨g, rfl, hgb⟩ := own_at O1 (by omega); have cc := HCE.out w1 g l1 O1; have x0 := cc 0 (by omega); have x1 := cc 1 (by omega); have x2 := cc 2 (by omega); have x3 := cc 3 (by omega); rw [HK.out] at x0; rw [← HOO.out] at x1; rw [← HA.out] at x2; rw [← HB.out] at x3; obtain ⟨⟨c0, c1, c2, c3⟩, f0, f1, f2, f3⟩ := st1.cells; have HST := hide st1; have HO1 := hide O1; clear HO HN O1 st1 cc)
      (try simp only [Exit.inBlock, Exit.then])
      refine bodyPost_ret (ret_frame rfl _ _ w.heap.size _ _ _ _ _ rfl rfl ((HST.out).store (.int .i64 0) (.int .i64 0) (.int .u64 0) (.slice none 0 0)).1) rfl ?_
      exact GivesS.no 42 ((HST.out).store _ _ _ _).2.1
    · have h2' : decide (4 < K) = false := decide_eq_false h2
      by_cases h3 : O = 0
      · subst h3
        rw [HTE.out, if_neg (by omega)]
        by_cases h4 : N = q
        · subst h4
          by_cases h5 : 2048 ≤ N
          · rw [if_pos (by omega)]
            clear HTE HCU
            go_enter Tryd.func63, Tryd.ntmps63
            go_wp2_with (go_at_call 78; refine (HO.out _ HN.out).mono ?_; rintro e1 w1 ⟨a1, n1, l1, rfl, O1, st1⟩; obtain rfl := own_n O1; obtain ⟨g, rfl, hgb⟩ := own_at O1 (by omega); have cc := HCE.out w1 g l1 O1; have x0 := cc 0 (by omega); have x1 := cc 1 (by omega); have x2 := cc 2 (by omega); have x3 := cc 3 (by omega); rw [HK.out] at x0; rw [← HOO.out] at x1; rw [← HA.out] at x2; rw [← HB.out] at x3; obtain ⟨⟨c0, c1, c2, c3⟩, f0, f1, f2, f3⟩ := st1.cells; have HST := hide st1; have HO1 := hide O1; clear HO HN O1 st1 cc)
            go_quiet (fail)
            go_wp2
            (try simp only [Exit.inBlock, Exit.then])
            refine bodyPost_ret (ret_frame rfl _ _ w.heap.size _ _ _ _ _ rfl rfl ((HST.out.drewN _).store (.int .i64 0) (.int .i64 0) (.int .u64 0) (.slice none 0 0)).1) rfl ?_
            exact GivesS.no 41 ((HST.out.drewN _).store _ _ _ _).2.1
          · rw [if_neg (by omega)]
            have h5' : decide (2048 ≤ N) = false := decide_eq_false h5
            clear HTE
            go_enter Tryd.func63, Tryd.ntmps63
            go_wp2_with (go_at_call 78; refine (HO.out _ HN.out).mono ?_; rintro e1 w1 ⟨a1, n1, l1, rfl, O1, st1⟩; obtain rfl := own_n O1; obtain ⟨g, rfl, hgb⟩ := own_at O1 (by omega); have cc := HCE.out w1 g l1 O1; have x0 := cc 0 (by omega); have x1 := cc 1 (by omega); have x2 := cc 2 (by omega); have x3 := cc 3 (by omega); rw [HK.out] at x0; rw [← HOO.out] at x1; rw [← HA.out] at x2; rw [← HB.out] at x3; obtain ⟨⟨c0, c1, c2, c3⟩, f0, f1, f2, f3⟩ := st1.cells; have HST := hide st1; have HO1 := hide O1; clear HO HN O1 st1 cc)
            go_quiet (fail)
            go_wp2
            generalize hWD : World.drewN w1 _ = WD
            have st : St w WD := by rw [← hWD]; exact HST.out.drewN _
            have hO : WD.ownsRow (w.heap.size + 1) 5 1 (.slice (some ⟨g, 0, none⟩) 252 l1) 252 (x.map (Value.int .u8)) := by rw [← hWD]; exact HO1.out
            obtain ⟨hc1, hc2, a', c', hct, hcs, hcb⟩ := HCU.out WD g l1 hO
            have HCT := hide hct
            have HCS := hide hcs
            have HCB := hide hcb
            have HX0 : Hid (∀ wx, Only (fun _ => False) WD wx → wx.cell? ⟨g, 0, none⟩ = some (.int .u8 K)) := fun wx ho => by
              have := HCE.out wx g l1 (ownsRow_only hO ho (fun _ _ h => h)) 0 (by omega)
              rwa [HK.out] at this
            have hglt : g < WD.heap.size := (hO.lt g rfl).2
            have hwK : IntKind.i64.wrap K = K := IntWalk.i64_in _ (by omega)
            have HST2 := hide st
            have HOW := hide hO
            clear hct hcs hcb st hO HCU HST HO1 hWD x0 x1 x2 x3 c0 c1 c2 c3 f0 f1 f2 f3
            refine wp_region_only (fun _ => False) [isV (.slice (some ⟨g, 0, none⟩) 252 l1), isV (.pointer (some ⟨g, 0, none⟩)), isV (.int .u8 K), isV (.int .i64 K), isV (.int .i64 N), isV (.slice (some ⟨g, 0, none⟩) 252 l1), isV (.slice a' 240 c'), isV (.agg #[.int .i64 K, .int .i64 N, .int .u64 0, .slice a' 240 c']), isG WD.heap.size] 99 81 9 (by kernel_rfl) (by kernel_rfl) (by kernel_rfl) (by kernel_rfl) rfl ?_ ?_ ?_
            · exact allStL_isV (allStL_isV (allStL_isV (allStL_isV (allStL_isV (allStL_isV (allStL_isV (allStL_isV ⟨stS_isG _, fun _ => stS_isG _, trivial⟩)))))))
            · refine ⟨?_, ?_, ?_, ?_, ?_, ?_, ?_, ?_, ?_, trivial⟩
              · intro act wx h
                have e6 : act.eval (.tmp 6) = .slice (some ⟨g, 0, none⟩) 252 l1 := h.old 6 (by kernel_rfl)
                have hrel := h.rel
                clear h
                refine gives_by rfl act.eval rfl ?_
                generalize act.eval = ρ at *
                intro hf hc
                go_simp
                exact ⟨relM_quiet (by decide) (Only.refl _ _), rfl⟩
              · intro act wx h
                obtain ⟨v58, e58, f58⟩ := h.val 0 58 (by kernel_rfl)
                obtain rfl : v58 = .slice (some ⟨g, 0, none⟩) 252 l1 := f58
                have hrel := h.rel
                clear h
                refine gives_by rfl act.eval rfl ?_
                generalize act.eval = ρ at *
                intro hf hc
                go_simp
                exact ⟨relM_quiet (by decide) (Only.refl _ _), rfl⟩
              · intro act wx h
                obtain ⟨v59, e59, f59⟩ := h.val 1 59 (by kernel_rfl)
                obtain rfl : v59 = .pointer (some ⟨g, 0, none⟩) := f59
                have hrel := h.rel
                clear h
                have cx := HX0.out wx hrel
                refine gives_by rfl act.eval rfl ?_
                generalize act.eval = ρ at *
                intro hf hc
                go_simp
                exact ⟨relM_quiet (by decide) (Only.refl _ _), rfl⟩
              · intro act wx h
                obtain ⟨v60, e60, f60⟩ := h.val 2 60 (by kernel_rfl)
                obtain rfl : v60 = .int .u8 K := f60
                have hrel := h.rel
                clear h
                refine gives_by rfl act.eval rfl ?_
                generalize act.eval = ρ at *
                intro hf hc
                go_simp
                exact ⟨relM_quiet (by decide) (Only.refl _ _), rfl⟩
              · intro act wx h
                have e8 : act.eval (.tmp 8) = .int .i64 N := h.old 8 (by kernel_rfl)
                have hrel := h.rel
                clear h
                refine gives_by rfl act.eval rfl ?_
                generalize act.eval = ρ at *
                intro hf hc
                go_simp
                exact ⟨relM_quiet (by decide) (Only.refl _ _), rfl⟩
              · intro act wx h
                have e6 : act.eval (.tmp 6) = .slice (some ⟨g, 0, none⟩) 252 l1 := h.old 6 (by kernel_rfl)
                have hrel := h.rel
                clear h
                refine gives_by rfl act.eval rfl ?_
                generalize act.eval = ρ at *
                intro hf hc
                go_simp
                exact ⟨relM_quiet (by decide) (Only.refl _ _), rfl⟩
              · intro act wx h
                obtain ⟨v63, e63, f63⟩ := h.val 5 63 (by kernel_rfl)
                obtain rfl : v63 = .slice (some ⟨g, 0, none⟩) 252 l1 := f63
                have hrel := h.rel
                clear h
                exact gives_of_run rfl (exec_slice_lo 24 tySl (.tmp 63) (.const (.int .i64 12)) rfl _ _ _ e63 rfl (HCT.out wx)) ⟨relM_quiet (by decide) (Only.refl _ _), rfl⟩
              · intro act wx h
                obtain ⟨v61, e61, f61⟩ := h.val 3 61 (by kernel_rfl)
                obtain rfl : v61 = .int .i64 K := f61
                obtain ⟨v62, e62, f62⟩ := h.val 4 62 (by kernel_rfl)
                obtain rfl : v62 = .int .i64 N := f62
                obtain ⟨v64, e64, f64⟩ := h.val 6 64 (by kernel_rfl)
                obtain rfl : v64 = .slice a' 240 c' := f64
                have hrel := h.rel
                clear h
                refine gives_by rfl act.eval rfl ?_
                generalize act.eval = ρ at *
                intro hf hc
                go_simp
                exact ⟨relM_quiet (by decide) (Only.refl _ _), rfl⟩
              · intro act wx h
                have hrel := h.rel
                clear h
                refine gives_by rfl act.eval rfl ?_
                generalize act.eval = ρ at *
                intro hf hc
                go_simp
                exact ⟨relM_quiet (by decide) ((Only.refl _ wx).alloc _), _, rfl, hrel.size, Blk.new wx _ [.int .i64 0, .int .i64 0, .int .u64 0, .slice none 0 0]⟩
            · intro oL hoL vals w3 ho3 hv
              simp only [List.getElem?_toArray, List.getElem?_cons_succ, List.getElem?_cons_zero, Option.some.injEq] at hoL
              subst hoL
              have hv7 : vals 7 = .agg #[.int .i64 K, .int .i64 N, .int .u64 0, .slice a' 240 c'] := hv 7 65 (by decide) (by kernel_rfl)
              have hG9 : isG WD.heap.size (vals 8) w3 := hv 8 9 (by decide) (by kernel_rfl)
              clear hv
              generalize hact : putAll _ vals 0 _ = act
              obtain ⟨g9, hv8, hB9, hb9⟩ := hG9
              have hg9 : w.heap.size < g9 := by omega
              have hgne : g ≠ g9 := by omega
              have st3 := HST2.out.only ho3
              have o3 := ownsRow_only HOW.out ho3 (fun _ _ h => h)
              have HTH := hide (hb9.there 0 4 (by simp))
              have on4 := only_setCells w3 g9 [.int .i64 K, .int .i64 N, .int .u64 0, .slice a' 240 c']
              have hb4 := store_frame (x0 := .int .i64 K) (x1 := .int .i64 N) (x2 := .int .u64 0) (x3 := .slice a' 240 c') hb9
              have HST4 := hide (st3.at g9 hg9 on4)
              have HO4 := hide (ownsRow_only o3 on4 (fun k hk e => hgne (by simpa [Value.ownBlock, e] using hk)))
              have HB4 := hide hb4
              clear st3 o3 on4 hb4 hb9 ho3 HST2 HOW HX0 HCT hB9 hglt
              subst hact
              simp only [List.dropLast, putAll, Act.put, List.setIfInBounds_toArray, List.set_cons_zero, List.set_cons_succ, hv7, hv8, Nat.zero_add, Nat.reduceAdd]
              refine gives_of_skip rfl (exec_store_mid 59 (.tmp 9) (.tmp 65) rfl g9 0 #[.int .i64 K, .int .i64 N, .int .u64 0, .slice a' 240 c'] rfl rfl HTH.out sizeFrame (by simp [Value.oneCell'])) ?_
              clear hv7 hv8 HTH
              go_wp2
              go_loopg [10] 8 (fun gl i wr => ∃ (j acc : Nat), gl + j = 8 ∧ i = .int .i64 ((4 + j : Nat) : Int) ∧ acc = numOf ((x.drop 4).take j) ∧ St w wr ∧ Blk wr g9 59 [.int .i64 K, .int .i64 N, .int .u64 acc, .slice a' 240 c'] ∧ wr.ownsRow (w.heap.size + 1) 5 1 (.slice (some ⟨g, 0, none⟩) 252 l1) 252 (x.map (Value.int .u8)))
              case atStart => exact ⟨0, 0, rfl, rfl, rfl, HST4.out, HB4.out, HO4.out⟩
              case round =>
                obtain ⟨j, acc, hj, rfl, hacc, st, hB, hO⟩ := hrel
                have HAC := hide hacc
                have HST := hide st
                have HBB := hide hB
                have HOO' := hide hO
                clear HST4 HB4 HO4
                cases gk with
                | zero =>
                  obtain rfl : j = 8 := by omega
                  obtain ⟨e0, e1, e2, e3⟩ := box_cells hB
                  obtain ⟨⟨c0, c1, c2, c3⟩, f0, f1, f2, f3⟩ := st.cells
                  clear hB st hO hacc
                  go_wp2
                  (try simp only [Exit.inBlock, Exit.then])
                  obtain ⟨s1, b8, k8⟩ := HST.out.store (.int .i64 K) (.int .i64 N) (.int .u64 acc) (.slice a' 240 c')
                  refine bodyPost_ret (ret_frame rfl _ _ w.heap.size _ _ _ _ _ rfl rfl s1) rfl ?_
                  have hdl : (x.drop 12).length = 240 := by simp [HXL.out]
                  have hep : epochOf x = acc := by rw [HAC.out]; rfl
                  refine ⟨a', c', by rw [hep, hdl]; rfl, ?_, b8⟩
                  simp only
                  rw [hdl]
                  exact (HCS.out wr HOO'.out).keep (fun k hk _ => k8 k (by have := HCB.out k hk; omega))
                | succ gl =>
                  have hJi : ((4 + j : Nat) : Int) < 12 := by omega
                  obtain ⟨J, hJ⟩ : ∃ J, J = 4 + j := ⟨_, rfl⟩
                  rw [← hJ] at hJi ⊢
                  have hJ2 : (J : Int) < 252 := by omega
                  have hyb := HX.out.get J
                  have HXJ' := HCE.out wr g l1 hO J (by omega)
                  obtain ⟨y, hy⟩ : ∃ y, y = x.getD J 0 := ⟨_, rfl⟩
                  have HXJ : Hid (∀ wx, Only (fun _ => False) wr wx → wx.cell? ⟨g, J, none⟩ = some (.int .u8 y)) := fun wx ho => by
                    have := HCE.out wx g l1 (ownsRow_only HOO'.out ho (fun _ _ h => h)) J (by omega)
                    rwa [← hy] at this
                  rw [← hy] at hyb
                  have HC9 : Hid (∀ wx, Only (fun _ => False) wr wx → wx.cell? ⟨g9, 2, none⟩ = some (.int .u64 acc)) := fun wx ho => (box_cells (HBB.out.only ho (fun h => h))).2.2.1
                  have hab : acc < 72057594037927936 := by
                    have := numOf_lt ((x.drop 4).take j) 7 ((HX.out.drop 4).take j) (by simp; omega)
                    rw [hacc]
                    exact this
                  obtain ⟨acc', hacc'⟩ : ∃ a, a = acc * 256 + y.toNat := ⟨_, rfl⟩
                  have hai : (acc : Int) * 256 + y = (acc' : Int) := by omega
                  have hw1 : IntKind.u64.wrap y = y := IntWalk.u64_in _ (by omega)
                  have hw2 : IntKind.u64.wrap ((acc : Int) * 256) = (acc : Int) * 256 := IntWalk.u64_in _ (by omega)
                  have hw3 : IntKind.u64.wrap (acc' : Int) = (acc' : Int) := IntWalk.u64_in _ (by omega)
                  have ha64 : (acc' : Int) ≤ 18446744073709551615 := by omega
                  have HNX : Hid (acc' = numOf ((x.drop 4).take (j + 1))) := by
                    show _ = _
                    rw [numOf_step _ j (by simp [HXL.out]; omega), ← HAC.out, getD_drop, ← hJ, ← hy, hacc']
                  have HJ := hide hJ
                  clear hB st hO hacc HXJ' hy hacc' hJ
                  go_wp2
                  refine wp_region_only (fun _ => False) [isV (.pointer (some ⟨g9, 2, none⟩)), isV (.int .u64 (acc : Int)), isV (.int .u64 ((acc : Int) * 256)), isV (.slice (some ⟨g, 0, none⟩) 252 l1), isV (.int .i64 (J : Int)), isV (.pointer (some ⟨g, J, none⟩)), isV (.int .u8 y), isV (.int .u64 y), isV (.int .u64 (acc' : Int)), isV (.pointer (some ⟨g9, 2, none⟩))] 99 81 10 (by kernel_rfl) (by kernel_rfl) (by kernel_rfl) (by kernel_rfl) rfl ?_ ?_ ?_
                  · repeat (first | exact trivial | refine allStL_isV ?_)
                  · refine ⟨?_, ?_, ?_, ?_, ?_, ?_, ?_, ?_, ?_, ?_, trivial⟩
                    · intro act wx h
                      have e9 : act.eval (.tmp 9) = .pointer (some ⟨g9, 0, none⟩) := h.old 9 (by kernel_rfl)
                      have hrel := h.rel
                      clear h
                      refine gives_by rfl act.eval rfl ?_
                      generalize act.eval = ρ at *
                      intro hf hc
                      go_simp
                      exact ⟨relM_quiet (by decide) (Only.refl _ _), rfl⟩
                    · intro act wx h
                      obtain ⟨v70, e70, f70⟩ := h.val 0 70 (by kernel_rfl)
                      obtain rfl : v70 = .pointer (some ⟨g9, 2, none⟩) := f70
                      have hrel := h.rel
                      clear h
                      have cx := HC9.out wx hrel
                      refine gives_by rfl act.eval rfl ?_
                      generalize act.eval = ρ at *
                      intro hf hc
                      go_simp
                      exact ⟨relM_quiet (by decide) (Only.refl _ _), rfl⟩
                    · intro act wx h
                      obtain ⟨v71, e71, f71⟩ := h.val 1 71 (by kernel_rfl)
                      obtain rfl : v71 = .int .u64 (acc : Int) := f71
                      have hrel := h.rel
                      clear h
                      refine gives_by rfl act.eval rfl ?_
                      generalize act.eval = ρ at *
                      intro hf hc
                      go_simp
                      exact ⟨relM_quiet (by decide) (Only.refl _ _), rfl⟩
                    · intro act wx h
                      have e6 : act.eval (.tmp 6) = .slice (some ⟨g, 0, none⟩) 252 l1 := h.old 6 (by kernel_rfl)
                      have hrel := h.rel
                      clear h
                      refine gives_by rfl act.eval rfl ?_
                      generalize act.eval = ρ at *
                      intro hf hc
                      go_simp
                      exact ⟨relM_quiet (by decide) (Only.refl _ _), rfl⟩
                    · intro act wx h
                      have e10 : act.eval (.tmp 10) = .int .i64 (J : Int) := h.old 10 (by kernel_rfl)
                      have hrel := h.rel
                      clear h
                      refine gives_by rfl act.eval rfl ?_
                      generalize act.eval = ρ at *
                      intro hf hc
                      go_simp
                      exact ⟨relM_quiet (by decide) (Only.refl _ _), rfl⟩
                    · intro act wx h
                      obtain ⟨v73, e73, f73⟩ := h.val 3 73 (by kernel_rfl)
                      obtain rfl : v73 = .slice (some ⟨g, 0, none⟩) 252 l1 := f73
                      obtain ⟨v74, e74, f74⟩ := h.val 4 74 (by kernel_rfl)
                      obtain rfl : v74 = .int .i64 (J : Int) := f74
                      have hrel := h.rel
                      clear h
                      refine gives_by rfl act.eval rfl ?_
                      generalize act.eval = ρ at *
                      intro hf hc
                      go_simp
                      exact ⟨relM_quiet (by decide) (Only.refl _ _), rfl⟩
                    · intro act wx h
                      obtain ⟨v75, e75, f75⟩ := h.val 5 75 (by kernel_rfl)
                      obtain rfl : v75 = .pointer (some ⟨g, J, none⟩) := f75
                      have hrel := h.rel
                      clear h
                      have cx := HXJ.out wx hrel
                      refine gives_by rfl act.eval rfl ?_
                      generalize act.eval = ρ at *
                      intro hf hc
                      go_simp
                      exact ⟨relM_quiet (by decide) (Only.refl _ _), rfl⟩
                    · intro act wx h
                      obtain ⟨v76, e76, f76⟩ := h.val 6 76 (by kernel_rfl)
                      obtain rfl : v76 = .int .u8 y := f76
                      have hrel := h.rel
                      clear h
                      refine gives_by rfl act.eval rfl ?_
                      generalize act.eval = ρ at *
                      intro hf hc
                      go_simp
                      exact ⟨relM_quiet (by decide) (Only.refl _ _), rfl⟩
                    · intro act wx h
                      obtain ⟨v72, e72, f72⟩ := h.val 2 72 (by kernel_rfl)
                      obtain rfl : v72 = .int .u64 ((acc : Int) * 256) := f72
                      obtain ⟨v77, e77, f77⟩ := h.val 7 77 (by kernel_rfl)
                      obtain rfl : v77 = .int .u64 y := f77
                      have hrel := h.rel
                      clear h
                      refine gives_by rfl act.eval rfl ?_
                      generalize act.eval = ρ at *
                      intro hf hc
                      go_simp
                      exact ⟨relM_quiet (by decide) (Only.refl _ _), rfl⟩
                    · intro act wx h
                      have e9 : act.eval (.tmp 9) = .pointer (some ⟨g9, 0, none⟩) := h.old 9 (by kernel_rfl)
                      have hrel := h.rel
                      clear h
                      refine gives_by rfl act.eval rfl ?_
                      generalize act.eval = ρ at *
                      intro hf hc
                      go_simp
                      exact ⟨relM_quiet (by decide) (Only.refl _ _), rfl⟩
                  · intro oL hoL vals w3 ho3 hv
                    simp only [List.getElem?_toArray, List.getElem?_cons_succ, List.getElem?_cons_zero, Option.some.injEq] at hoL
                    subst hoL
                    have hv8 : vals 8 = .int .u64 (acc' : Int) := hv 8 78 (by decide) (by kernel_rfl)
                    have hv9 : vals 9 = .pointer (some ⟨g9, 2, none⟩) := hv 9 79 (by decide) (by kernel_rfl)
                    clear hv
                    have hb3 := HBB.out.only ho3 (fun h => h)
                    have cx := (box_cells hb3).2.2.1
                    have fx := hb3.frozen 2
                    have st3 := HST.out.only ho3
                    have o3 := ownsRow_only HOO'.out ho3 (fun _ _ h => h)
                    have on4 := only_setCell w3 g9 2 (.int .u64 (acc' : Int))
                    have HST5 := hide (st3.at g9 hg9 on4)
                    have HO5 := hide (ownsRow_only o3 on4 (fun k hk e => hgne (by simpa [Value.ownBlock, e] using hk)))
                    have HB5 := hide (hb3.set 2 (.int .u64 (acc' : Int)))
                    clear st3 o3 on4 hb3 ho3
                    generalize hact : putAll _ vals 0 _ = act
                    subst hact
                    simp only [List.dropLast, putAll, Act.put, List.setIfInBounds_toArray, List.set_cons_zero, List.set_cons_succ, hv8, hv9, Nat.zero_add, Nat.reduceAdd]
                    refine gives_of_skip rfl (w' := w3.setCell ⟨g9, 2, none⟩ (.int .u64 (acc' : Int))) (by go_simp) ?_
                    clear cx fx hv8 hv9 HXJ HC9
                    go_wp2
                    go_roundg gl
                    case measure => omega
                    case rel => exact ⟨j + 1, acc', by omega, by have := HJ.out; go_num, HNX.out, HST5.out, HB5.out, HO5.out⟩
        · rw [if_pos (.inl h4)]
          have hne : (N != q) = true := by simpa using h4
          clear HTE HCU
          go_enter Tryd.func63, Tryd.ntmps63
          go_wp2_with (go_at_call 78; refine (HO.out _ HN.out).mono ?_; rintro e1 w1 ⟨a1, n1, l1, rfl, O1, st1⟩; obtain rfl := own_n O1; obtain ⟨g, rfl, hgb⟩ := own_at O1 (by omega); have cc := HCE.out w1 g l1 O1; have x0 := cc 0 (by omega); have x1 := cc 1 (by omega); have x2 := cc 2 (by omega); have x3 := cc 3 (by omega); rw [HK.out] at x0; rw [← HOO.out] at x1; rw [← HA.out] at x2; rw [← HB.out] at x3; obtain ⟨⟨c0, c1, c2, c3⟩, f0, f1, f2, f3⟩ := st1.cells; have HST := hide st1; have HO1 := hide O1; clear HO HN O1 st1 cc)
          go_quiet (fail)
          go_wp2
          (try simp only [Exit.inBlock, Exit.then])
          refine bodyPost_ret (ret_frame rfl _ _ w.heap.size _ _ _ _ _ rfl rfl ((HST.out.drewN _).store (.int .i64 0) (.int .i64 0) (.int .u64 0) (.slice none 0 0)).1) rfl ?_
          exact GivesS.no 41 ((HST.out.drewN _).store _ _ _ _).2.1
      · rw [HTE.out, if_pos (.inr h3)]
        have hne : (O != 0) = true := by simpa using h3
        clear HTE HCU
        go_enter Tryd.func63, Tryd.ntmps63
        go_wp2_with (go_at_call 78; refine (HO.out _ HN.out).mono ?_; rintro e1 w1 ⟨a1, n1, l1, rfl, O1, st1⟩; obtain rfl := own_n O1; obtain ⟨g, rfl, hgb⟩ := own_at O1 (by omega); have cc := HCE.out w1 g l1 O1; have x0 := cc 0 (by omega); have x1 := cc 1 (by omega); have x2 := cc 2 (by omega); have x3 := cc 3 (by omega); rw [HK.out] at x0; rw [← HOO.out] at x1; rw [← HA.out] at x2; rw [← HB.out] at x3; obtain ⟨⟨c0, c1, c2, c3⟩, f0, f1, f2, f3⟩ := st1.cells; have HST := hide st1; have HO1 := hide O1; clear HO HN O1 st1 cc)
        (try simp only [Exit.inBlock, Exit.then])
        refine bodyPost_ret (ret_frame rfl _ _ w.heap.size _ _ _ _ _ rfl rfl ((HST.out).store (.int .i64 0) (.int .i64 0) (.int .u64 0) (.slice none 0 0)).1) rfl ?_
        exact GivesS.no 42 ((HST.out).store _ _ _ _).2.1

theorem refGet_any (w : World) (v : Value) (zs : List Int) (q : Int) (h : Sl w v zs) :
    Calls Tryd.prog 63 #[v, .int .i64 q] w (GivesS w (getS zs q)) := by
  by_cases hl : zs.length = 256
  · cases hs : sealB zs with
    | false => exact refGet_sum w v zs q h hl hs
    | true => exact refGet_tell w v zs q h hl hs
  · exact refGet_len w v zs q h hl

end Go.Proofs.YtmeiahmolmneeaaDoor
