/- The document's own map (incipitref08.Map): Open. -/
import Derived.Test.YtbnhacibkmcmkaaDoorKRefN
import Derived.Test.YtbnhacibkmcmkaaDoorRegionL
namespace Go.Proofs.YtbnhacibkmcmkaaDoor
set_option maxRecDepth 20000
open Go.RowKit
set_option linter.unusedVariables false
set_option maxRecDepth 100000

theorem make_ints (n : Nat) (hn : n ≤ 100000) (wx : World) : (Instr.makeSlice 22 (.int .i64 (n : Int)) (.int .i64 (n : Int))).run Tryd.prog wx = .ok (.slice (some ⟨wx.heap.size, 0, none⟩) n n) (wx.alloc (.cells (iv (cl (fun _ => 0) n)).toArray 3)) := by
  obtain ⟨i0, hi, hz0, hz1, hz2⟩ := info_parts infoInt
  have := run_make (P := Tryd.prog) wx 22 3 i0 (.int .i64 0) Tryd.underlying22 hi hz0 .i64 .i64 (n : Int) (n : Int) (by omega) (by omega) (by rw [hz2]; omega) (by omega)
  rw [hz1] at this
  have e : madeCells #[Value.int .i64 0] (n * 1) = (iv (cl (fun _ => 0) n)).toArray := by
    apply Array.toList_inj.1
    rw [toList_madeCells_one]
    simp [iv, cl]
    exact (List.eq_replicate_iff.2 ⟨by simp, by simp⟩).symm
  rw [Int.toNat_natCast] at this
  rw [← e]
  exact this

theorem refOpenM_bad (w : World) (n : Int) (v : Value) (ks : List Int) (hv : Is w v ks) (h : mayB n ks = false) : Calls Tryd.prog 20 #[.int .i64 n, v] w fun e w' => e = .returned (.tuple #[.pointer none, .int .i64 1]) ∧ Below w.heap.size w w' := by
  have HM := refMay_any w n
  have HLS := refList_any w n v ks hv
  obtain ⟨ao, cap, rfl⟩ : ∃ ao cap, v = .slice ao ks.length cap := by obtain ⟨ao, cap, h, _⟩ := hv; exact ⟨ao, cap, h⟩
  generalize ks.length = m at *
  cases hs : sizeB n with
  | false =>
    rw [hs] at HM
    have HM := hide HM
    clear hv h hs HLS
    go_enter Tryd.func20, Tryd.ntmps20
    go_wp2_with (go_at_call 39; refine HM.out.mono ?_; rintro e w2 ⟨rfl, hw⟩; subst w2; clear HM)
    go_ret2
    exact ⟨rfl, Below.refl _ _⟩
  | true =>
    rw [hs] at HM
    have HM := hide HM
    have hr : riseB n (-1) ks = false := by rw [mayB, hs] at h; simpa using h
    rw [hr] at HLS
    have HLS := hide HLS
    clear hv h hs hr
    go_enter Tryd.func20, Tryd.ntmps20
    go_wp2_with (first
      | (go_at_call 39; refine HM.out.mono ?_; rintro e w2 ⟨rfl, hw⟩; subst w2; clear HM)
      | (go_at_call 27; refine HLS.out.mono ?_; rintro e w2 ⟨rfl, q, hw⟩; subst w2; clear HLS))
    go_ret2
    exact ⟨rfl, belowN w q⟩

/-- the codes after the first k of the list -/
def oldC (ks : List Int) (k : Nat) : Nat → Int := fun p => if inL (ks.take k) p then 1 else 0
theorem oldC_zero (ks : List Int) : oldC ks 0 = fun _ => 0 := by funext p; simp [oldC, inL]
theorem oldC_snoc (ks : List Int) (k X : Nat) (hk : k < ks.length) (hx : ks.getD k 0 = (X : Int)) : upd (oldC ks k) X 1 = oldC ks (k + 1) := by
  funext p
  unfold upd oldC
  have e : inL (ks.take (k + 1)) p = (inL (ks.take k) p || decide (p = X)) := by
    rw [inL, inL, take_snoc ks k hk, ← getD_lt ks hk, hx]
    rw [Bool.eq_iff_iff]
    simp
    exact ⟨fun h => h.imp id (fun e => by omega), fun h => h.imp id (fun e => by omega)⟩
  rw [e]
  by_cases hp : p = X
  · simp [hp]
  · rw [if_neg hp]; simp [hp]
theorem oldC_end (ks : List Int) (k p : Nat) (hk : ks.length ≤ k) : oldC ks k p = codeP (inL ks) (inL ks) p := by
  rw [oldC, List.take_of_length_le hk, codeP]
  cases inL ks p <;> rfl

set_option maxHeartbeats 2000000 in
theorem refOpenM_ok (w : World) (n : Nat) (v : Value) (ks : List Int) (hv : Is w v ks) (hm : mayB n ks = true) : Calls Tryd.prog 20 #[.int .i64 n, v] w fun e w' => ∃ r q, e = .returned (.tuple #[dp r, .int .i64 0]) ∧ RefM w' w.heap.size r q n (codeP (inL ks) (inL ks)) ∧ Below w.heap.size w w' := by
  have HM := refMay_any w n
  have HLS := refList_any w n v ks hv
  rw [mayB, Bool.and_eq_true] at hm
  rw [hm.1] at HM
  rw [hm.2] at HLS
  have HM := hide HM
  have HLS := hide HLS
  rw [sizeB_iff] at hm
  obtain ⟨ao, cap, rfl⟩ : ∃ ao cap, v = .slice ao ks.length cap := by obtain ⟨ao, cap, h, _⟩ := hv; exact ⟨ao, cap, h⟩
  obtain ⟨_, hc1, hc2⟩ := hv.cap
  unfold maxLen at hc2
  have HV := hide hv
  obtain ⟨m, hml⟩ : ∃ m, ks.length = m := ⟨_, rfl⟩
  rw [hml] at HV hc1 HLS ⊢
  have HML := hide hml
  have HRI := hide hm.2
  have hn2 : n ≤ 2048 := by omega
  have hmk := make_ints n (by omega)
  clear hv hml hm
  go_enter Tryd.func20, Tryd.ntmps20
  go_wp2_with (first
    | (go_at_call 39; refine HM.out.mono ?_; rintro e w2 ⟨rfl, hw⟩; subst w2; clear HM)
    | (go_at_call 27; refine HLS.out.mono ?_; rintro e w2 ⟨rfl, q0, hw⟩; have HB2 : Hid (Below w.heap.size w w2) := (by show Below _ _ _; rw [hw]; exact belowN w q0); clear HLS hw))
  clear hmk
  obtain ⟨q, hq⟩ : ∃ q, w2.heap.size = q := ⟨_, rfl⟩
  have hqB : w.heap.size ≤ q := by rw [← hq]; exact HB2.out.size
  have HST : Hid (RefM ((w2.alloc (.cells (iv (cl (fun _ => 0) n)).toArray 3)).alloc (.cells #[.slice (some ⟨q, 0, none⟩) n n] 74)) w.heap.size (q + 1) q n (oldC ks 0) ∧ Below w.heap.size w ((w2.alloc (.cells (iv (cl (fun _ => 0) n)).toArray 3)).alloc (.cells #[.slice (some ⟨q, 0, none⟩) n n] 74))) := by
    have h1 := Blk.new w2 3 (iv (cl (fun _ => 0) n))
    have h2 := Blk.new (w2.alloc (.cells (iv (cl (fun _ => 0) n)).toArray 3)) 74 [.slice (some ⟨q, 0, none⟩) n n]
    rw [World.size_alloc, hq] at h2
    rw [hq] at h1
    refine ⟨⟨h2, by rw [oldC_zero]; exact h1.alloc _, by omega, hqB, hn2⟩, (HB2.out.alloc HB2.out.size _).alloc (by simp; omega) _⟩
  rw [hq]
  go_loopg [7] m (fun gg kv wr => ∃ k : Nat, gg + k = m ∧ kv = .int .i64 k ∧ RefM wr w.heap.size (q + 1) q n (oldC ks k) ∧ Below w.heap.size w wr)
  case atStart => exact ⟨0, rfl, rfl, HST.out.1, HST.out.2⟩
  case round =>
    obtain ⟨k, hk, rfl, hr, hb⟩ := hrel
    have HR := hide hr
    have HBL := hide hb
    clear HST HB2 hq
    cases gk with
    | zero =>
      obtain rfl : k = m := by omega
      have h3 : ¬ (k : Int) < (k : Int) := by omega
      clear hr hb
      go_wp2
      go_ret2
      exact ⟨_, rfl, ⟨q, HR.out.congr (fun p _ => oldC_end ks k p (by rw [HML.out]; exact Nat.le_refl _))⟩, HBL.out⟩
    | succ gg =>
      have h3 : (k : Int) < (m : Int) := by omega
      have hkl : k < ks.length := by rw [HML.out]; omega
      obtain ⟨gb, off, hao, hcell⟩ := Is.at (HV.out.below hb) k hkl
      subst hao
      have hmem := riseB_mem HRI.out (ks.getD k 0) (by rw [getD_lt ks hkl]; exact List.getElem_mem hkl)
      have HSN := oldC_snoc ks k
      obtain ⟨x, hx⟩ : ∃ x, ks.getD k 0 = x := ⟨_, rfl⟩
      rw [hx] at hcell hmem HSN
      obtain ⟨X, rfl⟩ : ∃ X : Nat, x = X := ⟨x.toNat, by omega⟩
      have HSN := hide (HSN X hkl rfl)
      have hXn : X < n := by omega
      have hXi : (X : Int) < (n : Int) := by omega
      have HCW : Hid (∀ wx, Only (fun _ => False) wr wx → wx.cell? ⟨q + 1, 0, none⟩ = some (.slice (some ⟨q, 0, none⟩) n n) ∧ wx.cell? ⟨gb, off + k, none⟩ = some (.int .i64 (X : Int)) ∧ wx.frozen? ⟨q, X, none⟩ = false ∧ wx.cell? ⟨q, X, none⟩ = some (.int .i64 (oldC ks k X))) := fun wx ho => by
        have hr2 := hr.only ho (fun h => h) (fun h => h)
        exact ⟨hr2.c0, ((ho.below (Nat.le_refl _) (fun _ _ h => h)).cell (p := ⟨gb, off + k, none⟩) (World.block_lt_of_cell? wr _ hcell)).trans hcell, hr2.row.frozen _, hr2.cp X hXn⟩
      have HFIN : Hid (∀ wx, Only (fun _ => False) wr wx → RefM (wx.setCell ⟨q, X, none⟩ (.int .i64 1)) w.heap.size (q + 1) q n (oldC ks (k + 1)) ∧ Below w.heap.size w (wx.setCell ⟨q, X, none⟩ (.int .i64 1))) := fun wx ho => by
        have hr2 := (hr.only ho (fun h => h) (fun h => h)).set X 1
        have hoo : Only (· = q) wr (wx.setCell ⟨q, X, none⟩ (.int .i64 1)) := (ho.mono (fun _ _ h => h.elim)).setCell _ _ (fun _ => rfl)
        refine ⟨by rw [← HSN.out]; exact hr2, HBL.out.trans (hoo.below HBL.out.size (fun j hj e => by omega))⟩
      clear hr hb hkl hx hmem hcell HR
      go_wp2
      refine wp_region_only (fun _ => False) [isV (.pointer (some ⟨q + 1, 0, none⟩)), isV (.pointer (some ⟨q + 1, 0, none⟩)), isV (.pointer (some ⟨q + 1, 0, none⟩)), isV (.slice (some ⟨q, 0, none⟩) n n), isV (.slice (some ⟨gb, off, none⟩) m cap), isV (.int .i64 (k : Int)), isV (.pointer (some ⟨gb, off + k, none⟩)), isV (.int .i64 (X : Int)), isV (.pointer (some ⟨q, X, none⟩))] 99 37 9 (by kernel_rfl) (by kernel_rfl) (by kernel_rfl) (by kernel_rfl) rfl ?_ ?_ ?_
      · repeat (first | exact trivial | refine allStL_isV ?_)
      · refine ⟨?_, ?_, ?_, ?_, ?_, ?_, ?_, ?_, ?_, trivial⟩
        · intro act wx h
          have e6 : act.eval (.tmp 6) = .pointer (some ⟨q + 1, 0, none⟩) := h.old 6 (by kernel_rfl)
          have hrel := h.rel
          clear h
          refine gives_by rfl act.eval rfl ?_
          generalize act.eval = ρ at *
          intro hf hc
          go_simp
          exact ⟨relM_quiet (by decide) (Only.refl _ _), rfl⟩
        · intro act wx h
          obtain ⟨v27, e27, f27⟩ := h.val 0 27 (by kernel_rfl)
          obtain rfl : v27 = .pointer (some ⟨q + 1, 0, none⟩) := f27
          have hrel := h.rel
          clear h
          refine gives_by rfl act.eval rfl ?_
          generalize act.eval = ρ at *
          intro hf hc
          go_simp
          exact ⟨relM_quiet (by decide) (Only.refl _ _), rfl⟩
        · intro act wx h
          obtain ⟨v28, e28, f28⟩ := h.val 1 28 (by kernel_rfl)
          obtain rfl : v28 = .pointer (some ⟨q + 1, 0, none⟩) := f28
          have hrel := h.rel
          clear h
          refine gives_by rfl act.eval rfl ?_
          generalize act.eval = ρ at *
          intro hf hc
          go_simp
          exact ⟨relM_quiet (by decide) (Only.refl _ _), rfl⟩
        · intro act wx h
          obtain ⟨v29, e29, f29⟩ := h.val 2 29 (by kernel_rfl)
          obtain rfl : v29 = .pointer (some ⟨q + 1, 0, none⟩) := f29
          have hrel := h.rel
          clear h
          have cx := (HCW.out wx hrel).1
          refine gives_by rfl act.eval rfl ?_
          generalize act.eval = ρ at *
          intro hf hc
          go_simp
          exact ⟨relM_quiet (by decide) (Only.refl _ _), rfl⟩
        · intro act wx h
          have e1 : act.eval (.tmp 1) = .slice (some ⟨gb, off, none⟩) m cap := h.old 1 (by kernel_rfl)
          have hrel := h.rel
          clear h
          refine gives_by rfl act.eval rfl ?_
          generalize act.eval = ρ at *
          intro hf hc
          go_simp
          exact ⟨relM_quiet (by decide) (Only.refl _ _), rfl⟩
        · intro act wx h
          have e7 : act.eval (.tmp 7) = .int .i64 (k : Int) := h.old 7 (by kernel_rfl)
          have hrel := h.rel
          clear h
          refine gives_by rfl act.eval rfl ?_
          generalize act.eval = ρ at *
          intro hf hc
          go_simp
          exact ⟨relM_quiet (by decide) (Only.refl _ _), rfl⟩
        · intro act wx h
          obtain ⟨v31, e31, f31⟩ := h.val 4 31 (by kernel_rfl)
          obtain rfl : v31 = .slice (some ⟨gb, off, none⟩) m cap := f31
          obtain ⟨v32, e32, f32⟩ := h.val 5 32 (by kernel_rfl)
          obtain rfl : v32 = .int .i64 (k : Int) := f32
          have hrel := h.rel
          clear h
          refine gives_by rfl act.eval rfl ?_
          generalize act.eval = ρ at *
          intro hf hc
          go_simp
          exact ⟨relM_quiet (by decide) (Only.refl _ _), rfl⟩
        · intro act wx h
          obtain ⟨v33, e33, f33⟩ := h.val 6 33 (by kernel_rfl)
          obtain rfl : v33 = .pointer (some ⟨gb, off + k, none⟩) := f33
          have hrel := h.rel
          clear h
          have cx := (HCW.out wx hrel).2.1
          refine gives_by rfl act.eval rfl ?_
          generalize act.eval = ρ at *
          intro hf hc
          go_simp
          exact ⟨relM_quiet (by decide) (Only.refl _ _), rfl⟩
        · intro act wx h
          obtain ⟨v30, e30, f30⟩ := h.val 3 30 (by kernel_rfl)
          obtain rfl : v30 = .slice (some ⟨q, 0, none⟩) n n := f30
          obtain ⟨v34, e34, f34⟩ := h.val 7 34 (by kernel_rfl)
          obtain rfl : v34 = .int .i64 (X : Int) := f34
          have hrel := h.rel
          clear h
          refine gives_by rfl act.eval rfl ?_
          generalize act.eval = ρ at *
          intro hf hc
          go_simp
          exact ⟨relM_quiet (by decide) (Only.refl _ _), rfl⟩
      · intro oL hoL vals w3 ho3 hv
        simp only [List.getElem?_toArray, List.getElem?_cons_succ, List.getElem?_cons_zero, Option.some.injEq] at hoL
        subst hoL
        have hv8 : vals 8 = .pointer (some ⟨q, X, none⟩) := hv 8 35 (by decide) (by kernel_rfl)
        clear hv
        generalize hact : putAll _ vals 0 _ = act
        obtain ⟨_, _, k2, k1⟩ := HCW.out w3 ho3
        obtain ⟨f1, f2⟩ := HFIN.out w3 ho3
        have HF1 := hide f1
        have HF2 := hide f2
        clear f1 f2
        subst hact
        simp only [List.dropLast, putAll, Act.put, List.setIfInBounds_toArray, List.set_cons_zero, List.set_cons_succ, hv8]
        refine gives_of_skip rfl (w' := w3.setCell ⟨q, X, none⟩ (.int .i64 1)) (by go_simp) ?_
        clear k1 k2
        go_wp2
        go_roundg gg
        case measure => omega
        case rel => exact ⟨k + 1, by omega, by go_num, HF1.out, HF2.out⟩

end Go.Proofs.YtbnhacibkmcmkaaDoor
