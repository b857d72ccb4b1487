/- Contract of the document's own device: New. -/
import Derived.Test.YtoplhehcjgldeaaGreatJDRefC
namespace Go.Proofs.YtoplhehcjgldeaaGreat
open Go.RowKit
set_option linter.unusedVariables false
set_option maxRecDepth 100000

theorem exec_makeSlice {P : Program} {o : Oper} {a : Act} {w w' : World} (t : TypeId) (l c : Operand) (ho : o.op = .makeSlice t l c) (L C v : Value) (hl : a.eval l = L) (hc : a.eval c = C)
    (hr : (Instr.makeSlice t L C).run P w = .ok v w') : (execOp a.eval o).run P w = .ok (.value v) w' := by
  unfold execOp
  simp only [ho, hl, hc, Sem.run_bind, hr, Result.andThen_ok, Sem.run_pure]
theorem makePage (wx : World) : ∃ w', (Instr.makeSlice 46 (.int .i64 256) (.int .i64 256)).run Tryz.prog wx = .ok (.slice (some ⟨wx.heap.size, 0, none⟩) 256 256) w' ∧ isJ wx.heap.size zeroPage (.slice (some ⟨wx.heap.size, 0, none⟩) 256 256) w' ∧ Only (fun _ => False) wx w' := by
  obtain ⟨i0, hi, hz0, hz1, hz2⟩ := info_parts infoU8
  obtain ⟨w', h1, h2, h3⟩ := run_make_full (P := Tryz.prog) wx wx.heap.size 46 5 i0 _ 1 Tryz.underlying46 hi hz0 hz1 .i64 .i64 256 (by rw [hz2]; omega) (by unfold maxLen; omega) (Nat.le_refl _)
  refine ⟨w', h1, ?_, (Only.refl _ wx).grown h3 (fun k hk _ => by cases hk)⟩
  rw [show (madeCells (Value.int .u8 0).cells (256 * 1)).toList = List.replicate 256 (Value.int .u8 0) from toList_madeCells_one (.int .u8 0) 256] at h2
  show World.ownsRow _ _ _ 1 _ 256 (pc zeroPage)
  unfold pc zeroPage
  rw [List.map_replicate]
  exact h2
theorem buildSl (ao : Option Addr) (n cap : Nat) (wx : World) : (Instr.buildSlice 42 1 #[(0, .slice ao n cap)]).run Tryz.prog wx = .ok (.slice (some ⟨wx.heap.size, 0, none⟩) 1 1) (wx.alloc (.cells [Value.slice ao n cap].toArray 46)) := by
  obtain ⟨i1, hi, hz0, hz1, hz2⟩ := info_parts infoSl
  go_simp
def isBS (base : Nat) : Value → World → Prop := fun v w => ∃ g ao cap, v = .slice (some ⟨g, 0, none⟩) 1 1 ∧ Blk w g 46 [.slice ao 256 cap] ∧ base ≤ g ∧ isJ base zeroPage (.slice ao 256 cap) w
theorem stS_isBS (S : Nat → Prop) (base : Nat) (hS : ∀ k, S k → k < base) : StS S (isBS base) := by
  rintro v w w' ho ⟨g, ao, cap, rfl, hB, hg, h⟩
  exact ⟨g, ao, cap, rfl, hB.only ho (fun hs => by have := hS g hs; omega), hg, stS_isJ S base zeroPage hS _ _ _ ho h⟩
/-- the rows that are laid -/
def Laid (w0 w : World) (sv : Value) (k : Nat) (svs : List Value) : Prop := w.ownsRow w0.heap.size 46 1 sv k svs ∧ ∀ (i : Nat) (v : Value), svs[i]? = some v → isJ w0.heap.size zeroPage v w
theorem Laid.quiet {w0 w w' : World} {sv : Value} {k : Nat} {svs : List Value} (h : Laid w0 w sv k svs) (ho : Only (fun _ => False) w w') : Laid w0 w' sv k svs := ⟨ownsRow_only h.1 ho (fun _ _ h => h), fun i v hv => ownsRow_only (h.2 i v hv) ho (fun _ _ h => h)⟩
def isAS (w0 : World) (k : Nat) : Value → World → Prop := fun v w => ∃ ao cap svs, v = .slice ao k cap ∧ Laid w0 w (.slice ao k cap) k svs
theorem stS_isAS (w0 : World) (k : Nat) : StS (fun _ => False) (isAS w0 k) := by
  rintro v w w' ho ⟨ao, cap, svs, rfl, h⟩
  exact ⟨ao, cap, svs, rfl, h.quiet ho⟩
theorem Laid.snoc {w0 w : World} {sv : Value} {k : Nat} {svs : List Value} (h : Laid w0 w sv k svs) (g : Nat) (ao : Option Addr) (cap : Nat) (hB : Blk w g 46 [.slice ao 256 cap]) (hJ : isJ w0.heap.size zeroPage (.slice ao 256 cap) w) (hk : k ≤ 10000) (hw : w0.heap.size ≤ w.heap.size) :
    ∃ u wy, (Builtin.append_ #[42, 42] 42 #[sv, .slice (some ⟨g, 0, none⟩) 1 1]).run Tryz.prog w = .ok u wy ∧ isAS w0 (k + 1) u wy ∧ Only (fun j => sv.ownBlock = some j) w wy := by
  obtain ⟨i1, hi, hz0, hz1, hz2⟩ := info_parts infoSl
  obtain ⟨u, wy, hr, h1, h2, _, h4⟩ := run_append_own_at (P := Tryz.prog) w w0.heap.size 42 42 46 i1 _ 1 24 Tryz.underlying42 hi hz0 hz1 hz2 rfl (by decide) _ _ _ h.1 ⟨g, 0, none⟩ 1 1 [.slice ao 256 cap] rfl (fun j v hv => by rw [Addr.add_mid, Nat.zero_add, hB.cell]; exact hv) (fun x hx => by simp at hx; subst hx; rfl) (by unfold maxLen; omega) (by omega) hw
  have hoa : Only (fun j => sv.ownBlock = some j) w wy := (Only.refl _ w).grown h2 (fun k hk _ => hk)
  have hkeep : ∀ v, isJ w0.heap.size zeroPage v w → isJ w0.heap.size zeroPage v wy := fun v hv => ownsRow_only hv hoa (fun j hj hs => own_apart2 hv h.1 (by decide) hj hs)
  obtain ⟨au, cu, rfl⟩ := own_form' h1
  refine ⟨_, wy, hr, ⟨au, cu, _, rfl, h1, fun i v hv => ?_⟩, hoa⟩
  rw [List.getElem?_append] at hv
  split at hv
  · exact hkeep v (h.2 i v hv)
  · have : i - svs.length = 0 := by
      rcases Nat.eq_zero_or_pos (i - svs.length) with h | h
      · exact h
      · rw [List.getElem?_eq_none (by simp; omega)] at hv; cases hv
    rw [this] at hv
    simp at hv
    subst hv
    exact hkeep _ hJ

theorem refNew_bad (w : World) (p : Int) (h : p < 8 ∨ 2048 < p) : Calls Tryz.prog 6 #[.int .i64 p] w fun e w' => e = .returned (.tuple #[.pointer none, .int .i64 1]) ∧ w' = w := by
  by_cases h1 : p < 8
  · go_enter Tryz.func6, Tryz.ntmps6
    go_wp2
    go_ret2
    exact ⟨rfl, rfl⟩
  · have h2 : 2048 < p := by omega
    clear h
    go_enter Tryz.func6, Tryz.ntmps6
    go_wp2
    go_ret2
    exact ⟨rfl, rfl⟩

set_option maxHeartbeats 2000000 in
theorem refNew_ok (w : World) (n : Nat) (h1 : 8 ≤ n) (h2 : n ≤ 2048) : Calls Tryz.prog 6 #[.int .i64 n] w fun e w' => (∃ r, e = .returned (.tuple #[dp r, .int .i64 0]) ∧ Ref w' r (fun k => w.heap.size ≤ k) (newD n)) ∧ Below w.heap.size w w' := by
  have i1 : ¬ (n : Int) < 8 := by omega
  have i2 : ¬ (2048 : Int) < (n : Int) := by omega
  go_enter Tryz.func6, Tryz.ntmps6
  go_wp2
  go_loopg [5] n (fun g i wr => ∃ (k : Nat) (sv : Value) (svs : List Value), g + k = n ∧ i = .int .i64 k ∧ RefB wr w.heap.size sv (.slice none 0 0) (-1) false 0 ∧ Laid w wr sv k svs ∧ Below w.heap.size w wr)
  case atStart => exact ⟨0, .slice none 0 0, [], by omega, rfl, Blk.new w _ _, ⟨World.ownsRow_nil _ _ _ _, fun i v hv => by simp at hv⟩, (Below.refl _ _).alloc (Nat.le_refl _) _⟩
  case round =>
    obtain ⟨k, sv, svs, hk, rfl, hB, hL, hb⟩ := hrel
    have hbs := hb.size
    cases gk with
    | zero =>
      obtain rfl : k = n := by omega
      have HR : Hid (Ref wr w.heap.size (fun k => w.heap.size ≤ k) (newD k)) := by
        have hl : (newD k).st.length = k := List.length_replicate
        refine ⟨sv, .slice none 0 0, svs, [], newD_ok (by omega) h2, hB, by rw [hl]; exact ownsRow_base hL.1 (Nat.zero_le _), World.ownsRow_nil _ _ _ _, rfl, fun i v hv => ?_, (fun i v hv => by simp at hv), Nat.le_refl _, fun j hj => (hL.1.lt j hj).1, fun j hj => by cases hj⟩
        have hi : i < k := by
          have := (List.getElem?_eq_some_iff.1 hv).1
          have := hL.1.1
          omega
        have e : sAt (newD k).st i = zeroPage := by
          rw [sAt_lt (by rw [hl]; exact hi)]
          exact List.getElem_replicate _
        rw [e]
        exact ⟨ownsRow_base (hL.2 i v hv) (Nat.zero_le _), fun j hj => ((hL.2 i v hv).lt j hj).1⟩
      have HB := hide hb
      clear hB hL hb
      go_wp2
      go_ret2
      exact ⟨⟨w.heap.size, rfl, HR.out⟩, HB.out⟩
    | succ g =>
      have hkn : k < n := by omega
      have hki : (k : Int) < (n : Int) := by omega
      obtain ⟨asv, csv, rfl⟩ := own_form' hL.1
      have hrl := Blk.lt hB
      have hnr : ¬ (Value.slice asv k csv).ownBlock = some w.heap.size := fun hk => own_apart hL.1 hB (by decide) hk rfl
      have HC0 : Hid (∀ wx, Only (fun j => (Value.slice asv k csv).ownBlock = some j) wr wx → wx.cell? ⟨w.heap.size, 0, none⟩ = some (.slice asv k csv)) := fun wx hx => Blk.cell (Blk.only hB hx hnr) 0
      have HF0 : Hid (∀ wx, Only (fun j => (Value.slice asv k csv).ownBlock = some j) wr wx → wx.frozen? ⟨w.heap.size, 0, none⟩ = false) := fun wx hx => Blk.frozen (Blk.only hB hx hnr) 0
      have HAP : Hid (∀ wx g ao cap, Only (fun _ => False) wr wx → Blk wx g 46 [.slice ao 256 cap] → isJ wr.heap.size zeroPage (.slice ao 256 cap) wx → ∃ u wy, (Builtin.append_ #[42, 42] 42 #[.slice asv k csv, .slice (some ⟨g, 0, none⟩) 1 1]).run Tryz.prog wx = .ok u wy ∧ isAS w (k + 1) u wy ∧ Only (fun j => (Value.slice asv k csv).ownBlock = some j) wx wy) := fun wx g ao cap hx hBg hJ => (hL.quiet hx).snoc g ao cap hBg (ownsRow_base hJ hbs) (by omega) (by have := hx.size; omega)
      have HLt : Hid (∀ j, (Value.slice asv k csv).ownBlock = some j → j < wr.heap.size) := fun j hj => (hL.1.lt j hj).2
      have HNr := hide hnr
      have HOwn := hide hL.1
      have HEnd : Hid (∀ w3 au cu, Only (fun j => (Value.slice asv k csv).ownBlock = some j) wr w3 → (∃ svs2, Laid w w3 (.slice au (k + 1) cu) (k + 1) svs2) → RefB (w3.setCell ⟨w.heap.size, 0, none⟩ (.slice au (k + 1) cu)) w.heap.size (.slice au (k + 1) cu) (.slice none 0 0) (-1) false 0 ∧ (∃ svs2, Laid w (w3.setCell ⟨w.heap.size, 0, none⟩ (.slice au (k + 1) cu)) (.slice au (k + 1) cu) (k + 1) svs2) ∧ Below w.heap.size w (w3.setCell ⟨w.heap.size, 0, none⟩ (.slice au (k + 1) cu))) := fun w3 au cu h3 hL3 => by
        obtain ⟨svs2, hL3⟩ := hL3
        have hB3 := Blk.only hB h3 hnr
        have hoS : Only (· = w.heap.size) w3 (w3.setCell ⟨w.heap.size, 0, none⟩ (.slice au (k + 1) cu)) := (Only.refl (· = w.heap.size) w3).setCell ⟨w.heap.size, 0, none⟩ _ (fun _ => rfl)
        refine ⟨Blk.set hB3 0 _, ⟨svs2, ownsRow_only hL3.1 hoS (fun j hj => own_apart hL3.1 hB3 (by decide) hj), fun i v hv => ownsRow_only (hL3.2 i v hv) hoS (fun j hj => own_apart (hL3.2 i v hv) hB3 (by decide) hj)⟩, ?_⟩
        have hb3 := hb.trans (h3.below hbs (fun j hj hk => by have := (hL.1.lt j hk).1; omega))
        exact hb3.setCell (Nat.le_refl _) _
      clear hB hL hb
      go_wp2
      refine wp_region_only (fun j => (Value.slice asv k csv).ownBlock = some j) [isV (.pointer (some ⟨w.heap.size, 0, none⟩)), isV (.pointer (some ⟨w.heap.size, 0, none⟩)), isV (.pointer (some ⟨w.heap.size, 0, none⟩)), isV (.pointer (some ⟨w.heap.size, 0, none⟩)), isV (.slice asv k csv), isJ wr.heap.size zeroPage, isBS wr.heap.size, isAS w (k + 1), isV (.pointer (some ⟨w.heap.size, 0, none⟩)), isV (.pointer (some ⟨w.heap.size, 0, none⟩))] 7 30 10 (by kernel_rfl) (by kernel_rfl) (by kernel_rfl) (by kernel_rfl) rfl ?_ ?_ ?_
      · repeat (first | exact trivial | refine allStL_isV ?_ | refine ⟨stS_isJ _ _ _ (fun _ h => h.elim), fun _ => stS_isJ _ _ _ (fun j hj => HLt.out j hj), ?_⟩ | refine ⟨stS_isBS _ _ (fun _ h => h.elim), fun _ => stS_isBS _ _ (fun j hj => HLt.out j hj), ?_⟩ | refine ⟨stS_isAS _ _, fun h => absurd rfl h, ?_⟩)
      · refine ⟨?_, ?_, ?_, ?_, ?_, ?_, ?_, ?_, ?_, ?_, trivial⟩
        · intro a wx h
          have e4 : a.eval (.tmp 4) = .pointer (some ⟨w.heap.size, 0, none⟩) := h.old 4 (by kernel_rfl)
          have hrel := h.rel
          clear h
          refine gives_by rfl a.eval rfl ?_
          generalize a.eval = ρ at *
          intro hf hc
          go_simp
          exact ⟨relM_quiet (by decide) (Only.refl _ _), rfl⟩
        · intro a wx h
          have e4 : a.eval (.tmp 4) = .pointer (some ⟨w.heap.size, 0, none⟩) := h.old 4 (by kernel_rfl)
          have hrel := h.rel
          clear h
          refine gives_by rfl a.eval rfl ?_
          generalize a.eval = ρ at *
          intro hf hc
          go_simp
          exact ⟨relM_quiet (by decide) (Only.refl _ _), rfl⟩
        · intro a wx h
          obtain ⟨v20, e20, f20⟩ := h.val 1 20 (by kernel_rfl)
          obtain rfl : v20 = .pointer (some ⟨w.heap.size, 0, none⟩) := f20
          have hrel := h.rel
          clear h
          refine gives_by rfl a.eval rfl ?_
          generalize a.eval = ρ at *
          intro hf hc
          go_simp
          exact ⟨relM_quiet (by decide) (Only.refl _ _), rfl⟩
        · intro a wx h
          obtain ⟨v21, e21, f21⟩ := h.val 2 21 (by kernel_rfl)
          obtain rfl : v21 = .pointer (some ⟨w.heap.size, 0, none⟩) := f21
          have hrel := h.rel
          clear h
          refine gives_by rfl a.eval rfl ?_
          generalize a.eval = ρ at *
          intro hf hc
          go_simp
          exact ⟨relM_quiet (by decide) (Only.refl _ _), rfl⟩
        · intro a wx h
          obtain ⟨v22, e22, f22⟩ := h.val 3 22 (by kernel_rfl)
          obtain rfl : v22 = .pointer (some ⟨w.heap.size, 0, none⟩) := f22
          have hrel := h.rel
          clear h
          have cx := HC0.out wx hrel
          refine gives_by rfl a.eval rfl ?_
          generalize a.eval = ρ at *
          intro hf hc
          go_simp
          exact ⟨relM_quiet (by decide) (Only.refl _ _), rfl⟩
        · intro a wx h
          have hrel := h.rel
          clear h
          obtain ⟨wy, h1, h2, h3⟩ := makePage wx
          have hsz := hrel.size
          exact gives_of_run rfl (exec_makeSlice 46 (.const (.int .i64 256)) (.const (.int .i64 256)) rfl _ _ _ rfl rfl h1) ⟨relM_quiet (by decide) h3, ownsRow_base h2 (by omega)⟩
        · intro a wx h
          obtain ⟨v24, e24, f24⟩ := h.val 5 24 (by kernel_rfl)
          obtain hJ := f24
          have hrel := h.rel
          clear h
          obtain ⟨ax, kx, rfl⟩ := own_form' f24
          have hsz := hrel.size
          exact gives_of_run rfl (exec_buildSlice1 42 1 (.tmp 24) rfl _ _ e24 (buildSl ax 256 kx wx)) ⟨relM_quiet (by decide) ((Only.refl _ _).alloc _), ⟨_, ax, kx, rfl, Blk.new wx _ _, by omega, ownsRow_only f24 ((Only.refl (fun _ => False) _).alloc _) (fun _ _ h => h)⟩⟩
        · intro a wx h
          obtain ⟨v23, e23, f23⟩ := h.val 4 23 (by kernel_rfl)
          obtain rfl : v23 = .slice asv k csv := f23
          obtain ⟨v25, e25, f25⟩ := h.val 6 25 (by kernel_rfl)
          obtain ⟨gx, ax, kx, rfl, hB, hg, hJ⟩ := f25
          have hrel := h.rel
          have hq := h.relq rfl
          clear h
          obtain ⟨u, wy, hr, h1, h2⟩ := HAP.out wx gx ax kx hq hB hJ
          exact gives_of_run rfl (exec_append (.tmp 23) (.tmp 25) 42 rfl _ _ e23 e25 u hr) ⟨relM_turn h2, h1⟩
        · intro a wx h
          obtain ⟨v19, e19, f19⟩ := h.val 0 19 (by kernel_rfl)
          obtain rfl : v19 = .pointer (some ⟨w.heap.size, 0, none⟩) := f19
          have hrel := h.rel
          clear h
          refine gives_by rfl a.eval rfl ?_
          generalize a.eval = ρ at *
          intro hf hc
          go_simp
          exact ⟨relM_quiet (by decide) (Only.refl _ _), rfl⟩
        · intro a wx h
          obtain ⟨v27, e27, f27⟩ := h.val 8 27 (by kernel_rfl)
          obtain rfl : v27 = .pointer (some ⟨w.heap.size, 0, none⟩) := f27
          have hrel := h.rel
          clear h
          refine gives_by rfl a.eval rfl ?_
          generalize a.eval = ρ at *
          intro hf hc
          go_simp
          exact ⟨relM_quiet (by decide) (Only.refl _ _), rfl⟩
      · intro oL hoL vals w3 ho3 hv
        simp only [List.getElem?_toArray, List.getElem?_cons_succ, List.getElem?_cons_zero, Option.some.injEq] at hoL
        subst hoL
        have hv7 : isAS w (k + 1) (vals 7) w3 := hv 7 26 (by decide) (by kernel_rfl)
        have hv9 : vals 9 = .pointer (some ⟨w.heap.size, 0, none⟩) := hv 9 28 (by decide) (by kernel_rfl)
        clear hv
        generalize hact : putAll _ vals 0 _ = act
        obtain ⟨au, cu, svs2, hu, hL3⟩ := hv7
        have k1 := HC0.out w3 ho3
        have k2 := HF0.out w3 ho3
        obtain ⟨p1, p2, p3⟩ := HEnd.out w3 au cu ho3 ⟨svs2, hL3⟩
        have HP1 := hide p1
        have HP2 := hide p2
        have HP3 := hide p3
        clear p1 p2 p3 HEnd ho3 hL3
        subst hact
        simp only [List.dropLast, putAll, Act.put, List.setIfInBounds_toArray, List.set_cons_zero, List.set_cons_succ, hu, hv9]
        refine gives_of_skip rfl (w' := w3.setCell ⟨w.heap.size, 0, none⟩ (.slice au (k + 1) cu)) (by go_simp) ?_
        clear hu hv9 k1 k2
        go_wp2
        go_roundg g
        case measure => omega
        case rel =>
          obtain ⟨svs3, hr2⟩ := HP2.out
          exact ⟨k + 1, _, svs3, by omega, by go_num, HP1.out, hr2, HP3.out⟩

end Go.Proofs.YtoplhehcjgldeaaGreat
/- One contract for all outcomes of each act, of both devices. -/
namespace Go.Proofs.YtoplhehcjgldeaaGreat
open Go.RowKit
set_option linter.unusedVariables false
set_option maxRecDepth 100000

def writeR (d : Dv) (p : Int) (zs : List Int) : Int × Dv := if (0 ≤ p ∧ p < d.st.length) ∧ zs.length = 256 then (if d.off = true then (5, d) else (spendE d, writeD d p.toNat zs)) else (1, d)
def syncR (d : Dv) : Int × Dv := if d.off = true then (5, d) else (spendE d, syncD d)
def armR (d : Dv) (n : Int) : Int × Dv := if n < 0 then (1, d) else if d.off = true then (5, d) else (0, { d with left := some n.toNat })
def calmR (d : Dv) : Int × Dv := if d.off = true then (5, d) else (0, { d with left := none })

section
variable (w : World) (b r : Nat) (F G : Nat → Prop) (d : Dv)
theorem stay_dev (h : Dev w b F d) : Dev w b (fun k => F k ∨ w.heap.size ≤ k) d := h.mono (fun _ _ h => .inl h)
theorem stay_ref (h : Ref w r G d) : Ref w r (fun k => G k ∨ w.heap.size ≤ k) d := h.mono (fun _ _ h => .inl h)

theorem write_all (p : Int) (v : Value) (zs : List Int) (h : Dev w b F d) (hS : Sl w v zs) (hwl : d.ws.length < 1000000) (hdl : d.done < 1000000000) :
    Calls Tryz.prog 82 #[dp b, .int .i64 p, v] w fun e w' => e = .returned (.int .i64 (writeR d p zs).1) ∧ Dev w' b (fun k => F k ∨ w.heap.size ≤ k) (writeR d p zs).2 ∧ Only F w w' := by
  unfold writeR
  by_cases h1 : (0 ≤ p ∧ p < d.st.length) ∧ zs.length = 256
  · rw [if_pos h1]
    by_cases h2 : d.off = true
    · rw [if_pos h2]
      refine (write_off w b F d p v zs h hS h1.1 h1.2 h2).mono ?_
      rintro e w' ⟨rfl, rfl⟩
      exact ⟨rfl, stay_dev _ b F d h, Only.refl _ _⟩
    · rw [if_neg h2]
      obtain ⟨P, rfl⟩ : ∃ P : Nat, p = (P : Int) := ⟨p.toNat, by omega⟩
      exact write_ok w b F d P v zs h (by omega) (by simpa using h2) hS h1.2 hwl hdl
  · rw [if_neg h1]
    refine (write_arg w b F d p v zs h hS h1).mono ?_
    rintro e w' ⟨rfl, rfl⟩
    exact ⟨rfl, stay_dev _ b F d h, Only.refl _ _⟩
theorem refWrite_all (p : Int) (v : Value) (zs : List Int) (h : Ref w r G d) (hS : Sl w v zs) (hv : zs ≠ [] → ∀ k, v.ownBlock = some k → ¬ G k) (hwl : d.ws.length < 1000000) (hdl : d.done < 1000000000) :
    Calls Tryz.prog 68 #[dp r, .int .i64 p, v] w fun e w' => e = .returned (.int .i64 (writeR d p zs).1) ∧ Ref w' r (fun k => G k ∨ w.heap.size ≤ k) (writeR d p zs).2 ∧ Only G w w' := by
  unfold writeR
  by_cases h1 : (0 ≤ p ∧ p < d.st.length) ∧ zs.length = 256
  · rw [if_pos h1]
    by_cases h2 : d.off = true
    · rw [if_pos h2]
      refine (refWrite_off w r G d p v zs h hS h1.1 h1.2 h2).mono ?_
      rintro e w' ⟨rfl, rfl⟩
      exact ⟨rfl, stay_ref _ r G d h, Only.refl _ _⟩
    · rw [if_neg h2]
      obtain ⟨P, rfl⟩ : ∃ P : Nat, p = (P : Int) := ⟨p.toNat, by omega⟩
      exact refWrite_ok w r G d P v zs h (by omega) (by simpa using h2) hS (hv (by intro e; rw [e] at h1; simp at h1)) h1.2 hwl hdl
  · rw [if_neg h1]
    refine (refWrite_arg w r G d p v zs h hS h1).mono ?_
    rintro e w' ⟨rfl, rfl⟩
    exact ⟨rfl, stay_ref _ r G d h, Only.refl _ _⟩
theorem spendE_live (hl : d.left ≠ some 0) : spendE d = 0 := by
  unfold spendE
  split
  · rename_i h; exact absurd h hl
  · rfl
theorem spendE_dark (hl : d.left = some 0) : spendE d = 5 := by unfold spendE; rw [hl]; rfl
theorem sync_all (h : Dev w b F d) (hdl : d.done < 1000000000) :
    Calls Tryz.prog 33 #[dp b] w fun e w' => e = .returned (.int .i64 (syncR d).1) ∧ Dev w' b F (syncR d).2 ∧ Only F w w' := by
  unfold syncR
  by_cases h2 : d.off = true
  · rw [if_pos h2]
    refine (sync_off w b F d h h2).mono ?_
    rintro e w' ⟨rfl, rfl⟩
    exact ⟨rfl, h, Only.refl _ _⟩
  · rw [if_neg h2]
    have h2' : d.off = false := by simpa using h2
    by_cases hl : d.left = some 0
    · rw [spendE_dark d hl]; exact sync_dark w b F d h h2' hl hdl
    · rw [spendE_live d hl]; exact sync_live w b F d h h2' hl hdl
theorem refSync_all (h : Ref w r G d) (hdl : d.done < 1000000000) :
    Calls Tryz.prog 34 #[dp r] w fun e w' => e = .returned (.int .i64 (syncR d).1) ∧ Ref w' r G (syncR d).2 ∧ Only G w w' := by
  unfold syncR
  by_cases h2 : d.off = true
  · rw [if_pos h2]
    refine (refSync_off w r G d h h2).mono ?_
    rintro e w' ⟨rfl, rfl⟩
    exact ⟨rfl, h, Only.refl _ _⟩
  · rw [if_neg h2]
    have h2' : d.off = false := by simpa using h2
    by_cases hl : d.left = some 0
    · rw [spendE_dark d hl]; exact refSync_dark w r G d h h2' hl hdl
    · rw [spendE_live d hl]; exact refSync_live w r G d h h2' hl hdl
theorem arm_all (n : Int) (h : Dev w b F d) (hn : n ≤ 9223372036854775807) :
    Calls Tryz.prog 35 #[dp b, .int .i64 n] w fun e w' => e = .returned (.int .i64 (armR d n).1) ∧ Dev w' b F (armR d n).2 ∧ Only F w w' := by
  unfold armR
  by_cases h1 : n < 0
  · rw [if_pos h1]
    refine (arm_bad w b F d n h h1).mono ?_
    rintro e w' ⟨rfl, rfl⟩
    exact ⟨rfl, h, Only.refl _ _⟩
  · rw [if_neg h1]
    by_cases h2 : d.off = true
    · rw [if_pos h2]
      refine (arm_off w b F d n h h1 h2).mono ?_
      rintro e w' ⟨rfl, rfl⟩
      exact ⟨rfl, h, Only.refl _ _⟩
    · rw [if_neg h2]
      obtain ⟨N, rfl⟩ : ∃ N : Nat, n = (N : Int) := ⟨n.toNat, by omega⟩
      exact arm_ok w b F d N h (by omega) (by simpa using h2)
theorem refArm_all (n : Int) (h : Ref w r G d) (hn : n ≤ 9223372036854775807) :
    Calls Tryz.prog 36 #[dp r, .int .i64 n] w fun e w' => e = .returned (.int .i64 (armR d n).1) ∧ Ref w' r G (armR d n).2 ∧ Only G w w' := by
  have hrG : G r := by obtain ⟨_, _, _, _, h⟩ := h; exact h.fr
  unfold armR
  by_cases h1 : n < 0
  · rw [if_pos h1]
    refine (refArm_bad w r n h1).mono ?_
    rintro e w' ⟨rfl, rfl⟩
    exact ⟨rfl, h, Only.refl _ _⟩
  · rw [if_neg h1]
    by_cases h2 : d.off = true
    · rw [if_pos h2]
      refine (refArm_off w r G d n h h1 h2).mono ?_
      rintro e w' ⟨rfl, rfl⟩
      exact ⟨rfl, h, Only.refl _ _⟩
    · rw [if_neg h2]
      obtain ⟨N, rfl⟩ : ∃ N : Nat, n = (N : Int) := ⟨n.toNat, by omega⟩
      refine (refArm_ok w r G d N h (by omega) (by simpa using h2)).mono ?_
      rintro e w' ⟨rfl, h3, h4⟩
      exact ⟨rfl, h3, h4.mono (fun k _ e => by rw [e]; exact hrG)⟩
end

/-! ### how much an act adds -/
def Sized (n c : Nat) (d : Dv) : Prop := d.st.length = n ∧ d.ws.length ≤ c ∧ d.done ≤ c
theorem Sized.mono {n c c' : Nat} {d : Dv} (h : Sized n c d) (hc : c ≤ c') : Sized n c' d := ⟨h.1, by have := h.2.1; omega, by have := h.2.2; omega⟩
theorem sized_spend {n c : Nat} {d : Dv} (h1 : d.st.length = n) (h2 : d.ws.length ≤ c + 1) (h3 : d.done ≤ c) : Sized n (c + 1) (spendD d) := by
  unfold spendD
  split
  · exact ⟨h1, h2, by show d.done ≤ c + 1; omega⟩
  · exact ⟨h1, h2, by show d.done + 1 ≤ c + 1; omega⟩
  · exact ⟨h1, h2, by show d.done + 1 ≤ c + 1; omega⟩
theorem sized_write {n c : Nat} {d : Dv} (h : Sized n c d) (p : Int) (zs : List Int) : Sized n (c + 1) (writeR d p zs).2 := by
  unfold writeR
  split
  · split
    · exact h.mono (by omega)
    · exact sized_spend (d := { d with ws := d.ws ++ [(p.toNat, zs)] }) h.1 (by simp; exact h.2.1) h.2.2
  · exact h.mono (by omega)
theorem sized_sync {n c : Nat} {d : Dv} (h : Sized n c d) : Sized n (c + 1) (syncR d).2 := by
  unfold syncR
  split
  · exact h.mono (by omega)
  · show Sized n (c + 1) (syncD d)
    unfold syncD
    split
    · exact h.mono (by omega)
    · exact ⟨by show (syncK _ _ _).length = n; rw [syncK_len]; exact h.1, Nat.zero_le _, by have := h.2.2; show d.done + 1 ≤ c + 1; omega⟩
    · exact ⟨by show (syncK _ _ _).length = n; rw [syncK_len]; exact h.1, Nat.zero_le _, by have := h.2.2; show d.done + 1 ≤ c + 1; omega⟩
theorem sized_arm {n c : Nat} {d : Dv} (h : Sized n c d) (m : Int) : Sized n (c + 1) (armR d m).2 := by
  unfold armR
  split
  · exact h.mono (by omega)
  · split
    · exact h.mono (by omega)
    · exact Sized.mono (d := { d with left := some m.toNat }) h (by omega)
theorem sized_calm {n c : Nat} {d : Dv} (h : Sized n c d) : Sized n (c + 1) (calmR d).2 := by
  unfold calmR
  split
  · exact h.mono (by omega)
  · exact Sized.mono (d := { d with left := none }) h (by omega)
theorem sized_crash {n c : Nat} {d : Dv} (h : Sized n c d) (pk : List Int) : Sized n (c + 1) (crashD d pk) := ⟨by show (crashK _ _ _ _).length = n; rw [crashK_len]; exact h.1, Nat.zero_le _, by have := h.2.2; show d.done ≤ c + 1; omega⟩

end Go.Proofs.YtoplhehcjgldeaaGreat
