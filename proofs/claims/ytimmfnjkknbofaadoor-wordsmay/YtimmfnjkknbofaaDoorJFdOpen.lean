/- How what comes in is opened: a slice of bytes, a table. -/
import Derived.Test.YtimmfnjkknbofaaDoorJFRow
import Derived.Test.YtimmfnjkknbofaaDoorJWdStop
import Derived.WalkKit
import Derived.ProofKit
import Derived.ChangeSlices
import Derived.ChangeSame
import Derived.Deep.Slices
import Derived.ChangeOld
import Derived.OpenShut
import Derived.DataShut
import Derived.Below
import Derived.SliceStrings
namespace Go.Proofs.YtimmfnjkknbofaaDoor
set_option maxRecDepth 20000
open Go.ChangeShapes Go.WideShapes Go.ChangeAt Go.RowKit
set_option linter.unusedVariables false

theorem cellsU8 : Tryd.prog.cellsOf 5 = 1 := by kernel_rfl
theorem cellsInt : Tryd.prog.cellsOf 3 = 1 := by kernel_rfl
theorem cellsI32 : Tryd.prog.cellsOf 21 = 1 := by kernel_rfl
theorem cellsFold : Tryd.prog.cellsOf 54 = 3 := by kernel_rfl

theorem i32_wf {r : Int} (h : (Lit.int .i32 r).wf = true) : -2147483648 ≤ r ∧ r ≤ 2147483647 := by
  have q := (Lit.wf_int_iff _ _).1 h
  rwa [show IntKind.i32.min = -2147483648 by decide, show IntKind.i32.max = 2147483647 by decide] at q
theorem u8_wf {r : Int} (h : (Lit.int .u8 r).wf = true) : 0 ≤ r ∧ r ≤ 255 := by
  have q := (Lit.wf_int_iff _ _).1 h
  rwa [show IntKind.u8.min = 0 by decide, show IntKind.u8.max = 255 by decide] at q

theorem trod_sl {H : Type} {enc : TypeId × Value → H} {W : World} {fuel : Nat} {cs : List Value} {x : DataW H × List MemPlace}
    (h : DataW.trod enc Tryd.prog W 0 (fun _ => true) true fuel 26 cs = some x) : ∃ v zs, cs = [v] ∧ Sl W v zs := by
  rcases open_ints Tryd.underlying26 Tryd.underlying5 cellsU8 h with ⟨hcs, _⟩ | ⟨a, len, cap, zs, hcs, _, hl, hm, hz, _, hc, hwf⟩
  · exact ⟨_, [], hcs, Sl.nil W⟩
  · rw [if_pos rfl] at hz
    have hlen : (zs.take len).length = len := by simp; omega
    refine ⟨_, zs.take len, hcs, fun z hz => bounds_u8 (hwf z (List.mem_of_mem_take hz)), some a, cap, by rw [hlen], by omega, hm, (fun h => by cases h), fun hne => ?_⟩
    have h0 : 0 < len := by
      have := List.length_pos_iff.2 hne
      omega
    obtain ⟨b, off, spot⟩ := a
    have hc0 := hc 0 (by omega)
    have hspot : spot = none := by simpa [Addr.add] using World.cell?_spot hc0
    subst hspot
    refine ⟨b, off, rfl, fun i hi => ?_⟩
    have e : (⟨b, off, none⟩ : Addr).add i = ⟨b, off + i, none⟩ := by unfold Addr.add; split <;> simp_all
    rw [← e, hc i (by omega), getD_take zs len i (by omega)]

theorem trod_struct3 {H : Type} {enc : TypeId × Value → H} {P : Program} {w : World} {base : Nat} {spare : Nat → Bool} {held : Bool} {t : TypeId} {f0 f1 f2 : Field} {fuel : Nat} {cs : List Value} {x : DataW H × List MemPlace} (ht : P.underlying t = some (.struct #[f0, f1, f2])) (h : DataW.trod enc P w base spare held fuel t cs = some x) :
    ∃ y0 y1 y2 n, cs.length = P.cellsOf t ∧ DataW.trod enc P w base spare held n f0.type ((cs.drop f0.offset).take (P.cellsOf f0.type)) = some y0 ∧ DataW.trod enc P w base spare held n f1.type ((cs.drop f1.offset).take (P.cellsOf f1.type)) = some y1 ∧
      DataW.trod enc P w base spare held n f2.type ((cs.drop f2.offset).take (P.cellsOf f2.type)) = some y2 := by
  obtain ⟨xs, n, _, rfl, hl, hlen, hf⟩ := DataW.trod_struct ht h
  match xs, hlen with
  | [y0, y1, y2], _ => exact ⟨y0, y1, y2, n, hl, by simpa using hf 0 f0 rfl, by simpa using hf 1 f1 rfl, by simpa using hf 2 f2 rfl⟩

theorem fd_cells {w : World} {b off i : Nat} {f t m : Int} (h : ∀ j v, [Value.int .i32 f, .int .i32 t, .int .i64 m][j]? = some v → w.cell? (((⟨b, off, none⟩ : Addr).add (i * 3)).add j) = some v) :
    w.cell? ⟨b, off + i * 3, none⟩ = some (.int .i32 f) ∧ w.cell? ⟨b, off + i * 3 + 1, none⟩ = some (.int .i32 t) ∧ w.cell? ⟨b, off + i * 3 + 2, none⟩ = some (.int .i64 m) := by
  have e1 : (⟨b, off, none⟩ : Addr).add (i * 3) = ⟨b, off + i * 3, none⟩ := by unfold Addr.add; split <;> simp_all
  have e2 : ∀ j, (⟨b, off + i * 3, none⟩ : Addr).add j = ⟨b, off + i * 3 + j, none⟩ := fun j => by unfold Addr.add; split <;> simp_all
  have e : ∀ j, ((⟨b, off, none⟩ : Addr).add (i * 3)).add j = ⟨b, off + i * 3 + j, none⟩ := fun j => by rw [e1, e2]
  have h0 := h 0 _ rfl
  have h1 := h 1 _ rfl
  have h2 := h 2 _ rfl
  rw [e] at h0 h1 h2
  exact ⟨by simpa using h0, h1, h2⟩

theorem trod_tbl {H : Type} {enc : TypeId × Value → H} {W : World} {fuel : Nat} {cs : List Value} {x : DataW H × List MemPlace}
    (h : DataW.trod enc Tryd.prog W 0 (fun _ => true) true fuel 22 cs = some x) : ∃ v xs, cs = [v] ∧ Tbl W v xs := by
  rcases Go.Deep.open_slice Tryd.underlying22 h with ⟨hcs, _⟩ | ⟨a, len, cap, m, n, D, Pl, hcs, _, hl, hm, hmm, _, hel⟩
  · exact ⟨_, [], hcs, Tbl.nil W⟩
  · have each : ∀ i, i < len → ∃ p : Fd, FdOk p ∧ ∀ j v, [Value.int .i32 p.1, .int .i32 p.2.1, .int .i64 p.2.2][j]? = some v → W.cell? ((a.add (i * 3)).add j) = some v := by
      intro i hi
      obtain ⟨cs', hc, ht⟩ := hel i (by rw [hmm]; split <;> omega)
      rw [cellsFold] at hc
      obtain ⟨_, hlen, hcell⟩ := World.cells?_some hc
      obtain ⟨y0, y1, y2, n', _, t0, t1, t2⟩ := trod_struct3 Tryd.underlying54 ht
      match cs', hlen with
      | [p0, p1, p2], _ =>
        simp only [cellsI32, cellsInt] at t0 t1 t2
        obtain ⟨z0, h0, _, b0⟩ := DataW.trod_int Tryd.underlying21 t0
        obtain ⟨z1, h1, _, b1⟩ := DataW.trod_int Tryd.underlying21 t1
        obtain ⟨z2, h2, _, b2⟩ := DataW.trod_int Tryd.underlying3 t2
        simp at h0 h1 h2
        subst h0 h1 h2
        have q0 := (Lit.wf_int_iff _ _).1 b0
        have q1 := (Lit.wf_int_iff _ _).1 b1
        have q2 := (Lit.wf_int_iff _ _).1 b2
        rw [show IntKind.i32.min = -2147483648 by decide, show IntKind.i32.max = 2147483647 by decide] at q0 q1
        rw [show IntKind.i64.min = -9223372036854775808 by decide, show IntKind.i64.max = 9223372036854775807 by decide] at q2
        refine ⟨(z0, z1, z2), ⟨⟨?_, ?_⟩, ⟨?_, ?_⟩, ?_, ?_⟩, fun j v hj => ?_⟩
        · exact q0.1
        · exact q0.2
        · exact q1.1
        · exact q1.2
        · exact q2.1
        · exact q2.2
        · have hj2 : j < 3 := (List.getElem?_eq_some_iff.1 hj).1
          rw [hcell j hj2]
          exact hj
    haveI : Inhabited Fd := ⟨(0, 0, 0)⟩
    obtain ⟨f, hfn⟩ := Go.Deep.choose_lt each
    have hv : ((List.range len).map f).length = len := by simp
    have gv : ∀ i, i < len → ((List.range len).map f).getD i (0, 0, 0) = f i := by intro i hi; simp [List.getD, hi]
    refine ⟨_, (List.range len).map f, hcs, fun x hx => ?_, some a, cap, by rw [hv], by omega, hm, fun hne => ?_⟩
    · obtain ⟨i, hi, rfl⟩ := List.mem_map.1 hx
      exact (hfn i (by simpa using hi)).1
    · have h0 : 0 < len := by
        have := List.length_pos_iff.2 hne
        omega
      obtain ⟨b, off, spot⟩ := a
      have hc0 := (hfn 0 h0).2 0 _ rfl
      have hspot : spot = none := by simpa [Addr.add] using World.cell?_spot hc0
      subst hspot
      refine ⟨b, off, rfl, fun i hi => ?_⟩
      rw [hv] at hi
      rw [gv i hi]
      exact fd_cells (hfn i hi).2

set_option maxRecDepth 100000 in
theorem open_sl {H : Type} {enc : TypeId × Value → H} {W : World} {v : Value} {d : DataW H} {p : List MemPlace} {base : Nat} (hv : Value.okWide Tryd.prog W .any base 26 v)
    (h : DataW.Trod enc Tryd.prog W 0 (fun _ => true) true 26 v d p) : ∃ zs, Sl W v zs := by
  obtain ⟨a, n, c, rfl⟩ := okWide_slice Tryd.underlying26 hv
  obtain ⟨fuel, hf⟩ := h
  obtain ⟨u, zs, hu, hs⟩ := trod_sl hf
  simp [Value.cells] at hu
  subst hu
  exact ⟨zs, hs⟩
set_option maxRecDepth 100000 in
theorem open_tbl {H : Type} {enc : TypeId × Value → H} {W : World} {v : Value} {d : DataW H} {p : List MemPlace} {base : Nat} (hv : Value.okWide Tryd.prog W .any base 22 v)
    (h : DataW.Trod enc Tryd.prog W 0 (fun _ => true) true 22 v d p) : ∃ xs, Tbl W v xs := by
  obtain ⟨a, n, c, rfl⟩ := okWide_slice Tryd.underlying22 hv
  obtain ⟨fuel, hf⟩ := h
  obtain ⟨u, xs, hu, hs⟩ := trod_tbl hf
  simp [Value.cells] at hu
  subst hu
  exact ⟨xs, hs⟩

end Go.Proofs.YtimmfnjkknbofaaDoor
/- Contract: the laws' few (incipitlaw14.few): ways that have so little that they may be gone through. -/
namespace Go.Proofs.YtimmfnjkknbofaaDoor
set_option maxRecDepth 20000
open Go.RowKit
set_option linter.unusedVariables false
set_option linter.unusedSimpArgs false
set_option maxRecDepth 100000

def fewC (C : Cn) : Bool := decide (C.fs.length ≤ 40) && decide (C.ss.length ≤ 100) && C.ss.all fun z => decide (z.length ≤ 200)
theorem fewC_ok {C : Cn} (h : fewC C = true) (h1 : -9223372036854775808 ≤ C.cap) (h2 : C.cap ≤ 9223372036854775807) : CnOk C := by
  unfold fewC at h
  simp only [Bool.and_eq_true, decide_eq_true_iff, List.all_eq_true] at h
  exact ⟨h1, h2, by omega, by omega, fun z hz => by have := h.2 z hz; omega⟩
/-- ways one behind the other in a block -/
def Cfs (w : World) (b : Nat) (Cs : List Cn) : Prop := ∀ j (hj : j < Cs.length), ∃ fo fc so sc, w.cell? ⟨b, j * 3, none⟩ = some (.slice fo Cs[j].fs.length fc) ∧ w.cell? ⟨b, j * 3 + 1, none⟩ = some (.slice so Cs[j].ss.length sc) ∧ w.cell? ⟨b, j * 3 + 2, none⟩ = some (.int .i64 Cs[j].cap) ∧ Tbl w (.slice fo Cs[j].fs.length fc) Cs[j].fs ∧ Strs w (.slice so Cs[j].ss.length sc) Cs[j].ss
theorem Cfs.below {w w' : World} {b : Nat} {Cs : List Cn} (h : Cfs w b Cs) (hb : Below w.heap.size w w') : Cfs w' b Cs := fun j hj => by
  obtain ⟨fo, fc, so, sc, c0, c1, c2, ht, hs⟩ := h j hj
  have k : ∀ (i : Nat) (x : Value), w.cell? ⟨b, i, none⟩ = some x → w'.cell? ⟨b, i, none⟩ = some x := fun i x hx => (World.cell?_of_block (w := w) (a := ⟨b, i, none⟩) (hb.block b (World.block_lt_of_cell? w _ hx))).trans hx
  exact ⟨fo, fc, so, sc, k _ _ c0, k _ _ c1, k _ _ c2, ht.below hb, hs.below hb⟩
theorem all_step {α : Type} (f : α → Bool) (l : List α) (j : Nat) (hj : j < l.length) : (l.drop j).all f = (f l[j] && (l.drop (j + 1)).all f) := by
  rw [List.drop_eq_getElem_cons hj, List.all_cons]
theorem cfs_one {w : World} {b : Nat} {fo so : Option Addr} {fn fc sn sc : Nat} {K : Int} {C : Cn} (hB : Blk w b 25 [.slice fo fn fc, .slice so sn sc, .int .i64 K]) (h : CnfV w (.agg #[.slice fo fn fc, .slice so sn sc, .int .i64 K]) C) : Cfs w b [C] := fun j hj => by
  obtain ⟨fo', fc', so', sc', he, h1, h2⟩ := h
  simp at he
  obtain ⟨⟨rfl, rfl, rfl⟩, ⟨rfl, rfl, rfl⟩, rfl⟩ := he
  obtain rfl : j = 0 := by simp at hj; omega
  exact ⟨fo, fc, so, sc, hB.cell 0, hB.cell 1, hB.cell 2, h1, h2⟩

set_option maxHeartbeats 4000000 in
theorem few_any (w : World) (b : Nat) (Cs : List Cn) (h : Cfs w b Cs) (hn : Cs.length ≤ 10) :
    Calls Tryd.prog 7 #[.slice (some ⟨b, 0, none⟩) Cs.length Cs.length] w fun e w' => e = .returned (.bool (Cs.all fewC)) ∧ Below w.heap.size w w' := by
  have HC := hide h
  obtain ⟨n, hn0⟩ : ∃ n, Cs.length = n := ⟨_, rfl⟩
  have HN := hide hn0
  have hn10 : (n : Int) ≤ 10 := by omega
  rw [hn0]
  clear h hn hn0
  go_enter Tryd.func7, Tryd.ntmps7
  go_wp2
  go_loopg [9] n (fun k i wr => ∃ j : Nat, k + j = n ∧ i = .int .i64 (j : Int) ∧ (Cs.drop j).all fewC = Cs.all fewC ∧ Below w.heap.size w wr)
  case atStart => exact ⟨0, rfl, rfl, rfl, Below.refl _ w⟩
  case round =>
    obtain ⟨j, hk, rfl, hall, hbw⟩ := hrel
    have HALL := hide hall
    have HB := hide hbw
    clear hall hbw
    cases gk with
    | zero =>
      obtain rfl : j = n := by omega
      have hlt : ¬ (j : Int) < (j : Int) := by omega
      go_wp2
      go_ret
      exact ⟨ret_bool (by rw [← HALL.out, List.drop_eq_nil_of_le (by rw [HN.out]; exact Nat.le_refl _)]; rfl), HB.out⟩
    | succ k =>
      have hj : (j : Int) < (n : Int) := by omega
      have hjl : j < Cs.length := by rw [HN.out]; omega
      have hst := all_step fewC Cs j hjl
      obtain ⟨fo, fc, so, sc, c0, c1, c2, ht, hs⟩ := (HC.out.below HB.out) j hjl
      obtain ⟨C, hC⟩ : ∃ C, Cs[j] = C := ⟨_, rfl⟩
      rw [hC] at c0 c1 c2 ht hs hst
      have hmx := hs.max
      have HST := hide hst
      have HF : Hid (fewC C = (decide (C.fs.length ≤ 40) && decide (C.ss.length ≤ 100) && C.ss.all fun z => decide (z.length ≤ 200))) := rfl
      have hfm : C.fs.length ≤ 9223372036854775807 := ht.max
      have HSS := hide hs
      obtain ⟨fn, hfn⟩ : ∃ x, C.fs.length = x := ⟨_, rfl⟩
      obtain ⟨sn, hsn⟩ : ∃ x, C.ss.length = x := ⟨_, rfl⟩
      have HSN := hide hsn
      rw [hfn] at c0 HF
      rw [hsn] at c1 HF HSS
      obtain ⟨w1, hw1⟩ : ∃ w1, wr.alloc (.cells #[.slice fo fn fc, .slice so sn sc, .int .i64 C.cap] 25) = w1 := ⟨_, rfl⟩
      have hb1 : Below wr.heap.size wr w1 := by rw [← hw1]; exact (Below.refl _ wr).alloc (Nat.le_refl _) _
      have hB1 : Blk w1 wr.heap.size 25 [.slice fo fn fc, .slice so sn sc, .int .i64 C.cap] := by rw [← hw1]; exact Blk.new wr _ _
      have d0 : w1.cell? ⟨wr.heap.size, 0, none⟩ = some (.slice fo fn fc) := hB1.cell 0
      have d1 : w1.cell? ⟨wr.heap.size, 1, none⟩ = some (.slice so sn sc) := hB1.cell 1
      have HB1 : Hid (Below w.heap.size w w1) := HB.out.trans (hb1.mono HB.out.size)
      have HS1 := hide (HSS.out.below hb1)
      have hsm : (sn : Int) ≤ 9223372036854775807 := by unfold maxLen at hmx; omega
      generalize C.cap = K at *
      clear ht hs hC hst hfn hsn hmx HSS hb1 hB1
      by_cases h40 : fn ≤ 40
      · have h40i : ¬ (40 : Int) < (fn : Int) := by omega
        by_cases h100 : sn ≤ 100
        · have h100i : ¬ (100 : Int) < (sn : Int) := by omega
          rw [decide_eq_true h40, decide_eq_true h100, Bool.true_and, Bool.true_and] at HF
          go_wp2
          obtain ⟨GO, hGO⟩ : ∃ g, k + 1 = g := ⟨_, rfl⟩
          clear d0 d1 c0 c1 c2 hw1
          go_loopg [26] sn (fun k2 i wr2 => ∃ j2 : Nat, k2 + j2 = sn ∧ i = .int .i64 (j2 : Int) ∧ (C.ss.drop j2).all (fun z => decide (z.length ≤ 200)) = C.ss.all (fun z => decide (z.length ≤ 200)) ∧ Below w1.heap.size w1 wr2)
          case atStart => exact ⟨0, by omega, rfl, rfl, Below.refl _ w1⟩
          case round =>
            obtain ⟨j2, hk2, rfl, hall2, hbw2⟩ := hrel
            have HALL2 := hide hall2
            have HB2 := hide hbw2
            clear hall2 hbw2
            by_cases hj2 : j2 < sn
            · have hj2i : (j2 : Int) < (sn : Int) := by omega
              have hjl2 : j2 < C.ss.length := by rw [HSN.out]; omega
              have hst2 := all_step (fun z : List Int => decide (z.length ≤ 200)) C.ss j2 hjl2
              obtain ⟨b2, o2, rfl, hx, hok⟩ := (HS1.out.below HB2.out).at j2 hjl2
              obtain ⟨z, hz⟩ : ∃ z, C.ss[j2] = z := ⟨_, rfl⟩
              rw [hz] at hst2 hx
              have hsz : (strOfNums z).size = z.length := strOfNums_size z
              generalize strOfNums z = s at *
              obtain ⟨zl, hzl⟩ : ∃ x, z.length = x := ⟨_, rfl⟩
              rw [hzl] at hst2 hsz
              have HST2 := hide hst2
              clear hok hz hst2 hzl
              by_cases h200 : zl ≤ 200
              · have h200i : ¬ (200 : Int) < (zl : Int) := by omega
                go_wp2
                go_roundg (gk - 1)
                case measure => omega
                case rel => exact ⟨j2 + 1, by omega, by go_num, by rw [← HALL2.out, HST2.out, decide_eq_true h200]; rfl, HB2.out⟩
              · have h200i : (200 : Int) < (zl : Int) := by omega
                have HR : Hid (Cs.all fewC = false) := by
                  show _ = _
                  rw [← HALL.out, HST.out, HF.out, ← HALL2.out, HST2.out, decide_eq_false h200]; rfl
                go_wp2
                go_ret
                exact ⟨ret_bool HR.out.symm, HB1.out.trans (HB2.out.mono HB1.out.size)⟩
            · have hj2i : ¬ (j2 : Int) < (sn : Int) := by omega
              have HFT : Hid (fewC C = true) := by
                show _ = _
                rw [HF.out, ← HALL2.out, List.drop_eq_nil_of_le (by rw [HSN.out]; omega)]; rfl
              go_wp2
              go_roundg (GO - 1)
              case measure => omega
              case rel => exact ⟨j + 1, by omega, by go_num, by have := HST.out; rw [HFT.out, Bool.true_and] at this; rw [← this, HALL.out], HB1.out.trans (HB2.out.mono HB1.out.size)⟩
        · have h100i : (100 : Int) < (sn : Int) := by omega
          have HR : Hid (Cs.all fewC = false) := by
            show _ = _
            rw [← HALL.out, HST.out, HF.out, decide_eq_false h100]; simp
          go_wp2
          go_ret
          exact ⟨ret_bool HR.out.symm, HB1.out⟩
      · have h40i : (40 : Int) < (fn : Int) := by omega
        have HR : Hid (Cs.all fewC = false) := by
          show _ = _
          rw [← HALL.out, HST.out, HF.out, decide_eq_false h40]; simp
        go_wp2
        go_ret
        exact ⟨ret_bool HR.out.symm, HB1.out⟩

end Go.Proofs.YtimmfnjkknbofaaDoor
/- How what comes in is opened: a way, a text, texts. -/
namespace Go.Proofs.YtimmfnjkknbofaaDoor
set_option maxRecDepth 20000
open Go.ChangeShapes Go.WideShapes Go.ChangeAt Go.RowKit
set_option linter.unusedVariables false

theorem cellsStr : Tryd.prog.cellsOf 9 = 1 := by kernel_rfl
theorem cellsStrs : Tryd.prog.cellsOf 23 = 1 := by kernel_rfl
theorem cellsFolds : Tryd.prog.cellsOf 22 = 1 := by kernel_rfl
theorem cellsConf : Tryd.prog.cellsOf 25 = 3 := by kernel_rfl

/-- a text's bytes as numbers -/
def numsOf (s : ByteArray) : List Int := s.data.toList.map fun b => (b.toNat : Int)
theorem numsOf_str (s : ByteArray) : strOfNums (numsOf s) = s := by
  apply str_ext
  rw [strOfNums_data]
  unfold numsOf
  rw [List.map_map]
  conv => rhs; rw [← List.map_id s.data.toList]
  apply List.map_congr_left
  intro b _
  simp
theorem numsOf_ok (s : ByteArray) : ByteOk (numsOf s) := by
  intro z hz
  obtain ⟨b, _, rfl⟩ := List.mem_map.1 hz
  have := b.toNat_lt
  omega
theorem trod_strs {H : Type} {enc : TypeId × Value → H} {W : World} {fuel : Nat} {cs : List Value} {x : DataW H × List MemPlace}
    (h : DataW.trod enc Tryd.prog W 0 (fun _ => true) true fuel 23 cs = some x) : ∃ v ss, cs = [v] ∧ Strs W v ss := by
  rcases open_strings Tryd.underlying23 Tryd.underlying9 cellsStr h with ⟨hcs, _⟩ | ⟨a, len, cap, ss, hcs, _, hl, hm, hz, _, hc, _⟩
  · exact ⟨_, [], hcs, Strs.nil W⟩
  · rw [if_pos rfl] at hz
    have hlen : ((ss.take len).map numsOf).length = len := by simp; omega
    refine ⟨_, (ss.take len).map numsOf, hcs, fun z hz => ?_, some a, cap, by rw [hlen], by omega, hm, fun hne => ?_⟩
    · obtain ⟨s, _, rfl⟩ := List.mem_map.1 hz
      exact numsOf_ok s
    have h0 : 0 < len := by
      have := List.length_pos_iff.2 hne
      omega
    obtain ⟨b, off, spot⟩ := a
    have hc0 := hc 0 (by omega)
    have hspot : spot = none := by simpa [Addr.add] using World.cell?_spot hc0
    subst hspot
    refine ⟨b, off, rfl, fun i hi => ?_⟩
    rw [hlen] at hi
    have e : (⟨b, off, none⟩ : Addr).add i = ⟨b, off + i, none⟩ := by unfold Addr.add; split <;> simp_all
    rw [← e, hc i (by omega)]
    have g1 : ((ss.take len).map numsOf).getD i [] = numsOf (ss[i]'(by omega)) := by simp [List.getD, hi, show i < ss.length by omega]
    have g2 : ss.getD i ByteArray.empty = ss[i]'(by omega) := by simp [List.getD, show i < ss.length by omega]
    rw [g1, g2, numsOf_str]

/-- a way, and what its number is -/
def CnfI (W : World) (v : Value) (C : Cn) : Prop := CnfV W v C ∧ -9223372036854775808 ≤ C.cap ∧ C.cap ≤ 9223372036854775807
set_option maxRecDepth 100000 in
theorem open_conf {H : Type} {enc : TypeId × Value → H} {W : World} {v : Value} {d : DataW H} {p : List MemPlace} {base : Nat} (hv : Value.okWide Tryd.prog W .any base 25 v)
    (h : DataW.Trod enc Tryd.prog W 0 (fun _ => true) true 25 v d p) : ∃ C, CnfI W v C := by
  obtain ⟨cs, rfl, hcs⟩ := okWide_struct Tryd.underlying25 hv
  rw [cellsConf] at hcs
  obtain ⟨fuel, hf⟩ := h
  obtain ⟨y0, y1, y2, n', _, t0, t1, t2⟩ := trod_struct3 Tryd.underlying25 hf
  obtain ⟨l, rfl⟩ : ∃ l : List Value, cs = l.toArray := ⟨cs.toList, by simp⟩
  match l, (by simpa using hcs : l.length = 3) with
  | [p0, p1, p2], _ =>
    rw [cellsFolds] at t0
    rw [cellsStrs] at t1
    rw [cellsInt] at t2
    obtain ⟨v0, z0, h0, s0⟩ := trod_tbl t0
    obtain ⟨v1, z1, h1, s1⟩ := trod_strs t1
    obtain ⟨z2, h2, _, b2⟩ := DataW.trod_int Tryd.underlying3 t2
    simp [Value.cells] at h0 h1 h2
    subst h0 h1 h2
    have q2 := (Lit.wf_int_iff _ _).1 b2
    rw [show IntKind.i64.min = -9223372036854775808 by decide, show IntKind.i64.max = 9223372036854775807 by decide] at q2
    obtain ⟨a0, c0, rfl⟩ := s0.len
    obtain ⟨a1, c1, rfl⟩ := s1.len
    exact ⟨⟨z0, z1, z2⟩, ⟨a0, c0, a1, c1, rfl, s0, s1⟩, q2.1, q2.2⟩
set_option maxRecDepth 100000 in
theorem open_str {H : Type} {enc : TypeId × Value → H} {W : World} {v : Value} {d : DataW H} {p : List MemPlace} {base : Nat} (hv : Value.okWide Tryd.prog W .any base 9 v)
    (h : DataW.Trod enc Tryd.prog W 0 (fun _ => true) true 9 v d p) : ∃ zs, v = .string (strOfNums zs) ∧ ByteOk zs := by
  obtain ⟨s, rfl⟩ := okWide_string Tryd.underlying9 hv
  exact ⟨numsOf s, by rw [numsOf_str], numsOf_ok s⟩

end Go.Proofs.YtimmfnjkknbofaaDoor
