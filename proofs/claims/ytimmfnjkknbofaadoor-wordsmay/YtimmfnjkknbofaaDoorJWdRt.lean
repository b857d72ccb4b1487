/- Contracts: the document's Term (incipitref14.Term). -/
import Derived.Test.YtimmfnjkknbofaaDoorJFEqM
import Derived.Test.YtimmfnjkknbofaaDoorJWdStop
import Derived.Test.YtimmfnjkknbofaaDoorRegionC
namespace Go.Proofs.YtimmfnjkknbofaaDoor
set_option maxRecDepth 20000
open Go.RowKit
set_option linter.unusedVariables false
set_option linter.unusedSimpArgs false
set_option maxRecDepth 100000

theorem build_rune (w : World) (r : Nat) : (Instr.buildSlice 69 1 #[(0, .int .i32 (r : Int))]).run Tryd.prog w = .ok (.slice (some ⟨w.heap.size, 0, none⟩) 1 1) (w.alloc (.cells #[.int .i32 (r : Int)] 21)) := by kernel_rfl
/-- a rune that is folded and put behind, step by step -/
def TmS (wr w : World) (ov : Value) (L : List Nat) (r : Nat) : Nat → (Nat → Value) → World → Prop
  | 0, _, W => Below wr.heap.size wr W
  | 1, vals, W => Below wr.heap.size wr W ∧ vals 7 = .int .i32 ((r : Nat) : Int)
  | 2, vals, W => Below wr.heap.size wr W ∧ ∃ g, vals 8 = .slice (some ⟨g, 0, none⟩) 1 1 ∧ Blk W g 21 [.int .i32 ((r : Nat) : Int)]
  | 3, vals, W => Only (fun q => ov.ownBlock = some q) wr W ∧ RnO W (w.heap.size + 1) (vals 9) (L ++ [r]) ∧ ∃ a c, vals 9 = .slice a (L.length + 1) c
  | _, vals, W => Only (fun q => ov.ownBlock = some q) wr W ∧ RnO W (w.heap.size + 1) (vals 10) (L ++ [r]) ∧ ∃ a c, vals 10 = .slice a (L.length + 1) c
theorem TmS.kept {wr w : World} {ov : Value} {L : List Nat} {r k : Nat} {vals : Nat → Value} {W : World} (h : TmS wr w ov L r k vals W) (h0 : RnO wr (w.heap.size + 1) ov L) : Only (fun q => ov.ownBlock = some q) wr W := by
  match k, h with
  | 0, h => exact Only.of_below _ h
  | 1, h => exact Only.of_below _ h.1
  | 2, h => exact Only.of_below _ h.1
  | 3, h => exact h.1
  | _ + 4, h => exact h.1

set_option maxHeartbeats 2000000 in
theorem termD_any (w : World) (v : Value) (C : Cn) (h : CnfV w v C) (base : Nat) (vr : Value) (l : List Nat) (hR : RnO w base vr l) (hl : l.length ≤ 100000) (hlet : ∀ r ∈ l, letN r = true) :
    Calls Tryd.prog 46 #[v, vr] w fun e w' => e = .returned (.string (strOfNums (termZ (useL C.fs) C.cap.toNat l))) ∧ Below w.heap.size w w' := by
  obtain ⟨fo, fc, so, sc, w1, rfl, hw1, hb1, hB, hT, hS⟩ := box_cnf w v C h
  have HRU0 : Hid (∀ W r, Below w1.heap.size w1 W → letN r = true → Calls Tryd.prog 41 #[.slice fo C.fs.length fc, .int .i32 (r : Int)] W fun e w' => e = .returned (.int .i32 ((foldN (useL C.fs) r : Nat) : Int)) ∧ Below W.heap.size W w') := fun W r hb hr => by
    rw [foldN_at C.fs (letN_rune hr)]
    exact refRune_any W _ C.fs r (hT.below (hb1.trans (hb.mono hb1.size))) (by have := letN_lt hr; constructor <;> omega)
  have HFL : Hid (∀ r, letN r = true → letN (foldN (useL C.fs) r) = true) := fun r hr => (foldN_let C.fs (letN_rune hr)).trans hr
  unfold termZ termR
  have HB1 := hide hb1
  have HSZ1 : Hid (w1.heap.size = w.heap.size + 1) := by show _ = _; rw [← hw1]; simp
  have HBX1 := hide hB
  have HRR := hide hR
  have HLET := hide hlet
  obtain ⟨sa, cs, rfl⟩ := hR.shape
  obtain ⟨L, hL⟩ : ∃ n, l.length = n := ⟨_, rfl⟩
  rw [hL] at HRR hl ⊢
  have HL := hide hL
  generalize useL C.fs = us at *
  obtain ⟨fn, hfn⟩ : ∃ n, C.fs.length = n := ⟨_, rfl⟩
  obtain ⟨sn, hsn⟩ : ∃ n, C.ss.length = n := ⟨_, rfl⟩
  obtain ⟨K, hK⟩ : ∃ n, C.cap = n := ⟨_, rfl⟩
  rw [hfn] at hw1 HRU0 HBX1 ⊢
  rw [hsn] at hw1 HBX1 ⊢
  rw [hK] at hw1 HBX1 ⊢
  clear h hT hS hB hb1 hfn hsn hK hR hL hlet
  go_enter Tryd.func46, Tryd.ntmps46
  go_wp2
  try rw [hw1]
  clear hw1
  obtain ⟨N, hN⟩ : ∃ n, min L K.toNat = n := ⟨_, rfl⟩
  go_loopg [5, 6] N (fun k o i wr => ∃ (j : Nat) (oa : Option Addr) (oc : Nat), k + j = N ∧ i = .int .i64 (j : Int) ∧ o = .slice oa j oc ∧ RnO wr (w.heap.size + 1) (.slice oa j oc) ((l.take j).map (foldN us)) ∧ Below w1.heap.size w1 wr)
  case atStart => exact ⟨0, none, 0, by omega, rfl, rfl, RnO.nil _ _, Below.refl _ _⟩
  case round =>
    obtain ⟨j, oa, oc, hk, rfl, rfl, ho, hb⟩ := hrel
    have HO := hide ho
    have HB := hide hb
    have hbx := HBX1.out.below hb HBX1.out.lt
    have c0 : wr.cell? ⟨w.heap.size, 0, none⟩ = some (.slice fo fn fc) := hbx.cell 0
    have c2 : wr.cell? ⟨w.heap.size, 2, none⟩ = some (.int .i64 K) := hbx.cell 2
    have HBX := hide hbx
    clear ho hb hbx
    cases gk with
    | zero =>
      obtain rfl : j = N := by omega
      have HFIN : Hid ((convert 69 9 (.slice oa j oc)).run Tryd.prog wr = .ok (.string (strOfNums (fmL ((l.take K.toNat).map (foldN us))))) wr) := by
        have e : l.take K.toNat = l.take j := by
          have := HL.out
          rw [← hN]
          by_cases c : L ≤ K.toNat
          · rw [Nat.min_eq_left c, List.take_of_length_le (by omega), List.take_of_length_le (by omega)]
          · rw [Nat.min_eq_right (by omega)]
        rw [e]
        exact conv_fm wr _ _ _ HO.out (fun r hr => by
          obtain ⟨q, hq, rfl⟩ := List.mem_map.1 hr
          exact HFL.out q (HLET.out q (List.mem_of_mem_take hq)))
      have hconv := HFIN.out
      by_cases hjL : j < L
      · have h1 : (j : Int) < (L : Int) := by omega
        have h2 : ¬ (j : Int) < K := by omega
        clear HFIN
        go_wp2
        go_ret
        exact ⟨rfl, HB1.out.trans (HB.out.mono HB1.out.size)⟩
      · have h1 : ¬ (j : Int) < (L : Int) := by omega
        clear HFIN
        go_wp2
        go_ret
        exact ⟨rfl, HB1.out.trans (HB.out.mono HB1.out.size)⟩
    | succ k =>
      have h1 : (j : Int) < (L : Int) := by omega
      have h2 : (j : Int) < K := by omega
      have hjl : j < l.length := by have := HL.out; omega
      obtain ⟨gs, e, hgb, hgl, hcx⟩ := HRR.out.at j hjl
      subst e
      obtain ⟨r, hr⟩ : ∃ r, l[j] = r := ⟨_, rfl⟩
      rw [hr] at hcx
      have hrl : letN r = true := HLET.out r (by rw [← hr]; exact List.getElem_mem hjl)
      have HRU : Hid (∀ W, Below wr.heap.size wr W → Calls Tryd.prog 41 #[.slice fo fn fc, .int .i32 (r : Int)] W fun e w' => e = .returned (.int .i32 ((foldN us r : Nat) : Int)) ∧ Below W.heap.size W w') := fun W hb => HRU0.out W r (HB.out.trans (hb.mono HB.out.size)) hrl
      have HLE : Hid (((l.take j).map (foldN us)).length = j) := by show _ = _; simp; omega
      have HSZ : Hid (w.heap.size + 1 ≤ wr.heap.size) := by have := HSZ1.out; have := HB.out.size; show _ ≤ _; omega
      have HTK : Hid ((l.take (j + 1)).map (foldN us) = (l.take j).map (foldN us) ++ [foldN us r]) := by
        show _ = _
        rw [List.take_succ_eq_append_getElem hjl, List.map_append, hr]
        rfl
      have HOK : Hid (RnO wr (w.heap.size + 1) (.slice oa j oc) ((l.take j).map (foldN us))) := HO.out
      have HBX0 : Hid (∀ W, Only (fun q => (Value.slice oa j oc).ownBlock = some q) wr W → W.cell? ⟨w.heap.size, 0, none⟩ = some (.slice fo fn fc)) := fun W hw => (HBX.out.only hw (fun e => by have := (HO.out.lt _ e).1; omega)).cell 0
      have HLX : Hid (∀ W, Only (fun q => (Value.slice oa j oc).ownBlock = some q) wr W → W.cell? ⟨gs, j, none⟩ = some (.int .i32 (r : Int))) := fun W hw => by
        have hgw := (HB1.out.trans (HB.out.mono HB1.out.size)).block gs hgl
        have hgr : gs < wr.heap.size := by have := HSZ.out; omega
        have := hw.block gs hgr (fun e => by have := (HO.out.lt _ e).1; omega)
        exact (World.cell?_of_block (a := ⟨gs, j, none⟩) (this.trans hgw)).trans hcx
      clear HRU0 hcx hr c0
      obtain ⟨M, hM⟩ : ∃ M, (l.take j).map (foldN us) = M := ⟨_, rfl⟩
      rw [hM] at HO HOK HLE HTK
      clear hM
      go_wp2
      refine wp_region_chain [some (.slice oa j oc), some (.pointer (some ⟨w.heap.size, 0, none⟩)), some (.slice fo fn fc), some (.slice (some ⟨gs, 0, none⟩) L cs), some (.int .i64 (j : Int)), some (.pointer (some ⟨gs, j, none⟩)), some (.int .i32 (r : Int)), none, none, none, none] [7, 8, 9, 10] (TmS wr w (.slice oa j oc) M (foldN us r)) 31 (by kernel_rfl) (by kernel_rfl) (by kernel_rfl) (by kernel_rfl) rfl ?_ ?_ ?_
      · exact fun vals0 => (Below.refl _ wr).drew
      · refine ⟨?_, ?_, ?_, ?_, ?_, ?_, ?_, ?_, ?_, ?_, ?_, trivial⟩
        · intro k vals act wx hk h hs
          have e5 : act.eval (.tmp 5) = .slice oa j oc := h.old 5 (by kernel_rfl)
          clear h
          refine gives_by rfl act.eval rfl ?_
          generalize act.eval = ρ at *
          intro hf hc
          go_simp
          exact ⟨rfl, hs⟩
        · intro k vals act wx hk h hs
          have e2 : act.eval (.tmp 2) = .pointer (some ⟨w.heap.size, 0, none⟩) := h.old 2 (by kernel_rfl)
          clear h
          refine gives_by rfl act.eval rfl ?_
          generalize act.eval = ρ at *
          intro hf hc
          go_simp
          exact ⟨rfl, hs⟩
        · intro k vals act wx hk h hs
          have e20 : act.eval (.tmp 20) = .pointer (some ⟨w.heap.size, 0, none⟩) := h.q 1 20 (by kernel_rfl) rfl
          clear h
          have cx := HBX0.out wx (hs.kept HOK.out)
          refine gives_by rfl act.eval rfl ?_
          generalize act.eval = ρ at *
          intro hf hc
          go_simp
          exact ⟨rfl, hs⟩
        · intro k vals act wx hk h hs
          have e1 : act.eval (.tmp 1) = .slice (some ⟨gs, 0, none⟩) L cs := h.old 1 (by kernel_rfl)
          clear h
          refine gives_by rfl act.eval rfl ?_
          generalize act.eval = ρ at *
          intro hf hc
          go_simp
          exact ⟨rfl, hs⟩
        · intro k vals act wx hk h hs
          have e6 : act.eval (.tmp 6) = .int .i64 (j : Int) := h.old 6 (by kernel_rfl)
          clear h
          refine gives_by rfl act.eval rfl ?_
          generalize act.eval = ρ at *
          intro hf hc
          go_simp
          exact ⟨rfl, hs⟩
        · intro k vals act wx hk h hs
          have e22 : act.eval (.tmp 22) = .slice (some ⟨gs, 0, none⟩) L cs := h.q 3 22 (by kernel_rfl) rfl
          have e23 : act.eval (.tmp 23) = .int .i64 (j : Int) := h.q 4 23 (by kernel_rfl) rfl
          clear h
          refine gives_by rfl act.eval rfl ?_
          generalize act.eval = ρ at *
          intro hf hc
          go_simp
          exact ⟨rfl, hs⟩
        · intro k vals act wx hk h hs
          have e24 : act.eval (.tmp 24) = .pointer (some ⟨gs, j, none⟩) := h.q 5 24 (by kernel_rfl) rfl
          clear h
          have cx := HLX.out wx (hs.kept HOK.out)
          refine gives_by rfl act.eval rfl ?_
          generalize act.eval = ρ at *
          intro hf hc
          go_simp
          exact ⟨rfl, hs⟩
        · intro vals act wx h hs
          have e21 : act.eval (.tmp 21) = .slice fo fn fc := h.q 2 21 (by kernel_rfl) rfl
          have e25 : act.eval (.tmp 25) = .int .i32 (r : Int) := h.q 6 25 (by kernel_rfl) rfl
          clear h
          have hb0 : Below wr.heap.size wr wx := hs
          refine gives_by rfl act.eval rfl ?_
          generalize act.eval = ρ at *
          intro hf hc
          go_simp
          refine (HRU.out wx hb0).mono ?_
          rintro e wy ⟨rfl, hb⟩
          exact ⟨_, rfl, hb0.trans (hb.mono hb0.size), rfl⟩
        · intro vals act wx h hs
          have e26 : act.eval (.tmp 26) = vals 7 := h.val 7 26 (by kernel_rfl)
          clear h
          obtain ⟨hb0, h7⟩ := hs
          rw [h7] at e26
          refine gives_of_run rfl (exec_buildSlice1 69 1 (.tmp 26) rfl _ _ e26 (build_rune wx (foldN us r))) ?_
          exact ⟨hb0.alloc (by have := hb0.size; exact this) _, wx.heap.size, rfl, Blk.new wx 21 [.int .i32 ((foldN us r : Nat) : Int)]⟩
        · intro vals act wx h hs
          have e19 : act.eval (.tmp 19) = .slice oa j oc := h.q 0 19 (by kernel_rfl) rfl
          have e27 : act.eval (.tmp 27) = vals 8 := h.val 8 27 (by kernel_rfl)
          clear h
          obtain ⟨hb0, g, h8, hB⟩ := hs
          rw [h8] at e27
          obtain ⟨v', w3, hr, hi2, hg2, hv2, oa2, oc2, hv3⟩ := push_rnB wx (w.heap.size + 1) _ _ (HO.out.below hb0) (foldN us r) g hB (by rw [HLE.out]; omega) (by have := hb0.size; have := HSZ.out; omega)
          rw [HLE.out] at hv3
          refine gives_of_run rfl (exec_append (.tmp 19) (.tmp 27) 69 rfl _ _ e19 e27 _ hr) ?_
          exact ⟨(Only.of_below _ hb0).grown hg2 (fun q e _ => e), hi2, oa2, oc2, by rw [HLE.out]; exact hv3⟩
        · intro vals act wx h hs
          have e28 : act.eval (.tmp 28) = vals 9 := h.val 9 28 (by kernel_rfl)
          clear h
          obtain ⟨ho, hi2, a2, c2, hv⟩ := hs
          rw [hv] at e28 hi2
          refine gives_by rfl act.eval rfl ?_
          generalize act.eval = ρ at *
          intro hf hc
          go_simp
          exact ⟨ho, hi2, a2, c2, rfl⟩
      · intro vals w3 hq hs
        obtain ⟨ho, hi2, a2, c3, hv⟩ := hs
        rw [HLE.out] at hv
        rw [hv, ← HTK.out] at hi2
        have HI2 := hide hi2
        have HB3 : Hid (Below w1.heap.size w1 w3) := HB.out.trans (ho.below (by have := HB.out.size; exact this) (fun q hq e => by have := (HO.out.lt q e).1; have := HSZ1.out; omega))
        clear ho hi2 hq
        simp only [putAll, Act.put, List.setIfInBounds_toArray, List.set_cons_zero, List.set_cons_succ, Nat.zero_add, Nat.reduceAdd, hv]
        go_wp2
        go_roundg k
        case measure => omega
        case rel => exact ⟨j + 1, a2, c3, by omega, by go_num, rfl, HI2.out, HB3.out⟩

end Go.Proofs.YtimmfnjkknbofaaDoor
