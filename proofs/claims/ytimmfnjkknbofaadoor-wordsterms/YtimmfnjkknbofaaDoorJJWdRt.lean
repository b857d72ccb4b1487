/- Contracts: the document's Term (incipitref14.Term). -/
import Derived.Test.YtimmfnjkknbofaaDoorJWdWp
import Derived.Test.YtimmfnjkknbofaaDoorJFMarks
import Derived.Test.YtimmfnjkknbofaaDoorWdStop
import Derived.Test.YtimmfnjkknbofaaDoorJRegionM
namespace Go.Proofs.YtimmfnjkknbofaaDoor
set_option maxRecDepth 20000
open Go.RowKit
set_option linter.unusedVariables false
set_option linter.unusedSimpArgs false
set_option maxRecDepth 100000

theorem build_rune (w : World) (r : Nat) : (Instr.buildSlice 69 1 #[(0, .int .i32 (r : Int))]).run Tryd.prog w = .ok (.slice (some ⟨w.heap.size, 0, none⟩) 1 1) (w.alloc (.cells #[.int .i32 (r : Int)] 21)) := by kernel_rfl
/-- a rune that is folded and put behind, step by step -/
def TmS (wr w : World) (ov : Value) (L : List Nat) (r : Nat) : Nat → (Nat → Value) → World → Prop
  | 0, _, W => Below wr.heap.size wr W
  | 1, vals, W => Below wr.heap.size wr W ∧ vals 7 = .int .i32 ((r : Nat) : Int)
  | 2, vals, W => Below wr.heap.size wr W ∧ ∃ g, vals 8 = .slice (some ⟨g, 0, none⟩) 1 1 ∧ Blk W g 21 [.int .i32 ((r : Nat) : Int)]
  | 3, vals, W => Only (fun q => ov.ownBlock = some q) wr W ∧ RnO W (w.heap.size + 1) (vals 9) (L ++ [r]) ∧ ∃ a c, vals 9 = .slice a (L.length + 1) c
  | _, vals, W => Only (fun q => ov.ownBlock = some q) wr W ∧ RnO W (w.heap.size + 1) (vals 10) (L ++ [r]) ∧ ∃ a c, vals 10 = .slice a (L.length + 1) c
theorem TmS.kept {wr w : World} {ov : Value} {L : List Nat} {r k : Nat} {vals : Nat → Value} {W : World} (h : TmS wr w ov L r k vals W) (h0 : RnO wr (w.heap.size + 1) ov L) : Only (fun q => ov.ownBlock = some q) wr W := by
  match k, h with
  | 0, h => exact Only.of_below _ h
  | 1, h => exact Only.of_below _ h.1
  | 2, h => exact Only.of_below _ h.1
  | 3, h => exact h.1
  | _ + 4, h => exact h.1

set_option maxHeartbeats 2000000 in
theorem termD_any (w : World) (v : Value) (C : Cn) (h : CnfV w v C) (base : Nat) (vr : Value) (l : List Nat) (hR : RnO w base vr l) (hl : l.length ≤ 100000) (hlet : ∀ r ∈ l, letN r = true) :
    Calls Tryd.prog 46 #[v, vr] w fun e w' => e = .returned (.string (strOfNums (termZ (useL C.fs) C.cap.toNat l))) ∧ Below w.heap.size w w' := by
  obtain ⟨fo, fc, so, sc, w1, rfl, hw1, hb1, hB, hT, hS⟩ := box_cnf w v C h
  have HRU0 : Hid (∀ W r, Below w1.heap.size w1 W → letN r = true → Calls Tryd.prog 41 #[.slice fo C.fs.length fc, .int .i32 (r : Int)] W fun e w' => e = .returned (.int .i32 ((foldN (useL C.fs) r : Nat) : Int)) ∧ Below W.heap.size W w') := fun W r hb hr => by
    rw [foldN_at C.fs (letN_rune hr)]
    exact refRune_any W _ C.fs r (hT.below (hb1.trans (hb.mono hb1.size))) (by have := letN_lt hr; constructor <;> omega)
  have HFL : Hid (∀ r, letN r = true → letN (foldN (useL C.fs) r) = true) := fun r hr => (foldN_let C.fs (letN_rune hr)).trans hr
  unfold termZ termR
  have HB1 := hide hb1
  have HSZ1 : Hid (w1.heap.size = w.heap.size + 1) := by show _ = _; rw [← hw1]; simp
  have HBX1 := hide hB
  have HRR := hide hR
  have HLET := hide hlet
  obtain ⟨sa, cs, rfl⟩ := hR.shape
  obtain ⟨L, hL⟩ : ∃ n, l.length = n := ⟨_, rfl⟩
  rw [hL] at HRR hl ⊢
  have HL := hide hL
  generalize useL C.fs = us at *
  obtain ⟨fn, hfn⟩ : ∃ n, C.fs.length = n := ⟨_, rfl⟩
  obtain ⟨sn, hsn⟩ : ∃ n, C.ss.length = n := ⟨_, rfl⟩
  obtain ⟨K, hK⟩ : ∃ n, C.cap = n := ⟨_, rfl⟩
  rw [hfn] at hw1 HRU0 HBX1 ⊢
  rw [hsn] at hw1 HBX1 ⊢
  rw [hK] at hw1 HBX1 ⊢
  clear h hT hS hB hb1 hfn hsn hK hR hL hlet
  go_enter Tryd.func46, Tryd.ntmps46
  go_wp2
  try rw [hw1]
  clear hw1
  obtain ⟨N, hN⟩ : ∃ n, min L K.toNat = n := ⟨_, rfl⟩
  go_loopg [5, 6] N (fun k o i wr => ∃ (j : Nat) (oa : Option Addr) (oc : Nat), k + j = N ∧ i = .int .i64 (j : Int) ∧ o = .slice oa j oc ∧ RnO wr (w.heap.size + 1) (.slice oa j oc) ((l.take j).map (foldN us)) ∧ Below w1.heap.size w1 wr)
  case atStart => exact ⟨0, none, 0, by omega, rfl, rfl, RnO.nil _ _, Below.refl _ _⟩
  case round =>
    obtain ⟨j, oa, oc, hk, rfl, rfl, ho, hb⟩ := hrel
    have HO := hide ho
    have HB := hide hb
    have hbx := HBX1.out.below hb HBX1.out.lt
    have c0 : wr.cell? ⟨w.heap.size, 0, none⟩ = some (.slice fo fn fc) := hbx.cell 0
    have c2 : wr.cell? ⟨w.heap.size, 2, none⟩ = some (.int .i64 K) := hbx.cell 2
    have HBX := hide hbx
    clear ho hb hbx
    cases gk with
    | zero =>
      obtain rfl : j = N := by omega
      have HFIN : Hid ((convert 69 9 (.slice oa j oc)).run Tryd.prog wr = .ok (.string (strOfNums (fmL ((l.take K.toNat).map (foldN us))))) wr) := by
        have e : l.take K.toNat = l.take j := by
          have := HL.out
          rw [← hN]
          by_cases c : L ≤ K.toNat
          · rw [Nat.min_eq_left c, List.take_of_length_le (by omega), List.take_of_length_le (by omega)]
          · rw [Nat.min_eq_right (by omega)]
        rw [e]
        exact conv_fm wr _ _ _ HO.out (fun r hr => by
          obtain ⟨q, hq, rfl⟩ := List.mem_map.1 hr
          exact HFL.out q (HLET.out q (List.mem_of_mem_take hq)))
      have hconv := HFIN.out
      by_cases hjL : j < L
      · have h1 : (j : Int) < (L : Int) := by omega
        have h2 : ¬ (j : Int) < K := by omega
        clear HFIN
        go_wp2
        go_ret
        exact ⟨rfl, HB1.out.trans (HB.out.mono HB1.out.size)⟩
      · have h1 : ¬ (j : Int) < (L : Int) := by omega
        clear HFIN
        go_wp2
        go_ret
        exact ⟨rfl, HB1.out.trans (HB.out.mono HB1.out.size)⟩
    | succ k =>
      have h1 : (j : Int) < (L : Int) := by omega
      have h2 : (j : Int) < K := by omega
      have hjl : j < l.length := by have := HL.out; omega
      obtain ⟨gs, e, hgb, hgl, hcx⟩ := HRR.out.at j hjl
      subst e
      obtain ⟨r, hr⟩ : ∃ r, l[j] = r := ⟨_, rfl⟩
      rw [hr] at hcx
      have hrl : letN r = true := HLET.out r (by rw [← hr]; exact List.getElem_mem hjl)
      have HRU : Hid (∀ W, Below wr.heap.size wr W → Calls Tryd.prog 41 #[.slice fo fn fc, .int .i32 (r : Int)] W fun e w' => e = .returned (.int .i32 ((foldN us r : Nat) : Int)) ∧ Below W.heap.size W w') := fun W hb => HRU0.out W r (HB.out.trans (hb.mono HB.out.size)) hrl
      have HLE : Hid (((l.take j).map (foldN us)).length = j) := by show _ = _; simp; omega
      have HSZ : Hid (w.heap.size + 1 ≤ wr.heap.size) := by have := HSZ1.out; have := HB.out.size; show _ ≤ _; omega
      have HTK : Hid ((l.take (j + 1)).map (foldN us) = (l.take j).map (foldN us) ++ [foldN us r]) := by
        show _ = _
        rw [List.take_succ_eq_append_getElem hjl, List.map_append, hr]
        rfl
      have HOK : Hid (RnO wr (w.heap.size + 1) (.slice oa j oc) ((l.take j).map (foldN us))) := HO.out
      have HBX0 : Hid (∀ W, Only (fun q => (Value.slice oa j oc).ownBlock = some q) wr W → W.cell? ⟨w.heap.size, 0, none⟩ = some (.slice fo fn fc)) := fun W hw => (HBX.out.only hw (fun e => by have := (HO.out.lt _ e).1; omega)).cell 0
      have HLX : Hid (∀ W, Only (fun q => (Value.slice oa j oc).ownBlock = some q) wr W → W.cell? ⟨gs, j, none⟩ = some (.int .i32 (r : Int))) := fun W hw => by
        have hgw := (HB1.out.trans (HB.out.mono HB1.out.size)).block gs hgl
        have hgr : gs < wr.heap.size := by have := HSZ.out; omega
        have := hw.block gs hgr (fun e => by have := (HO.out.lt _ e).1; omega)
        exact (World.cell?_of_block (a := ⟨gs, j, none⟩) (this.trans hgw)).trans hcx
      clear HRU0 hcx hr c0
      obtain ⟨M, hM⟩ : ∃ M, (l.take j).map (foldN us) = M := ⟨_, rfl⟩
      rw [hM] at HO HOK HLE HTK
      clear hM
      go_wp2
      refine wp_region_chain [some (.slice oa j oc), some (.pointer (some ⟨w.heap.size, 0, none⟩)), some (.slice fo fn fc), some (.slice (some ⟨gs, 0, none⟩) L cs), some (.int .i64 (j : Int)), some (.pointer (some ⟨gs, j, none⟩)), some (.int .i32 (r : Int)), none, none, none, none] [7, 8, 9, 10] (TmS wr w (.slice oa j oc) M (foldN us r)) 31 (by kernel_rfl) (by kernel_rfl) (by kernel_rfl) (by kernel_rfl) rfl ?_ ?_ ?_
      · exact fun vals0 => (Below.refl _ wr).drew
      · refine ⟨?_, ?_, ?_, ?_, ?_, ?_, ?_, ?_, ?_, ?_, ?_, trivial⟩
        · intro k vals act wx hk h hs
          have e5 : act.eval (.tmp 5) = .slice oa j oc := h.old 5 (by kernel_rfl)
          clear h
          refine gives_by rfl act.eval rfl ?_
          generalize act.eval = ρ at *
          intro hf hc
          go_simp
          exact ⟨rfl, hs⟩
        · intro k vals act wx hk h hs
          have e2 : act.eval (.tmp 2) = .pointer (some ⟨w.heap.size, 0, none⟩) := h.old 2 (by kernel_rfl)
          clear h
          refine gives_by rfl act.eval rfl ?_
          generalize act.eval = ρ at *
          intro hf hc
          go_simp
          exact ⟨rfl, hs⟩
        · intro k vals act wx hk h hs
          have e20 : act.eval (.tmp 20) = .pointer (some ⟨w.heap.size, 0, none⟩) := h.q 1 20 (by kernel_rfl) rfl
          clear h
          have cx := HBX0.out wx (hs.kept HOK.out)
          refine gives_by rfl act.eval rfl ?_
          generalize act.eval = ρ at *
          intro hf hc
          go_simp
          exact ⟨rfl, hs⟩
        · intro k vals act wx hk h hs
          have e1 : act.eval (.tmp 1) = .slice (some ⟨gs, 0, none⟩) L cs := h.old 1 (by kernel_rfl)
          clear h
          refine gives_by rfl act.eval rfl ?_
          generalize act.eval = ρ at *
          intro hf hc
          go_simp
          exact ⟨rfl, hs⟩
        · intro k vals act wx hk h hs
          have e6 : act.eval (.tmp 6) = .int .i64 (j : Int) := h.old 6 (by kernel_rfl)
          clear h
          refine gives_by rfl act.eval rfl ?_
          generalize act.eval = ρ at *
          intro hf hc
          go_simp
          exact ⟨rfl, hs⟩
        · intro k vals act wx hk h hs
          have e22 : act.eval (.tmp 22) = .slice (some ⟨gs, 0, none⟩) L cs := h.q 3 22 (by kernel_rfl) rfl
          have e23 : act.eval (.tmp 23) = .int .i64 (j : Int) := h.q 4 23 (by kernel_rfl) rfl
          clear h
          refine gives_by rfl act.eval rfl ?_
          generalize act.eval = ρ at *
          intro hf hc
          go_simp
          exact ⟨rfl, hs⟩
        · intro k vals act wx hk h hs
          have e24 : act.eval (.tmp 24) = .pointer (some ⟨gs, j, none⟩) := h.q 5 24 (by kernel_rfl) rfl
          clear h
          have cx := HLX.out wx (hs.kept HOK.out)
          refine gives_by rfl act.eval rfl ?_
          generalize act.eval = ρ at *
          intro hf hc
          go_simp
          exact ⟨rfl, hs⟩
        · intro vals act wx h hs
          have e21 : act.eval (.tmp 21) = .slice fo fn fc := h.q 2 21 (by kernel_rfl) rfl
          have e25 : act.eval (.tmp 25) = .int .i32 (r : Int) := h.q 6 25 (by kernel_rfl) rfl
          clear h
          have hb0 : Below wr.heap.size wr wx := hs
          refine gives_by rfl act.eval rfl ?_
          generalize act.eval = ρ at *
          intro hf hc
          go_simp
          refine (HRU.out wx hb0).mono ?_
          rintro e wy ⟨rfl, hb⟩
          exact ⟨_, rfl, hb0.trans (hb.mono hb0.size), rfl⟩
        · intro vals act wx h hs
          have e26 : act.eval (.tmp 26) = vals 7 := h.val 7 26 (by kernel_rfl)
          clear h
          obtain ⟨hb0, h7⟩ := hs
          rw [h7] at e26
          refine gives_of_run rfl (exec_buildSlice1 69 1 (.tmp 26) rfl _ _ e26 (build_rune wx (foldN us r))) ?_
          exact ⟨hb0.alloc (by have := hb0.size; exact this) _, wx.heap.size, rfl, Blk.new wx 21 [.int .i32 ((foldN us r : Nat) : Int)]⟩
        · intro vals act wx h hs
          have e19 : act.eval (.tmp 19) = .slice oa j oc := h.q 0 19 (by kernel_rfl) rfl
          have e27 : act.eval (.tmp 27) = vals 8 := h.val 8 27 (by kernel_rfl)
          clear h
          obtain ⟨hb0, g, h8, hB⟩ := hs
          rw [h8] at e27
          obtain ⟨v', w3, hr, hi2, hg2, hv2, oa2, oc2, hv3⟩ := push_rnB wx (w.heap.size + 1) _ _ (HO.out.below hb0) (foldN us r) g hB (by rw [HLE.out]; omega) (by have := hb0.size; have := HSZ.out; omega)
          rw [HLE.out] at hv3
          refine gives_of_run rfl (exec_append (.tmp 19) (.tmp 27) 69 rfl _ _ e19 e27 _ hr) ?_
          exact ⟨(Only.of_below _ hb0).grown hg2 (fun q e _ => e), hi2, oa2, oc2, by rw [HLE.out]; exact hv3⟩
        · intro vals act wx h hs
          have e28 : act.eval (.tmp 28) = vals 9 := h.val 9 28 (by kernel_rfl)
          clear h
          obtain ⟨ho, hi2, a2, c2, hv⟩ := hs
          rw [hv] at e28 hi2
          refine gives_by rfl act.eval rfl ?_
          generalize act.eval = ρ at *
          intro hf hc
          go_simp
          exact ⟨ho, hi2, a2, c2, rfl⟩
      · intro vals w3 hq hs
        obtain ⟨ho, hi2, a2, c3, hv⟩ := hs
        rw [HLE.out] at hv
        rw [hv, ← HTK.out] at hi2
        have HI2 := hide hi2
        have HB3 : Hid (Below w1.heap.size w1 w3) := HB.out.trans (ho.below (by have := HB.out.size; exact this) (fun q hq e => by have := (HO.out.lt q e).1; have := HSZ1.out; omega))
        clear ho hi2 hq
        simp only [putAll, Act.put, List.setIfInBounds_toArray, List.set_cons_zero, List.set_cons_succ, Nat.zero_add, Nat.reduceAdd, hv]
        go_wp2
        go_roundg k
        case measure => omega
        case rel => exact ⟨j + 1, a2, c3, by omega, by go_num, rfl, HI2.out, HB3.out⟩

end Go.Proofs.YtimmfnjkknbofaaDoor
/- Rows of runes ([][]rune), owned; contract: the document's Words (incipitref14.Words), Count. -/
namespace Go.Proofs.YtimmfnjkknbofaaDoor
set_option maxRecDepth 20000
open Go.RowKit
set_option linter.unusedVariables false
set_option linter.unusedSimpArgs false
set_option maxRecDepth 100000

theorem infoRs : (Tryd.prog.info? 69).map (fun i => (i.zero, i.size, i.bytes)) = some (some (.slice none 0 0), 1, 24) := by kernel_rfl
/-- a [][]rune that is owned, with the rows in it, each in a block of its own -/
structure WsO (w : World) (B : Nat) (v : Value) (L : List (List Nat)) (vs : List Value) : Prop where
  own : w.ownsRow B 69 1 v L.length vs
  len : vs.length = L.length
  inn : ∀ (i : Nat) (x : Value) (l : List Nat), vs[i]? = some x → L[i]? = some l → RnO w B x l
  out : ∀ x ∈ vs, ∀ k, x.ownBlock = some k → v.ownBlock ≠ some k
  apart : ∀ (i j : Nat) (x y : Value), vs[i]? = some x → vs[j]? = some y → i ≠ j → ∀ k, x.ownBlock = some k → y.ownBlock ≠ some k
theorem ownsRow_lt {w : World} {base : Nat} {e : TypeId} {size n : Nat} {v : Value} {xs : List Value} (h : w.ownsRow base e size v n xs) (k : Nat) (hk : v.ownBlock = some k) : base ≤ k ∧ k < w.heap.size := World.ownsRow.lt h k hk
theorem WsO.each {w : World} {B : Nat} {v : Value} {L : List (List Nat)} {vs : List Value} (h : WsO w B v L vs) {x : Value} (hx : x ∈ vs) : ∃ l, RnO w B x l := by
  obtain ⟨i, hi, rfl⟩ := List.mem_iff_getElem.1 hx
  exact ⟨L[i]'(by rw [← h.len]; exact hi), h.inn i _ _ (List.getElem?_eq_getElem hi) (List.getElem?_eq_getElem (by rw [← h.len]; exact hi))⟩
theorem WsO.below {w w' : World} {B : Nat} {v : Value} {L : List (List Nat)} {vs : List Value} (h : WsO w B v L vs) (hb : Below w.heap.size w w') : WsO w' B v L vs :=
  ⟨ownsRow_only h.own (Only.of_below (fun _ => False) hb) (fun _ _ h => h), h.len, fun i x l h1 h2 => (h.inn i x l h1 h2).below hb, h.out, h.apart⟩
theorem WsO.base {w : World} {B B' : Nat} {v : Value} {L : List (List Nat)} {vs : List Value} (h : WsO w B v L vs) (hb : B' ≤ B) : WsO w B' v L vs := by
  refine ⟨⟨h.own.1, ?_⟩, h.len, fun i x l h1 h2 => (h.inn i x l h1 h2).base hb, h.out, h.apart⟩
  rcases h.own.2 with h' | ⟨g, cap, cur, e, h1, r⟩
  · exact .inl h'
  · exact .inr ⟨g, cap, cur, e, Nat.le_trans hb h1, r⟩
theorem WsO.nil (w : World) (B : Nat) : WsO w B (.slice none 0 0) [] [] :=
  ⟨World.ownsRow_nil _ _ _ _, rfl, (fun i x l h => by simp at h), (fun x h => by cases h), (fun i j x y h => by simp at h)⟩
theorem WsO.shape {w : World} {B : Nat} {v : Value} {L : List (List Nat)} {vs : List Value} (h : WsO w B v L vs) : ∃ ao cap, v = .slice ao L.length cap := own_form' h.own
theorem WsO.at {w : World} {B : Nat} {ao : Option Addr} {n cap : Nat} {L : List (List Nat)} {vs : List Value} (h : WsO w B (.slice ao n cap) L vs) (i : Nat) (hi : i < L.length) : ∃ g u, ao = some ⟨g, 0, none⟩ ∧ vs[i]? = some u ∧ w.cell? ⟨g, i, none⟩ = some u ∧ RnO w B u L[i] ∧ g < w.heap.size ∧ B ≤ g := by
  have ho := h.own
  have hiv : i < vs.length := by rw [h.len]; exact hi
  cases ao with
  | none =>
    rcases ho.2 with ⟨_, e⟩ | ⟨g, cap', sp, e, _⟩
    · omega
    · simp at e
  | some a =>
    rcases ho.2 with ⟨e, _⟩ | ⟨g, cap', sp, e, _⟩
    · simp at e
    · simp only [Value.slice.injEq, Option.some.injEq] at e
      obtain ⟨rfl, rfl, rfl⟩ := e
      have hlt := World.ownsRow.lt ho g rfl
      refine ⟨g, vs[i], rfl, List.getElem?_eq_getElem hiv, ?_, h.inn i _ _ (List.getElem?_eq_getElem hiv) (List.getElem?_eq_getElem hi), hlt.2, hlt.1⟩
      exact (World.ownsRow.cellAt ho i (by omega)).trans (List.getElem?_eq_getElem hiv)
theorem WsO.blk {w : World} {B g n cap : Nat} {L : List (List Nat)} {vs : List Value} (h : WsO w B (.slice (some ⟨g, 0, none⟩) n cap) L vs) : ∃ cs, Blk w g 69 cs := by
  have ho := h.own
  obtain ⟨ao, c, e⟩ := h.shape
  simp only [Value.slice.injEq] at e
  obtain ⟨_, rfl, _⟩ := e
  obtain ⟨_, _, _, _, sp, hB, _⟩ := own_blk ho
  exact ⟨_, hB⟩
theorem WsO.last {w : World} {B : Nat} {ao : Option Addr} {m cap p : Nat} {I : List (List Nat)} {x : List Nat} {vs : List Value} (h : WsO w B (.slice ao m cap) (I ++ [x]) vs) (hm : m = p + 1) (hp : I.length = p) : ∃ g u, ao = some ⟨g, 0, none⟩ ∧ vs[p]? = some u ∧ w.cell? ⟨g, p, none⟩ = some u ∧ w.frozen? ⟨g, p, none⟩ = false := by
  obtain ⟨g, u, rfl, h1, h2, _⟩ := h.at p (by simp; omega)
  obtain ⟨cs, hB⟩ := h.blk
  exact ⟨g, u, rfl, h1, h2, hB.frozen p⟩

/-- 'append(out, nil)' -/
theorem push_nil (w : World) (B : Nat) (v : Value) (L : List (List Nat)) (vs : List Value) (h : WsO w B v L vs) (hl : L.length + 1 ≤ 1000000) (hb : B ≤ w.heap.size) :
    ∃ v' w', (Builtin.append_ #[78, 78] 78 #[v, .slice (some ⟨w.heap.size, 0, none⟩) 1 1]).run Tryd.prog (w.alloc (.cells #[.slice none 0 0] 69)) = .ok v' w' ∧ WsO w' B v' (L ++ [[]]) (vs ++ [.slice none 0 0]) ∧ Below B w w' ∧ ∃ ao cap, v' = .slice ao (L.length + 1) cap := by
  obtain ⟨i0, hi, hz, hs, hby⟩ := info_parts infoRs
  obtain ⟨v', w', hr, h1, h2, _, h4⟩ := run_append_own_at (P := Tryd.prog) (w.alloc (.cells #[.slice none 0 0] 69)) B 78 78 69 i0 (.slice none 0 0) 1 24 Tryd.underlying78 hi hz hs hby rfl (by decide) v L.length vs (World.ownsRow.alloc h.own _) ⟨w.heap.size, 0, none⟩ 1 1 [.slice none 0 0] rfl
    (fun j u hj => by
      have hB := Blk.new w 69 [.slice none 0 0]
      have hj0 : j < 1 := by have := (List.getElem?_eq_some_iff.1 hj).1; simpa using this
      obtain rfl : j = 0 := by omega
      have := hB.cell 0
      simp only [List.getElem?_cons_zero, Option.some.injEq] at hj
      subst hj
      exact this) (by intro u hu; simp at hu; subst hu; rfl) (by unfold maxLen; omega) (by omega) (by simp; omega)
  have hoA : Only (fun q => v.ownBlock = some q) w w' := ((Only.refl _ w).alloc _).grown h2 (fun q e _ => e)
  have hvo : v'.ownBlock = v.ownBlock ∨ v'.ownBlock = some (w.heap.size + 1) := by simpa using h4
  have hn : ∀ (i : Nat) (x : Value), (vs ++ [Value.slice none 0 0])[i]? = some x → (∃ h : i < vs.length, vs[i]? = some x) ∨ (i = vs.length ∧ x = .slice none 0 0) := fun i x hx => by
    by_cases hiv : i < vs.length
    · rw [List.getElem?_append_left hiv] at hx; exact .inl ⟨hiv, hx⟩
    · rw [List.getElem?_append_right (by omega)] at hx
      have hlt := (List.getElem?_eq_some_iff.1 hx).1
      simp at hlt
      obtain rfl : i = vs.length := by omega
      simp at hx
      exact .inr ⟨rfl, hx.symm⟩
  refine ⟨v', w', hr, ⟨?_, by simp [h.len], ?_, ?_, ?_⟩, hoA.below hb (fun q hq e => by have := (World.ownsRow.lt h.own q e).1; omega), ?_⟩
  · have := h1
    rw [List.length_append]
    exact this
  · intro i x l hx hlx
    rcases hn i x hx with ⟨hiv, hx⟩ | ⟨rfl, rfl⟩
    · rw [List.getElem?_append_left (by rw [← h.len]; exact hiv)] at hlx
      exact (h.inn i x l hx hlx).only hoA (fun k hk e => h.out x (List.mem_of_getElem? hx) k hk e)
    · rw [h.len, List.getElem?_append_right (Nat.le_refl _), Nat.sub_self] at hlx
      simp at hlx
      subst hlx
      exact RnO.nil _ _
  · intro x hx k hk
    rcases List.mem_append.1 hx with hx | hx
    · rcases hvo with e | e
      · rw [e]; exact h.out x hx k hk
      · rw [e]
        intro e2
        obtain ⟨l, hR⟩ := h.each hx
        have h1 := (hR.lt k hk).2
        have h2 := Option.some.inj e2
        omega
    · rw [List.mem_singleton.1 hx] at hk; cases hk
  · intro i j x y hx hy hne k hk
    rcases hn i x hx with ⟨hiv, hx⟩ | ⟨rfl, rfl⟩
    · rcases hn j y hy with ⟨hjv, hy⟩ | ⟨rfl, rfl⟩
      · exact h.apart i j x y hx hy hne k hk
      · intro e; cases e
    · cases hk
  · exact own_form' h1

/-- the last row, one rune longer, put back -/
theorem WsO.putLast {W1 W0 : World} {B : Nat} {m oc p go : Nat} {I : List (List Nat)} {x : List Nat} {vs : List Value} {u u' : Value} {r : Nat} {oa : Option Addr}
    (h : WsO W1 B (.slice oa m oc) (I ++ [x]) vs) (hm : m = p + 1) (hp : I.length = p) (hu : vs[p]? = some u) (ho : Only (fun q => u.ownBlock = some q) W1 W0) (hr : RnO W0 B u' (x ++ [r])) (hq : u'.ownBlock = u.ownBlock ∨ ∃ q, u'.ownBlock = some q ∧ W1.heap.size ≤ q) (hgo : oa = some ⟨go, 0, none⟩) :
    ∃ vs', WsO (W0.setCell ⟨go, p, none⟩ u') B (.slice oa m oc) (I ++ [x ++ [r]]) vs' ∧ Below B W1 (W0.setCell ⟨go, p, none⟩ u') := by
  subst hgo
  have hown := h.own
  have hlen : (I ++ [x]).length = m := by simp; omega
  have hlen2 : (I ++ [x ++ [r]]).length = m := by simp; omega
  have hpv : p < vs.length := by rw [h.len, hlen]; omega
  rw [hlen] at hown
  obtain ⟨h1, h2, h3, h4, sp, hB, hs⟩ := own_blk hown
  have hgl : B ≤ go ∧ go < W1.heap.size := World.ownsRow.lt hown go rfl
  have hgu : u.ownBlock ≠ some go := fun e => h.out u (List.mem_of_getElem? hu) go e rfl
  have hgu' : u'.ownBlock ≠ some go := fun e => by
    rcases hq with e2 | ⟨q, e2, hle⟩
    · exact hgu (e2 ▸ e)
    · rw [e2] at e
      have := Option.some.inj e
      omega
  have hB0 : Blk W0 go 69 (vs ++ sp) := hB.only ho hgu
  have hB1 := hB0.set p u'
  rw [List.set_append_left _ _ hpv] at hB1
  have hoS : Only (· = go) W0 (W0.setCell ⟨go, p, none⟩ u') := (Only.refl (· = go) W0).setCell ⟨go, p, none⟩ _ (fun _ => rfl)
  have hst : ∀ i y, (vs.set p u')[i]? = some y → (i = p ∧ y = u') ∨ (i ≠ p ∧ vs[i]? = some y) := fun i y hy => by
    by_cases hi : i = p
    · subst hi
      rw [List.getElem?_set_self hpv] at hy
      exact .inl ⟨rfl, (Option.some.inj hy).symm⟩
    · rw [List.getElem?_set_ne (fun e => hi e.symm)] at hy
      exact .inr ⟨hi, hy⟩
  have hfr : ∀ i y k, i ≠ p → vs[i]? = some y → y.ownBlock = some k → u'.ownBlock ≠ some k := fun i y k hi hy hk e => by
    rcases hq with e2 | ⟨q, e2, hle⟩
    · exact h.apart i p y u hy hu hi k hk (e2 ▸ e)
    · obtain ⟨l, hR⟩ := h.each (List.mem_of_getElem? hy)
      have := (hR.lt k hk).2
      rw [e2] at e
      have := Option.some.inj e
      omega
  refine ⟨vs.set p u', ⟨?_, ?_, ?_, ?_, ?_⟩, ?_⟩
  · rw [hlen2]
    exact blk_own hB1 h1 h2 h3 (by simpa using h4) hs
  · rw [List.length_set, h.len, hlen, hlen2]
  · intro i y l hy hl
    rcases hst i y hy with ⟨rfl, rfl⟩ | ⟨hi, hy⟩
    · rw [← hp, List.getElem?_append_right (Nat.le_refl _), Nat.sub_self] at hl
      simp at hl
      subst hl
      exact hr.only hoS (fun k hk e => hgu' (e ▸ hk))
    · have hil : i < I.length := by
        have := (List.getElem?_eq_some_iff.1 hy).1
        rw [h.len, hlen] at this
        omega
      rw [List.getElem?_append_left hil] at hl
      have := h.inn i y l hy (by rw [List.getElem?_append_left hil]; exact hl)
      exact (this.only ho (fun k hk e => h.apart i p y u hy hu hi k hk e)).only hoS (fun k hk e => h.out y (List.mem_of_getElem? hy) k hk (by rw [e]; rfl))
  · intro y hy k hk
    obtain ⟨i, hi⟩ := List.mem_iff_getElem?.1 hy
    rcases hst i y hi with ⟨rfl, rfl⟩ | ⟨hi, hy⟩
    · intro e
      exact hgu' (by rw [hk]; exact e.symm ▸ rfl)
    · exact h.out y (List.mem_of_getElem? hy) k hk
  · intro i j y z hy hz hne k hk
    rcases hst i y hy with ⟨rfl, rfl⟩ | ⟨hi, hy2⟩
    · rcases hst j z hz with ⟨rfl, rfl⟩ | ⟨hj, hz2⟩
      · exact absurd rfl hne
      · intro e
        exact hfr j z k hj hz2 e hk
    · rcases hst j z hz with ⟨rfl, rfl⟩ | ⟨hj, hz2⟩
      · exact hfr i y k hi hy2 hk
      · exact h.apart i j y z hy2 hz2 hne k hk
  · have hb1 : Below B W1 W0 := ho.below (by omega) (fun q hq e => by
      obtain ⟨l, hR⟩ := h.each (List.mem_of_getElem? hu)
      have := (hR.lt q e).1
      omega)
    exact hb1.trans (hoS.below (by have := hb1.size; omega) (fun q hq e => by omega))

/-- a rune that is put behind the last row, step by step -/
def WoS (W1 : World) (B : Nat) (ov u : Value) (x : List Nat) (r : Nat) (ad : Addr) : Nat → (Nat → Value) → World → Prop
  | 0, _, W => Below W1.heap.size W1 W
  | 1, vals, W => Below W1.heap.size W1 W ∧ ∃ g, vals 14 = .slice (some ⟨g, 0, none⟩) 1 1 ∧ Blk W g 21 [.int .i32 ((r : Nat) : Int)]
  | 2, vals, W => Only (fun q => u.ownBlock = some q) W1 W ∧ RnO W B (vals 15) (x ++ [r]) ∧ ((vals 15).ownBlock = u.ownBlock ∨ ∃ q, (vals 15).ownBlock = some q ∧ W1.heap.size ≤ q) ∧ ∃ a n c, vals 15 = .slice a n c
  | _, vals, W => ∃ W0, (Only (fun q => u.ownBlock = some q) W1 W0 ∧ RnO W0 B (vals 15) (x ++ [r]) ∧ ((vals 15).ownBlock = u.ownBlock ∨ ∃ q, (vals 15).ownBlock = some q ∧ W1.heap.size ≤ q) ∧ ∃ a n c, vals 15 = .slice a n c) ∧ W = W0.setCell ad (vals 15)
theorem WoS.kept {W1 : World} {B : Nat} {ov u : Value} {x : List Nat} {r : Nat} {ad : Addr} {k : Nat} {vals : Nat → Value} {W : World} (h : WoS W1 B ov u x r ad k vals W) (hk : k < 3) : Only (fun q => u.ownBlock = some q) W1 W := by
  match k, h, hk with
  | 0, h, _ => exact Only.of_below _ h
  | 1, h, _ => exact Only.of_below _ h.1
  | 2, h, _ => exact h.1

set_option maxHeartbeats 4000000 in
theorem wordsD_any (w : World) (v : Value) (zs : List Int) (h : Sl w v zs) (hl : zs.length ≤ 100000) : Calls Tryd.prog 45 #[v] w fun e w' => ∃ u vs, e = .returned u ∧ WsO w' w.heap.size u (wds (rs zs)) vs ∧ Below w.heap.size w w' := by
  have HRR := hide (runesD_any w v zs h hl)
  have hrl := rs_len zs
  have HRV : Hid (∀ r ∈ rs zs, I32 (r : Int)) := fun r hr => by
    obtain ⟨q, hq, rfl⟩ := List.mem_map.1 hr
    have := runesN_i32 zs _ hq
    constructor <;> omega
  generalize rs zs = R at *
  obtain ⟨ao, L0, cap, rfl⟩ := sl_form h
  clear h
  go_enter Tryd.func45, Tryd.ntmps45
  go_wp2_with (go_at_call 39; refine HRR.out.mono ?_; rintro e w2 ⟨u, rfl, hu, hb⟩; obtain ⟨al, cs, rfl⟩ := hu.shape; have HU := hide hu; have HB2 := hide hb; clear HRR hu hb)
  obtain ⟨n, hn⟩ : ∃ n, R.length = n := ⟨_, rfl⟩
  rw [hn] at HU ⊢
  have HN := hide hn
  have hnl : n ≤ 100000 := by omega
  clear hn hrl
  go_loopg [3, 5] n (fun k o i wr => ∃ (j : Nat) (oa : Option Addr) (oc m : Nat) (vs : List Value), k + j = n ∧ i = .int .i64 (j : Int) ∧ o = .slice oa m oc ∧ m = (wds (R.take j)).length ∧ WsO wr w2.heap.size (.slice oa m oc) (wds (R.take j)) vs ∧ Below w2.heap.size w2 wr)
  case atStart => exact ⟨0, none, 0, 0, [], by omega, rfl, rfl, rfl, WsO.nil _ _, Below.refl _ _⟩
  case round =>
    obtain ⟨j, oa, oc, m, vs, hk, rfl, rfl, hm, hw, hb⟩ := hrel
    have HW0 := hide hw
    have HB0 := hide hb
    have HM0 := hide hm
    clear hw hb hm
    cases gk with
    | zero =>
      obtain rfl : j = n := by omega
      have hlt : ¬ (j : Int) < (j : Int) := by omega
      go_wp2
      go_ret
      refine ⟨_, rfl, ⟨vs, ?_⟩, HB2.out.trans (HB0.out.mono HB2.out.size)⟩
      have h1 := HW0.out
      rw [List.take_of_length_le (by rw [HN.out]; exact Nat.le_refl _)] at h1
      exact h1.base HB2.out.size
    | succ k =>
      have hj : (j : Int) < (n : Int) := by omega
      have hjR : j < R.length := by rw [HN.out]; omega
      obtain ⟨gs, e, _, hgl, hcx⟩ := HU.out.at j hjR
      subst e
      obtain ⟨r, hr⟩ : ∃ r, R[j] = r := ⟨_, rfl⟩
      rw [hr] at hcx
      have hcw : wr.cell? ⟨gs, j, none⟩ = some (.int .i32 (r : Int)) := (World.cell?_of_block (a := ⟨gs, j, none⟩) (HB0.out.block gs hgl)).trans hcx
      have hI := HRV.out r (by rw [← hr]; exact List.getElem_mem hjR)
      have HLT := hide (refLetter_any wr (r : Int) hI)
      have hwl : (wds (R.take j)).length ≤ j := by
        have := wds_len (R.take j)
        simp only [List.length_take] at this
        omega
      have HML0 : Hid ((wds (R.take j)).length ≤ 100000) := by show _ ≤ _; omega
      cases hb : letB (r : Int) with
      | false =>
        have hst := wds_stay R j hjR (by rw [hr]; exact hb)
        rw [hb] at HLT
        have HST := hide hst
        clear hst hb hr hjR hwl hcx
        go_wp2_with (go_at_call 40; refine HLT.out.mono ?_; rintro e w3 ⟨rfl, rfl⟩; clear HLT)
        go_roundg k
        case measure => omega
        case rel => exact ⟨j + 1, oa, oc, m, vs, by omega, by go_num, rfl, by rw [HST.out]; exact HM0.out, by rw [HST.out]; exact HW0.out, HB0.out⟩
      | true =>
        rw [hb] at HLT
        have hlr : letN R[j] = true := by rw [hr]; exact hb
        by_cases hbeg : ∀ i (e : j = i + 1), letN (R[i]'(by omega)) = false
        · have hbg := wds_begin R j hjR hlr hbeg
          rw [hr] at hbg
          have HEN0 : Hid (wds (R.take (j + 1)) = wds (R.take j) ++ [[] ++ [r]]) := hbg
          obtain ⟨v2, W1, hrun, hw1, hb1, oa2, oc2, rfl⟩ := push_nil wr w2.heap.size _ _ _ HW0.out (by omega) HB0.out.size
          obtain ⟨I, hI2⟩ : ∃ I, wds (R.take j) = I := ⟨_, rfl⟩
          rw [hI2] at hw1 hrun HEN0 HM0 HML0
          have HRUN := hide hrun
          obtain ⟨m', hm'⟩ : ∃ m', I.length + 1 = m' := ⟨_, rfl⟩
          rw [hm'] at hw1 HRUN
          obtain ⟨x, hx⟩ : ∃ x : List Nat, x = [] := ⟨_, rfl⟩
          have HW : Hid (WsO W1 w2.heap.size (.slice oa2 m' oc2) (I ++ [x]) (vs ++ [.slice none 0 0])) := by rw [hx]; exact hw1
          have HM : Hid (m' = (I ++ [x]).length) := by show _ = _; simp; omega
          have HEND : Hid (wds (R.take (j + 1)) = I ++ [x ++ [r]]) := by show _ = _; rw [hx]; exact HEN0.out
          have HB1 : Hid (Below w2.heap.size w2 W1) := HB0.out.trans hb1
          have HML : Hid (m' ≤ 200000) := by have := HML0.out; show _ ≤ _; omega
          have HXB : Hid (x.length + 1 ≤ 1000000) := by show _ ≤ _; rw [hx]; simp
          have HPL : Hid (∀ i, j = i + 1 → ∃ q : Nat, wr.cell? ⟨gs, i, none⟩ = some (.int .i32 (q : Int)) ∧ Calls Tryd.prog 40 #[.int .i32 (q : Int)] wr fun e w' => e = .returned (.bool false) ∧ w' = wr) := fun i e => by
            have hiR : i < R.length := by omega
            obtain ⟨g2, e2, _, _, hc2⟩ := HU.out.at i hiR
            obtain rfl : gs = g2 := by simpa using e2
            refine ⟨R[i], (World.cell?_of_block (a := ⟨gs, i, none⟩) (HB0.out.block gs hgl)).trans hc2, ?_⟩
            have := refLetter_any wr (R[i] : Int) (HRV.out _ (List.getElem_mem hiR))
            rwa [show letB (R[i] : Int) = false from hbeg i e] at this
          clear hbg hbeg hlr hb hrun hw1 hb1 hm' hx hI2 hjR hwl hr HEN0 HW0 HM0
          have HWS := HW
          obtain ⟨p, hp⟩ : ∃ p, I.length = p := ⟨_, rfl⟩
          have HIL := hide hp
          have HMP : Hid (m' = p + 1) := by have := HM.out; show _ = _; rw [this, List.length_append, hp]; rfl
          obtain ⟨go, u, hgo, hguv, hucell, hufr⟩ := HW.out.last HMP.out hp
          subst hgo
          have HUV := hide hguv
          have HUR : Hid (RnO W1 w2.heap.size u x) := HW.out.inn p u x hguv (by rw [← hp]; simp)
          have HSZ : Hid (w2.heap.size ≤ W1.heap.size) := HB1.out.size
          have HXL : Hid (x.length + 1 ≤ 1000000) := HXB.out
          obtain ⟨ua, uc, hus⟩ := HUR.out.shape
          have HUS := hide hus
          have HUO : Hid (u.ownBlock ≠ some go) := fun e => HW.out.out u (List.mem_of_getElem? hguv) go e rfl
          have HUX : Hid (∀ W, Only (fun q => u.ownBlock = some q) W1 W → W.cell? ⟨go, p, none⟩ = some u) := fun W hw => by
            have := hw.block go (HW.out.own.lt go rfl).2 HUO.out
            exact (World.cell?_of_block (a := ⟨go, p, none⟩) this).trans hucell
          have HUF : Hid (∀ W, Only (fun q => u.ownBlock = some q) W1 W → W.frozen? ⟨go, p, none⟩ = false) := fun W hw => by
            obtain ⟨cs9, hB9⟩ := HW.out.blk
            exact (hB9.only hw HUO.out).frozen p
          have HLX : Hid (∀ W, Only (fun q => u.ownBlock = some q) W1 W → W.cell? ⟨gs, j, none⟩ = some (.int .i32 (r : Int))) := fun W hw => by
            have h1 := HB1.out.block gs hgl
            have hgr : gs < W1.heap.size := by have := HSZ.out; omega
            have := hw.block gs hgr (fun e => by have := (HUR.out.lt _ e).1; omega)
            exact (World.cell?_of_block (a := ⟨gs, j, none⟩) (this.trans h1)).trans hcx
          have hpm : (p : Int) < (m' : Int) := by have := HMP.out; omega
          have hm1 : (m' : Int) - 1 = (p : Int) := by have := HMP.out; omega
          have hpl : (p : Int) ≤ 200000 := by have := HML.out; have := HMP.out; omega
          have hpw : IntKind.i64.wrap (p : Int) = (p : Int) := IntWalk.i64_in _ (by omega)
          have hml : (m' : Int) ≤ 200000 := by have := HML.out; omega
          have HME : Hid (m' = (I ++ [x ++ [r]]).length) := by have := HMP.out; show _ = _; simp; omega
          rw [← HEND.out] at HME
          clear hp hguv hucell hufr hus
          by_cases h0 : j = 0
          · subst h0
            clear HPL
            go_wp2_with (first
              | (go_at_call 40; refine HLT.out.mono ?_; rintro e w3 ⟨rfl, rfl⟩; clear HLT)
              | (at_builtin; (with_reducible refine wpList_append_run _ rfl (.tmp 31) (.tmp 32) 78 rfl _ _ ?_ ?_ _ _ HRUN.out ?_); exact rfl; exact rfl; clear HRUN))
            refine wp_region_chain [some (.slice (some ⟨go, 0, none⟩) m' oc2), some (.slice (some ⟨go, 0, none⟩) m' oc2), some (.int .i64 (m' : Int)), some (.int .i64 (p : Int)), some (.slice (some ⟨go, 0, none⟩) m' oc2), some (.slice (some ⟨go, 0, none⟩) m' oc2), some (.int .i64 (m' : Int)), some (.int .i64 (p : Int)), some (.pointer (some ⟨go, p, none⟩)), some (u), some (.slice (some ⟨gs, 0, none⟩) n cs), some (.int .i64 (0 : Int)), some (.pointer (some ⟨gs, 0, none⟩)), some (.int .i32 (r : Int)), none, none, some (.pointer (some ⟨go, p, none⟩)), none] [14, 15, 17] (WoS W1 w2.heap.size (.slice (some ⟨go, 0, none⟩) m' oc2) u x r ⟨go, p, none⟩) 52 (by kernel_rfl) (by kernel_rfl) (by kernel_rfl) (by kernel_rfl) rfl ?_ ?_ ?_
            · exact fun vals0 => (Below.refl _ W1).drew
            · refine ⟨?_, ?_, ?_, ?_, ?_, ?_, ?_, ?_, ?_, ?_, ?_, ?_, ?_, ?_, ?_, ?_, ?_, ?_, trivial⟩
              · intro k vals act wx hk h hs
                have e3 : act.eval (.tmp 3) = .slice (some ⟨go, 0, none⟩) m' oc2 := h.old 3 (by kernel_rfl)
                clear h
                refine gives_by rfl act.eval rfl ?_
                generalize act.eval = ρ at *
                intro hf hc
                go_simp
                exact ⟨rfl, hs⟩
              · intro k vals act wx hk h hs
                have e3 : act.eval (.tmp 3) = .slice (some ⟨go, 0, none⟩) m' oc2 := h.old 3 (by kernel_rfl)
                clear h
                refine gives_by rfl act.eval rfl ?_
                generalize act.eval = ρ at *
                intro hf hc
                go_simp
                exact ⟨rfl, hs⟩
              · intro k vals act wx hk h hs
                have e35 : act.eval (.tmp 35) = .slice (some ⟨go, 0, none⟩) m' oc2 := h.q 1 35 (by kernel_rfl) rfl
                clear h
                refine gives_by rfl act.eval rfl ?_
                generalize act.eval = ρ at *
                intro hf hc
                go_simp
                exact ⟨rfl, hs⟩
              · intro k vals act wx hk h hs
                have e36 : act.eval (.tmp 36) = .int .i64 (m' : Int) := h.q 2 36 (by kernel_rfl) rfl
                clear h
                refine gives_by rfl act.eval rfl ?_
                generalize act.eval = ρ at *
                intro hf hc
                go_simp
                exact ⟨by first | rfl | (rw [hpw]) | go_num, hs⟩
              · intro k vals act wx hk h hs
                have e3 : act.eval (.tmp 3) = .slice (some ⟨go, 0, none⟩) m' oc2 := h.old 3 (by kernel_rfl)
                clear h
                refine gives_by rfl act.eval rfl ?_
                generalize act.eval = ρ at *
                intro hf hc
                go_simp
                exact ⟨rfl, hs⟩
              · intro k vals act wx hk h hs
                have e3 : act.eval (.tmp 3) = .slice (some ⟨go, 0, none⟩) m' oc2 := h.old 3 (by kernel_rfl)
                clear h
                refine gives_by rfl act.eval rfl ?_
                generalize act.eval = ρ at *
                intro hf hc
                go_simp
                exact ⟨rfl, hs⟩
              · intro k vals act wx hk h hs
                have e39 : act.eval (.tmp 39) = .slice (some ⟨go, 0, none⟩) m' oc2 := h.q 5 39 (by kernel_rfl) rfl
                clear h
                refine gives_by rfl act.eval rfl ?_
                generalize act.eval = ρ at *
                intro hf hc
                go_simp
                exact ⟨rfl, hs⟩
              · intro k vals act wx hk h hs
                have e40 : act.eval (.tmp 40) = .int .i64 (m' : Int) := h.q 6 40 (by kernel_rfl) rfl
                clear h
                refine gives_by rfl act.eval rfl ?_
                generalize act.eval = ρ at *
                intro hf hc
                go_simp
                exact ⟨by first | rfl | (rw [hpw]) | go_num, hs⟩
              · intro k vals act wx hk h hs
                have e38 : act.eval (.tmp 38) = .slice (some ⟨go, 0, none⟩) m' oc2 := h.q 4 38 (by kernel_rfl) rfl
                have e41 : act.eval (.tmp 41) = .int .i64 (p : Int) := h.q 7 41 (by kernel_rfl) rfl
                clear h
                refine gives_by rfl act.eval rfl ?_
                generalize act.eval = ρ at *
                intro hf hc
                go_simp
                exact ⟨rfl, hs⟩
              · intro k vals act wx hk h hs
                have e42 : act.eval (.tmp 42) = .pointer (some ⟨go, p, none⟩) := h.q 8 42 (by kernel_rfl) rfl
                clear h
                have cx := HUX.out wx (hs.kept hk)
                refine gives_by rfl act.eval rfl ?_
                generalize act.eval = ρ at *
                intro hf hc
                go_simp
                exact ⟨rfl, hs⟩
              · intro k vals act wx hk h hs
                have e4 : act.eval (.tmp 4) = .slice (some ⟨gs, 0, none⟩) n cs := h.old 4 (by kernel_rfl)
                clear h
                refine gives_by rfl act.eval rfl ?_
                generalize act.eval = ρ at *
                intro hf hc
                go_simp
                exact ⟨rfl, hs⟩
              · intro k vals act wx hk h hs
                have e5 : act.eval (.tmp 5) = .int .i64 (0 : Int) := h.old 5 (by kernel_rfl)
                clear h
                refine gives_by rfl act.eval rfl ?_
                generalize act.eval = ρ at *
                intro hf hc
                go_simp
                exact ⟨rfl, hs⟩
              · intro k vals act wx hk h hs
                have e44 : act.eval (.tmp 44) = .slice (some ⟨gs, 0, none⟩) n cs := h.q 10 44 (by kernel_rfl) rfl
                have e45 : act.eval (.tmp 45) = .int .i64 (0 : Int) := h.q 11 45 (by kernel_rfl) rfl
                clear h
                refine gives_by rfl act.eval rfl ?_
                generalize act.eval = ρ at *
                intro hf hc
                go_simp
                exact ⟨rfl, hs⟩
              · intro k vals act wx hk h hs
                have e46 : act.eval (.tmp 46) = .pointer (some ⟨gs, 0, none⟩) := h.q 12 46 (by kernel_rfl) rfl
                clear h
                have cx := HLX.out wx (hs.kept hk)
                refine gives_by rfl act.eval rfl ?_
                generalize act.eval = ρ at *
                intro hf hc
                go_simp
                exact ⟨rfl, hs⟩
              · intro vals act wx h hs
                have e47 : act.eval (.tmp 47) = .int .i32 (r : Int) := h.q 13 47 (by kernel_rfl) rfl
                clear h
                have hb0 : Below W1.heap.size W1 wx := hs
                refine gives_of_run rfl (exec_buildSlice1 69 1 (.tmp 47) rfl _ _ e47 (build_rune wx r)) ?_
                exact ⟨hb0.alloc hb0.size _, wx.heap.size, rfl, Blk.new wx 21 [.int .i32 ((r : Nat) : Int)]⟩
              · intro vals act wx h hs
                have e43 : act.eval (.tmp 43) = u := h.q 9 43 (by kernel_rfl) rfl
                have e48 : act.eval (.tmp 48) = vals 14 := h.val 14 48 (by kernel_rfl)
                clear h
                obtain ⟨hb0, g, h8, hB⟩ := hs
                rw [h8] at e48
                rw [HUS.out] at e43
                obtain ⟨v', w3, hr, hi2, hg2, hv2, oa2, oc2, hv3⟩ := push_rnB wx w2.heap.size _ _ (HUR.out.below hb0) r g hB (by have := HXL.out; omega) (by have := hb0.size; have := HSZ.out; omega)
                refine gives_of_run rfl (exec_append (.tmp 43) (.tmp 48) 69 rfl _ _ e43 e48 _ (by rw [← HUS.out]; exact hr)) ?_
                exact ⟨(Only.of_below _ hb0).grown hg2 (fun q e _ => e), hi2, hv2.imp id (fun e => ⟨_, e, hb0.size⟩), oa2, _, oc2, hv3⟩
              · intro k vals act wx hk h hs
                have e34 : act.eval (.tmp 34) = .slice (some ⟨go, 0, none⟩) m' oc2 := h.q 0 34 (by kernel_rfl) rfl
                have e37 : act.eval (.tmp 37) = .int .i64 (p : Int) := h.q 3 37 (by kernel_rfl) rfl
                clear h
                refine gives_by rfl act.eval rfl ?_
                generalize act.eval = ρ at *
                intro hf hc
                go_simp
                exact ⟨rfl, hs⟩
              · intro vals act wx h hs
                have e50 : act.eval (.tmp 50) = .pointer (some ⟨go, p, none⟩) := h.q 16 50 (by kernel_rfl) rfl
                have e49 : act.eval (.tmp 49) = vals 15 := h.val 15 49 (by kernel_rfl)
                clear h
                have c0 := HUX.out wx hs.1
                have f0 := HUF.out wx hs.1
                have hres : WoS W1 w2.heap.size (.slice (some ⟨go, 0, none⟩) m' oc2) u x r ⟨go, p, none⟩ 3 (updV vals 17 undef) (wx.setCell ⟨go, p, none⟩ (vals 15)) := ⟨wx, hs, rfl⟩
                obtain ⟨_, _, _, a2, n2, c2, hv⟩ := hs
                rw [hv] at e49
                rw [hv] at hres
                refine gives_by rfl act.eval rfl ?_
                generalize act.eval = ρ at *
                intro hf hc
                go_simp
                exact hres
            · intro vals w3 hq hs
              obtain ⟨W0, ⟨ho, hr3, hu3, _⟩, rfl⟩ := hs
              obtain ⟨vs3, hw3, hb3⟩ := HWS.out.putLast HMP.out HIL.out HUV.out ho hr3 hu3 rfl
              have HW3 := hide hw3
              have HB3 : Hid (Below w2.heap.size w2 (W0.setCell ⟨go, p, none⟩ (vals 15))) := HB1.out.trans hb3
              rw [← HEND.out] at HW3
              clear ho hr3 hu3 hw3 hb3
              simp only [putAll, Act.put, List.setIfInBounds_toArray, List.set_cons_zero, List.set_cons_succ, Nat.zero_add, Nat.reduceAdd]
              go_wp2
              go_roundg k
              case measure => omega
              case rel => exact ⟨0 + 1, _, oc2, m', vs3, by omega, by go_num, rfl, HME.out, HW3.out, HB3.out⟩
          · obtain ⟨i, rfl⟩ : ∃ i, j = i + 1 := ⟨j - 1, by omega⟩
            obtain ⟨q, hq, hql⟩ := HPL.out i rfl
            have HQL := hide hql
            have hixe : ((i + 1 : Nat) : Int) = (i : Int) + 1 := by omega
            have hin : (i : Int) < (n : Int) := by omega
            clear HPL hql
            go_wp2_with (first
              | (go_at_call 40; refine HLT.out.mono ?_; rintro e w3 ⟨rfl, rfl⟩; clear HLT)
              | (go_at_call 40; refine HQL.out.mono ?_; rintro e w3 ⟨rfl, rfl⟩; clear HQL)
              | (at_builtin; (with_reducible refine wpList_append_run _ rfl (.tmp 31) (.tmp 32) 78 rfl _ _ ?_ ?_ _ _ HRUN.out ?_); exact rfl; exact rfl; clear HRUN))
            refine wp_region_chain [some (.slice (some ⟨go, 0, none⟩) m' oc2), some (.slice (some ⟨go, 0, none⟩) m' oc2), some (.int .i64 (m' : Int)), some (.int .i64 (p : Int)), some (.slice (some ⟨go, 0, none⟩) m' oc2), some (.slice (some ⟨go, 0, none⟩) m' oc2), some (.int .i64 (m' : Int)), some (.int .i64 (p : Int)), some (.pointer (some ⟨go, p, none⟩)), some (u), some (.slice (some ⟨gs, 0, none⟩) n cs), some (.int .i64 (i + 1 : Int)), some (.pointer (some ⟨gs, i + 1, none⟩)), some (.int .i32 (r : Int)), none, none, some (.pointer (some ⟨go, p, none⟩)), none] [14, 15, 17] (WoS W1 w2.heap.size (.slice (some ⟨go, 0, none⟩) m' oc2) u x r ⟨go, p, none⟩) 52 (by kernel_rfl) (by kernel_rfl) (by kernel_rfl) (by kernel_rfl) rfl ?_ ?_ ?_
            · exact fun vals0 => (Below.refl _ W1).drew
            · refine ⟨?_, ?_, ?_, ?_, ?_, ?_, ?_, ?_, ?_, ?_, ?_, ?_, ?_, ?_, ?_, ?_, ?_, ?_, trivial⟩
              · intro k vals act wx hk h hs
                have e3 : act.eval (.tmp 3) = .slice (some ⟨go, 0, none⟩) m' oc2 := h.old 3 (by kernel_rfl)
                clear h
                refine gives_by rfl act.eval rfl ?_
                generalize act.eval = ρ at *
                intro hf hc
                go_simp
                exact ⟨rfl, hs⟩
              · intro k vals act wx hk h hs
                have e3 : act.eval (.tmp 3) = .slice (some ⟨go, 0, none⟩) m' oc2 := h.old 3 (by kernel_rfl)
                clear h
                refine gives_by rfl act.eval rfl ?_
                generalize act.eval = ρ at *
                intro hf hc
                go_simp
                exact ⟨rfl, hs⟩
              · intro k vals act wx hk h hs
                have e35 : act.eval (.tmp 35) = .slice (some ⟨go, 0, none⟩) m' oc2 := h.q 1 35 (by kernel_rfl) rfl
                clear h
                refine gives_by rfl act.eval rfl ?_
                generalize act.eval = ρ at *
                intro hf hc
                go_simp
                exact ⟨rfl, hs⟩
              · intro k vals act wx hk h hs
                have e36 : act.eval (.tmp 36) = .int .i64 (m' : Int) := h.q 2 36 (by kernel_rfl) rfl
                clear h
                refine gives_by rfl act.eval rfl ?_
                generalize act.eval = ρ at *
                intro hf hc
                go_simp
                exact ⟨by first | rfl | (rw [hpw]) | go_num, hs⟩
              · intro k vals act wx hk h hs
                have e3 : act.eval (.tmp 3) = .slice (some ⟨go, 0, none⟩) m' oc2 := h.old 3 (by kernel_rfl)
                clear h
                refine gives_by rfl act.eval rfl ?_
                generalize act.eval = ρ at *
                intro hf hc
                go_simp
                exact ⟨rfl, hs⟩
              · intro k vals act wx hk h hs
                have e3 : act.eval (.tmp 3) = .slice (some ⟨go, 0, none⟩) m' oc2 := h.old 3 (by kernel_rfl)
                clear h
                refine gives_by rfl act.eval rfl ?_
                generalize act.eval = ρ at *
                intro hf hc
                go_simp
                exact ⟨rfl, hs⟩
              · intro k vals act wx hk h hs
                have e39 : act.eval (.tmp 39) = .slice (some ⟨go, 0, none⟩) m' oc2 := h.q 5 39 (by kernel_rfl) rfl
                clear h
                refine gives_by rfl act.eval rfl ?_
                generalize act.eval = ρ at *
                intro hf hc
                go_simp
                exact ⟨rfl, hs⟩
              · intro k vals act wx hk h hs
                have e40 : act.eval (.tmp 40) = .int .i64 (m' : Int) := h.q 6 40 (by kernel_rfl) rfl
                clear h
                refine gives_by rfl act.eval rfl ?_
                generalize act.eval = ρ at *
                intro hf hc
                go_simp
                exact ⟨by first | rfl | (rw [hpw]) | go_num, hs⟩
              · intro k vals act wx hk h hs
                have e38 : act.eval (.tmp 38) = .slice (some ⟨go, 0, none⟩) m' oc2 := h.q 4 38 (by kernel_rfl) rfl
                have e41 : act.eval (.tmp 41) = .int .i64 (p : Int) := h.q 7 41 (by kernel_rfl) rfl
                clear h
                refine gives_by rfl act.eval rfl ?_
                generalize act.eval = ρ at *
                intro hf hc
                go_simp
                exact ⟨rfl, hs⟩
              · intro k vals act wx hk h hs
                have e42 : act.eval (.tmp 42) = .pointer (some ⟨go, p, none⟩) := h.q 8 42 (by kernel_rfl) rfl
                clear h
                have cx := HUX.out wx (hs.kept hk)
                refine gives_by rfl act.eval rfl ?_
                generalize act.eval = ρ at *
                intro hf hc
                go_simp
                exact ⟨rfl, hs⟩
              · intro k vals act wx hk h hs
                have e4 : act.eval (.tmp 4) = .slice (some ⟨gs, 0, none⟩) n cs := h.old 4 (by kernel_rfl)
                clear h
                refine gives_by rfl act.eval rfl ?_
                generalize act.eval = ρ at *
                intro hf hc
                go_simp
                exact ⟨rfl, hs⟩
              · intro k vals act wx hk h hs
                have e5 : act.eval (.tmp 5) = .int .i64 (i + 1 : Int) := h.old 5 (by kernel_rfl)
                clear h
                refine gives_by rfl act.eval rfl ?_
                generalize act.eval = ρ at *
                intro hf hc
                go_simp
                exact ⟨rfl, hs⟩
              · intro k vals act wx hk h hs
                have e44 : act.eval (.tmp 44) = .slice (some ⟨gs, 0, none⟩) n cs := h.q 10 44 (by kernel_rfl) rfl
                have e45 : act.eval (.tmp 45) = .int .i64 (i + 1 : Int) := h.q 11 45 (by kernel_rfl) rfl
                clear h
                refine gives_by rfl act.eval rfl ?_
                generalize act.eval = ρ at *
                intro hf hc
                go_simp
                exact ⟨rfl, hs⟩
              · intro k vals act wx hk h hs
                have e46 : act.eval (.tmp 46) = .pointer (some ⟨gs, i + 1, none⟩) := h.q 12 46 (by kernel_rfl) rfl
                clear h
                have cx := HLX.out wx (hs.kept hk)
                refine gives_by rfl act.eval rfl ?_
                generalize act.eval = ρ at *
                intro hf hc
                go_simp
                exact ⟨rfl, hs⟩
              · intro vals act wx h hs
                have e47 : act.eval (.tmp 47) = .int .i32 (r : Int) := h.q 13 47 (by kernel_rfl) rfl
                clear h
                have hb0 : Below W1.heap.size W1 wx := hs
                refine gives_of_run rfl (exec_buildSlice1 69 1 (.tmp 47) rfl _ _ e47 (build_rune wx r)) ?_
                exact ⟨hb0.alloc hb0.size _, wx.heap.size, rfl, Blk.new wx 21 [.int .i32 ((r : Nat) : Int)]⟩
              · intro vals act wx h hs
                have e43 : act.eval (.tmp 43) = u := h.q 9 43 (by kernel_rfl) rfl
                have e48 : act.eval (.tmp 48) = vals 14 := h.val 14 48 (by kernel_rfl)
                clear h
                obtain ⟨hb0, g, h8, hB⟩ := hs
                rw [h8] at e48
                rw [HUS.out] at e43
                obtain ⟨v', w3, hr, hi2, hg2, hv2, oa2, oc2, hv3⟩ := push_rnB wx w2.heap.size _ _ (HUR.out.below hb0) r g hB (by have := HXL.out; omega) (by have := hb0.size; have := HSZ.out; omega)
                refine gives_of_run rfl (exec_append (.tmp 43) (.tmp 48) 69 rfl _ _ e43 e48 _ (by rw [← HUS.out]; exact hr)) ?_
                exact ⟨(Only.of_below _ hb0).grown hg2 (fun q e _ => e), hi2, hv2.imp id (fun e => ⟨_, e, hb0.size⟩), oa2, _, oc2, hv3⟩
              · intro k vals act wx hk h hs
                have e34 : act.eval (.tmp 34) = .slice (some ⟨go, 0, none⟩) m' oc2 := h.q 0 34 (by kernel_rfl) rfl
                have e37 : act.eval (.tmp 37) = .int .i64 (p : Int) := h.q 3 37 (by kernel_rfl) rfl
                clear h
                refine gives_by rfl act.eval rfl ?_
                generalize act.eval = ρ at *
                intro hf hc
                go_simp
                exact ⟨rfl, hs⟩
              · intro vals act wx h hs
                have e50 : act.eval (.tmp 50) = .pointer (some ⟨go, p, none⟩) := h.q 16 50 (by kernel_rfl) rfl
                have e49 : act.eval (.tmp 49) = vals 15 := h.val 15 49 (by kernel_rfl)
                clear h
                have c0 := HUX.out wx hs.1
                have f0 := HUF.out wx hs.1
                have hres : WoS W1 w2.heap.size (.slice (some ⟨go, 0, none⟩) m' oc2) u x r ⟨go, p, none⟩ 3 (updV vals 17 undef) (wx.setCell ⟨go, p, none⟩ (vals 15)) := ⟨wx, hs, rfl⟩
                obtain ⟨_, _, _, a2, n2, c2, hv⟩ := hs
                rw [hv] at e49
                rw [hv] at hres
                refine gives_by rfl act.eval rfl ?_
                generalize act.eval = ρ at *
                intro hf hc
                go_simp
                exact hres
            · intro vals w3 hq hs
              obtain ⟨W0, ⟨ho, hr3, hu3, _⟩, rfl⟩ := hs
              obtain ⟨vs3, hw3, hb3⟩ := HWS.out.putLast HMP.out HIL.out HUV.out ho hr3 hu3 rfl
              have HW3 := hide hw3
              have HB3 : Hid (Below w2.heap.size w2 (W0.setCell ⟨go, p, none⟩ (vals 15))) := HB1.out.trans hb3
              rw [← HEND.out] at HW3
              clear ho hr3 hu3 hw3 hb3
              simp only [putAll, Act.put, List.setIfInBounds_toArray, List.set_cons_zero, List.set_cons_succ, Nat.zero_add, Nat.reduceAdd]
              go_wp2
              go_roundg k
              case measure => omega
              case rel => exact ⟨i + 1 + 1, _, oc2, m', vs3, by omega, by go_num, rfl, HME.out, HW3.out, HB3.out⟩
        · obtain ⟨i, hij, hlp⟩ : ∃ i, ∃ e : j = i + 1, letN (R[i]'(by omega)) = true := by
            apply Classical.byContradiction
            intro hc
            refine hbeg (fun i e => ?_)
            cases hv : letN (R[i]'(by omega)) with
            | false => rfl
            | true => exact absurd ⟨i, e, hv⟩ hc
          subst hij
          obtain ⟨I, x, e1, e2⟩ := wds_go R i hjR hlr hlp
          rw [hr] at e2
          have HEND : Hid (wds (R.take (i + 1 + 1)) = I ++ [x ++ [r]]) := e2
          have HW : Hid (WsO wr w2.heap.size (.slice oa m oc) (I ++ [x]) vs) := by rw [← e1]; exact HW0.out
          have HM : Hid (m = (I ++ [x]).length) := by rw [← e1]; exact HM0.out
          have HML : Hid (m ≤ 200000) := by have := HML0.out; have := HM0.out; show _ ≤ _; omega
          have HXB : Hid (x.length + 1 ≤ 1000000) := by
            obtain ⟨z, hz⟩ : ∃ z, z = wds (R.take (i + 1)) := ⟨_, rfl⟩
            have h1 := wds_each (R.take (i + 1)) x (by rw [e1]; simp)
            simp only [List.length_take] at h1
            show _ ≤ _
            omega
          have hiR : i < R.length := by omega
          obtain ⟨g2, e3, _, _, hc2⟩ := HU.out.at i hiR
          obtain rfl : gs = g2 := by simpa using e3
          obtain ⟨q, hqd⟩ : ∃ q, R[i] = q := ⟨_, rfl⟩
          rw [hqd] at hc2 hlp
          have hq : wr.cell? ⟨gs, i, none⟩ = some (.int .i32 (q : Int)) := (World.cell?_of_block (a := ⟨gs, i, none⟩) (HB0.out.block gs hgl)).trans hc2
          have HQL : Hid (Calls Tryd.prog 40 #[.int .i32 (q : Int)] wr fun e w' => e = .returned (.bool true) ∧ w' = wr) := by
            have := refLetter_any wr (q : Int) (by rw [← hqd]; exact HRV.out _ (List.getElem_mem hiR))
            rwa [show letB (q : Int) = true from hlp] at this
          have hixe : ((i + 1 : Nat) : Int) = (i : Int) + 1 := by omega
          have hin : (i : Int) < (n : Int) := by omega
          clear e1 e2 hbeg hlr hlp hb hjR hwl hr hqd hc2 hiR HW0 HM0 HML0
          have HB1 := HB0
          have HWS := HW
          obtain ⟨p, hp⟩ : ∃ p, I.length = p := ⟨_, rfl⟩
          have HIL := hide hp
          have HMP : Hid (m = p + 1) := by have := HM.out; show _ = _; rw [this, List.length_append, hp]; rfl
          obtain ⟨go, u, hgo, hguv, hucell, hufr⟩ := HW.out.last HMP.out hp
          subst hgo
          have HUV := hide hguv
          have HUR : Hid (RnO wr w2.heap.size u x) := HW.out.inn p u x hguv (by rw [← hp]; simp)
          have HSZ : Hid (w2.heap.size ≤ wr.heap.size) := HB1.out.size
          have HXL : Hid (x.length + 1 ≤ 1000000) := HXB.out
          obtain ⟨ua, uc, hus⟩ := HUR.out.shape
          have HUS := hide hus
          have HUO : Hid (u.ownBlock ≠ some go) := fun e => HW.out.out u (List.mem_of_getElem? hguv) go e rfl
          have HUX : Hid (∀ W, Only (fun q => u.ownBlock = some q) wr W → W.cell? ⟨go, p, none⟩ = some u) := fun W hw => by
            have := hw.block go (HW.out.own.lt go rfl).2 HUO.out
            exact (World.cell?_of_block (a := ⟨go, p, none⟩) this).trans hucell
          have HUF : Hid (∀ W, Only (fun q => u.ownBlock = some q) wr W → W.frozen? ⟨go, p, none⟩ = false) := fun W hw => by
            obtain ⟨cs9, hB9⟩ := HW.out.blk
            exact (hB9.only hw HUO.out).frozen p
          have HLX : Hid (∀ W, Only (fun q => u.ownBlock = some q) wr W → W.cell? ⟨gs, i + 1, none⟩ = some (.int .i32 (r : Int))) := fun W hw => by
            have h1 := HB1.out.block gs hgl
            have hgr : gs < wr.heap.size := by have := HSZ.out; omega
            have := hw.block gs hgr (fun e => by have := (HUR.out.lt _ e).1; omega)
            exact (World.cell?_of_block (a := ⟨gs, i + 1, none⟩) (this.trans h1)).trans hcx
          have hpm : (p : Int) < (m : Int) := by have := HMP.out; omega
          have hm1 : (m : Int) - 1 = (p : Int) := by have := HMP.out; omega
          have hpl : (p : Int) ≤ 200000 := by have := HML.out; have := HMP.out; omega
          have hpw : IntKind.i64.wrap (p : Int) = (p : Int) := IntWalk.i64_in _ (by omega)
          have hml : (m : Int) ≤ 200000 := by have := HML.out; omega
          have HME : Hid (m = (I ++ [x ++ [r]]).length) := by have := HMP.out; show _ = _; simp; omega
          rw [← HEND.out] at HME
          clear hp hguv hucell hufr hus
          go_wp2_with (first
            | (go_at_call 40; refine HLT.out.mono ?_; rintro e w3 ⟨rfl, hw3⟩; subst w3; clear HLT)
            | (go_at_call 40; refine HQL.out.mono ?_; rintro e w3 ⟨rfl, hw3⟩; subst w3; clear HQL))
          refine wp_region_chain [some (.slice (some ⟨go, 0, none⟩) m oc), some (.slice (some ⟨go, 0, none⟩) m oc), some (.int .i64 (m : Int)), some (.int .i64 (p : Int)), some (.slice (some ⟨go, 0, none⟩) m oc), some (.slice (some ⟨go, 0, none⟩) m oc), some (.int .i64 (m : Int)), some (.int .i64 (p : Int)), some (.pointer (some ⟨go, p, none⟩)), some (u), some (.slice (some ⟨gs, 0, none⟩) n cs), some (.int .i64 (i + 1 : Int)), some (.pointer (some ⟨gs, i + 1, none⟩)), some (.int .i32 (r : Int)), none, none, some (.pointer (some ⟨go, p, none⟩)), none] [14, 15, 17] (WoS wr w2.heap.size (.slice (some ⟨go, 0, none⟩) m oc) u x r ⟨go, p, none⟩) 52 (by kernel_rfl) (by kernel_rfl) (by kernel_rfl) (by kernel_rfl) rfl ?_ ?_ ?_
          · exact fun vals0 => (Below.refl _ wr).drew
          · refine ⟨?_, ?_, ?_, ?_, ?_, ?_, ?_, ?_, ?_, ?_, ?_, ?_, ?_, ?_, ?_, ?_, ?_, ?_, trivial⟩
            · intro k vals act wx hk h hs
              have e3 : act.eval (.tmp 3) = .slice (some ⟨go, 0, none⟩) m oc := h.old 3 (by kernel_rfl)
              clear h
              refine gives_by rfl act.eval rfl ?_
              generalize act.eval = ρ at *
              intro hf hc
              go_simp
              exact ⟨rfl, hs⟩
            · intro k vals act wx hk h hs
              have e3 : act.eval (.tmp 3) = .slice (some ⟨go, 0, none⟩) m oc := h.old 3 (by kernel_rfl)
              clear h
              refine gives_by rfl act.eval rfl ?_
              generalize act.eval = ρ at *
              intro hf hc
              go_simp
              exact ⟨rfl, hs⟩
            · intro k vals act wx hk h hs
              have e35 : act.eval (.tmp 35) = .slice (some ⟨go, 0, none⟩) m oc := h.q 1 35 (by kernel_rfl) rfl
              clear h
              refine gives_by rfl act.eval rfl ?_
              generalize act.eval = ρ at *
              intro hf hc
              go_simp
              exact ⟨rfl, hs⟩
            · intro k vals act wx hk h hs
              have e36 : act.eval (.tmp 36) = .int .i64 (m : Int) := h.q 2 36 (by kernel_rfl) rfl
              clear h
              refine gives_by rfl act.eval rfl ?_
              generalize act.eval = ρ at *
              intro hf hc
              go_simp
              exact ⟨by first | rfl | (rw [hpw]) | go_num, hs⟩
            · intro k vals act wx hk h hs
              have e3 : act.eval (.tmp 3) = .slice (some ⟨go, 0, none⟩) m oc := h.old 3 (by kernel_rfl)
              clear h
              refine gives_by rfl act.eval rfl ?_
              generalize act.eval = ρ at *
              intro hf hc
              go_simp
              exact ⟨rfl, hs⟩
            · intro k vals act wx hk h hs
              have e3 : act.eval (.tmp 3) = .slice (some ⟨go, 0, none⟩) m oc := h.old 3 (by kernel_rfl)
              clear h
              refine gives_by rfl act.eval rfl ?_
              generalize act.eval = ρ at *
              intro hf hc
              go_simp
              exact ⟨rfl, hs⟩
            · intro k vals act wx hk h hs
              have e39 : act.eval (.tmp 39) = .slice (some ⟨go, 0, none⟩) m oc := h.q 5 39 (by kernel_rfl) rfl
              clear h
              refine gives_by rfl act.eval rfl ?_
              generalize act.eval = ρ at *
              intro hf hc
              go_simp
              exact ⟨rfl, hs⟩
            · intro k vals act wx hk h hs
              have e40 : act.eval (.tmp 40) = .int .i64 (m : Int) := h.q 6 40 (by kernel_rfl) rfl
              clear h
              refine gives_by rfl act.eval rfl ?_
              generalize act.eval = ρ at *
              intro hf hc
              go_simp
              exact ⟨by first | rfl | (rw [hpw]) | go_num, hs⟩
            · intro k vals act wx hk h hs
              have e38 : act.eval (.tmp 38) = .slice (some ⟨go, 0, none⟩) m oc := h.q 4 38 (by kernel_rfl) rfl
              have e41 : act.eval (.tmp 41) = .int .i64 (p : Int) := h.q 7 41 (by kernel_rfl) rfl
              clear h
              refine gives_by rfl act.eval rfl ?_
              generalize act.eval = ρ at *
              intro hf hc
              go_simp
              exact ⟨rfl, hs⟩
            · intro k vals act wx hk h hs
              have e42 : act.eval (.tmp 42) = .pointer (some ⟨go, p, none⟩) := h.q 8 42 (by kernel_rfl) rfl
              clear h
              have cx := HUX.out wx (hs.kept hk)
              refine gives_by rfl act.eval rfl ?_
              generalize act.eval = ρ at *
              intro hf hc
              go_simp
              exact ⟨rfl, hs⟩
            · intro k vals act wx hk h hs
              have e4 : act.eval (.tmp 4) = .slice (some ⟨gs, 0, none⟩) n cs := h.old 4 (by kernel_rfl)
              clear h
              refine gives_by rfl act.eval rfl ?_
              generalize act.eval = ρ at *
              intro hf hc
              go_simp
              exact ⟨rfl, hs⟩
            · intro k vals act wx hk h hs
              have e5 : act.eval (.tmp 5) = .int .i64 (i + 1 : Int) := h.old 5 (by kernel_rfl)
              clear h
              refine gives_by rfl act.eval rfl ?_
              generalize act.eval = ρ at *
              intro hf hc
              go_simp
              exact ⟨rfl, hs⟩
            · intro k vals act wx hk h hs
              have e44 : act.eval (.tmp 44) = .slice (some ⟨gs, 0, none⟩) n cs := h.q 10 44 (by kernel_rfl) rfl
              have e45 : act.eval (.tmp 45) = .int .i64 (i + 1 : Int) := h.q 11 45 (by kernel_rfl) rfl
              clear h
              refine gives_by rfl act.eval rfl ?_
              generalize act.eval = ρ at *
              intro hf hc
              go_simp
              exact ⟨rfl, hs⟩
            · intro k vals act wx hk h hs
              have e46 : act.eval (.tmp 46) = .pointer (some ⟨gs, i + 1, none⟩) := h.q 12 46 (by kernel_rfl) rfl
              clear h
              have cx := HLX.out wx (hs.kept hk)
              refine gives_by rfl act.eval rfl ?_
              generalize act.eval = ρ at *
              intro hf hc
              go_simp
              exact ⟨rfl, hs⟩
            · intro vals act wx h hs
              have e47 : act.eval (.tmp 47) = .int .i32 (r : Int) := h.q 13 47 (by kernel_rfl) rfl
              clear h
              have hb0 : Below wr.heap.size wr wx := hs
              refine gives_of_run rfl (exec_buildSlice1 69 1 (.tmp 47) rfl _ _ e47 (build_rune wx r)) ?_
              exact ⟨hb0.alloc hb0.size _, wx.heap.size, rfl, Blk.new wx 21 [.int .i32 ((r : Nat) : Int)]⟩
            · intro vals act wx h hs
              have e43 : act.eval (.tmp 43) = u := h.q 9 43 (by kernel_rfl) rfl
              have e48 : act.eval (.tmp 48) = vals 14 := h.val 14 48 (by kernel_rfl)
              clear h
              obtain ⟨hb0, g, h8, hB⟩ := hs
              rw [h8] at e48
              rw [HUS.out] at e43
              obtain ⟨v', w3, hr, hi2, hg2, hv2, oa2, oc2, hv3⟩ := push_rnB wx w2.heap.size _ _ (HUR.out.below hb0) r g hB (by have := HXL.out; omega) (by have := hb0.size; have := HSZ.out; omega)
              refine gives_of_run rfl (exec_append (.tmp 43) (.tmp 48) 69 rfl _ _ e43 e48 _ (by rw [← HUS.out]; exact hr)) ?_
              exact ⟨(Only.of_below _ hb0).grown hg2 (fun q e _ => e), hi2, hv2.imp id (fun e => ⟨_, e, hb0.size⟩), oa2, _, oc2, hv3⟩
            · intro k vals act wx hk h hs
              have e34 : act.eval (.tmp 34) = .slice (some ⟨go, 0, none⟩) m oc := h.q 0 34 (by kernel_rfl) rfl
              have e37 : act.eval (.tmp 37) = .int .i64 (p : Int) := h.q 3 37 (by kernel_rfl) rfl
              clear h
              refine gives_by rfl act.eval rfl ?_
              generalize act.eval = ρ at *
              intro hf hc
              go_simp
              exact ⟨rfl, hs⟩
            · intro vals act wx h hs
              have e50 : act.eval (.tmp 50) = .pointer (some ⟨go, p, none⟩) := h.q 16 50 (by kernel_rfl) rfl
              have e49 : act.eval (.tmp 49) = vals 15 := h.val 15 49 (by kernel_rfl)
              clear h
              have c0 := HUX.out wx hs.1
              have f0 := HUF.out wx hs.1
              have hres : WoS wr w2.heap.size (.slice (some ⟨go, 0, none⟩) m oc) u x r ⟨go, p, none⟩ 3 (updV vals 17 undef) (wx.setCell ⟨go, p, none⟩ (vals 15)) := ⟨wx, hs, rfl⟩
              obtain ⟨_, _, _, a2, n2, c2, hv⟩ := hs
              rw [hv] at e49
              rw [hv] at hres
              refine gives_by rfl act.eval rfl ?_
              generalize act.eval = ρ at *
              intro hf hc
              go_simp
              exact hres
          · intro vals w3 hq hs
            obtain ⟨W0, ⟨ho, hr3, hu3, _⟩, rfl⟩ := hs
            obtain ⟨vs3, hw3, hb3⟩ := HWS.out.putLast HMP.out HIL.out HUV.out ho hr3 hu3 rfl
            have HW3 := hide hw3
            have HB3 : Hid (Below w2.heap.size w2 (W0.setCell ⟨go, p, none⟩ (vals 15))) := HB1.out.trans hb3
            rw [← HEND.out] at HW3
            clear ho hr3 hu3 hw3 hb3
            simp only [putAll, Act.put, List.setIfInBounds_toArray, List.set_cons_zero, List.set_cons_succ, Nat.zero_add, Nat.reduceAdd]
            go_wp2
            go_roundg k
            case measure => omega
            case rel => exact ⟨i + 1 + 1, _, oc, m, vs3, by omega, by go_num, rfl, HME.out, HW3.out, HB3.out⟩

end Go.Proofs.YtimmfnjkknbofaaDoor
