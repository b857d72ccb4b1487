/- A script of acts that is read ('Script'); contract of incipitlaw03.few. -/
import Derived.Test.YtofpngmabjpfhaaDLive
import Derived.Test.YtofpngmabjpfhaaDClone
namespace Go.Proofs.Ytofpngmabjpfhaa
open Go.RowKit
set_option linter.unusedVariables false

structure OpA where
  dO : Int
  p : Int
  n : Int
  bv : Value
  b : List Int
  kv : Value
  pick : List Int
def opNil : OpA := ⟨0, 0, 0, .slice none 0 0, [], .slice none 0 0, []⟩
def opAt (os : List OpA) (i : Nat) : OpA := os.getD i opNil
theorem opAt_lt {os : List OpA} {i : Nat} (h : i < os.length) : opAt os i = os[i] := by simp [opAt, List.getD, h]
def opc (o : OpA) : List Value := [.int .i64 o.dO, .int .i64 o.p, .int .i64 o.n, o.bv, o.kv]
def I64 (z : Int) : Prop := -9223372036854775808 ≤ z ∧ z ≤ 9223372036854775807
structure OpOk (w : World) (o : OpA) : Prop where
  sb : Sl w o.bv o.b
  sk : Sl w o.kv o.pick
  hd : I64 o.dO
  hp : I64 o.p
  hn : I64 o.n
def Script (w : World) (v : Value) (os : List OpA) : Prop :=
  (∀ o ∈ os, OpOk w o) ∧ ∃ ao cap, v = .slice ao os.length cap ∧ os.length ≤ cap ∧ cap ≤ maxLen ∧ (os ≠ [] → ∃ g off, ao = some ⟨g, off, none⟩ ∧ g < w.heap.size ∧ ∀ i, i < os.length → w.rangeAt g (off + i * 5) (opc (opAt os i)))

theorem OpOk.below {w w' : World} {o : OpA} (h : OpOk w o) (hb : Below w.heap.size w w') : OpOk w' o := ⟨h.sb.below hb, h.sk.below hb, h.hd, h.hp, h.hn⟩
theorem range_below {w w' : World} {B g o : Nat} {cs : List Value} (h : w.rangeAt g o cs) (hb : Below B w w') (hg : g < B) : w'.rangeAt g o cs := fun j v hj => (hb.cell (p := ⟨g, o + j, none⟩) hg).trans (h j v hj)
theorem Script.below {w w' : World} {v : Value} {os : List OpA} (h : Script w v os) (hb : Below w.heap.size w w') : Script w' v os := by
  obtain ⟨h1, ao, cap, hv, h2, h3, h4⟩ := h
  refine ⟨fun o ho => (h1 o ho).below hb, ao, cap, hv, h2, h3, fun hne => ?_⟩
  obtain ⟨g, off, ha, hg, hr⟩ := h4 hne
  exact ⟨g, off, ha, Nat.lt_of_lt_of_le hg hb.size, fun i hi => range_below (hr i hi) hb hg⟩
theorem Script.form {w : World} {v : Value} {os : List OpA} (h : Script w v os) : ∃ ao cap, v = .slice ao os.length cap ∧ os.length ≤ cap ∧ cap ≤ 9223372036854775807 := by
  obtain ⟨_, ao, cap, hv, h2, h3, _⟩ := h
  exact ⟨ao, cap, hv, h2, h3⟩
theorem Script.op {w : World} {v : Value} {os : List OpA} (h : Script w v os) {i : Nat} (hi : i < os.length) : OpOk w (opAt os i) := by rw [opAt_lt hi]; exact h.1 _ (List.getElem_mem hi)
theorem opAt_take (os : List OpA) (m i : Nat) (h : i < m) : opAt (os.take m) i = opAt os i := by simp [opAt, List.getD, h]

theorem opc_len (o : OpA) : (opc o).length = 5 := rfl
theorem sizeOp : (Try.prog.info? 35).map (·.size) = some 5 := by kernel_rfl
def opZero : Array Value := #[.int .i64 0, .int .i64 0, .int .i64 0, .slice none 0 0, .slice none 0 0]
theorem opZero_size : opZero.size = 5 := rfl
theorem zeroOpRun (w : World) : (zeroValue 35).run Try.prog w = .ok (.agg opZero) w := by kernel_rfl
theorem op_facts {w : World} {o : OpA} (h : OpOk w o) : ((Try.prog.info? 35).map (·.size) = some (opc o).length) ∧ ((Try.prog.info? 35).map (·.size) = some (opc o).toArray.size) ∧ opZero.size = (opc o).toArray.size ∧ (opc o).toArray.all (·.oneCell') = true := by
  refine ⟨by rw [opc_len]; exact sizeOp, by rw [List.size_toArray, opc_len]; exact sizeOp, opZero_size.trans (by rw [List.size_toArray, opc_len]), ?_⟩
  apply all_oneCell_toArray
  intro v hv
  obtain ⟨a1, n1, c1, e1⟩ := sl_form h.sb
  obtain ⟨a2, n2, c2, e2⟩ := sl_form h.sk
  unfold opc at hv
  rw [e1, e2] at hv
  simp only [List.mem_cons, List.mem_nil_iff, or_false] at hv
  rcases hv with rfl | rfl | rfl | rfl | rfl <;> rfl

def goodO (o : OpA) : Bool := decide (o.b.length ≤ 300 ∧ o.pick.length ≤ 100)
def fewB (os : List OpA) : Bool := (os.take 50).all goodO
theorem goodO_yes {o : OpA} (h : goodO o = true) : o.b.length ≤ 300 ∧ o.pick.length ≤ 100 := of_decide_eq_true h
theorem few_op {os : List OpA} (h : fewB os = true) {i : Nat} (hi : i < (os.take 50).length) : goodO (opAt (os.take 50) i) = true := by
  rw [opAt_lt hi]
  exact List.all_eq_true.1 h _ (List.getElem_mem hi)

set_option maxHeartbeats 1000000 in
theorem few_at (w : World) (v : Value) (os : List OpA) (h : Script w v os) :
    Calls Try.prog 8 #[v] w fun e w' => (∃ u, e = .returned (.tuple #[u, .bool (fewB os)]) ∧ (fewB os = true → ∀ w0, Script w0 v os → Script w0 u (os.take 50)) ∧ (fewB os = false → u = .slice none 0 0)) ∧ Below w.heap.size w w' := by
  have HS := hide h
  obtain ⟨ao, cap, rfl, hl, hc⟩ := h.form
  obtain ⟨m, hm⟩ : ∃ m, m = min os.length 50 := ⟨_, rfl⟩
  have hml : (os.take 50).length = m := by rw [List.length_take, hm]; exact Nat.min_comm _ _
  have hmin : ∀ (ts : Array TypeId) (t : TypeId) (wx : World), (Builtin.min_ ts t #[.int .i64 (os.length : Int), .int .i64 50]).run Try.prog wx = .ok (.int .i64 (m : Int)) wx := by
    intro ts t wx
    rw [run_min_int2]
    congr 2
    split <;> omega
  have hm50 : m ≤ 50 := by omega
  have hmo : m ≤ os.length := by omega
  have hcut : ∀ wx, (Instr.slice 22 (.slice ao os.length cap) none (some (.int .i64 (m : Int))) none).run Try.prog wx = .ok (.slice ao m cap) wx := cut_head 22 35 5 Try.underlying22 sizeOp ao os.length cap m (by omega) hc
  have HT0 : Hid (∀ w0, Script w0 (.slice ao os.length cap) os → Script w0 (.slice ao m cap) (os.take 50)) := by
    intro w0 h
    obtain ⟨h1, ao', cap', he, h2, h3, h4⟩ := h
    simp only [Value.slice.injEq, true_and] at he
    obtain ⟨rfl, rfl⟩ := he
    refine ⟨fun o ho => h1 o (List.mem_of_mem_take ho), ao, cap, by rw [hml], by omega, h3, fun hne => ?_⟩
    obtain ⟨g, off, ha, hg, hr⟩ := h4 (fun e => hne (by rw [e]; rfl))
    refine ⟨g, off, ha, hg, fun i hi => ?_⟩
    rw [opAt_take os 50 i (by omega)]
    exact hr i (by omega)
  have HT : Hid (Script w (.slice ao m cap) (os.take 50)) := HT0.out w h
  obtain ⟨T, hT⟩ : ∃ T, T = os.take 50 := ⟨_, rfl⟩
  have HF : Hid (fewB os = T.all goodO) := by show fewB os = _; rw [hT]; rfl
  rw [← hT] at HT HT0 hml ⊢
  have HML := hide hml
  have hza := zeroOpRun
  clear h hm hT hml
  go_enter Try.func8, Try.ntmps8
  go_wp2
  clear hmin hcut
  go_loopg [13] m (fun g i wr => ∃ k : Nat, g + k = m ∧ i = .int .i64 k ∧ (∀ j, j < k → goodO (opAt T j) = true) ∧ Below w.heap.size w wr)
  case atStart => exact ⟨0, by omega, rfl, (fun j hj => by omega), Below.refl _ _⟩
  case round =>
    obtain ⟨k, hk, rfl, hg, hb⟩ := hrel
    have HG := hide hg
    have HB := hide hb
    clear hg
    cases gk with
    | zero =>
      obtain rfl : k = m := by omega
      have hall : fewB os = true := by
        rw [HF.out, List.all_eq_true]
        intro o ho
        obtain ⟨i, hi, rfl⟩ := List.getElem_of_mem ho
        have := HG.out i (by have := HML.out; omega)
        rwa [opAt_lt hi] at this
      have HA := hide hall
      clear hall hb
      go_wp2
      go_ret2
      exact ⟨⟨.slice ao k cap, by rw [HA.out]; rfl, fun _ => HT0.out, fun e => by rw [HA.out] at e; cases e⟩, HB.out⟩
    | succ g =>
      have hkm : k < m := by omega
      have hki : (k : Int) < (m : Int) := by omega
      have hSr := HT.out.below hb
      have hkT : k < T.length := by have := HML.out; omega
      have hop := hSr.op hkT
      obtain ⟨_, ao', cap', he, _, _, h4⟩ := hSr
      obtain ⟨rfl, hmT, rfl⟩ : ao = ao' ∧ m = T.length ∧ cap = cap' := by simpa using he
      clear hmT
      obtain ⟨gb, off, rfl, hgb, hrg⟩ := h4 (by intro h; simp [h] at hkT)
      have hR := hrg k hkT
      obtain ⟨o, ho⟩ : ∃ o, o = opAt T k := ⟨_, rfl⟩
      rw [← ho] at hop hR
      obtain ⟨z1, z2, z3, z4⟩ := op_facts hop
      have HR := hide hR
      have HZ1 := hide z1
      have HZ2 := hide z2
      have HZ3 := hide z3
      have HZ4 := hide z4
      have HO := hide ho
      obtain ⟨a1, c1, e1⟩ := sl_form' hop.sb
      obtain ⟨a2, c2, e2⟩ := sl_form' hop.sk
      have hN := Blk.new wr 35 (opc o)
      have q3 := Blk.cell hN 3
      have q4 := Blk.cell hN 4
      have q3' : (wr.alloc (.cells (opc o).toArray 35)).cell? ⟨wr.heap.size, 3, none⟩ = some (.slice a1 o.b.length c1) := q3.trans (by rw [← e1]; rfl)
      have q4' : (wr.alloc (.cells (opc o).toArray 35)).cell? ⟨wr.heap.size, 4, none⟩ = some (.slice a2 o.pick.length c2) := q4.trans (by rw [← e2]; rfl)
      have HBA : Hid (Below w.heap.size w (wr.alloc (.cells (opc o).toArray 35))) := hb.alloc hb.size _
      clear z1 z2 z3 z4 hop hR hrg h4 he ho hN q3 q4 hb e1 e2
      by_cases h1 : o.b.length ≤ 300
      · have h1i : ¬ (300 : Int) < (o.b.length : Int) := by omega
        by_cases h2 : o.pick.length ≤ 100
        · have h2i : ¬ (100 : Int) < (o.pick.length : Int) := by omega
          have HGo : Hid (goodO o = true) := decide_eq_true ⟨h1, h2⟩
          go_wp2_with (first
            | ((with_reducible refine wpList_load_mid rfl 35 (.tmp 15) rfl gb (off + k * 5) ?_ (opc o) _ HR.out Try.underlying35 rfl HZ1.out ?_); exact rfl)
            | ((with_reducible refine wpList_store_new rfl 35 (.tmp 5) (.tmp 16) rfl opZero (opc o).toArray 35 ?_ ?_ HZ3.out HZ2.out HZ4.out ?_); exact rfl; exact rfl))
          go_roundg g
          case measure => omega
          case rel =>
            refine ⟨k + 1, by omega, by go_num, fun j hj => ?_, HBA.out⟩
            by_cases hjk : j = k
            · rw [hjk, ← HO.out]; exact HGo.out
            · exact HG.out j (by omega)
        · have h2i : (100 : Int) < (o.pick.length : Int) := by omega
          have HNo : Hid (fewB os = false) := by
            show fewB os = false
            rw [HF.out, List.all_eq_false]
            refine ⟨o, by rw [HO.out, opAt_lt hkT]; exact List.getElem_mem hkT, ?_⟩
            unfold goodO
            simp; omega
          go_wp2_with (first
            | ((with_reducible refine wpList_load_mid rfl 35 (.tmp 15) rfl gb (off + k * 5) ?_ (opc o) _ HR.out Try.underlying35 rfl HZ1.out ?_); exact rfl)
            | ((with_reducible refine wpList_store_new rfl 35 (.tmp 5) (.tmp 16) rfl opZero (opc o).toArray 35 ?_ ?_ HZ3.out HZ2.out HZ4.out ?_); exact rfl; exact rfl))
          go_ret2
          exact ⟨⟨.slice none 0 0, by rw [HNo.out]; rfl, (fun e => by rw [HNo.out] at e; cases e), fun _ => rfl⟩, HBA.out⟩
      · have h1i : (300 : Int) < (o.b.length : Int) := by omega
        have HNo : Hid (fewB os = false) := by
          show fewB os = false
          rw [HF.out, List.all_eq_false]
          refine ⟨o, by rw [HO.out, opAt_lt hkT]; exact List.getElem_mem hkT, ?_⟩
          unfold goodO
          simp; omega
        go_wp2_with (first
          | ((with_reducible refine wpList_load_mid rfl 35 (.tmp 15) rfl gb (off + k * 5) ?_ (opc o) _ HR.out Try.underlying35 rfl HZ1.out ?_); exact rfl)
          | ((with_reducible refine wpList_store_new rfl 35 (.tmp 5) (.tmp 16) rfl opZero (opc o).toArray 35 ?_ ?_ HZ3.out HZ2.out HZ4.out ?_); exact rfl; exact rfl))
        go_ret2
        exact ⟨⟨.slice none 0 0, by rw [HNo.out]; rfl, (fun e => by rw [HNo.out] at e; cases e), fun _ => rfl⟩, HBA.out⟩

theorem few_any (w : World) (v : Value) (os : List OpA) (h : Script w v os) :
    Calls Try.prog 8 #[v] w fun e w' => (∃ u, e = .returned (.tuple #[u, .bool (fewB os)]) ∧ (fewB os = true → Script w u (os.take 50)) ∧ (fewB os = false → u = .slice none 0 0)) ∧ Below w.heap.size w w' := by
  refine (few_at w v os h).mono ?_
  rintro e w' ⟨⟨u, rfl, h1, h2⟩, hb⟩
  exact ⟨⟨u, rfl, fun e => h1 e w h, h2⟩, hb⟩

end Go.Proofs.Ytofpngmabjpfhaa
