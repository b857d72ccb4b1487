/- Texts that are read as bytes; cut; put behind texts that are owned. -/
import Derived.Test.YtimmfnjkknbofaaDoorJWdSh
import Derived.Test.YtimmfnjkknbofaaDoorRegionE
import Derived.Test.YtimmfnjkknbofaaDoorRegionL
import Derived.Deep.RegionLaw
namespace Go.Proofs.YtimmfnjkknbofaaDoor
set_option maxRecDepth 20000
open Go.RowKit
set_option linter.unusedVariables false
set_option linter.unusedSimpArgs false
set_option maxRecDepth 100000

def SU (w : World) (v : Value) (us : List BsU) : Prop :=
  ∃ ao cap, v = .slice ao us.length cap ∧ us.length ≤ cap ∧ cap ≤ maxLen ∧ (us ≠ [] → ∃ b off, ao = some ⟨b, off, none⟩ ∧ ∀ i, i < us.length → w.cell? ⟨b, off + i, none⟩ = some (encStr (us.getD i [])))
theorem SU.below {w w' : World} {v : Value} {us : List BsU} (h : SU w v us) (hb : Below w.heap.size w w') : SU w' v us := by
  obtain ⟨ao, cap, rfl, h1, h2, h3⟩ := h
  refine ⟨ao, cap, rfl, h1, h2, fun hx => ?_⟩
  obtain ⟨b, off, rfl, hc⟩ := h3 hx
  refine ⟨b, off, rfl, fun i hi => ?_⟩
  have hbb := hb.block b (World.block_lt_of_cell? w _ (hc i hi))
  exact (World.cell?_of_block (w := w) (a := ⟨b, _, none⟩) hbb).trans (hc i hi)
theorem StU.su {w : World} {base : Nat} {v : Value} {us : List BsU} (h : StU w base v us) : SU w v us := by
  obtain ⟨ao, cap, rfl⟩ := h.shape
  have hh := own_len h
  refine ⟨ao, cap, rfl, hh.1, hh.2, fun hx => ?_⟩
  have hpos := List.length_pos_iff.2 hx
  unfold StU at h
  cases ao with
  | none =>
    rcases h.2 with ⟨_, e⟩ | ⟨g, cap', sp, e, _⟩
    · omega
    · simp at e
  | some a =>
    rcases h.2 with ⟨e, _⟩ | ⟨g, cap', sp, e, _⟩
    · simp at e
    · simp only [Value.slice.injEq, Option.some.injEq] at e
      obtain ⟨rfl, _⟩ := e
      refine ⟨g, 0, rfl, fun i hi => ?_⟩
      rw [Nat.zero_add]
      refine (World.ownsRow.cellAt h i (by omega)).trans ?_
      simp [List.getD, hi]
theorem SU.take {w : World} {ao : Option Addr} {cap : Nat} {us : List BsU} (h : SU w (.slice ao us.length cap) us) (k : Nat) (hk : k ≤ us.length) : SU w (.slice ao k cap) (us.take k) := by
  obtain ⟨ao', cap', he, h1, h2, h3⟩ := h
  simp only [Value.slice.injEq, true_and] at he
  obtain ⟨rfl, rfl⟩ := he
  have hl : (us.take k).length = k := by simp; omega
  refine ⟨ao, cap, by rw [hl], by omega, h2, fun hx => ?_⟩
  obtain ⟨b, off, rfl, hc⟩ := h3 (by intro e; simp [e] at hx)
  refine ⟨b, off, rfl, fun i hi => ?_⟩
  rw [hl] at hi
  rw [hc i (by omega)]
  simp [List.getD, List.getElem?_take, hi]
theorem tyStr : Tryd.prog.underlying 23 = some (.slice (Tryd.prog.elem 23)) := by kernel_rfl
theorem szStr (wx : World) : (Go.sizeOf (Tryd.prog.elem 23)).run Tryd.prog wx = .ok 1 wx := by kernel_rfl
/-- l[:k] -/
theorem cut_hS (ao : Option Addr) (n cap k : Nat) (hk : k ≤ n) (hn : n ≤ cap) (hc : cap ≤ 9223372036854775807) (wx : World) :
    (Instr.slice 23 (.slice ao n cap) none (some (.int .i64 k)) none).run Tryd.prog wx = .ok (.slice ao k cap) wx := by
  rw [run_slice_h wx 23 ao n cap tyStr .i64 k (by omega) (by omega), szStr]
  simp only [Result.andThen, sliced, Int.toNat_natCast]
  by_cases h0 : cap = 0
  · rw [if_pos h0]
    simp
  · rw [if_neg h0]
    cases ao with
    | none => rfl
    | some x => simp [Addr.add]
/-- l[k:] -/
theorem cut_lS (ao : Option Addr) (us : List BsU) (cap k : Nat) (hk : k ≤ us.length) (hn : us.length ≤ cap) (hc : cap ≤ 9223372036854775807) :
    ∃ a' c', (∀ wx, (Instr.slice 23 (.slice ao us.length cap) (some (.int .i64 k)) none none).run Tryd.prog wx = .ok (.slice a' (us.length - k) c') wx) ∧
      ∀ wx, SU wx (.slice ao us.length cap) us → SU wx (.slice a' (us.length - k) c') (us.drop k) := by
  have hlen : (us.drop k).length = us.length - k := by simp
  by_cases h : cap = k
  · refine ⟨ao, 0, fun wx => ?_, fun wx hP => ⟨ao, 0, by rw [hlen], by rw [hlen]; omega, by simp [maxLen], fun hx => absurd (List.drop_of_length_le (by omega)) hx⟩⟩
    rw [run_slice_l wx 23 ao us.length cap tyStr .i64 k (by omega) (by omega), szStr]
    simp only [Result.andThen, sliced, Int.toNat_natCast]
    rw [if_pos h, show cap - k = 0 by omega]
  · refine ⟨Option.map (fun x => x.add (k * 1)) ao, cap - k, fun wx => ?_, fun wx hP => ?_⟩
    · rw [run_slice_l wx 23 ao us.length cap tyStr .i64 k (by omega) (by omega), szStr]
      simp only [Result.andThen, sliced, Int.toNat_natCast]
      rw [if_neg h]
    · obtain ⟨ao', cap', he, h1, h2, h3⟩ := hP
      simp only [Value.slice.injEq, true_and] at he
      obtain ⟨rfl, rfl⟩ := he
      refine ⟨_, _, by rw [hlen], by rw [hlen]; omega, by omega, fun hx => ?_⟩
      obtain ⟨b, off, rfl, hc2⟩ := h3 (by intro e; simp [e] at hx)
      refine ⟨b, off + k * 1, by simp [Addr.add], fun i hi => ?_⟩
      rw [hlen] at hi
      rw [show off + k * 1 + i = off + (k + i) by omega, hc2 (k + i) (by omega)]
      simp [List.getD, List.getElem?_drop]
/-- texts put behind -/
theorem app_u (W : World) (base : Nat) (v : Value) (us : List BsU) (h : StU W base v us) (ao : Option Addr) (m cap : Nat) (vs : List BsU) (hs : SU W (.slice ao m cap) vs) (hl : us.length ≤ 1000000) (hl2 : vs.length ≤ 1000000) (hbase : base ≤ W.heap.size) :
    ∃ v2 w3, (Builtin.append_ #[23, 23] 23 #[v, .slice ao m cap]).run Tryd.prog W = .ok v2 w3 ∧ StU w3 base v2 (us ++ vs) ∧ W.grownBy w3 v.ownBlock ∧ (v2.ownBlock = v.ownBlock ∨ v2.ownBlock = some W.heap.size) ∧ ∃ a c, v2 = .slice a (us.length + vs.length) c := by
  obtain ⟨i0, hi, hz0, hz1, hz2⟩ := info_parts infoStr
  obtain ⟨ao', cap', he, h1, h2, h3⟩ := hs
  simp only [Value.slice.injEq] at he
  obtain ⟨rfl, rfl, rfl⟩ := he
  cases ao with
  | none =>
    have e0 : vs = [] := by
      rcases Decidable.em (vs = []) with e | e
      · exact e
      · obtain ⟨b, off, e2, _⟩ := h3 e
        cases e2
    subst e0
    exact ⟨v, W, run_append_owned_none W base 23 23 9 i0 1 Tryd.underlying23 hi v us.length _ h, by simpa using h, ⟨rfl, rfl, rfl, Nat.le_refl _, fun _ _ _ => rfl⟩, .inl rfl, by simpa using own_form' h⟩
  | some a =>
    obtain ⟨p', w', hr, h4, h5, _, h6⟩ := run_append_own_at (P := Tryd.prog) W base 23 23 9 i0 _ 1 16 Tryd.underlying23 hi hz0 hz1 hz2 rfl (by decide) v us.length (us.map encStr) h a vs.length cap (vs.map encStr) (by simp)
      (fun j u hj => by
        have hj2 : j < vs.length := by have := (List.getElem?_eq_some_iff.1 hj).1; simpa using this
        obtain ⟨b, off, e, hc⟩ := h3 (by intro e; rw [e] at hj2; simp at hj2)
        obtain rfl := Option.some.inj e
        rw [Addr.add_mid, hc j hj2]
        rw [← hj]
        simp [List.getD, hj2]) (by intro u hu; obtain ⟨x, _, rfl⟩ := List.mem_map.1 hu; rfl) (by unfold maxLen; omega) (by omega) (by omega)
    refine ⟨p', w', hr, ?_, h5, h6, own_form' h4⟩
    unfold StU
    rw [List.map_append, List.length_append]
    exact h4

/-- append, as one step of a region that draws: by its run -/
theorem step_append_run {P : Program} {ops : Array Oper} {o : Oper} {a : Act} {w : World} {K : Act → World → Prop} {Q : Exit → Act → World → Prop} {E : Prop}
    (hg : o.guard = none) (s x : Operand) (t : TypeId) (hop : o.op = Op.call { callee := Callee.builtin Builtin.append, args := #[s, x], argTypes := #[t, t] })
    (v y : Value) (hs : a.eval s = v) (hx : a.eval x = y) (v' : Value) (w' : World) (hr : (Builtin.append_ #[t, t] o.type #[v, y]).run P w = .ok v' w') (hK : K (a.put o.dst v') w') :
    if Region.wanted o (yielded ops a.tmps) = true then Oper.wp P o a w K Q else E := by
  have hw : Region.wanted o (yielded ops a.tmps) = true := by simp [Region.wanted, hg]
  rw [if_pos hw]
  unfold Oper.wp
  simp [execOp, hop, resolve, invoke, builtin, hs, hx, hr, Result.andThen]
  exact hK

end Go.Proofs.YtimmfnjkknbofaaDoor
/- A text put into texts: how far the copy is (append, a literal, append, in whatever order Go takes them). -/
namespace Go.Proofs.YtimmfnjkknbofaaDoor
set_option maxRecDepth 20000
open Go.RowKit
set_option linter.unusedVariables false
set_option linter.unusedSimpArgs false
set_option maxRecDepth 100000

theorem exec_appR {P : Program} {o : Oper} {ρ : Operand → Value} {w w' : World} (t : TypeId) (s x : Operand) (hop : o.op = Op.call { callee := Callee.builtin Builtin.append, args := #[s, x], argTypes := #[t, t] })
    (v y v' : Value) (hs : ρ s = v) (hx : ρ x = y) (hr : (Builtin.append_ #[t, t] o.type #[v, y]).run P w = .ok v' w') : (execOp ρ o).run P w = .ok (.value v') w' := by
  simp [execOp, hop, resolve, invoke, builtin, hs, hx, hr, Result.andThen]

def inS (W : World) (B : Nat) (us : List BsU) (x : BsU) (D : Nat → Bool) (vals : Nat → Value) (X : World) : Prop :=
  Below W.heap.size W X ∧ (D 4 = true → D 11 = false → StU X B (vals 4) us ∧ ∀ j, (vals 4).ownBlock = some j → W.heap.size ≤ j) ∧ (D 10 = true → D 11 = false → SU X (vals 10) [x] ∧ ∃ a c, vals 10 = .slice a 1 c) ∧
    (D 11 = true → StU X B (vals 11) (us ++ [x]) ∧ ∀ j, (vals 11).ownBlock = some j → W.heap.size ≤ j) ∧ (D 12 = true → vals 12 = vals 11)
section
variable {W X : World} {B : Nat} {us : List BsU} {x : BsU} {D : Nat → Bool} {vals : Nat → Value}
theorem inS.start (h : Below W.heap.size W X) : inS W B us x (fun _ => false) vals X := ⟨h, (fun h => by cases h), (fun h => by cases h), (fun h => by cases h), (fun h => by cases h)⟩
theorem inS.ind {D' : Nat → Bool} {vals' : Nat → Value} (h : inS W B us x D vals X) (hv : ∀ j, j ∈ [4, 10, 11, 12] → D j = D' j ∧ vals j = vals' j) : inS W B us x D' vals' X := by
  obtain ⟨e1, e2⟩ := hv 4 (by decide)
  obtain ⟨e3, e4⟩ := hv 10 (by decide)
  obtain ⟨e5, e6⟩ := hv 11 (by decide)
  obtain ⟨e7, e8⟩ := hv 12 (by decide)
  unfold inS at h ⊢
  rw [e1, e2, e3, e4, e5, e6, e7, e8] at h
  exact h
theorem inS.app1 {X1 : World} {v : Value} (h : inS W B us x D vals X) (h11 : D 11 = false) (h12 : D 12 = false) (hs : StU X1 B v us) (hg : X.grownBy X1 (Value.slice none 0 0).ownBlock) (ho : v.ownBlock = (Value.slice none 0 0).ownBlock ∨ v.ownBlock = some X.heap.size) :
    inS W B us x (fun j => if j = 4 then true else D j) (updV vals 4 v) X1 := by
  obtain ⟨q1, q2, q3, q4, q5⟩ := h
  have hz := q1.size
  have hbA : Below X.heap.size X X1 := (Only.of_below (fun _ => False) (Below.refl _ X)).grown hg (fun _ e _ => by cases e) |>.below (Nat.le_refl _) (fun _ _ h => h)
  refine ⟨q1.trans (hbA.mono hz), fun _ _ => ⟨hs, fun j hj => ?_⟩, fun h10 _ => ?_, fun h => ?_, fun h => ?_⟩
  · rcases ho with e | e
    · rw [show updV vals 4 v 4 = v from rfl, e] at hj; cases hj
    · rw [show updV vals 4 v 4 = v from rfl, e] at hj; have := Option.some.inj hj; omega
  · obtain ⟨a, b⟩ := q3 (by simpa using h10) h11
    exact ⟨a.below hbA, b⟩
  · simp [h11] at h
  · simp [h12] at h
theorem inS.build {X1 : World} {s : ByteArray} {e : TypeId} (h : inS W B us x D vals X) (h11 : D 11 = false) (h12 : D 12 = false) (hx : Value.string s = encStr x) (hX : X1 = X.alloc (.cells #[.string s] e)) :
    inS W B us x (fun j => if j = 10 then true else D j) (updV vals 10 (.slice (some ⟨X.heap.size, 0, none⟩) 1 1)) X1 := by
  obtain ⟨q1, q2, q3, q4, q5⟩ := h
  have hz := q1.size
  have hbA : Below X.heap.size X X1 := by rw [hX]; exact (Below.refl _ X).alloc (Nat.le_refl _) _
  have hBx : Blk X1 X.heap.size e [.string s] := by rw [hX]; exact Blk.new X e [.string s]
  refine ⟨q1.trans (hbA.mono hz), fun h4 _ => ?_, fun _ _ => ⟨⟨_, 1, rfl, by simp, by decide, fun _ => ⟨_, 0, rfl, fun j hj => ?_⟩⟩, _, _, rfl⟩, fun h => ?_, fun h => ?_⟩
  · obtain ⟨a, b⟩ := q2 (by simpa using h4) h11
    exact ⟨a.only (Only.of_below (fun _ => False) hbA) (fun _ _ h => h), b⟩
  · obtain rfl : j = 0 := by simpa using hj
    exact (hBx.cell 0).trans (congrArg some hx)
  · simp [h11] at h
  · simp [h12] at h
theorem inS.app2 {X1 : World} {v : Value} (h : inS W B us x D vals X) (h4 : D 4 = true) (h11 : D 11 = false) (h12 : D 12 = false) (hs : StU X1 B v (us ++ [x])) (hg : X.grownBy X1 (vals 4).ownBlock) (ho : v.ownBlock = (vals 4).ownBlock ∨ v.ownBlock = some X.heap.size) :
    inS W B us x (fun j => if j = 11 then true else D j) (updV vals 11 v) X1 := by
  obtain ⟨q1, q2, q3, q4, q5⟩ := h
  have hz := q1.size
  obtain ⟨_, hown⟩ := q2 h4 h11
  have hb2 : Below W.heap.size W X1 := q1.trans (((Only.refl (fun j => (vals 4).ownBlock = some j) X).grown hg (fun j e _ => e)).below hz (fun j hj e => by have := hown j e; omega))
  refine ⟨hb2, fun _ h => ?_, fun _ h => ?_, fun _ => ⟨hs, fun j hj => ?_⟩, fun h => ?_⟩
  · simp at h
  · simp at h
  · rw [show updV vals 11 v 11 = v from rfl] at hj
    rcases ho with e | e
    · exact hown j (e ▸ hj)
    · rw [e] at hj; have := Option.some.inj hj; omega
  · simp [h12] at h
theorem inS.asg (h : inS W B us x D vals X) (h11 : D 11 = true) : inS W B us x (fun j => if j = 12 then true else D j) (updV vals 12 (vals 11)) X := by
  obtain ⟨q1, q2, q3, q4, q5⟩ := h
  refine ⟨q1, fun a b => q2 (by simpa using a) (by simpa using b), fun a b => q3 (by simpa using a) (by simpa using b), fun a => q4 h11, fun _ => rfl⟩
end

end Go.Proofs.YtimmfnjkknbofaaDoor
