/- Contracts: the document's answer: one text behind the other (incipitref01.Join). -/
import Derived.Test.YtbopcppagfhjnaaRd
namespace Go.Proofs.Ytbopcppagfhjnaa
open Go.RowKit

/-- 'append' of a whole slice, nil or not, to a row of the call's own -/
theorem run_append_sl {P : Program} (w : World) (base : Nat) (t ty e : TypeId) (i : TypeInfo) (ht : P.underlying t = some (.slice e)) (hi : P.info? e = some i) (hz : i.zero = some (.int .u8 0)) (hsize : i.size = 1) (hby : i.bytes = 1)
    (v : Value) (n : Nat) (xs : List Value) (hown : w.ownsRow base e 1 v n xs) (ao : Option Addr) (m cap : Nat) (zs : List Int) (S : Sl w (.slice ao m cap) zs) (hm : n + zs.length ≤ 1000000) (hbase : base ≤ w.heap.size) :
    ∃ v' w', (Builtin.append_ #[t, t] ty #[v, .slice ao m cap]).run P w = .ok v' w' ∧ w'.ownsRow base e 1 v' (n + zs.length) (xs ++ zs.map (Value.int .u8)) ∧ w.grownBy w' v.ownBlock ∧ (v ≠ .slice none 0 0 → v' ≠ .slice none 0 0) := by
  have hn : m = zs.length := by obtain ⟨_, ao', cap', he, _⟩ := S; simp at he; exact he.2.1
  subst hn
  cases ao with
  | none =>
    obtain ⟨_, ao', cap', he, h1, _, h3, _⟩ := S
    simp only [Value.slice.injEq, true_and] at he
    obtain ⟨rfl, rfl⟩ := he
    obtain rfl := h3 rfl
    obtain rfl : zs = [] := List.eq_nil_of_length_eq_zero (by omega)
    exact ⟨v, w, run_append_owned_none w base t ty e i 1 ht hi v n xs hown, by simpa using hown, ⟨rfl, rfl, rfl, Nat.le_refl _, fun _ _ _ => rfl⟩, id⟩
  | some a =>
    obtain ⟨v', w', hr, h1, h2, h3⟩ := run_append_own (P := P) w base t ty e i (.int .u8 0) 1 1 ht hi hz hsize hby rfl (by decide) v n xs hown a zs.length cap (zs.map (Value.int .u8)) (by simp) (by
      intro j u hj
      have hjl : j < zs.length := by have := (List.getElem?_eq_some_iff.1 hj).1; simpa using this
      obtain ⟨ad, had, hs⟩ := S.src (by omega)
      obtain rfl := Option.some.inj had
      exact hs j u hj) (oneCell_bytes zs) (by unfold maxLen; omega) (by omega) hbase
    exact ⟨v', w', hr, h1, h2, fun hv h => hv (h3.1 h).1⟩

theorem wpList_append_run {P : Program} (w : World) {ops : Array Oper} {rest : List Oper} {o : Oper} {a : Act} {Q : Exit → Act → World → Prop} (hgd : o.guard = none) (s x : Operand) (t : TypeId)
    (ho : o.op = .call { callee := .builtin .append, args := #[s, x], argTypes := #[t, t] }) (v y : Value) (hs : a.eval s = v) (hx : a.eval x = y) (v' : Value) (w' : World)
    (hr : (Builtin.append_ #[t, t] o.type #[v, y]).run P w = .ok v' w') (h : wpList P ops Q rest (a.put o.dst v') w') : wpList P ops Q (o :: rest) a w := by
  refine wpList_plain hgd fun _ hK => ?_
  unfold Oper.wp execOp
  simp only [ho, resolve, invoke, builtin, Sem.run_bind, Sem.run_pure, Result.andThen_ok, List.map_toArray, List.map_cons, List.map_nil, hs, hx, hr]
  exact hK _ _ h

set_option maxHeartbeats 400000 in
theorem refJoin_any (w : World) (va vb : Value) (xs ys : List Int) (ha : Sl w va xs) (hb : Sl w vb ys) (hl : xs.length + ys.length ≤ 500000) :
    Calls Try.prog 10 #[va, vb] w fun e w' => ∃ u, e = .returned u ∧ w'.ownsRow w.heap.size 5 1 u (xs ++ ys).length ((xs ++ ys).map (Value.int .u8)) ∧ u ≠ .slice none 0 0 ∧ Below w.heap.size w w' ∧ w.heap.size < w'.heap.size := by
  obtain ⟨i0, hi, hz0, hz1, hz2⟩ := info_parts infoU8
  have HA := ha.alloc (.cells #[] 5)
  have HB := hb
  obtain ⟨_, ao, cap, rfl, _⟩ := ha
  obtain ⟨_, ao', cap', rfl, _⟩ := hb
  obtain ⟨v1, w1, hr1, ho1, hg1, hn1⟩ := run_append_sl (P := Try.prog) _ w.heap.size 22 22 5 i0 Try.underlying22 hi hz0 hz1 hz2 _ 0 [] (World.ownsRow_made w #[] 0 (Nat.le_refl _) (Nat.zero_le _) rfl) ao xs.length cap xs HA (by omega) (by simp)
  rw [Nat.zero_add, List.nil_append] at ho1
  have hb0 : Below w.heap.size w (w.alloc (.cells #[] 5)) := (Below.refl _ w).alloc (Nat.le_refl _) _
  have hb1 : Below w.heap.size w w1 := hb0.grown hg1 (by simp) (by intro k hk; cases hk; exact Nat.le_refl _)
  have hs1 : w.heap.size + 1 ≤ w1.heap.size := by simpa using hg1.size
  have HB1 := HB.below hb1
  obtain ⟨v2, w2, hr2, ho2, hg2, hn2⟩ := run_append_sl (P := Try.prog) w1 w.heap.size 22 22 5 i0 Try.underlying22 hi hz0 hz1 hz2 v1 xs.length _ ho1 ao' ys.length cap' ys HB1 (by omega) (by omega)
  have hb2 : Below w.heap.size w w2 := hb1.grown hg2 (by omega) (fun k hk => (ho1.lt k hk).1)
  have HR1 := hide hr1
  have HR2 := hide hr2
  clear hr1 hr2
  go_enter Try.func10, Try.ntmps10
  go_wp2_with (first
    | (at_builtin; refine wpList_append_run _ rfl (.tmp 7) (.tmp 8) 22 rfl _ _ rfl rfl _ _ HR1.out ?_)
    | (at_builtin; refine wpList_append_run _ rfl (.tmp 10) (.tmp 11) 22 rfl _ _ rfl rfl _ _ HR2.out ?_))
  go_ret
  refine ⟨_, rfl, ?_, hn2 (hn1 (by simp)), hb2, by have := hg2.size; omega⟩
  simpa using ho2

end Go.Proofs.Ytbopcppagfhjnaa
