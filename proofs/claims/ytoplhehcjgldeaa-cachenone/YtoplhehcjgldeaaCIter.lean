/- slices.Values, AppendSeq, Collect, Sorted at ints, over whatever iterator. -/
import Derived.Test.YtoplhehcjgldeaaCRange
import Derived.Test.YtoplhehcjgldeaaCPart
import Derived.Test.YtoplhehcjgldeaaCShelfS
import Derived.Shelf.Sort.Plain
namespace Go.Proofs.Ytoplhehcjgldeaa
open Go.RowKit Go.Shelf Go.Sort
set_option linter.unusedVariables false
set_option maxRecDepth 100000
attribute [local go_sem] Oper.semAt_some

theorem wpListIn_append_run {F : Fence} {n : Nat} {P : Program} (w : World) {ops : Array Oper} {rest : List Oper} {o : Oper} {a : Act} {Q : Exit → Act → World → Prop} (hg : o.guard = none) (s x : Operand) (t : TypeId)
    (hop : o.op = .call { callee := .builtin .append, args := #[s, x], argTypes := #[t, t] }) (v y : Value) (hs : a.eval s = v) (hx : a.eval x = y) (v' : Value) (w' : World)
    (hr : (Builtin.append_ #[t, t] o.type #[v, y]).run P w = .ok v' w') (h : wpListIn F n P ops Q rest (a.put o.dst v') w') : wpListIn F n P ops Q (o :: rest) a w := by
  refine wpListIn_plain hg fun K hK' => ?_
  unfold Oper.wpIn
  refine ⟨?_, ?_⟩
  · simp [Oper.about, hop, resolve, Target.leads, Sem.run_pure]
  · rw [Oper.semAt_plain F _ _ (by rw [hop]; intro c hc'; cases hc')]
    simp [execOp, hop, resolve, invoke, builtin, hs, hx, hr, Result.andThen]
    exact hK' _ _ h

theorem values_any (w : World) (a : Option Addr) (n cap : Nat) : Calls Try.prog 58 #[.slice a n cap] w fun e w' => e = .returned (.func (.func 64) #[] #[.pointer (some ⟨w.heap.size, 0, none⟩)]) ∧ w' = w.alloc (.cells #[.slice a n cap] 38) := by
  go_enter Try.func58, Try.ntmps58
  go_wp2
  go_ret
  exact ⟨rfl, rfl⟩

abbrev enc1 : Int → Array Value := fun x => #[.int .i64 x]
def ValV (Bs : Nat) (sv : Value) (zs : List Int) : Nat → World → Prop := fun _ W => W.cell? ⟨Bs, 0, none⟩ = some sv ∧ Ints W 0 sv zs

set_option maxHeartbeats 1000000 in
theorem values_iter (Bs : Nat) (sv : Value) (zs : List Int) (hl : zs.length ≤ 1000000) : Iter Try.prog 64 #[.pointer (some ⟨Bs, 0, none⟩)] enc1 zs (ValV Bs sv zs) := by
  intro l J Jx hJ hV hY Y W h0
  obtain ⟨hc, hi⟩ := hV Y 0 W h0
  obtain ⟨ao, cap, rfl⟩ := hi.shape
  have HV := hide hV
  have HY := hide hY
  have H0 := hide h0
  have hcap : zs.length ≤ cap ∧ cap ≤ 9223372036854775807 := by
    have := own_len hi
    unfold maxLen at this
    exact this
  obtain ⟨hcap1, hcap2⟩ := hcap
  clear hi hV hY h0
  refine callsIn_of_wp Try.func64 rfl trivial ?_ rfl
  simp only [Try.ntmps64, List.size_toArray, List.length_cons, List.length_nil, Nat.reduceAdd, Nat.reduceSub, Array.replicate_succ, Array.replicate_zero, List.push_toArray, List.append_toArray, List.nil_append, List.cons_append]
  gi_wp2
  gi_loopw [7] (fun i wr => ∃ k : Nat, k ≤ zs.length ∧ i = .int .i64 k ∧ J Y k wr) (fun i _ => zs.length - (intOf i).toNat)
  case atStart => exact ⟨0, Nat.zero_le _, rfl, H0.out⟩
  case round =>
    obtain ⟨k, hk, rfl, hj⟩ := hrel
    have HJ := hide hj
    clear hj
    by_cases hkl : k < zs.length
    · have hki : (k : Int) < (zs.length : Int) := by omega
      obtain ⟨_, hi⟩ := HV.out Y k wr HJ.out
      obtain ⟨x, hx⟩ : ∃ x, zs[k] = x := ⟨_, rfl⟩
      obtain ⟨g, rfl, hcell⟩ : ∃ g, ao = some ⟨g, 0, none⟩ ∧ wr.cell? ⟨g, k, none⟩ = some (.int .i64 x) := by
        rcases hi.form with ⟨e, e2⟩ | ⟨g, cap', sp, e, _, _, _, hB, _⟩
        · rw [e2] at hkl; simp at hkl
        · simp only [Value.slice.injEq] at e
          refine ⟨g, e.1, ?_⟩
          have := iv_cell hB k hkl
          rw [Nat.zero_add, getD_lt zs hkl, hx] at this
          exact this
      have hy0 := HY.out Y k hkl wr HJ.out
      rw [hx] at hy0
      obtain ⟨fn, tmps, assign, body, hy, hR⟩ := hy0
      have HR := hide hR
      clear hR hi hx
      gi_wp2
      refine HR.out.mono ?_
      rintro e W3 (⟨rfl, hJ3, _⟩ | ⟨rfl, hJx3⟩)
      · have HJ3 := hide hJ3
        clear hJ3 HR hy
        gi_wp2
        go_roundw
        case rel => exact ⟨k + 1, by omega, by go_num, HJ3.out⟩
        case measure => simp [intOf]; omega
      · have HJ3 := hide hJx3
        clear hJx3 HR hy
        gi_wp2
        refine bodyPost_ret (results_none rfl _ _ _) rfl ?_
        exact ⟨⟨_, rfl⟩, Y, .inr ⟨k, hkl, HJ3.out⟩⟩
    · obtain rfl : k = zs.length := by omega
      gi_wp2
      go_end0
      exact ⟨⟨_, rfl⟩, Y, .inl HJ.out⟩

end Go.Proofs.Ytoplhehcjgldeaa
