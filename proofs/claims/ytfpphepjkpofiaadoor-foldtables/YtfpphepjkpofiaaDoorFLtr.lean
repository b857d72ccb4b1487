/- What a range of a table folds, as an iterator (fold.foldsOf); a function's end with many ranges behind it. -/
import Derived.Test.YtfpphepjkpofiaaDoorFTb
import Derived.Test.YtfpphepjkpofiaaDoorKRange
import Derived.Test.YtfpphepjkpofiaaDoorFTw
namespace Go.Proofs.YtfpphepjkpofiaaDoor
set_option maxRecDepth 20000
open Go.RowKit Go.Shelf
set_option linter.unusedVariables false
set_option maxRecDepth 100000
attribute [local go_sem] Oper.semAt_some

theorem foldsOf_any (w : World) (f t m : Int) : Calls Tryd.prog 48 #[.agg #[.int .i32 f, .int .i32 t, .int .i64 m]] w fun e w' => e = .returned (.func (.func 58) #[] #[.pointer (some ⟨w.heap.size, 0, none⟩)]) ∧ w' = w.alloc (.cells #[.int .i32 f, .int .i32 t, .int .i64 m] 40) := by
  go_enter Tryd.func48, Tryd.ntmps48
  go_wp2
  go_ret
  exact ⟨rfl, rfl⟩
theorem enters_foldsOf : ∀ args w, (callFunc 58 args).run Tryd.prog w = .ok (.enter 58 args) w := enters_of Tryd.func58 (by kernel_rfl) rfl
theorem enters_letters : ∀ args w, (callFunc 47 args).run Tryd.prog w = .ok (.enter 47 args) w := enters_of Tryd.func47 (by kernel_rfl) rfl

abbrev encI : Int × Int → Array Value := fun x => #[.int .i32 x.1, .int .i32 x.2]
/-- what a range folds, and to what -/
def foldsL (f t : Int) (N : Nat) : List (Int × Int) := (List.range N).map fun (k : Nat) => (f + (k : Int), t + (k : Int))
def CelV (Bs : Nat) (f t m : Int) (_ : Nat) (W : World) : Prop := Cells3 W Bs f t m

set_option maxHeartbeats 1000000 in
theorem foldsOf_iter (Bs : Nat) (f t : Int) (N : Nat) (hN : N ≤ 256) (hf : 0 ≤ f ∧ f ≤ 1279) (ht : 0 ≤ t ∧ t ≤ 1279) : Iter Tryd.prog 58 #[.pointer (some ⟨Bs, 0, none⟩)] encI (foldsL f t N) (CelV Bs f t (N : Int)) := by
  intro l J Jx hJ hV hY Y W h0
  obtain ⟨q0, q1, q2⟩ := hV Y 0 W h0
  have HV := hide hV
  have HY := hide hY
  have H0 := hide h0
  have hlen : (foldsL f t N).length = N := by simp [foldsL]
  have hNw : IntKind.i32.wrap (N : Int) = (N : Int) := IntWalk.i32_in _ ⟨by omega, by omega⟩
  have HLN := hide hlen
  clear hV hY h0 hlen
  refine callsIn_of_wp Tryd.func58 rfl trivial ?_ rfl
  simp only [Tryd.ntmps58, List.size_toArray, List.length_cons, List.length_nil, Nat.reduceAdd, Nat.reduceSub, Array.replicate_succ, Array.replicate_zero, List.push_toArray, List.append_toArray, List.nil_append, List.cons_append]
  gi_wp2
  gi_loopw [7] (fun i wr => ∃ k : Nat, k ≤ N ∧ i = .int .i32 (k : Int) ∧ J Y k wr) (fun i _ => N - (intOf i).toNat)
  case atStart => exact ⟨0, Nat.zero_le _, rfl, H0.out⟩
  case round =>
    clear q0 q1 q2
    obtain ⟨k, hk, rfl, hj⟩ := hrel
    have HJ := hide hj
    clear hj
    by_cases hkl : k < N
    · have hki : (k : Int) < (N : Int) := by omega
      obtain ⟨q0, q1, q2⟩ := HV.out Y k wr HJ.out
      obtain ⟨F1, hF1⟩ : ∃ F1, f + (k : Int) = F1 := ⟨_, rfl⟩
      have hF1w : IntKind.i32.wrap F1 = F1 := IntWalk.i32_in _ ⟨by omega, by omega⟩
      obtain ⟨T1, hT1⟩ : ∃ T1, t + (k : Int) = T1 := ⟨_, rfl⟩
      have hT1w : IntKind.i32.wrap T1 = T1 := IntWalk.i32_in _ ⟨by omega, by omega⟩
      have hkw : IntKind.i32.wrap ((k : Int) + 1) = (k : Int) + 1 := IntWalk.i32_in _ ⟨by omega, by omega⟩
      have hy0 := HY.out Y k (by rw [HLN.out]; exact hkl) wr HJ.out
      rw [show (foldsL f t N)[k]'(by rw [HLN.out]; exact hkl) = (F1, T1) by simp [foldsL, hF1, hT1]] at hy0
      obtain ⟨fn, tmps, assign, body, hy, hR⟩ := hy0
      have HR := hide hR
      clear hR
      gi_wp2
      refine HR.out.mono ?_
      rintro e W3 (⟨rfl, hJ3, _⟩ | ⟨rfl, hJx3⟩)
      · have HJ3 := hide hJ3
        clear hJ3 HR hy
        gi_wp2
        go_roundw
        case rel => exact ⟨k + 1, by omega, by go_num, HJ3.out⟩
        case measure => simp [intOf]; omega
      · have HJ3 := hide hJx3
        clear hJx3 HR hy
        gi_wp2
        refine bodyPost_ret (results_none rfl _ _ _) rfl ?_
        exact ⟨⟨_, rfl⟩, Y, .inr ⟨k, by rw [HLN.out]; exact hkl, HJ3.out⟩⟩
    · obtain rfl : k = N := by omega
      gi_wp2
      go_end0
      exact ⟨⟨_, rfl⟩, Y, .inl (by rw [HLN.out]; exact HJ.out)⟩

/-- what is left behind by ranges over functions -/
def colD (b : Nat) : Deferred := { target := .collected b, args := #[] }
theorem leaves_all {F : Fence} {n : Nat} {P : Program} {fn : Func} {tmps : Array Value} {R : Ending → World → Prop} : ∀ (bs : List Nat) (W : World), bs.Nodup → (∀ b ∈ bs, W.heap[b]? = some (.deferred (some []))) → (∀ W', Only (fun j => j ∈ bs) W W' → LeavesInM F n P fn tmps R [] .returning W') → LeavesInM F n P fn tmps R (bs.map colD) .returning W
  | [], W, _, _, h => h W (Only.refl _ W)
  | b :: bs, W, hn, hd, h => by
    have hb := hd b (List.mem_cons_self ..)
    rw [List.map_cons]
    refine ⟨by simp, .inl ⟨b, W.putObj b (.deferred none), rfl, run_takeDeferred hb, ?_⟩⟩
    have hn2 := List.nodup_cons.1 hn
    refine leaves_all bs _ hn2.2 (fun c hc => ?_) (fun W' ho => ?_)
    · rw [World.putObj_heap_other (show c ≠ b from fun e => hn2.1 (by rw [← e]; exact hc))]
      exact hd c (List.mem_cons_of_mem _ hc)
    · exact h W' ((only_put1 W b _ (fun j => j ∈ b :: bs) (List.mem_cons_self ..)).trans ho (fun i _ hi => List.mem_cons_of_mem _ hi))

end Go.Proofs.YtfpphepjkpofiaaDoor
