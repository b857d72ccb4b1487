/- Contracts: package node's each, as an iterator over pairs. -/
import Derived.Test.YtoamdbjailpgdaaNSmall
import Derived.Test.YtoamdbjailpgdaaCRange
namespace Go.Proofs.Ytoamdbjailpgdaa
set_option maxRecDepth 20000
open Go.RowKit Go.Shelf
set_option linter.unusedVariables false
set_option linter.unusedSimpArgs false
set_option maxRecDepth 100000
attribute [local go_sem] Oper.semAt_some

theorem each_any (w : World) (ao : Option Addr) (n cap : Nat) : Calls Try.prog 47 #[.slice ao n cap] w fun e w' => e = .returned (.func (.func 84) #[] #[.pointer (some ⟨w.heap.size, 0, none⟩)]) ∧ w' = w.alloc (.cells #[.slice ao n cap] 22) := by
  go_enter Try.func47, Try.ntmps47
  go_wp2
  go_ret
  exact ⟨rfl, rfl⟩
theorem enters_each : ∀ args w, (callFunc 84 args).run Try.prog w = .ok (.enter 84 args) w := enters_of Try.func84 (by kernel_rfl) rfl

abbrev encV : Value × Value → Array Value := fun x => #[x.1, x.2]
/-- what the iterator reads -/
def EachV (Bs : Nat) (v : Value) (xs : List (Value × Value)) (ps : List (List Int × List Int)) (k : Nat) (W : World) : Prop := (k = 0 → W.cell? ⟨Bs, 0, none⟩ = some v) ∧ Prs W v xs ps
theorem sizePair : (Try.prog.info? 36).map (·.size) = some 2 := by kernel_rfl

set_option maxHeartbeats 2000000 in
theorem each_iter (Bs : Nat) (v : Value) (xs : List (Value × Value)) (ps : List (List Int × List Int)) : Iter Try.prog 84 #[.pointer (some ⟨Bs, 0, none⟩)] encV xs (EachV Bs v xs ps) := by
  intro l J Jx hJ hV hY Y W h0
  obtain ⟨hz, hp⟩ := hV Y 0 W h0
  have hc := hz rfl
  have hlen := hp.len
  obtain ⟨ao, cap, rfl, hcap, hmax⟩ := hp.shape
  obtain ⟨n, hn⟩ : ∃ n, ps.length = n := ⟨_, rfl⟩
  have HN := hide hn
  have HL : Hid (xs.length = n) := hlen.trans hn
  have HJ := hide hJ
  have HV := hide hV
  have HY := hide hY
  have HJ0 := hide h0
  rw [hn] at hc hcap HV
  clear hz hp hJ hV hY h0 hlen hn
  refine callsIn_of_wp Try.func84 rfl trivial ?_ rfl
  simp only [Try.ntmps84, List.size_toArray, List.length_cons, List.length_nil, Nat.reduceAdd, Nat.reduceSub, Array.replicate_succ, Array.replicate_zero, List.push_toArray, List.append_toArray, List.nil_append, List.cons_append]
  gi_wp2
  clear hc
  gi_loopw [7] (fun i wr => ∃ (k : Nat) (Z : Nat → Prop), i = .int .i64 (k : Int) ∧ k ≤ n ∧ J Z k wr) (fun i _ => n + 1 - (intOf i).toNat)
  case atStart => exact ⟨0, _, rfl, Nat.zero_le _, HJ0.out⟩
  case round =>
    obtain ⟨k, Z, rfl, hk, hj⟩ := hrel
    by_cases hkn : k < n
    · have hki : (k : Int) < (n : Int) := by omega
      obtain ⟨b, off, rfl, hr, hs1, hs2⟩ := (HV.out Z k wr hj).2.at k (by rw [HN.out]; exact hkn)
      have hkl : k < xs.length := by rw [HL.out]; exact hkn
      have hxe : xs.getD k nil2 = xs[k] := by simp [List.getD, hkl]
      obtain ⟨x, hx⟩ : ∃ x, xs[k] = x := ⟨_, rfl⟩
      rw [hxe, hx] at hr hs1 hs2
      obtain ⟨u1, u2⟩ := x
      simp only at hr hs1 hs2
      have q1 : wr.cell? ⟨b, off + k * 2, none⟩ = some u1 := hr 0 u1 rfl
      have q2 : wr.cell? ⟨b, off + k * 2 + 1, none⟩ = some u2 := hr 1 u2 rfl
      obtain ⟨a1, n1, c1, rfl⟩ := sl_form hs1
      obtain ⟨a2, n2, c2, rfl⟩ := sl_form hs2
      obtain ⟨w1, hw1⟩ : ∃ w1, wr.alloc (.cells #[.slice a1 n1 c1, .slice a2 n2 c2] 36) = w1 := ⟨_, rfl⟩
      have hj1 := HJ.out Z k wr w1 hj (by rw [← hw1]; exact (Below.refl _ wr).alloc (Nat.le_refl _) _)
      have hy0 := HY.out _ k hkl w1 hj1
      rw [hx] at hy0
      obtain ⟨fn, tmps, assign, body, hyy, hR⟩ := hy0
      have HRR := hide hR
      have HKL : Hid (k < xs.length) := hkl
      rw [← hw1] at hyy HRR
      clear hr hs1 hs2 hj hx hxe hkl hj1 hR hw1
      gi_wp2
      refine HRR.out.mono ?_
      rintro e W3 (⟨rfl, hJ3, hkY⟩ | ⟨rfl, hJx3⟩)
      · have HJ3 := hide hJ3
        clear hJ3 hkY HRR hyy
        gi_wp2
        go_roundw
        case rel => exact ⟨k + 1, _, by go_num, by omega, HJ3.out⟩
        case measure => simp [intOf]; omega
      · have HJ3 := hide hJx3
        clear hJx3 HRR hyy
        gi_wp2
        refine bodyPost_ret (results_none rfl _ _ _) rfl ?_
        exact ⟨⟨_, rfl⟩, _, .inr ⟨k, HKL.out, HJ3.out⟩⟩
    · obtain rfl : k = n := by omega
      have HJK := hide hj
      gi_wp2
      go_end0
      exact ⟨⟨_, rfl⟩, Z, .inl (by rw [HL.out]; exact HJK.out)⟩

end Go.Proofs.Ytoamdbjailpgdaa
