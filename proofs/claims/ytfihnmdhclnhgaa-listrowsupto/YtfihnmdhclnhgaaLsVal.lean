/- Contracts: slices.Values at uint32, int, postings, as iterators. -/
import Derived.Test.YtfihnmdhclnhgaaLsCmp
import Derived.Test.YtfihnmdhclnhgaaCRange
namespace Go.Proofs.Ytfihnmdhclnhgaa
set_option maxRecDepth 20000
open Go.RowKit Go.Shelf
set_option linter.unusedVariables false
set_option linter.unusedSimpArgs false
set_option maxRecDepth 100000
attribute [local go_sem] Oper.semAt_some

abbrev encU : Int → Array Value := fun x => #[.int .u32 x]
abbrev encN : Int → Array Value := fun x => #[.int .i64 x]
abbrev encPE : PE → Array Value := fun x => #[.agg #[.int .u32 (x.2.doc : Int), x.1]]
def SlE (xs : List PE) : Prop := ∀ x ∈ xs, ∃ a n c, x.1 = .slice a n c

theorem valuesU_any (w : World) (a : Option Addr) (n cap : Nat) : Calls Try.prog 48 #[.slice a n cap] w fun e w' => e = .returned (.func (.func 73) #[] #[.pointer (some ⟨w.heap.size, 0, none⟩)]) ∧ w' = w.alloc (.cells #[.slice a n cap] 23) := by
  go_enter Try.func48, Try.ntmps48
  go_wp2
  go_ret
  exact ⟨rfl, rfl⟩
theorem enters_valU : ∀ args w, (callFunc 73 args).run Try.prog w = .ok (.enter 73 args) w := enters_of Try.func73 (by kernel_rfl) rfl
def ValVU (Bs : Nat) (sv : Value) (zs : List Int) : Nat → World → Prop := fun _ W => W.cell? ⟨Bs, 0, none⟩ = some sv ∧ Ul W sv zs

set_option maxHeartbeats 1000000 in
theorem valuesU_iter (Bs : Nat) (sv : Value) (zs : List Int) (hl : zs.length ≤ 1000000) : Iter Try.prog 73 #[.pointer (some ⟨Bs, 0, none⟩)] encU zs (ValVU Bs sv zs) := by
  intro l J Jx hJ hV hY Y W h0
  obtain ⟨hc, hi⟩ := hV Y 0 W h0
  obtain ⟨ao, cap, rfl, hcap1, hcap2⟩ := hi.shape
  have HV := hide hV
  have HY := hide hY
  have HJA := hide hJ
  have H0 := hide h0
  clear hi hV hY h0 hJ
  refine callsIn_of_wp Try.func73 rfl trivial ?_ rfl
  simp only [Try.ntmps73, List.size_toArray, List.length_cons, List.length_nil, Nat.reduceAdd, Nat.reduceSub, Array.replicate_succ, Array.replicate_zero, List.push_toArray, List.append_toArray, List.nil_append, List.cons_append]
  gi_wp2
  gi_loopw [7] (fun i wr => ∃ (k : Nat) (Y : Nat → Prop), k ≤ zs.length ∧ i = .int .i64 k ∧ J Y k wr) (fun i _ => zs.length - (intOf i).toNat)
  case atStart => exact ⟨0, Y, Nat.zero_le _, rfl, H0.out⟩
  case round =>
    obtain ⟨k, Y, hk, rfl, hj⟩ := hrel
    have HJ := hide hj
    clear hj
    by_cases hkl : k < zs.length
    · have hki : (k : Int) < (zs.length : Int) := by omega
      obtain ⟨_, hi⟩ := HV.out Y k wr HJ.out
      obtain ⟨x, hx⟩ : ∃ x, zs[k] = x := ⟨_, rfl⟩
      obtain ⟨g, off, rfl, hcell⟩ := hi.at k hkl
      rw [getD_lt zs hkl, hx] at hcell
      have hy0 := HY.out Y k hkl wr HJ.out
      rw [hx] at hy0
      obtain ⟨fn, tmps, assign, body, hy, hR⟩ := hy0
      have HR := hide hR
      clear hR hi hx
      gi_wp2
      refine HR.out.mono ?_
      rintro e W3 (⟨rfl, hJ3, _⟩ | ⟨rfl, hJx3⟩)
      · have HJ3 := hide hJ3
        clear hJ3 HR hy
        gi_wp2
        go_roundw
        case rel => exact ⟨k + 1, Y, by omega, by go_num, HJ3.out⟩
        case measure => simp [intOf]; omega
      · have HJ3 := hide hJx3
        clear hJx3 HR hy
        gi_wp2
        refine bodyPost_ret (results_none rfl _ _ _) rfl ?_
        exact ⟨⟨_, rfl⟩, Y, .inr ⟨k, hkl, HJ3.out⟩⟩
    · obtain rfl : k = zs.length := by omega
      gi_wp2
      go_end0
      exact ⟨⟨_, rfl⟩, Y, .inl HJ.out⟩

theorem valuesI_any (w : World) (a : Option Addr) (n cap : Nat) : Calls Try.prog 111 #[.slice a n cap] w fun e w' => e = .returned (.func (.func 130) #[] #[.pointer (some ⟨w.heap.size, 0, none⟩)]) ∧ w' = w.alloc (.cells #[.slice a n cap] 44) := by
  go_enter Try.func111, Try.ntmps111
  go_wp2
  go_ret
  exact ⟨rfl, rfl⟩
theorem enters_valI : ∀ args w, (callFunc 130 args).run Try.prog w = .ok (.enter 130 args) w := enters_of Try.func130 (by kernel_rfl) rfl
def ValVI (Bs : Nat) (sv : Value) (zs : List Int) : Nat → World → Prop := fun _ W => W.cell? ⟨Bs, 0, none⟩ = some sv ∧ Is W sv zs

set_option maxHeartbeats 1000000 in
theorem valuesI_iter (Bs : Nat) (sv : Value) (zs : List Int) (hl : zs.length ≤ 1000000) : Iter Try.prog 130 #[.pointer (some ⟨Bs, 0, none⟩)] encN zs (ValVI Bs sv zs) := by
  intro l J Jx hJ hV hY Y W h0
  obtain ⟨hc, hi⟩ := hV Y 0 W h0
  obtain ⟨ao, cap, rfl, hcap1, hcap2⟩ := hi.shape
  have HV := hide hV
  have HY := hide hY
  have HJA := hide hJ
  have H0 := hide h0
  clear hi hV hY h0 hJ
  refine callsIn_of_wp Try.func130 rfl trivial ?_ rfl
  simp only [Try.ntmps130, List.size_toArray, List.length_cons, List.length_nil, Nat.reduceAdd, Nat.reduceSub, Array.replicate_succ, Array.replicate_zero, List.push_toArray, List.append_toArray, List.nil_append, List.cons_append]
  gi_wp2
  gi_loopw [7] (fun i wr => ∃ (k : Nat) (Y : Nat → Prop), k ≤ zs.length ∧ i = .int .i64 k ∧ J Y k wr) (fun i _ => zs.length - (intOf i).toNat)
  case atStart => exact ⟨0, Y, Nat.zero_le _, rfl, H0.out⟩
  case round =>
    obtain ⟨k, Y, hk, rfl, hj⟩ := hrel
    have HJ := hide hj
    clear hj
    by_cases hkl : k < zs.length
    · have hki : (k : Int) < (zs.length : Int) := by omega
      obtain ⟨_, hi⟩ := HV.out Y k wr HJ.out
      obtain ⟨x, hx⟩ : ∃ x, zs[k] = x := ⟨_, rfl⟩
      obtain ⟨g, off, rfl, hcell⟩ := hi.at k hkl
      rw [getD_lt zs hkl, hx] at hcell
      have hy0 := HY.out Y k hkl wr HJ.out
      rw [hx] at hy0
      obtain ⟨fn, tmps, assign, body, hy, hR⟩ := hy0
      have HR := hide hR
      clear hR hi hx
      gi_wp2
      refine HR.out.mono ?_
      rintro e W3 (⟨rfl, hJ3, _⟩ | ⟨rfl, hJx3⟩)
      · have HJ3 := hide hJ3
        clear hJ3 HR hy
        gi_wp2
        go_roundw
        case rel => exact ⟨k + 1, Y, by omega, by go_num, HJ3.out⟩
        case measure => simp [intOf]; omega
      · have HJ3 := hide hJx3
        clear hJx3 HR hy
        gi_wp2
        refine bodyPost_ret (results_none rfl _ _ _) rfl ?_
        exact ⟨⟨_, rfl⟩, Y, .inr ⟨k, hkl, HJ3.out⟩⟩
    · obtain rfl : k = zs.length := by omega
      gi_wp2
      go_end0
      exact ⟨⟨_, rfl⟩, Y, .inl HJ.out⟩

theorem valuesP_any (w : World) (a : Option Addr) (n cap : Nat) : Calls Try.prog 109 #[.slice a n cap] w fun e w' => e = .returned (.func (.func 129) #[] #[.pointer (some ⟨w.heap.size, 0, none⟩)]) ∧ w' = w.alloc (.cells #[.slice a n cap] 47) := by
  go_enter Try.func109, Try.ntmps109
  go_wp2
  go_ret
  exact ⟨rfl, rfl⟩
theorem enters_valP : ∀ args w, (callFunc 129 args).run Try.prog w = .ok (.enter 129 args) w := enters_of Try.func129 (by kernel_rfl) rfl
def ValVP (Bs : Nat) (sv : Value) (zs : List PE) : Nat → World → Prop := fun _ W => W.cell? ⟨Bs, 0, none⟩ = some sv ∧ Pq W sv zs

set_option maxHeartbeats 1000000 in
theorem valuesP_iter (Bs : Nat) (sv : Value) (zs : List PE) (hl : zs.length ≤ 1000000) (hsl : SlE zs) : Iter Try.prog 129 #[.pointer (some ⟨Bs, 0, none⟩)] encPE zs (ValVP Bs sv zs) := by
  intro l J Jx hJ hV hY Y W h0
  obtain ⟨hc, hi⟩ := hV Y 0 W h0
  obtain ⟨ao, cap, rfl, hcap1, hcap2⟩ := hi.shape
  have HV := hide hV
  have HY := hide hY
  have HJA := hide hJ
  have H0 := hide h0
  clear hi hV hY h0 hJ
  refine callsIn_of_wp Try.func129 rfl trivial ?_ rfl
  simp only [Try.ntmps129, List.size_toArray, List.length_cons, List.length_nil, Nat.reduceAdd, Nat.reduceSub, Array.replicate_succ, Array.replicate_zero, List.push_toArray, List.append_toArray, List.nil_append, List.cons_append]
  gi_wp2
  gi_loopw [7] (fun i wr => ∃ (k : Nat) (Y : Nat → Prop), k ≤ zs.length ∧ i = .int .i64 k ∧ J Y k wr) (fun i _ => zs.length - (intOf i).toNat)
  case atStart => exact ⟨0, Y, Nat.zero_le _, rfl, H0.out⟩
  case round =>
    obtain ⟨k, Y, hk, rfl, hj⟩ := hrel
    have HJ := hide hj
    clear hj
    by_cases hkl : k < zs.length
    · have hki : (k : Int) < (zs.length : Int) := by omega
      obtain ⟨_, hi⟩ := HV.out Y k wr HJ.out
      obtain ⟨x, hx⟩ : ∃ x, zs[k] = x := ⟨_, rfl⟩
      obtain ⟨g, off, rfl, hcell, hcell2⟩ := hi.at k hkl
      rw [getD_pe zs k hkl, hx] at hcell hcell2
      obtain ⟨xa, xn, xc, hxv⟩ := hsl x (by rw [← hx]; exact List.getElem_mem hkl)
      obtain ⟨xv, d, xp⟩ := x
      simp only at hxv hcell hcell2
      subst hxv
      obtain ⟨W2, hW2⟩ : ∃ W2, wr.alloc (.cells #[.int .u32 (d : Int), .slice xa xn xc] 63) = W2 := ⟨_, rfl⟩
      have hj2 := HJ.out
      have hb2 : Below wr.heap.size wr W2 := by rw [← hW2]; exact (Below.refl _ wr).alloc (Nat.le_refl _) _
      have hj2 := HJA.out Y k wr W2 HJ.out hb2
      obtain ⟨d0, d1⟩ := box_po (w := W2) (b := wr.heap.size) (e := 63) (x := .int .u32 (d : Int)) (y := .slice xa xn xc) (by rw [← hW2]; exact Blk.new wr _ _)
      generalize more Y wr W2 = Y2 at *
      have hy0 := HY.out Y2 k hkl W2 hj2
      clear hj2 hb2
      rw [hx] at hy0
      simp only [encPE] at hy0
      obtain ⟨fn, tmps, assign, body, hy, hR⟩ := hy0
      have HR := hide hR
      clear hR hi hx
      gi_wp2
      refine HR.out.mono ?_
      rintro e W3 (⟨rfl, hJ3, _⟩ | ⟨rfl, hJx3⟩)
      · have HJ3 := hide hJ3
        clear hJ3 HR hy
        gi_wp2
        go_roundw
        case rel => exact ⟨k + 1, Y2, by omega, by go_num, HJ3.out⟩
        case measure => simp [intOf]; omega
      · have HJ3 := hide hJx3
        clear hJx3 HR hy
        gi_wp2
        refine bodyPost_ret (results_none rfl _ _ _) rfl ?_
        exact ⟨⟨_, rfl⟩, Y2, .inr ⟨k, hkl, HJ3.out⟩⟩
    · obtain rfl : k = zs.length := by omega
      gi_wp2
      go_end0
      exact ⟨⟨_, rfl⟩, Y, .inl HJ.out⟩

end Go.Proofs.Ytfihnmdhclnhgaa
