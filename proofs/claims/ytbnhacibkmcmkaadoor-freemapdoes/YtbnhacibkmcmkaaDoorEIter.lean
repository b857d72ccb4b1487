/- Contracts: package extent's All, as an iterator. -/
import Derived.Test.YtbnhacibkmcmkaaDoorELists
import Derived.Test.YtbnhacibkmcmkaaDoorCRange
namespace Go.Proofs.YtbnhacibkmcmkaaDoor
set_option maxRecDepth 20000
open Go.RowKit Go.Shelf
set_option linter.unusedVariables false
set_option maxRecDepth 100000
attribute [local go_sem] Oper.semAt_some

theorem all_any (w : World) (p : Option Addr) : Calls Tryd.prog 56 #[.pointer p] w fun e w' => e = .returned (.func (.func 66) #[] #[.pointer (some ⟨w.heap.size, 0, none⟩)]) ∧ w' = w.alloc (.cells #[.pointer p] 64) := by
  go_enter Tryd.func56, Tryd.ntmps56
  go_wp2
  go_ret
  exact ⟨rfl, rfl⟩
theorem enters_all : ∀ args w, (callFunc 66 args).run Tryd.prog w = .ok (.enter 66 args) w := enters_of Tryd.func66 (by kernel_rfl) rfl

abbrev encP : Nat → Array Value := fun x => #[.int .i64 (x : Int)]
abbrev encR : Nat × Nat → Array Value := fun x => #[.int .i64 (x.1 : Int), .int .i64 (x.2 : Int)]
/-- what the iterators read: the set at their beginning alone -/
def SetV (Bs b n : Nat) (f : Nat → Bool) (k : Nat) (W : World) : Prop := TabB W ∧ (k = 0 → W.cell? ⟨Bs, 0, none⟩ = some (dp b) ∧ SetB W b n f)
theorem SetB.keepY {Y : Nat → Prop} {W W' : World} {b n : Nat} {f : Nat → Bool} (h : SetB W b n f) (hk : KeepsY Y W W') (hy : Y b) : SetB W' b n f := ⟨(hk b hy).trans h.blk, h.lo, h.hi, h.out⟩

theorem fstI_none : fstI none = -1 := rfl
theorem fstI_some (q : Nat) : fstI (some q) = (q : Int) := rfl
def pvM (n : Nat) (v : Value) : Nat := if intOf v < 0 then 0 else n + 1 - (intOf v).toNat

theorem pvM_none (n : Nat) : pvM n (.int .i64 (fstI none)) = 0 := rfl
theorem pvM_some (n q : Nat) : pvM n (.int .i64 (q : Int)) = n + 1 - q := by
  unfold pvM
  rw [show intOf (.int .i64 (q : Int)) = (q : Int) from rfl, if_neg (by omega)]
  simp
theorem pvM_lt (f : Nat → Bool) (n q p : Nat) (h : q < p) (hq : q < n) : pvM n (.int .i64 (fstI (fstN f n p))) < pvM n (.int .i64 (q : Int)) := by
  rw [pvM_some]
  cases h2 : fstN f n p with
  | none => rw [pvM_none]; omega
  | some q2 =>
    have := fstN_some h2
    rw [fstI_some, pvM_some]; omega

set_option maxHeartbeats 2000000 in
theorem all_iter (Bs b n : Nat) (f : Nat → Bool) : Iter Tryd.prog 66 #[.pointer (some ⟨Bs, 0, none⟩)] encP (pagesF f n) (SetV Bs b n f) := by
  intro l J Jx hJ hV hY Y W h0
  obtain ⟨hT, hz⟩ := hV Y 0 W h0
  obtain ⟨hc, hs⟩ := hz rfl
  have HCL := hide (clone_any W b n f hs)
  obtain ⟨W1, hW1⟩ : ∃ W1, W.alloc (.cells (sc n f).toArray 81) = W1 := ⟨_, rfl⟩
  rw [hW1] at HCL
  have hb1 : Below W.heap.size W W1 := by rw [← hW1]; exact (Below.refl _ W).alloc (Nat.le_refl _) _
  have hs1 : SetB W1 W.heap.size n f := ⟨by rw [← hW1]; exact Blk.new W _ _, hs.lo, hs.hi, hs.out⟩
  have hsz : W1.heap.size = W.heap.size + 1 := by rw [← hW1]; simp
  have hj1 := hJ Y 0 W W1 h0 hb1
  have hn := hs.hi
  have HF := hide (first_any W1 W.heap.size n f 0 hs1 (hT.below hb1))
  have HJ1 := hide hj1
  have HS1 := hide hs1
  have HV := hide hV
  have HY := hide hY
  obtain ⟨c, hcc⟩ : ∃ c, W.heap.size = c := ⟨_, rfl⟩
  have HZ1 : Hid (more Y W W1 c) := .inr (by omega)
  rw [hcc] at HCL HF HS1
  clear hT hz hs hW1 hb1 hs1 hj1 hJ hV hY h0 hcc hsz
  refine callsIn_of_wp Tryd.func66 rfl trivial ?_ rfl
  simp only [Tryd.ntmps66, List.size_toArray, List.length_cons, List.length_nil, Nat.reduceAdd, Nat.reduceSub, Array.replicate_succ, Array.replicate_zero, List.push_toArray, List.append_toArray, List.nil_append, List.cons_append]
  gi_wp2_with (first
    | (refine ⟨trivial, ?_⟩; gi_at_call 43; refine (callsIn_wide.2 HCL.out).mono ?_; rintro e w1 ⟨rfl, hw⟩; subst w1; clear HCL)
    | (refine ⟨trivial, ?_⟩; gi_at_call 67; refine (callsIn_wide.2 HF.out).mono ?_; rintro e w1 ⟨r, rfl, hr, hw⟩; subst w1; have HR := hide hr; clear HF hr))
  clear hc
  gi_loopw [4] (fun pv wr => ∃ (P k : Nat) (Z : Nat → Prop), pv = .int .i64 (fstI (fstN f n P)) ∧ k ≤ (pagesF f n).length ∧ pagesFrom f n P = (pagesF f n).drop k ∧ J Z k wr ∧ SetB wr c n f ∧ Z c) (fun pv _ => pvM n pv)
  case atStart => exact ⟨0, 0, _, by rw [IsFst.eq (p := 0) HR.out], Nat.zero_le _, rfl, HJ1.out, HS1.out, HZ1.out⟩
  case round =>
    obtain ⟨P, k, Z, rfl, hk, hd, hj, hs, hz⟩ := hrel
    have HJ := hide hj
    have HS := hide hs
    have HZ := hide hz
    have HD := hide hd
    clear hj hs hz hd HR HJ1 HS1 HZ1
    cases hq : fstN f n P with
    | none =>
      have he : (pagesF f n).drop k = [] := by rw [← HD.out, pagesFrom_none hq]
      have hkl : k = (pagesF f n).length := by
        have := List.drop_eq_nil_iff.1 he
        omega
      subst hkl
      simp only [fstI_none]
      clear he hq
      gi_wp2
      go_end0
      exact ⟨⟨_, rfl⟩, Z, .inl HJ.out⟩
    | some q =>
      obtain ⟨h1, h2, h3, h4⟩ := fstN_some hq
      have he := HD.out
      rw [pagesFrom_some hq] at he
      have hkl : k < (pagesF f n).length := by
        rcases Nat.lt_or_ge k (pagesF f n).length with h | h
        · exact h
        · rw [List.drop_of_length_le h] at he; cases he
      have hx : (pagesF f n)[k] = q ∧ (pagesF f n).drop (k + 1) = pagesFrom f n (q + 1) := by
        rw [List.drop_eq_getElem_cons hkl] at he
        simp only [List.cons.injEq] at he
        exact ⟨he.1.symm, he.2.symm⟩
      have hy0 := HY.out Z k hkl wr HJ.out
      rw [hx.1] at hy0
      obtain ⟨fn, tmps, assign, body, hyy, hR⟩ := hy0
      have HRR := hide hR
      have HE := hide hx.2
      simp only [fstI_some]
      clear hR he hx h1 h3 h4 hq
      gi_wp2
      refine HRR.out.mono ?_
      rintro e W3 (⟨rfl, hJ3, hkY⟩ | ⟨rfl, hJx3⟩)
      · have HJ3 := hide hJ3
        have hs3 := HS.out.keepY hkY HZ.out
        have HF := hide (first_any W3 c n f ((q : Int) + 1) hs3 (HV.out Z (k + 1) W3 hJ3).1)
        have HS3 := hide hs3
        clear hJ3 hkY HRR hyy hs3
        gi_wp2_with (first
          | (refine ⟨trivial, ?_⟩; gi_at_call 67; refine (callsIn_wide.2 HF.out).mono ?_; rintro e w1 ⟨r, rfl, hr, hw⟩; subst w1; have HR := hide hr; clear HF hr))
        have hr : r = fstI (fstN f n (q + 1)) := IsFst.eq (p := q + 1) (by have := HR.out; rw [show ((q + 1 : Nat) : Int) = (q : Int) + 1 by omega]; exact this)
        go_roundw
        case rel => exact ⟨q + 1, k + 1, Z, by rw [hr], by omega, HE.out.symm, HJ3.out, HS3.out, HZ.out⟩
        case measure =>
          rw [hr]
          exact pvM_lt f n q (q + 1) (by omega) h2
      · have HJ3 := hide hJx3
        clear hJx3 HRR hyy
        gi_wp2
        refine bodyPost_ret (results_none rfl _ _ _) rfl ?_
        exact ⟨⟨_, rfl⟩, Z, .inr ⟨k, hkl, HJ3.out⟩⟩

end Go.Proofs.YtbnhacibkmcmkaaDoor
