/- Contracts: what is taken of package pack's reader, in whatever state. -/
import Derived.Test.YtbopcppagfhjnaaRdVar
import Derived.Test.YtbopcppagfhjnaaAfter
namespace Go.Proofs.Ytbopcppagfhjnaa
open Go.RowKit

/-- what a take of n bytes gives, leaves, and the first error behind it -/
def takeS (zs : List Int) (er n : Int) : List Int × List Int × Int :=
  if er ≠ 0 then ([], zs, er) else if n < 0 then ([], zs, 1) else if (zs.length : Int) < n then ([], zs, 10) else (zs.take n.toNat, zs.drop n.toNat, 0)

theorem grown_below {w w1 w2 : World} {r : Option Nat} (h : w.grownBy w1 r) (h2 : Below w1.heap.size w1 w2) : w.grownBy w2 r :=
  ⟨h2.os.trans h.os, h2.tape.trans h.tape, h2.output.trans h.output, Nat.le_trans h.size h2.size, fun k hk hne => (h2.block k (Nat.lt_of_lt_of_le hk h.size)).trans (h.block k hk hne)⟩

/-- a slice that leads to no block b, and to one that is there -/
def Off (w : World) (b : Nat) (v : Value) : Prop := ∀ k, v.ownBlock = some k → k ≠ b ∧ k < w.heap.size
theorem Off.nil (w : World) (b : Nat) : Off w b (.slice none 0 0) := by intro k hk; cases hk

/-- the reader behind a store into its error -/
theorem rd_err {w : World} {b : Nat} {u : Value} {zs : List Int} {er : Int} (h : Rd w b u zs er) (x : Int) : Rd (w.setCell ⟨b, 2, none⟩ (.int .i64 x)) b u zs x := by
  have hg := grown_set (grownBy_refl w (some b)) 2 (.int .i64 x)
  exact ⟨heap_set2 h.1 _, h.2.1.keep (fun k hk hlt => hg.block k hlt (fun e => (h.2.2 k hk).1 (by simpa using e))), fun k hk => by simpa using h.2.2 k hk⟩

set_option maxHeartbeats 400000 in
theorem take_any (w : World) (b : Nat) (u : Value) (zs : List Int) (er n : Int) (h : Rd w b u zs er) :
    Calls Try.prog 54 #[.pointer (some ⟨b, 0, none⟩), .int .i64 n] w fun e w' => ∃ v, e = .returned v ∧ Sl w' v (takeS zs er n).1 ∧ Off w' b v ∧ w.grownBy w' (some b) ∧ ∃ u', Rd w' b u' (takeS zs er n).2.1 (takeS zs er n).2.2 := by
  have HR := hide h
  have HE := err_any w b u zs er h
  obtain ⟨c0, c1, c2, hfr⟩ := h.cells
  obtain ⟨hg, ⟨hb, ao, cap, rfl, h1, h2, h3, h4⟩, hne⟩ := h
  unfold maxLen at h2
  have f1 := hfr 1
  have f2 := hfr 2
  have HNE := hide hne
  clear hfr h4 h3 hne
  by_cases e0 : er = 0
  · subst e0
    by_cases n0 : n < 0
    · have es : takeS zs 0 n = ([], zs, 1) := by simp [takeS, n0]
      rw [es]
      go_enter Try.func54, Try.ntmps54
      go_wp2_with (go_at_call 25; refine HE.mono ?_; rintro e w1 ⟨rfl, hw⟩; subst w1)
      go_ret
      exact ⟨_, rfl, Sl.nil _, Off.nil _ _, grown_set (grownBy_refl w _) _ _, _, rd_err HR.out 1⟩
    · by_cases n1 : (zs.length : Int) < n
      · have es : takeS zs 0 n = ([], zs, 10) := by simp [takeS, n0, n1]
        rw [es]
        go_enter Try.func54, Try.ntmps54
        go_wp2_with (go_at_call 25; refine HE.mono ?_; rintro e w1 ⟨rfl, hw⟩; subst w1)
        go_ret
        exact ⟨_, rfl, Sl.nil _, Off.nil _ _, grown_set (grownBy_refl w _) _ _, _, rd_err HR.out 10⟩
      · obtain ⟨m, rfl⟩ : ∃ m : Nat, n = m := ⟨n.toNat, by omega⟩
        have es : takeS zs 0 m = (zs.take m, zs.drop m, 0) := by simp only [takeS, if_neg n0, if_neg n1]; simp
        rw [es]
        have hm : m ≤ zs.length := by omega
        have ST := hide (sl_take m HR.out.2.1 hm)
        clear n0 n1
        by_cases hcm : cap = m
        · subst hcm
          go_enter Try.func54, Try.ntmps54
          go_wp2_with (go_at_call 25; refine HE.mono ?_; rintro e w1 ⟨rfl, hw⟩; subst w1)
          go_ret
          have hgg := grown_set (grownBy_refl w (some b)) 1 (.slice ao 0 0)
          refine ⟨_, rfl, ST.out.keep (fun k hk hlt => hgg.block k hlt (fun e => (HNE.out k (by cases ao <;> exact hk)).1 (by simpa using e))), fun k hk => by simpa using HNE.out k (by cases ao <;> exact hk), hgg, _, heap_set1 hg _, ?_, fun k hk => ?_⟩
          · have S0 : Sl w (.slice ao 0 0) (zs.drop cap) := by
              have := sl_cut0 cap HR.out.2.1 hm rfl
              rwa [show zs.length - cap = 0 by omega] at this
            exact S0.keep (fun k hk hlt => hgg.block k hlt (fun e => (HNE.out k (by cases ao <;> exact hk)).1 (by simpa using e)))
          · simpa using HNE.out k (by cases ao <;> exact hk)
        · have hcm' : (cap == m) = false := by simpa using hcm
          go_enter Try.func54, Try.ntmps54
          go_wp2_with (go_at_call 25; refine HE.mono ?_; rintro e w1 ⟨rfl, hw⟩; subst w1)
          go_ret
          have hgg := grown_set (grownBy_refl w (some b)) 1 (.slice (Option.map (fun x => x.add m) ao) (zs.length - m) (cap - m))
          refine ⟨_, rfl, ST.out.keep (fun k hk hlt => hgg.block k hlt (fun e => (HNE.out k (by cases ao <;> exact hk)).1 (by simpa using e))), fun k hk => by simpa using HNE.out k (by cases ao <;> exact hk), hgg, _, heap_set1 hg _, ?_, fun k hk => ?_⟩
          · exact (sl_cut m HR.out.2.1 hm).keep (fun k hk hlt => hgg.block k hlt (fun e => (HNE.out k (own_cut _ _ _ _ _ _ _ hk)).1 (by simpa using e)))
          · simpa using HNE.out k (own_cut _ _ _ _ _ _ _ hk)
  · have es : takeS zs er n = ([], zs, er) := by simp [takeS, e0]
    rw [es]
    have e1 : (er == 0) = false := by simpa using e0
    go_enter Try.func54, Try.ntmps54
    go_wp2_with (go_at_call 25; refine HE.mono ?_; rintro e w1 ⟨rfl, hw⟩; subst w1)
    go_ret
    exact ⟨_, rfl, Sl.nil _, Off.nil _ _, grownBy_refl _ _, _, HR.out⟩

end Go.Proofs.Ytbopcppagfhjnaa
