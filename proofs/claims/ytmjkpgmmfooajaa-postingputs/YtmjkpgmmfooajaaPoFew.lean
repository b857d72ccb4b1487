/- Contract: layer 15's few (incipitlaw15.few). -/
import Derived.Test.YtmjkpgmmfooajaaPoSAll
namespace Go.Proofs.Ytmjkpgmmfooajaa
set_option maxRecDepth 20000
open Go.RowKit
set_option linter.unusedVariables false
set_option linter.unusedSimpArgs false
set_option maxRecDepth 100000

def fewB (ps : List Po) : Bool := decide (ps.length ≤ 60) && ps.all fun p => decide (p.pos.length ≤ 2100)
theorem all_snocP (ps : List Po) (k : Nat) (hk : k < ps.length) (f : Po → Bool) : (ps.take (k + 1)).all f = ((ps.take k).all f && f (ps.getD k noPo)) := by
  rw [List.take_succ_eq_append_getElem hk, List.all_append]
  simp [List.getD, hk]
theorem few_all {ps : List Po} (h : fewB ps = true) : ps.length ≤ 60 ∧ ∀ k, k < ps.length → (ps.getD k noPo).pos.length ≤ 2100 := by
  simp only [fewB, Bool.and_eq_true, decide_eq_true_iff, List.all_eq_true] at h
  refine ⟨h.1, fun k hk => h.2 _ ?_⟩
  simp only [List.getD, List.getElem?_eq_getElem hk, Option.getD_some]
  exact List.getElem_mem hk

set_option maxHeartbeats 1000000 in
theorem few_any (w : World) (v : Value) (us : List Value) (ps : List Po) (h : Pps w v us ps) :
    Calls Try.prog 9 #[v] w fun e w' => e = .returned (.bool (fewB ps)) ∧ Below w.heap.size w w' := by
  have HF : Hid (fewB ps = (decide (ps.length ≤ 60) && ps.all fun p => decide (p.pos.length ≤ 2100))) := rfl
  generalize fewB ps = R at HF ⊢
  obtain ⟨ao, ca, rfl, h11, h12⟩ := h.shape
  have HP := hide h
  obtain ⟨n, hn⟩ : ∃ n, ps.length = n := ⟨_, rfl⟩
  have HN := hide hn
  rw [hn] at HP HF h11 ⊢
  clear h hn
  by_cases hf : 60 < n
  · have hfi : (60 : Int) < (n : Int) := by omega
    go_enter Try.func9, Try.ntmps9
    go_wp2
    go_ret
    exact ⟨ret_bool (by rw [HF.out, decide_eq_false (show ¬ n ≤ 60 by omega)]; rfl), Below.refl _ _⟩
  · have hfi : ¬ (60 : Int) < (n : Int) := by omega
    have HF2 : Hid (R = ps.all fun p => decide (p.pos.length ≤ 2100)) := by show _ = _; rw [HF.out, decide_eq_true (show n ≤ 60 by omega), Bool.true_and]
    clear HF
    go_enter Try.func9, Try.ntmps9
    go_wp2
    go_loopg [4, 10] n (fun g b4 i wr => ∃ k : Nat, g + k = n ∧ i = .int .i64 k ∧ (ps.take k).all (fun p => decide (p.pos.length ≤ 2100)) = true ∧ Below w.heap.size w wr)
    case atStart => exact ⟨0, by omega, rfl, rfl, Below.refl _ _⟩
    case round =>
      obtain ⟨k, hg, rfl, ht, hbq⟩ := hrel
      have HT := hide ht
      have HBQ := hide hbq
      clear ht hbq
      by_cases hkm : k < n
      · obtain ⟨g1, o1, rfl, c1, c2, hd1, hi1⟩ := (HP.out.below HBQ.out).at k (by have := HN.out; omega)
        have HS := hide (all_snocP ps k (by have := HN.out; omega) (fun p => decide (p.pos.length ≤ 2100)))
        obtain ⟨x, hx⟩ : ∃ x, ps.getD k noPo = x := ⟨_, rfl⟩
        rw [hx] at c1 hd1 hi1 HS
        obtain ⟨xo, xc, hxv, _, _⟩ := hi1.shape
        rw [hxv] at c2
        have HX := hide hx
        have i1 : (k : Int) < (n : Int) := by omega
        generalize x.pos.length = xn at *
        generalize x.doc = d1 at *
        obtain ⟨W2, hW2⟩ : ∃ W2, wr.alloc (.cells #[.int .u32 (d1 : Int), .slice xo xn xc] 34) = W2 := ⟨_, rfl⟩
        have hb2 : Below wr.heap.size wr W2 := by rw [← hW2]; exact (Below.refl _ wr).alloc (Nat.le_refl _) _
        have HB2 := hide (HBQ.out.trans (hb2.mono HBQ.out.size))
        obtain ⟨b0, b1⟩ := box_po (w := W2) (b := wr.heap.size) (e := 34) (x := .int .u32 (d1 : Int)) (y := .slice xo xn xc) (by rw [← hW2]; exact Blk.new wr _ _)
        clear hx hi1 hxv hd1 hb2
        by_cases hxn : 2100 < xn
        · have hxi : (2100 : Int) < (xn : Int) := by omega
          go_wp2
          go_ret
          refine ⟨ret_bool ?_, HB2.out⟩
          rw [HF2.out]
          symm
          cases hall : ps.all fun p => decide (p.pos.length ≤ 2100) with
          | false => rfl
          | true =>
            have : (ps.take (k + 1)).all (fun p => decide (p.pos.length ≤ 2100)) = true := by
              rw [List.all_eq_true] at hall ⊢
              exact fun q hq => hall q (List.mem_of_mem_take hq)
            rw [HS.out, decide_eq_false (by omega), Bool.and_false] at this
            cases this
        · have hxi : ¬ (2100 : Int) < (xn : Int) := by omega
          have HS2 : Hid ((ps.take (k + 1)).all (fun p => decide (p.pos.length ≤ 2100)) = true) := by show _ = _; rw [HS.out, HT.out, decide_eq_true (by omega)]; rfl
          go_wp2
          go_roundg (gk - 1)
          case measure => omega
          case rel => exact ⟨k + 1, by omega, by go_num, HS2.out, HB2.out⟩
      · obtain rfl : k = n := by omega
        go_wp2
        go_ret
        refine ⟨ret_bool ?_, HBQ.out⟩
        have := HT.out
        rw [List.take_of_length_le (Nat.le_of_eq HN.out)] at this
        rw [HF2.out, this]

end Go.Proofs.Ytmjkpgmmfooajaa
