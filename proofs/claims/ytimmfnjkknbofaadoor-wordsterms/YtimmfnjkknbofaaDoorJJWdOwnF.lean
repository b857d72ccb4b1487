/- Tokens' own facts (pure): each is its own term, no stop word, not too long; places rise. []rune of a text; package words' Stop. -/
import Derived.Test.YtimmfnjkknbofaaDoorJJWdOne
import Derived.Test.YtimmfnjkknbofaaDoorJWdTerm
namespace Go.Proofs.YtimmfnjkknbofaaDoor
set_option maxRecDepth 20000
open Go.RowKit
set_option linter.unusedVariables false
set_option linter.unusedSimpArgs false
set_option maxRecDepth 100000

theorem runesFrom_size (z : List Int) : ∀ (n i : Nat) (acc : Array Value), (Conv.runesFrom (strOfNums z) n i acc).size = acc.size + (rnL n i (z.drop i)).length
  | 0, i, acc => by simp [Conv.runesFrom, rnL]
  | n + 1, i, acc => by
    unfold Conv.runesFrom
    rw [strOfNums_size]
    by_cases h : i < z.length
    · have hne : z.drop i ≠ [] := by
        intro e
        have := congrArg List.length e
        simp at this
        omega
      rw [if_pos h, dec_at, rnL_on n i hne]
      simp only
      rw [runesFrom_size z n, Array.size_push, List.length_cons, List.drop_drop]
      omega
    · rw [if_neg h, List.drop_eq_nil_of_le (by omega), rnL_nil]
      simp
theorem conv_runes (W : World) (z : List Int) (hl : z.length ≤ 1000000) : ∃ c w', (convert 9 69 (.string (strOfNums z))).run Tryd.prog W = .ok (.slice (some ⟨W.heap.size, 0, none⟩) (rs z).length c) w' ∧ Below W.heap.size W w' := by
  have hs := runesFrom_size z (strOfNums z).size 0 #[]
  rw [strOfNums_size] at hs
  have hn : (Conv.runesFrom (strOfNums z) (strOfNums z).size 0 #[]).size = (rs z).length := by
    rw [strOfNums_size, hs]
    simp [rs, runesN]
  have h1 := rs_len z
  have hr := run_runes_of_string (P := Tryd.prog) W 9 69 21 (strOfNums z) Tryd.underlying9 Tryd.underlying69 Tryd.underlying21 (by rw [hn]; omega)
  rw [hn] at hr
  exact ⟨_, _, hr, ((Below.refl _ W).drew).alloc (Nat.le_refl _) _⟩

set_option maxHeartbeats 1000000 in
theorem stop_any (w : World) (v : Value) (C : Cn) (h : CnfV w v C) (hok : CnOk C) (z : List Int) (hz : ByteOk z) (hL : Let w) :
    Calls Tryd.prog 22 #[v, .string (strOfNums z)] w fun e w' => e = .returned (.bool (mayC C && decide (z ∈ C.ss))) ∧ Below w.heap.size w w' := by
  obtain ⟨fo, fc, so, sc, w1, rfl, hw1, hb1, hB, hT, hS⟩ := box_cnf w v C h
  have HCK := hide (checkC_any w1 _ C (h.below hb1) hok (hL.below hb1))
  have HIS : Hid (∀ W, Below w1.heap.size w1 W → Calls Tryd.prog 51 #[.agg #[.slice fo C.fs.length fc, .slice so C.ss.length sc, .int .i64 C.cap], .string (strOfNums z)] W fun e w' => e = .returned (.bool (decide (z ∈ C.ss))) ∧ Below W.heap.size W w') := fun W hb => isStop_any W _ C (h.below (hb1.trans (hb.mono hb1.size))) z hz
  have HB1 := hide hb1
  have HBX := hide hB
  have c0 : w1.cell? ⟨w.heap.size, 0, none⟩ = some (.slice fo C.fs.length fc) := hB.cell 0
  have c1 : w1.cell? ⟨w.heap.size, 1, none⟩ = some (.slice so C.ss.length sc) := hB.cell 1
  have c2 : w1.cell? ⟨w.heap.size, 2, none⟩ = some (.int .i64 C.cap) := hB.cell 2
  have HE : Hid (mayE C = if mayC C = true then 0 else 140) := rfl
  generalize strOfNums z = s at *
  generalize decide (z ∈ C.ss) = A at *
  generalize mayE C = E at *
  generalize mayC C = M at *
  generalize C.fs.length = fn at *
  generalize C.ss.length = sn at *
  generalize C.cap = K at *
  clear h hT hS hB hb1 hok hL hz
  cases M with
  | false =>
    have he := HE.out
    rw [if_neg (by simp)] at he
    subst he
    clear HE HIS
    go_enter Tryd.func22, Tryd.ntmps22
    go_wp2_with (go_at_call 12; refine HCK.out.mono ?_; rintro e w2 ⟨rfl, hb⟩; have HB2 := hide (HB1.out.trans (hb.mono HB1.out.size)); clear HCK hb)
    go_ret
    exact ⟨rfl, HB2.out⟩
  | true =>
    have he := HE.out
    rw [if_pos rfl] at he
    subst he
    clear HE
    go_enter Tryd.func22, Tryd.ntmps22
    go_wp2_with (first
      | (go_at_call 12; refine HCK.out.mono ?_; rintro e w2 ⟨rfl, hb⟩; have hx := HBX.out.below hb HBX.out.lt; have c0 := hx.cell 0; have c1 := hx.cell 1; have c2 := hx.cell 2; have HM := hide hb; have HB2 := hide (HB1.out.trans (hb.mono HB1.out.size)); clear HCK hb hx)
      | (go_at_call 51; refine (HIS.out w2 HM.out).mono ?_; rintro e w3 ⟨rfl, hb⟩; have HB3 := hide (HB2.out.trans (hb.mono HB2.out.size)); clear HIS hb))
    go_ret
    exact ⟨ret_bool (Bool.true_and A).symm, HB3.out⟩

/-- what holds of each token that is told -/
structure TkF (C : Cn) (m N : Nat) (x : Tk) : Prop where
  ok : ByteOk x.1
  one : oneC C (rs x.1) = (x.1, 0)
  no : ¬ x.1 ∈ C.ss
  bytes : x.1.length ≤ 2 * m
  runes : (rs x.1).length ≤ m
  lt : x.2 < N
theorem tok_facts (C : Cn) (m : Nat) (hmay : mayC C = true) (hm : C.cap.toNat = m) (hm1 : 1 ≤ m) (l : List Nat) : ∀ x ∈ tokC C l, TkF C m (wds l).length x := by
  intro x hx
  rw [show tokC C l = tokL (useL C.fs) C.cap.toNat C.ss l from if_pos hmay, hm] at hx
  obtain ⟨p, hp, rfl⟩ := List.mem_map.1 hx
  obtain ⟨hp1, hp2⟩ := List.mem_filter.1 hp
  obtain ⟨i, hi, e⟩ := List.mem_iff_getElem.1 hp1
  rw [wdsN_at l i hi] at e
  have hi2 : i < (wds l).length := by rw [wdsN_len] at hi; exact hi
  have e1 : p.1 = (wds l)[i] := by rw [← e]
  have e2 : p.2 = i := by rw [← e]
  obtain ⟨hne, hlt⟩ := wds_in l p.1 (by rw [e1]; exact List.getElem_mem _)
  have hlet := termR_let C.fs m hlt
  have hrs : rs (termZ (useL C.fs) m p.1) = termR (useL C.fs) m p.1 := rs_fmLet _ hlet
  have hlen : (termR (useL C.fs) m p.1).length ≤ m := by unfold termR; simp; omega
  have hne2 : termR (useL C.fs) m p.1 ≠ [] := by
    intro e
    have := congrArg List.length e
    unfold termR at this
    simp at this
    rcases this with h | h
    · omega
    · exact hne h
  refine ⟨fmL_ok _, ?_, ?_, ?_, ?_, by simp only [tkOf]; omega⟩
  · show oneC C (rs (termZ (useL C.fs) m p.1)) = (termZ (useL C.fs) m p.1, 0)
    rw [hrs, show oneC C (termR (useL C.fs) m p.1) = oneL (useL C.fs) C.cap.toNat (wds (termR (useL C.fs) m p.1)) from if_pos hmay, hm, wds_one hne2 hlet]
    show (termZ (useL C.fs) m (termR (useL C.fs) m p.1), (0 : Int)) = _
    unfold termZ
    rw [termR_twice C.fs m hlt]
  · unfold toldB at hp2
    simpa [tkOf] using hp2
  · have := (fmL_len2 _ hlet).2
    show (termZ (useL C.fs) m p.1).length ≤ _
    unfold termZ
    omega
  · show (rs (termZ (useL C.fs) m p.1)).length ≤ m
    rw [hrs]
    exact hlen
theorem zip_pair {α : Type} : ∀ (l : List α) (n : Nat), (l.zipIdx n).Pairwise fun x y => x.2 < y.2
  | [], _ => List.Pairwise.nil
  | a :: l, n => by
    rw [List.zipIdx_cons]
    refine List.Pairwise.cons (fun y hy => ?_) (zip_pair l (n + 1))
    have := List.le_snd_of_mem_zipIdx hy
    simp only
    omega
theorem tok_rise (C : Cn) (l : List Nat) : (tokC C l).Pairwise fun x y => x.2 < y.2 := by
  unfold tokC
  split
  · unfold tokL
    rw [List.pairwise_map]
    exact (zip_pair (wds l) 0).filter _
  · exact List.Pairwise.nil

end Go.Proofs.YtimmfnjkknbofaaDoor
