/- What stands at a place of bytes, as a list. No program. -/
import Derived.Test.YtmjkpgmmfooajaaPoAll
import Derived.Test.YtmjkpgmmfooajaaPoNx2
import Derived.Test.YtmjkpgmmfooajaaPoForm
namespace Go.Proofs.Ytmjkpgmmfooajaa
set_option maxRecDepth 20000
open Go.RowKit
set_option linter.unusedVariables false

/-- the posting at a place, where its bytes end, the error -/
def takeV (zs : List Int) (at' : Int) (prev : Nat) : Po × Nat × Int :=
  if at' < 0 ∨ (zs.length : Int) < at' then (noPo, 0, 1) else if nextOk prev (zs.drop at'.toNat) = true then (nextPo prev (zs.drop at'.toNat), zs.length - (nP (zs.drop at'.toNat)).2.1.length, 0) else (noPo, 0, 150)

theorem deltas_le : ∀ (xs : List Int) (l : Int), xs.length ≤ (deltas l xs).length
  | [], _ => Nat.zero_le _
  | x :: xs, l => by
    have h1 := varLen_pos (x - l).toNat
    have h2 := deltas_le xs x
    rw [deltas, List.length_append, List.length_cons]
    omega
/-- so many positions need so many bytes -/
theorem posR_room {k a : Nat} {zs : List Int} (hb : ByteOk zs) (h : (posR k a zs 0).2.2 = 0) : k ≤ zs.length := by
  have h1 := congrArg List.length (posR_back k a zs hb h)
  have h2 := deltas_le (posR k a zs 0).1 (a : Int)
  rw [posR_len] at h2
  rw [List.length_append] at h1
  omega
theorem rises_big : ∀ (xs : List Int) (L : Int) (x : Int), x ∈ xs → 1048576 < x → risesB L xs = false := by
  intro xs L x hx hb
  cases h : risesB L xs with
  | false => rfl
  | true => have := (rises_bound xs L h x hx).2; omega

/-- what is read does not hang on bytes far behind -/
theorem next_cut {prev : Nat} {zr : List Int} (hp : prev < 4294967296) (hb : ByteOk zr) (m : Nat) (hm : m ≤ zr.length) (hm2 : m = zr.length ∨ 10010 ≤ m) :
    nextOk prev (zr.take m) = nextOk prev zr ∧ (nextOk prev zr = true → nextPo prev (zr.take m) = nextPo prev zr ∧ (nP (zr.take m)).2.1.length + zr.length = (nP zr).2.1.length + m ∧ (nP (zr.take m)).2.1.length ≤ m) := by
  have hbt : ByteOk (zr.take m) := fun z hz => hb z (List.mem_of_mem_take hz)
  cases hok : nextOk prev zr with
  | true =>
    obtain ⟨h1, h2⟩ := next_yes hp hb hok
    have hl := form_len h2
    have hlen := congrArg List.length h1
    rw [List.length_append] at hlen
    have ht : zr.take m = formP prev (nextPo prev zr) ++ ((nP zr).2.1.take (m - (formP prev (nextPo prev zr)).length)) := by
      conv => lhs; rw [h1]
      rw [List.take_append, List.take_of_length_le (by omega)]
    obtain ⟨q1, q2, q3⟩ := next_has h2 ((nP zr).2.1.take (m - (formP prev (nextPo prev zr)).length))
    rw [← ht] at q1 q2 q3
    refine ⟨q1, fun _ => ⟨q2, ?_, ?_⟩⟩
    · rw [q3, List.length_take]; omega
    · rw [q3, List.length_take]; omega
  | false =>
    refine ⟨?_, fun h => by cases h⟩
    cases hok2 : nextOk prev (zr.take m) with
    | false => rfl
    | true =>
      exfalso
      obtain ⟨h1, h2⟩ := next_yes hp hbt hok2
      have ht : zr = formP prev (nextPo prev (zr.take m)) ++ ((nP (zr.take m)).2.1 ++ zr.drop m) := by
        rw [← List.append_assoc, ← h1, List.take_append_drop]
      have := (next_has h2 ((nP (zr.take m)).2.1 ++ zr.drop m)).1
      rw [← ht, hok] at this
      cases this

/-! ### where nothing that may be stands -/
theorem tk_doc {prev : Nat} {zr : List Int} (hp : prev < 4294967296) (hb : ByteOk zr) (h : 2147483647 < prev + (nD zr).1) : nextOk prev zr = false := by
  cases hok : nextOk prev zr with
  | false => rfl
  | true =>
    have hm := may_parts (next_yes hp hb hok).2
    have hd : (nD zr).1 < 4294967296 := varS_lt hb 0
    have h1 := hm.1
    have h2 := hm.2.1
    simp only [nextPo] at h1 h2
    omega
theorem tk_err1 {prev : Nat} {zr : List Int} (h : (nN zr).2.2 ≠ 0) : nextOk prev zr = false := nextOk_err (fun e => h (posR_ok _ _ _ _ e))
theorem tk_many {prev : Nat} {zr : List Int} (h : 2000 < (nN zr).1) : nextOk prev zr = false := nextOk_noRoom (nextRoom_no (.inl h))
theorem tk_err2 {prev k a m : Nat} {zr xs z : List Int} (h : nP zr = (xs ++ (posR (m + 1) a z 0).1, (posR (m + 1) a z 0).2)) (he : (varS z 0).2.2 ≠ 0) : nextOk prev zr = false := by
  refine nextOk_err (fun e => he ?_)
  rw [h, posR] at e
  exact posR_ok _ _ _ _ e
theorem tk_big {prev a m : Nat} {zr xs z : List Int} (h : nP zr = (xs ++ (posR (m + 1) a z 0).1, (posR (m + 1) a z 0).2)) (he : 1048576 < (varS z 0).1) : nextOk prev zr = false := by
  refine nextOk_bad ?_
  have hpos : (nextPo prev zr).pos = xs ++ (posR (m + 1) a z 0).1 := by unfold nextPo; rw [h]
  unfold mayB posB
  rw [hpos, rises_big _ (-1) ((a + (varS z 0).1 : Nat) : Int) (by rw [posR]; simp) (by omega)]
  simp
theorem tk_done {prev : Nat} {zr xs z : List Int} (hb : ByteOk (nN zr).2.1) (hn : (nN zr).2.2 = 0) (h2 : (nN zr).1 ≤ 2000) (h : nP zr = (xs, z, 0)) : nextOk prev zr = mayB prev (nextPo prev zr) ∧ (nextPo prev zr).pos = xs := by
  have hr : (nN zr).1 ≤ (nN zr).2.1.length := by
    have : nP zr = posR (nN zr).1 0 (nN zr).2.1 0 := by unfold nP; rw [hn]
    exact posR_room hb (by rw [← this, h])
  refine ⟨?_, by unfold nextPo; rw [h]⟩
  unfold nextOk nextRoom
  rw [decide_eq_true h2, decide_eq_true hr, h, decide_eq_true rfl]
  simp

end Go.Proofs.Ytmjkpgmmfooajaa
