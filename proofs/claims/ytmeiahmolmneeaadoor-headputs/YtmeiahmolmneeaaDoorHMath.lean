/- A head as numbers and bytes: which may be, what its page bears, what is read of bytes, which one is chosen. No program. -/
import Derived.Test.YtmeiahmolmneeaaDoorFGet2
namespace Go.Proofs.YtmeiahmolmneeaaDoor
set_option maxRecDepth 20000
open Go.RowKit

/-- a head -/
structure Hd where
  e : Nat
  p : Int
  ms : List Int
  us : List Int
def noHd : Hd := ⟨0, 0, [], []⟩

def needS (p : Int) : Nat := if 1024 < p then 2 else 1
def mapsB (p : Int) (ms : List Int) : Bool := decide (ms.length = needS p ∧ ∀ i, i < ms.length → 2 ≤ ms.getD i 0 ∧ ms.getD i 0 < p ∧ ∀ j, j < i → ms.getD j 0 ≠ ms.getD i 0)
def mayB (p : Int) (ms : List Int) (n : Nat) : Bool := decide (8 ≤ p ∧ p ≤ 2048) && mapsB p ms && decide (n ≤ 32)
def hcheckS (p : Int) (ms : List Int) (n : Nat) : Int := if mayB p ms n = true then 0 else 60

theorem mapsB_iff {p : Int} {ms : List Int} : mapsB p ms = true ↔ (ms.length = needS p ∧ ∀ i, i < ms.length → 2 ≤ ms.getD i 0 ∧ ms.getD i 0 < p ∧ ∀ j, j < i → ms.getD j 0 ≠ ms.getD i 0) := by
  unfold mapsB; exact decide_eq_true_iff
theorem mayB_iff {p : Int} {ms : List Int} {n : Nat} : mayB p ms n = true ↔ ((8 ≤ p ∧ p ≤ 2048) ∧ mapsB p ms = true ∧ n ≤ 32) := by
  unfold mayB
  rw [Bool.and_eq_true, Bool.and_eq_true, decide_eq_true_iff, decide_eq_true_iff, and_assoc]
theorem hcheckS_zero {p : Int} {ms : List Int} {n : Nat} : hcheckS p ms n = 0 ↔ mayB p ms n = true := by
  unfold hcheckS
  by_cases h : mayB p ms n = true <;> simp [h]

theorem may_len {p : Int} {ms : List Int} {n : Nat} (h : mayB p ms n = true) : ms.length ≤ 2 ∧ 1 ≤ ms.length := by
  have := (mapsB_iff.1 (mayB_iff.1 h).2.1).1
  rw [this]; unfold needS; split <;> omega
theorem may_each {p : Int} {ms : List Int} {n : Nat} (h : mayB p ms n = true) : ∀ m ∈ ms, 2 ≤ m ∧ m < 2048 := by
  intro m hm
  obtain ⟨i, hi⟩ := List.getElem?_of_mem hm
  obtain ⟨hl, he⟩ := List.getElem?_eq_some_iff.1 hi
  have := (mapsB_iff.1 (mayB_iff.1 h).2.1).2 i hl
  rw [getD_lt ms hl, he] at this
  have := (mayB_iff.1 h).1
  omega

/-! ### what a page bears -/
def txt (ts : List Int) : List Int := (ts.length : Int) :: ts
def numsS : List Int → List Int
  | [] => []
  | m :: ms => numBytes m.toNat 2 ++ numsS ms
def rawS (p : Int) (ms us : List Int) : List Int := numBytes p.toNat 2 ++ [(ms.length : Int)] ++ numsS ms ++ txt us
def bearS (p : Int) (ms us : List Int) : List Int := padTo 240 (rawS p ms us)

theorem numsS_len : ∀ ms : List Int, (numsS ms).length = 2 * ms.length
  | [] => rfl
  | m :: ms => by rw [numsS, List.length_append, numBytes_len, numsS_len ms, List.length_cons]; omega
theorem numsS_ok : ∀ ms : List Int, ByteOk (numsS ms)
  | [] => by intro z hz; cases hz
  | m :: ms => (numBytes_ok 2 _).append' (numsS_ok ms)
theorem numsS_snoc : ∀ (ms : List Int) (m : Int), numsS (ms ++ [m]) = numsS ms ++ numBytes m.toNat 2
  | [], m => by simp [numsS]
  | x :: ms, m => by rw [List.cons_append, numsS, numsS_snoc ms m, numsS, List.append_assoc]
theorem txt_ok {ts : List Int} (h : ByteOk ts) (hl : ts.length ≤ 255) : ByteOk (txt ts) := by
  intro z hz
  rcases List.mem_cons.1 hz with rfl | hz
  · omega
  · exact h z hz
theorem rawS_len (p : Int) (ms us : List Int) : (rawS p ms us).length = 4 + 2 * ms.length + us.length := by
  simp [rawS, numBytes_len, numsS_len, txt]; omega
theorem rawS_ok {p : Int} {ms us : List Int} (hm : ms.length ≤ 255) (hu : ByteOk us) (hl : us.length ≤ 255) : ByteOk (rawS p ms us) := by
  refine ((((numBytes_ok 2 _).append' ?_).append' (numsS_ok ms)).append' (txt_ok hu hl))
  intro z hz
  simp at hz
  omega
theorem may_raw {p : Int} {ms us : List Int} (h : mayB p ms us.length = true) : (rawS p ms us).length ≤ 40 := by
  have h1 := may_len h
  have h2 := (mayB_iff.1 h).2.2
  rw [rawS_len]; omega
theorem bearS_len {p : Int} {ms us : List Int} (h : mayB p ms us.length = true) : (bearS p ms us).length = 240 := padTo_len (by have := may_raw h; omega)
theorem bearS_ok {p : Int} {ms us : List Int} (h : mayB p ms us.length = true) (hu : ByteOk us) : ByteOk (bearS p ms us) :=
  padTo_ok (rawS_ok (by have := may_len h; omega) hu (by have := (mayB_iff.1 h).2.2; omega))

/-! ### what is read -/
def tlen (zs : List Int) (most : Int) : Int × Int :=
  if most < 0 then (0, 1) else if zs.length = 0 then (0, 10) else if most < zs.getD 0 0 then (0, 3) else if (zs.length : Int) - 1 < zs.getD 0 0 then (0, 10) else (zs.getD 0 0, 0)
/-- what a take of a text gives, leaves, and the first error behind it -/
def textS (zs : List Int) (er most : Int) : List Int × List Int × Int :=
  if er ≠ 0 then ([], zs, er) else if (tlen zs most).2 ≠ 0 then ([], zs, (tlen zs most).2) else ((zs.take (1 + (tlen zs most).1.toNat)).drop 1, zs.drop (1 + (tlen zs most).1.toNat), 0)

theorem tlen_ok (zs : List Int) (most : Int) (hb : ByteOk zs) (h : (tlen zs most).2 = 0) : 0 ≤ (tlen zs most).1 ∧ (tlen zs most).1 ≤ 255 ∧ (tlen zs most).1 ≤ most ∧ 1 + (tlen zs most).1 ≤ zs.length := by
  have := hb.get 0
  unfold tlen at h ⊢
  split at h
  · simp at h
  · split at h
    · simp at h
    · split at h
      · simp at h
      · split at h
        · simp at h
        · rename_i h1 h2 h3 h4
          rw [if_neg h1, if_neg h2, if_neg h3, if_neg h4]
          simp only
          omega

/-- so many numbers of two bytes: they, what is left, the first error -/
def takesS : Nat → List Int → Int → List Int × List Int × Int
  | 0, zs, er => ([], zs, er)
  | n + 1, zs, er => (((numOf (takeS zs er 2).1 : Nat) : Int) :: (takesS n (takeS zs er 2).2.1 (takeS zs er 2).2.2).1, (takesS n (takeS zs er 2).2.1 (takeS zs er 2).2.2).2)

def cntS (zs : List Int) : Nat := numOf (takeS (takeS zs 0 2).2.1 (takeS zs 0 2).2.2 1).1
def lftS (zs : List Int) : List Int × Int := (takeS (takeS zs 0 2).2.1 (takeS zs 0 2).2.2 1).2
def mapsS (zs : List Int) : List Int × List Int × Int := takesS (cntS zs) (lftS zs).1 (lftS zs).2
def readS (e : Nat) (zs : List Int) : Hd := ⟨e, (numOf (takeS zs 0 2).1 : Nat), (mapsS zs).1, (textS (mapsS zs).2.1 (mapsS zs).2.2 32).1⟩

theorem takeS_app (xs ys : List Int) (n : Nat) (h : xs.length = n) : takeS (xs ++ ys) 0 n = (xs, ys, 0) := by
  rw [takeS_yes _ _ (by rw [List.length_append]; omega), List.take_left' h, List.drop_left' h]
theorem takesS_nums : ∀ (ms rest : List Int), (∀ m ∈ ms, 0 ≤ m ∧ m < 65536) → takesS ms.length (numsS ms ++ rest) 0 = (ms, rest, 0)
  | [], rest, _ => rfl
  | m :: ms, rest, h => by
    have hm := h m (List.mem_cons_self ..)
    have e : takeS (numsS (m :: ms) ++ rest) 0 2 = (numBytes m.toNat 2, numsS ms ++ rest, 0) := by
      rw [numsS, List.append_assoc]
      exact takeS_app _ _ 2 (numBytes_len 2 _)
    rw [List.length_cons, takesS, e]
    simp only
    rw [takesS_nums ms rest (fun x hx => h x (List.mem_cons_of_mem _ hx)), numOf_numBytes 2 _ (by omega)]
    simp only [Prod.mk.injEq, List.cons.injEq, and_true]
    omega
theorem textS_txt (ts rest : List Int) (hl : ts.length ≤ 32) : textS (txt ts ++ rest) 0 32 = (ts, rest, 0) := by
  have ht : tlen (txt ts ++ rest) 32 = ((ts.length : Int), 0) := by
    rw [tlen, if_neg (by omega), if_neg (by simp [txt])]
    have e : (txt ts ++ rest).getD 0 0 = (ts.length : Int) := rfl
    have el : (txt ts ++ rest).length = ts.length + 1 + rest.length := by simp [txt]; omega
    rw [e, el, if_neg (by omega), if_neg (by omega)]
  rw [textS, if_neg (by simp), ht]
  simp only [ne_eq, not_true, if_false]
  have e1 : 1 + ((ts.length : Int)).toNat = (txt ts).length := by simp [txt]; omega
  rw [e1, List.take_left' rfl, List.drop_left' rfl]
  rfl

/-- what was put is read -/
theorem readS_bear (e : Nat) (p : Int) (ms us : List Int) (h : mayB p ms us.length = true) : readS e (bearS p ms us) = ⟨e, p, ms, us⟩ := by
  have hp := (mayB_iff.1 h).1
  have hl := may_len h
  have hu := (mayB_iff.1 h).2.2
  have hm := may_each h
  obtain ⟨R, hR⟩ : ∃ R, R = List.replicate (240 - (rawS p ms us).length) (0 : Int) := ⟨_, rfl⟩
  have e0 : bearS p ms us = numBytes p.toNat 2 ++ ([(ms.length : Int)] ++ (numsS ms ++ (txt us ++ R))) := by
    unfold bearS padTo
    rw [← hR, rawS]
    simp only [List.append_assoc]
  have t1 : takeS (bearS p ms us) 0 2 = (numBytes p.toNat 2, [(ms.length : Int)] ++ (numsS ms ++ (txt us ++ R)), 0) := by
    rw [e0]; exact takeS_app _ _ 2 (numBytes_len 2 _)
  have t2 : takeS ([(ms.length : Int)] ++ (numsS ms ++ (txt us ++ R))) 0 1 = ([(ms.length : Int)], numsS ms ++ (txt us ++ R), 0) := takeS_app _ _ 1 rfl
  have n1 : numOf (numBytes p.toNat 2) = p.toNat := numOf_numBytes 2 _ (by omega)
  have n2 : numOf [(ms.length : Int)] = ms.length := by simp [numOf, numAcc]
  have c1 : cntS (bearS p ms us) = ms.length := by unfold cntS; rw [t1]; simp only; rw [t2]; exact n2
  have l1 : lftS (bearS p ms us) = (numsS ms ++ (txt us ++ R), 0) := by unfold lftS; rw [t1]; simp only; rw [t2]
  have m1 : mapsS (bearS p ms us) = (ms, txt us ++ R, 0) := by
    unfold mapsS
    rw [c1, l1]
    exact takesS_nums ms _ (fun m hmm => by have := hm m hmm; omega)
  unfold readS
  rw [m1, t1]
  simp only
  rw [textS_txt us R hu, n1]
  simp only [Hd.mk.injEq, and_true, true_and]
  omega

/-- the head of that epoch that bears these bytes -/
def getB (e : Nat) (zs : List Int) : Bool := mayB (readS e zs).p (readS e zs).ms (readS e zs).us.length && decide (bearS (readS e zs).p (readS e zs).ms (readS e zs).us = zs)
def getH (e : Nat) (zs : List Int) : Hd := if getB e zs = true then readS e zs else noHd
def getE (e : Nat) (zs : List Int) : Int := if getB e zs = true then 0 else 60

theorem getB_bear (e : Nat) (p : Int) (ms us : List Int) (h : mayB p ms us.length = true) : getB e (bearS p ms us) = true := by
  unfold getB
  rw [readS_bear e p ms us h]
  simp [h]
theorem getH_bear (e : Nat) (p : Int) (ms us : List Int) (h : mayB p ms us.length = true) : getH e (bearS p ms us) = ⟨e, p, ms, us⟩ ∧ getE e (bearS p ms us) = 0 := by
  unfold getH getE
  rw [if_pos (getB_bear e p ms us h), if_pos (getB_bear e p ms us h), readS_bear e p ms us h]
  exact ⟨rfl, rfl⟩
theorem getB_iff (e : Nat) (zs : List Int) : getB e zs = true ↔ ∃ p ms us, mayB p ms us.length = true ∧ bearS p ms us = zs := by
  constructor
  · intro h
    unfold getB at h
    rw [Bool.and_eq_true, decide_eq_true_iff] at h
    exact ⟨_, _, _, h.1, h.2⟩
  · rintro ⟨p, ms, us, h, rfl⟩
    exact getB_bear e p ms us h
theorem getH_yes {e : Nat} {zs : List Int} (h : getB e zs = true) : mayB (getH e zs).p (getH e zs).ms (getH e zs).us.length = true ∧ bearS (getH e zs).p (getH e zs).ms (getH e zs).us = zs ∧ (getH e zs).e = e := by
  have h' := h
  unfold getB at h'
  rw [Bool.and_eq_true, decide_eq_true_iff] at h'
  unfold getH
  rw [if_pos h]
  exact ⟨h'.1, h'.2, rfl⟩

/-! ### which one counts -/
def atB (i : Nat) (zs : List Int) (pages : Int) : Bool :=
  decide ((wantS zs i [1]).err = 0) && getB (wantS zs i [1]).epoch (wantS zs i [1]).data && decide ((wantS zs i [1]).epoch % 2 = i) && decide ((getH (wantS zs i [1]).epoch (wantS zs i [1]).data).p = pages)
def atH (i : Nat) (zs : List Int) (pages : Int) : Hd := if atB i zs pages = true then getH (wantS zs i [1]).epoch (wantS zs i [1]).data else noHd
structure Ch where
  h : Hd
  at' : Int
  er : Int
def stepC (c : Ch) (i : Nat) (b : Bool) (h : Hd) : Ch := if b = true ∧ (c.er ≠ 0 ∨ c.h.e < h.e) then ⟨h, i, 0⟩ else c
def chooseN (pages : Int) (cs : List (List Int)) : Nat → Ch
  | 0 => ⟨noHd, 0, 60⟩
  | n + 1 => stepC (chooseN pages cs n) n (atB n (cs.getD n []) pages) (atH n (cs.getD n []) pages)
def chooseS (pages : Int) (cs : List (List Int)) : Ch := chooseN pages cs (min cs.length 2)

end Go.Proofs.YtmeiahmolmneeaaDoor
