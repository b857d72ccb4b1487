/- A page's bytes, and what is got of bytes; frames that are the same. No program. -/
import Derived.Test.YtmeiahmolmneeaaDoorFRd
import Derived.Test.YtmeiahmolmneeaaDoorCrcRef
namespace Go.Proofs.YtmeiahmolmneeaaDoor
set_option maxRecDepth 20000
open Go.RowKit

theorem numAcc_snoc : ∀ (l : List Int) (acc : Nat) (c : Int), numAcc acc (l ++ [c]) = numAcc acc l * 256 + c.toNat
  | [], _, _ => rfl
  | _ :: l, _, c => by simp only [List.cons_append, numAcc]; exact numAcc_snoc l _ c

theorem numOf_numBytes : ∀ (n x : Nat), x < 256 ^ n → numOf (numBytes x n) = x
  | 0, x, h => by
    have : x = 0 := by simpa using h
    subst this; rfl
  | n + 1, x, h => by
    rw [Nat.pow_succ] at h
    rw [numBytes, numOf, numAcc_snoc]
    have := numOf_numBytes n (x / 256) (by omega)
    unfold numOf at this
    rw [this]
    omega

theorem numBytes_go : ∀ (n : Nat) (l : List Int), l.length = n → ByteOk l → numBytes (numOf l) n = l
  | 0, l, hl, _ => by
    obtain rfl := List.eq_nil_of_length_eq_zero hl
    rfl
  | n + 1, l, hl, hb => by
    obtain ⟨xs, c, rfl⟩ : ∃ xs c, l = xs ++ [c] := ⟨l.dropLast, l.getLast (by intro h; simp [h] at hl), (List.dropLast_concat_getLast (by intro h; simp [h] at hl)).symm⟩
    have hc := hb c (by simp)
    have hx : ByteOk xs := fun z hz => hb z (by simp [hz])
    have ih := numBytes_go n xs (by simpa using hl) hx
    have e : numOf (xs ++ [c]) = numOf xs * 256 + c.toNat := numAcc_snoc xs 0 c
    rw [numBytes, e, show (numOf xs * 256 + c.toNat) / 256 = numOf xs by omega, ih, show ((numOf xs * 256 + c.toNat) % 256 : Nat) = c.toNat by omega]
    congr 2
    omega

/-- bytes, and noughts behind them up to n -/
def padTo (n : Nat) (zs : List Int) : List Int := zs ++ List.replicate (n - zs.length) 0
theorem padTo_len {n : Nat} {zs : List Int} (h : zs.length ≤ n) : (padTo n zs).length = n := by simp [padTo]; omega
theorem padTo_ok {n : Nat} {zs : List Int} (h : ByteOk zs) : ByteOk (padTo n zs) := h.append' (fun z hz => by have := List.eq_of_mem_replicate hz; omega)
theorem padTo_full {zs : List Int} {n : Nat} (h : n ≤ zs.length) : padTo n zs = zs := by simp [padTo, Nat.sub_eq_zero_of_le h]
theorem padTo_getD (n : Nat) (zs : List Int) (i : Nat) : (padTo n zs).getD i 0 = zs.getD i 0 := by
  by_cases h : i < zs.length
  · simp only [padTo, List.getD, List.getElem?_append_left h]
  · rw [getD_ge zs (by omega)]
    by_cases h2 : i < n
    · simp [padTo, List.getD, List.getElem?_append_right (show zs.length ≤ i by omega), List.getElem?_replicate]
      split <;> simp
    · rw [getD_ge]
      simp [padTo]; omega

/-- what a page bears of data from a place on -/
def loadS (zs : List Int) (o : Nat) : List Int := padTo 240 ((zs.drop o).take 240)
theorem loadS_len (zs : List Int) (o : Nat) : (loadS zs o).length = 240 := padTo_len (by simp; omega)
theorem loadS_ok {zs : List Int} (h : ByteOk zs) (o : Nat) : ByteOk (loadS zs o) := padTo_ok ((h.drop o).take 240)
theorem loadS_zero {zs : List Int} (h : zs.length ≤ 240) : loadS zs 0 = padTo 240 zs := by
  unfold loadS
  rw [List.drop_zero, List.take_of_length_le h]
theorem loadS_getD (zs : List Int) (o i : Nat) (hi : i < 240) : (loadS zs o).getD i 0 = zs.getD (o + i) 0 := by
  unfold loadS
  rw [padTo_getD, getD_take _ _ _ hi, getD_drop]

def headS (k p e : Nat) : List Int := [(k : Int), 0] ++ numBytes p 2 ++ numBytes e 8
def bodyS (k p e : Nat) (d : List Int) : List Int := headS k p e ++ loadS d 0
def pageS (k p e : Nat) (d : List Int) : List Int := sealS (bodyS k p e d)
theorem headS_len (k p e : Nat) : (headS k p e).length = 12 := by simp [headS, numBytes_len]
theorem bodyS_len (k p e : Nat) (d : List Int) : (bodyS k p e d).length = 252 := by rw [bodyS, List.length_append, headS_len, loadS_len]
theorem pageS_len (k p e : Nat) (d : List Int) : (pageS k p e d).length = 256 := by rw [pageS, sealS_len, bodyS_len]
theorem headS_ok {k p e : Nat} (hk : k < 256) : ByteOk (headS k p e) := by
  refine ((ByteOk.append' ?_ (numBytes_ok 2 p)).append' (numBytes_ok 8 e))
  intro z hz
  simp at hz
  omega
theorem bodyS_ok {k p e : Nat} {d : List Int} (hk : k < 256) (hd : ByteOk d) : ByteOk (bodyS k p e d) := (headS_ok hk).append' (loadS_ok hd 0)
theorem pageS_ok {k p e : Nat} {d : List Int} (hk : k < 256) (hd : ByteOk d) : ByteOk (pageS k p e d) := sealS_ok (bodyS_ok hk hd)

/-- why a frame may not be -/
def checkS (k p : Int) (n : Nat) : Int := if k < 1 ∨ 4 < k then 42 else if p < 0 ∨ 2047 < p then 41 else if 240 < n then 3 else 0
theorem checkS_ok {k p : Int} {n : Nat} : checkS k p n = 0 ↔ (1 ≤ k ∧ k ≤ 4) ∧ (0 ≤ p ∧ p ≤ 2047) ∧ n ≤ 240 := by
  unfold checkS
  by_cases h1 : k < 1 ∨ 4 < k
  · simp [h1]; omega
  · by_cases h2 : p < 0 ∨ 2047 < p
    · simp [h1, h2]; omega
    · by_cases h3 : 240 < n
      · simp [h1, h2, h3]
      · simp [h1, h2, h3]; omega

/-- a frame, or none -/
structure Fr where
  err : Int
  kind : Int
  page : Int
  epoch : Nat
  data : List Int
def noFr (e : Int) : Fr := ⟨e, 0, 0, 0, []⟩

/-- what stands in the bytes behind the sum -/
def kindOf (x : List Int) : Int := x.getD 0 0
def pageOf (x : List Int) : Int := x.getD 2 0 * 256 + x.getD 3 0
def epochOf (x : List Int) : Nat := numOf ((x.drop 4).take 8)
def tellS (x : List Int) (q : Int) : Fr :=
  if (kindOf x < 1 ∨ 4 < kindOf x) ∨ x.getD 1 0 ≠ 0 then noFr 42 else if pageOf x ≠ q ∨ 2047 < pageOf x then noFr 41 else ⟨0, kindOf x, pageOf x, epochOf x, x.drop 12⟩
def getS (zs : List Int) (q : Int) : Fr := if zs.length ≠ 256 then noFr 1 else if sealB zs = false then noFr 40 else tellS (zs.drop 4) q
def wantS (zs : List Int) (q : Int) (ks : List Int) : Fr := if (getS zs q).err ≠ 0 then noFr (getS zs q).err else if (getS zs q).kind ∈ ks then getS zs q else noFr 42

theorem getS_page (k p e : Nat) (d : List Int) (q : Int) (hk : 1 ≤ k ∧ k ≤ 4) (hp : p ≤ 2047) (he : e < 18446744073709551616) :
    getS (pageS k p e d) q = if (p : Int) = q then ⟨0, k, p, e, loadS d 0⟩ else noFr 41 := by
  have hs : sealB (pageS k p e d) = true := sealB_yes (isSeal_seal _)
  have hd : (pageS k p e d).drop 4 = bodyS k p e d := by simp [pageS, sealS, be4]
  have h2 : numBytes p 2 = [((p / 256 % 256 : Nat) : Int), ((p % 256 : Nat) : Int)] := by simp [numBytes]
  unfold getS
  rw [if_neg (by rw [pageS_len]; simp), if_neg (by rw [hs]; simp), hd]
  have e0 : kindOf (bodyS k p e d) = k := by simp [kindOf, bodyS, headS]
  have e1 : (bodyS k p e d).getD 1 0 = 0 := by simp [bodyS, headS]
  have e2 : pageOf (bodyS k p e d) = p := by
    simp only [pageOf, bodyS, headS, h2, List.cons_append, List.nil_append, List.getD_cons_succ, List.getD_cons_zero]
    omega
  have e3 : epochOf (bodyS k p e d) = e := by
    unfold epochOf
    have : ((bodyS k p e d).drop 4).take 8 = numBytes e 8 := by
      simp only [bodyS, headS, h2, List.cons_append, List.nil_append, List.drop_succ_cons, List.drop_zero]
      rw [List.take_left' (numBytes_len 8 e)]
    rw [this]
    exact numOf_numBytes 8 e (by simpa using he)
  have e4 : (bodyS k p e d).drop 12 = loadS d 0 := by unfold bodyS; exact List.drop_left' (headS_len k p e)
  unfold tellS
  rw [e0, e1, e2, e3, e4, if_neg (by omega)]
  by_cases hq : (p : Int) = q
  · rw [if_pos hq, if_neg (by omega)]
  · rw [if_neg hq, if_pos (.inl hq)]

theorem four_two {x : List Int} (h : 12 ≤ x.length) : x = [x.getD 0 0, x.getD 1 0] ++ [x.getD 2 0, x.getD 3 0] ++ (x.drop 4).take 8 ++ x.drop 12 := by
  match x, h with
  | a :: b :: c :: d :: r, h => simp [show (12 : Nat) = 8 + 4 from rfl]

/-- what was got of bytes has just these bytes -/
theorem getS_back (zs : List Int) (q : Int) (hz : ByteOk zs) (h : (getS zs q).err = 0) :
    ∃ k p e : Nat, (1 ≤ k ∧ k ≤ 4) ∧ p ≤ 2047 ∧ e < 18446744073709551616 ∧ (p : Int) = q ∧ getS zs q = ⟨0, k, p, e, (zs.drop 4).drop 12⟩ ∧ ((zs.drop 4).drop 12).length = 240 ∧ pageS k p e ((zs.drop 4).drop 12) = zs := by
  unfold getS at h ⊢
  by_cases hl : zs.length ≠ 256
  · rw [if_pos hl] at h; simp [noFr] at h
  rw [if_neg hl] at h ⊢
  have hl' : zs.length = 256 := by omega
  by_cases hs : sealB zs = false
  · rw [if_pos hs] at h; simp [noFr] at h
  rw [if_neg hs] at h ⊢
  have hseal : isSeal zs := by
    unfold sealB at hs
    simp at hs
    exact hs
  have hx := hz.drop 4
  have hxl : (zs.drop 4).length = 252 := by simp; omega
  have hback := (isSeal_iff zs).2 hseal
  obtain ⟨x, hxx⟩ : ∃ x, x = zs.drop 4 := ⟨_, rfl⟩
  rw [← hxx] at h hx hxl hback ⊢
  unfold tellS at h ⊢
  by_cases h1 : (kindOf x < 1 ∨ 4 < kindOf x) ∨ x.getD 1 0 ≠ 0
  · rw [if_pos h1] at h; simp [noFr] at h
  rw [if_neg h1] at h ⊢
  by_cases h2 : pageOf x ≠ q ∨ 2047 < pageOf x
  · rw [if_pos h2] at h; simp [noFr] at h
  rw [if_neg h2]
  have b2 := hx.get 2
  have b3 := hx.get 3
  have hpn : 0 ≤ pageOf x := by unfold pageOf; omega
  have hlen : (x.drop 12).length = 240 := by simp; omega
  have h8 : ((x.drop 4).take 8).length = 8 := by simp; omega
  have hep : epochOf x < 18446744073709551616 := by
    have := numOf_lt ((x.drop 4).take 8) 8 ((hx.drop 4).take 8) (by omega)
    unfold epochOf
    simpa using this
  refine ⟨(kindOf x).toNat, (pageOf x).toNat, epochOf x, by omega, by omega, hep, by omega, ?_, hlen, ?_⟩
  · rw [show (((kindOf x).toNat : Nat) : Int) = kindOf x by omega, show (((pageOf x).toNat : Nat) : Int) = pageOf x by omega]
  · have e2 : numBytes (pageOf x).toNat 2 = [x.getD 2 0, x.getD 3 0] := by
      unfold pageOf
      simp only [numBytes, List.nil_append, List.cons_append, List.cons.injEq, and_true]
      omega
    have e8 : numBytes (epochOf x) 8 = (x.drop 4).take 8 := numBytes_go 8 _ h8 ((hx.drop 4).take 8)
    have hb : bodyS (kindOf x).toNat (pageOf x).toNat (epochOf x) (x.drop 12) = x := by
      conv => rhs; rw [four_two (x := x) (by omega)]
      unfold bodyS headS
      rw [loadS_zero (by omega), padTo_full (by omega), e2, e8, show (((kindOf x).toNat : Nat) : Int) = x.getD 0 0 by unfold kindOf at h1 ⊢; omega, show x.getD 1 0 = 0 by omega]
    unfold pageS
    rw [hb]
    exact hback

theorem getS_err (zs : List Int) (q : Int) (h : (getS zs q).err ≠ 0) : getS zs q = noFr (getS zs q).err := by
  have e : ∀ x : Int, noFr x = noFr (noFr x).err := fun _ => rfl
  unfold getS at h ⊢
  split
  · exact e _
  · rename_i h1
    rw [if_neg h1] at h
    split
    · exact e _
    · rename_i h2
      rw [if_neg h2] at h
      unfold tellS at h ⊢
      split
      · exact e _
      · rename_i h3
        rw [if_neg h3] at h
        split
        · exact e _
        · rename_i h4
          rw [if_neg h4] at h
          exact absurd rfl h

theorem getS_bad {zs : List Int} (q : Int) (hl : zs.length = 256) (h : ¬ isSeal zs) : getS zs q = noFr 40 := by
  unfold getS
  rw [if_neg (by omega), if_pos (sealB_no h)]

set_option maxRecDepth 100000 in
theorem noughts_bad : ¬ isSeal (List.replicate 256 0) := by
  intro h
  have := h.2
  revert this
  decide +kernel

/-! ### frames that are the same -/
/-- bytes that are the same but for noughts at the end -/
def sameD (xs ys : List Int) : Prop := ∀ i, xs.getD i 0 = ys.getD i 0
theorem sameD_load {d : List Int} (h : d.length ≤ 240) : sameD (loadS d 0) d := fun i => by rw [loadS_zero h, padTo_getD]
/-- bytes without the noughts at their end -/
def trimS (xs : List Int) : Nat → List Int
  | 0 => []
  | n + 1 => if xs.getD n 0 = 0 then trimS xs n else xs.take (n + 1)
theorem trimS_getD (xs : List Int) : ∀ n, (∀ i, n ≤ i → xs.getD i 0 = 0) → ∀ i, (trimS xs n).getD i 0 = xs.getD i 0
  | 0, h, i => by rw [h i (by omega)]; simp [trimS]
  | n + 1, h, i => by
    unfold trimS
    split
    · rename_i h0
      refine trimS_getD xs n (fun j hj => ?_) i
      rcases Nat.lt_or_ge n j with h1 | h1
      · exact h j (by omega)
      · rw [show j = n by omega]; exact h0
    · by_cases hi : i < n + 1
      · exact getD_take _ _ _ hi
      · rw [h i (by omega), getD_ge]
        simp; omega
theorem trimS_last (xs : List Int) : ∀ n, n ≤ xs.length → trimS xs n = [] ∨ (trimS xs n).getD ((trimS xs n).length - 1) 0 ≠ 0
  | 0, _ => .inl rfl
  | n + 1, h => by
    unfold trimS
    split
    · exact trimS_last xs n (by omega)
    · rename_i h0
      refine .inr ?_
      rw [List.length_take, Nat.min_eq_left h, Nat.add_sub_cancel, getD_take _ _ _ (by omega)]
      exact h0
theorem same_len (xs ys : List Int) (h : sameD xs ys) (hx : xs = [] ∨ xs.getD (xs.length - 1) 0 ≠ 0) (hy : ys = [] ∨ ys.getD (ys.length - 1) 0 ≠ 0) : xs = ys := by
  have hl : xs.length = ys.length := by
    rcases Nat.lt_trichotomy xs.length ys.length with h1 | h1 | h1
    · have hy' : ys.getD (ys.length - 1) 0 ≠ 0 := hy.resolve_left (by intro h; simp [h] at h1)
      rw [← h, getD_ge xs (by omega)] at hy'
      exact absurd rfl hy'
    · exact h1
    · have hx' : xs.getD (xs.length - 1) 0 ≠ 0 := hx.resolve_left (by intro h; simp [h] at h1)
      rw [h, getD_ge ys (by omega)] at hx'
      exact absurd rfl hx'
  apply List.ext_getElem hl
  intro i h1 h2
  have := h i
  rwa [getD_lt xs h1, getD_lt ys h2] at this
def trimD (xs : List Int) : List Int := trimS xs xs.length
theorem trimD_getD (xs : List Int) (i : Nat) : (trimD xs).getD i 0 = xs.getD i 0 := trimS_getD xs xs.length (fun _ hj => getD_ge xs hj) i
theorem trimD_same (xs ys : List Int) : trimD xs = trimD ys ↔ sameD xs ys := by
  constructor
  · intro h i
    rw [← trimD_getD xs, ← trimD_getD ys, h]
  · intro h
    refine same_len _ _ (fun i => ?_) (trimS_last xs _ (Nat.le_refl _)) (trimS_last ys _ (Nat.le_refl _))
    rw [trimD_getD, trimD_getD]
    exact h i

end Go.Proofs.YtmeiahmolmneeaaDoor
