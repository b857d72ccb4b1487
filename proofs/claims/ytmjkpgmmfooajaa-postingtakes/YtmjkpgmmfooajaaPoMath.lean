/- Postings, as lists: which may be, their bytes, what is read of bytes; there and back. No program. -/
import Derived.Test.YtmjkpgmmfooajaaPoRdV
import Derived.Test.YtmjkpgmmfooajaaPoNum
namespace Go.Proofs.Ytmjkpgmmfooajaa
set_option maxRecDepth 20000
open Go.RowKit
set_option linter.unusedVariables false

/-! ### short numbers, there and back -/
theorem shortAux_var : ∀ (x i acc : Nat) (rest : List Int), i ≤ 4 → (0 < i → x ≠ 0) → x * 128 ^ i < 4294967296 → shortAux i acc (varBytes x ++ rest) = (acc + x * 128 ^ i, i + varLen x, 0) := by
  intro x
  induction x using Nat.strongRecOn with
  | ind x ih =>
    intro i acc rest hi hx hlt
    by_cases h : x < 128
    · have h4 : ¬ (i = 4 ∧ (15 : Int) < (x : Int)) := by
        rintro ⟨rfl, h'⟩
        simp only [Nat.reducePow] at hlt
        omega
      rw [varBytes_lt h, varLen_lt h, List.cons_append, shortAux, if_neg (by rintro (h' | ⟨h1, h2⟩); exact h4 h'; have := hx h1; omega), if_pos (by omega)]
      simp
    · have hi3 : i ≤ 3 := by
        apply Nat.le_of_not_lt
        intro h3
        have : i = 4 := by omega
        subst this
        simp only [Nat.reducePow] at hlt
        omega
      have e : x * 128 ^ i = x % 128 * 128 ^ i + x / 128 * 128 ^ (i + 1) := by
        have : x = x % 128 + 128 * (x / 128) := by omega
        rw [Nat.pow_succ]
        conv => lhs; rw [this, Nat.add_mul]
        congr 1
        rw [Nat.mul_comm 128, Nat.mul_assoc, Nat.mul_comm 128]
      have := ih (x / 128) (by omega) (i + 1) (acc + x % 128 * 128 ^ i) rest (by omega) (by omega) (by omega)
      rw [varBytes_ge h, varLen_ge h, List.cons_append, shortAux, if_neg (by rintro (h' | ⟨_, h2⟩) <;> omega), if_neg (by omega)]
      rw [show (((128 + x % 128 : Nat) : Int).toNat) % 128 = x % 128 by omega]
      rw [this, e]
      simp only [Prod.mk.injEq, and_true]
      omega

theorem short_var (x : Nat) (rest : List Int) (h : x < 4294967296) : short (varBytes x ++ rest) = (x, varLen x, 0) := by
  rw [short, shortAux_var x 0 0 rest (by omega) (by omega) (by simpa using h)]
  simp
theorem varS_var (x : Nat) (rest : List Int) (h : x < 4294967296) : varS (varBytes x ++ rest) 0 = (x, rest, 0) := by
  rw [varS, if_neg (by simp), short_var x rest h]
  simp [varLen]

theorem shortAux_back : ∀ (zs : List Int) (i acc v k : Nat), ByteOk zs → i ≤ 4 → shortAux i acc zs = (v, k, 0) →
    ∃ x rest, zs = varBytes x ++ rest ∧ v = acc + x * 128 ^ i ∧ k = i + varLen x ∧ (0 < i → x ≠ 0) ∧ x < 4294967296 / 128 ^ i
  | [], i, acc, v, k, _, _, h => by simp [shortAux] at h
  | c :: cs, i, acc, v, k, hb, hi, h => by
    have hc := hb c (List.mem_cons_self ..)
    rw [shortAux] at h
    by_cases hA : (i = 4 ∧ 15 < c) ∨ (0 < i ∧ c = 0)
    · rw [if_pos hA] at h; simp at h
    · rw [if_neg hA] at h
      by_cases h1 : c < 128
      · rw [if_pos h1] at h
        simp only [Prod.mk.injEq, and_true] at h
        refine ⟨c.toNat, cs, ?_, h.1.symm, ?_, by omega, ?_⟩
        · rw [varBytes_lt (by omega)]
          show c :: cs = [((c.toNat : Nat) : Int)] ++ cs
          rw [show ((c.toNat : Nat) : Int) = c by omega]; rfl
        · rw [varLen_lt (by omega)]; exact h.2.symm
        · rcases (by omega : i = 0 ∨ i = 1 ∨ i = 2 ∨ i = 3 ∨ i = 4) with rfl | rfl | rfl | rfl | rfl <;> simp only [Nat.reducePow, Nat.reduceDiv, Nat.pow_zero] <;> omega
      · rw [if_neg h1] at h
        have hi3 : i ≤ 3 := by omega
        obtain ⟨x, rest, e1, e2, e3, e4, e5⟩ := shortAux_back cs (i + 1) _ v k (fun z hz => hb z (List.mem_cons_of_mem _ hz)) (by omega) h
        have hx := e4 (by omega)
        have hge : ¬ c.toNat % 128 + 128 * x < 128 := by omega
        refine ⟨c.toNat % 128 + 128 * x, rest, ?_, ?_, ?_, by omega, ?_⟩
        · rw [varBytes_ge hge, show (c.toNat % 128 + 128 * x) % 128 = c.toNat % 128 by omega, show (c.toNat % 128 + 128 * x) / 128 = x by omega, e1, List.cons_append, show ((128 + c.toNat % 128 : Nat) : Int) = c by omega]
        · rw [e2, Nat.add_mul, Nat.add_assoc, Nat.pow_succ]
          congr 2
          rw [Nat.mul_comm 128 x, Nat.mul_assoc, Nat.mul_comm 128]
        · rw [varLen_ge hge, show (c.toNat % 128 + 128 * x) / 128 = x by omega, e3]; omega
        · rcases (by omega : i = 0 ∨ i = 1 ∨ i = 2 ∨ i = 3) with rfl | rfl | rfl | rfl <;> simp only [Nat.reducePow, Nat.reduceDiv, Nat.reduceAdd, Nat.pow_zero] at e5 ⊢ <;> omega

theorem short_back {zs : List Int} {v k : Nat} (hb : ByteOk zs) (h : short zs = (v, k, 0)) : zs = varBytes v ++ zs.drop k ∧ v < 4294967296 := by
  obtain ⟨x, rest, e1, e2, e3, _, e5⟩ := shortAux_back zs 0 0 v k hb (by omega) h
  have ev : v = x := by simpa using e2
  have ek : k = (varBytes x).length := by simpa [varLen] using e3
  subst ev
  refine ⟨?_, by simpa using e5⟩
  rw [ek]
  conv => rhs; rw [e1]
  rw [List.drop_left' rfl]
  exact e1

theorem varS_err (zs : List Int) (er : Int) (h : er ≠ 0) : varS zs er = (0, zs, er) := by rw [varS, if_pos h]
theorem varS_ok {zs : List Int} {er : Int} (h : (varS zs er).2.2 = 0) : er = 0 := by
  by_cases e : er = 0
  · exact e
  · rw [varS_err zs er e] at h; exact absurd h e
theorem varS_back {zs : List Int} (hb : ByteOk zs) (h : (varS zs 0).2.2 = 0) : zs = varBytes (varS zs 0).1 ++ (varS zs 0).2.1 ∧ (varS zs 0).1 < 4294967296 := by
  rw [varS, if_neg (by simp)] at h ⊢
  simp only at h ⊢
  exact short_back hb (by rw [← h])
theorem shortAux_lt : ∀ (zs : List Int) (i acc : Nat), ByteOk zs → i ≤ 4 → (shortAux i acc zs).2.2 ≠ 0 → (shortAux i acc zs).1 = 0
  | [], i, acc, _, _, _ => rfl
  | c :: cs, i, acc, hb, hi, h => by
    rw [shortAux] at h ⊢
    split
    · rfl
    · rename_i hA
      rw [if_neg hA] at h
      split
      · rename_i h1
        rw [if_pos h1] at h
        exact absurd rfl h
      · rename_i h1
        rw [if_neg h1] at h
        exact shortAux_lt cs (i + 1) _ (fun z hz => hb z (List.mem_cons_of_mem _ hz)) (by have := hb c (List.mem_cons_self ..); omega) h
theorem varS_lt {zs : List Int} (hb : ByteOk zs) (er : Int) : (varS zs er).1 < 4294967296 := by
  by_cases e : er = 0
  · subst e
    by_cases h : (varS zs 0).2.2 = 0
    · exact (varS_back hb h).2
    · rw [varS, if_neg (by simp)] at h ⊢
      have := shortAux_lt zs 0 0 hb (by omega) h
      show (shortAux 0 0 zs).1 < _
      omega
  · rw [varS_err zs er e]; simp
theorem varS_bytes {zs : List Int} (hb : ByteOk zs) (er : Int) : ByteOk (varS zs er).2.1 := by
  unfold varS
  split
  · exact hb
  · exact hb.drop _
theorem varS_len (zs : List Int) (er : Int) : (varS zs er).2.1.length ≤ zs.length := by
  unfold varS
  split
  · exact Nat.le_refl _
  · simp

/-! ### a posting -/
structure Po where
  doc : Nat
  pos : List Int
def noPo : Po := ⟨0, []⟩

def risesB : Int → List Int → Bool
  | _, [] => true
  | last, x :: xs => decide (last < x) && decide (x ≤ 1048576) && risesB x xs
def posB (l : List Int) : Bool := decide (1 ≤ l.length) && decide (l.length ≤ 2000) && risesB (-1) l
def mayB (prev : Nat) (p : Po) : Bool := decide (prev < p.doc) && decide (p.doc ≤ 2147483647) && posB p.pos
def checkP (prev : Nat) (p : Po) : Int := if mayB prev p = true then 0 else 150

def deltas : Int → List Int → List Int
  | _, [] => []
  | last, x :: xs => varBytes (x - last).toNat ++ deltas x xs
def formP (prev : Nat) (p : Po) : List Int := varBytes (p.doc - prev) ++ varBytes p.pos.length ++ deltas 0 p.pos

/-- are all of them, one behind the other -/
def listOk : Nat → List Po → Bool
  | _, [] => true
  | prev, p :: ps => mayB prev p && listOk p.doc ps
def listB : Nat → List Po → List Int
  | _, [] => []
  | prev, p :: ps => formP prev p ++ listB p.doc ps
def listE (l : List Po) : Int := if listOk 0 l = true then 0 else 150

theorem deltas_ok : ∀ (xs : List Int) (l : Int), ByteOk (deltas l xs)
  | [], _ => by intro z hz; cases hz
  | x :: xs, l => (varBytes_ok _).append' (deltas_ok xs x)
theorem formP_ok (prev : Nat) (p : Po) : ByteOk (formP prev p) := ((varBytes_ok _).append' (varBytes_ok _)).append' (deltas_ok _ _)
theorem listB_ok : ∀ (l : List Po) (prev : Nat), ByteOk (listB prev l)
  | [], _ => by intro z hz; cases hz
  | p :: ps, prev => (formP_ok prev p).append' (listB_ok ps p.doc)

/-- the last one's document -/
def lastDoc : Nat → List Po → Nat
  | prev, [] => prev
  | _, p :: ps => lastDoc p.doc ps
theorem lastDoc_snoc : ∀ (l : List Po) (prev : Nat) (p : Po), lastDoc prev (l ++ [p]) = p.doc
  | [], _, _ => rfl
  | q :: l, _, p => lastDoc_snoc l q.doc p
theorem listOk_append : ∀ (l m : List Po) (prev : Nat), listOk prev (l ++ m) = (listOk prev l && listOk (lastDoc prev l) m)
  | [], m, prev => by simp [listOk, lastDoc]
  | p :: ps, m, prev => by rw [List.cons_append, listOk, listOk_append ps m p.doc, listOk, lastDoc, Bool.and_assoc]
theorem listB_append : ∀ (l m : List Po) (prev : Nat), listB prev (l ++ m) = listB prev l ++ listB (lastDoc prev l) m
  | [], m, prev => by simp [listB, lastDoc]
  | p :: ps, m, prev => by rw [List.cons_append, listB, listB_append ps m p.doc, listB, lastDoc, List.append_assoc]
theorem listB_snoc (l : List Po) (prev : Nat) (p : Po) : listB prev (l ++ [p]) = listB prev l ++ formP (lastDoc prev l) p := by
  rw [listB_append]; simp [listB]
theorem listOk_snoc (l : List Po) (prev : Nat) (p : Po) : listOk prev (l ++ [p]) = (listOk prev l && mayB (lastDoc prev l) p) := by
  rw [listOk_append]; simp [listOk]

theorem varLen_pos (v : Nat) : 1 ≤ (varBytes v).length := by
  by_cases h : v < 128
  · rw [varBytes_lt h]; simp
  · rw [varBytes_ge h]; simp
theorem rises_bound : ∀ (xs : List Int) (l : Int), risesB l xs = true → ∀ x ∈ xs, l < x ∧ x ≤ 1048576
  | [], _, _, x, hx => by cases hx
  | y :: xs, l, h, x, hx => by
    simp only [risesB, Bool.and_eq_true, decide_eq_true_iff] at h
    rcases List.mem_cons.1 hx with rfl | hx
    · exact h.1
    · have := rises_bound xs y h.2 x hx
      omega
theorem deltas_len : ∀ (xs : List Int) (l : Int), -1 ≤ l → risesB l xs = true → xs.length ≤ (deltas (max l 0) xs).length ∧ (deltas (max l 0) xs).length ≤ 5 * xs.length
  | [], _, _, _ => by simp [deltas]
  | x :: xs, l, hl, h => by
    simp only [risesB, Bool.and_eq_true, decide_eq_true_iff] at h
    have ih := deltas_len xs x (by omega) h.2
    rw [show max x 0 = x by omega] at ih
    have h1 := varLen_pos (x - max l 0).toNat
    have h2 := (varLen_le5 (v := (x - max l 0).toNat) (by omega)).2
    unfold varLen at h2
    rw [deltas, List.length_append, List.length_cons]
    omega
theorem may_parts {prev : Nat} {p : Po} (h : mayB prev p = true) : prev < p.doc ∧ p.doc ≤ 2147483647 ∧ 1 ≤ p.pos.length ∧ p.pos.length ≤ 2000 ∧ risesB (-1) p.pos = true := by
  simp only [mayB, posB, Bool.and_eq_true, decide_eq_true_iff] at h
  exact ⟨h.1.1, h.1.2, h.2.1.1, h.2.1.2, h.2.2⟩
theorem form_len {prev : Nat} {p : Po} (h : mayB prev p = true) : 3 ≤ (formP prev p).length ∧ (formP prev p).length ≤ 10010 ∧ p.pos.length + 2 ≤ (formP prev p).length ∧ (formP prev p).length ≤ 10 + 5 * p.pos.length := by
  obtain ⟨h1, h2, h3, h4, h5⟩ := may_parts h
  have hd := deltas_len p.pos (-1) (by omega) h5
  rw [show max (-1 : Int) 0 = 0 by omega] at hd
  have a1 := varLen_pos (p.doc - prev)
  have a2 := varLen_pos p.pos.length
  have b1 := (varLen_le5 (v := p.doc - prev) (by omega)).2
  have b2 := (varLen_le5 (v := p.pos.length) (by omega)).2
  unfold varLen at b1 b2
  rw [formP, List.length_append, List.length_append]
  omega

/-! ### what is read -/
/-- so many positions, from behind 'a' on: they, what is left, the error -/
def posR : Nat → Nat → List Int → Int → List Int × List Int × Int
  | 0, _, zs, er => ([], zs, er)
  | k + 1, a, zs, er =>
    ((((a + (varS zs er).1 : Nat)) : Int) :: (posR k (a + (varS zs er).1) (varS zs er).2.1 (varS zs er).2.2).1, (posR k (a + (varS zs er).1) (varS zs er).2.1 (varS zs er).2.2).2)

theorem posR_len : ∀ (k a : Nat) (zs : List Int) (er : Int), (posR k a zs er).1.length = k
  | 0, _, _, _ => rfl
  | k + 1, a, zs, er => by rw [posR, List.length_cons, posR_len k]
theorem posR_ok : ∀ (k a : Nat) (zs : List Int) (er : Int), (posR k a zs er).2.2 = 0 → er = 0
  | 0, _, _, _, h => h
  | k + 1, a, zs, er, h => varS_ok (posR_ok k _ _ _ h)
theorem posR_form : ∀ (xs : List Int) (a : Nat) (l : Int) (rest : List Int), (a : Int) ≤ l + 1 → risesB l xs = true → posR xs.length a (deltas a xs ++ rest) 0 = (xs, rest, 0)
  | [], a, l, rest, _, _ => rfl
  | x :: xs, a, l, rest, ha, h => by
    simp only [risesB, Bool.and_eq_true, decide_eq_true_iff] at h
    have e1 : varS (deltas a (x :: xs) ++ rest) 0 = ((x - a).toNat, deltas x xs ++ rest, 0) := by
      rw [deltas, List.append_assoc, varS_var _ _ (by omega)]
    have e2 : a + (x - a).toNat = x.toNat := by omega
    have e3 : ((x.toNat : Nat) : Int) = x := by omega
    have ih := posR_form xs x.toNat x rest (by omega) h.2
    rw [e3] at ih
    rw [List.length_cons, posR, e1]
    simp only [e2, ih, e3]
theorem posR_back : ∀ (k a : Nat) (zs : List Int), ByteOk zs → (posR k a zs 0).2.2 = 0 → zs = deltas a (posR k a zs 0).1 ++ (posR k a zs 0).2.1
  | 0, _, zs, _, _ => rfl
  | k + 1, a, zs, hb, h => by
    have he : (varS zs 0).2.2 = 0 := posR_ok k _ _ _ h
    obtain ⟨h1, h2⟩ := varS_back hb he
    rw [posR] at h ⊢
    simp only at h ⊢
    rw [he] at h ⊢
    have ih := posR_back k (a + (varS zs 0).1) _ (varS_bytes hb 0) h
    rw [deltas, show ((((a + (varS zs 0).1 : Nat) : Int)) - (a : Int)).toNat = (varS zs 0).1 by omega, List.append_assoc, ← ih]
    exact h1
theorem posR_bytes : ∀ (k a : Nat) (zs : List Int) (er : Int), ByteOk zs → ByteOk (posR k a zs er).2.1
  | 0, _, zs, _, hb => hb
  | k + 1, a, zs, er, hb => posR_bytes k _ _ _ (varS_bytes hb er)

def nD (zs : List Int) : Nat × List Int × Int := varS zs 0
def nN (zs : List Int) : Nat × List Int × Int := varS (nD zs).2.1 (nD zs).2.2
def nP (zs : List Int) : List Int × List Int × Int := posR (nN zs).1 0 (nN zs).2.1 (nN zs).2.2
def nextPo (prev : Nat) (zs : List Int) : Po := ⟨(prev + (nD zs).1) % 4294967296, (nP zs).1⟩
/-- is there room for so many positions? -/
def nextRoom (zs : List Int) : Bool := decide ((nN zs).1 ≤ 2000) && decide ((nN zs).1 ≤ (nN zs).2.1.length)
def nextOk (prev : Nat) (zs : List Int) : Bool := nextRoom zs && (decide ((nP zs).2.2 = 0) && mayB prev (nextPo prev zs))
def nextP (prev : Nat) (zs : List Int) : Option (Po × List Int) := if nextOk prev zs = true then some (nextPo prev zs, (nP zs).2.1) else none

theorem next_form {prev : Nat} {p : Po} (hp : mayB prev p = true) (rest : List Int) : nextP prev (formP prev p ++ rest) = some (p, rest) := by
  obtain ⟨h1, h2, h3, h4, h5⟩ := may_parts hp
  have hd := deltas_len p.pos (-1) (by omega) h5
  rw [show max (-1 : Int) 0 = 0 by omega] at hd
  have e1 : nD (formP prev p ++ rest) = (p.doc - prev, varBytes p.pos.length ++ (deltas 0 p.pos ++ rest), 0) := by
    unfold nD formP
    rw [List.append_assoc, List.append_assoc, varS_var _ _ (by omega)]
  have e2 : nN (formP prev p ++ rest) = (p.pos.length, deltas 0 p.pos ++ rest, 0) := by
    unfold nN
    rw [e1]
    exact varS_var _ _ (by omega)
  have e3 : nP (formP prev p ++ rest) = (p.pos, rest, 0) := by
    unfold nP
    rw [e2]
    exact posR_form p.pos 0 (-1) rest (by omega) h5
  have e4 : nextPo prev (formP prev p ++ rest) = p := by
    unfold nextPo
    rw [e1, e3]
    simp only
    rw [show prev + (p.doc - prev) = p.doc by omega, Nat.mod_eq_of_lt (by omega)]
  unfold nextP nextOk nextRoom
  rw [e2, e3, e4, hp]
  simp only [List.length_append]
  rw [if_pos (by simp; omega)]
theorem next_back {prev : Nat} {zs rest : List Int} {p : Po} (hprev : prev < 4294967296) (hb : ByteOk zs) (h : nextP prev zs = some (p, rest)) : zs = formP prev p ++ rest ∧ mayB prev p = true := by
  unfold nextP at h
  split at h
  · rename_i hok
    simp only [nextOk, nextRoom, Bool.and_eq_true, decide_eq_true_iff] at hok
    obtain ⟨⟨hr1, hr2⟩, hE, hm⟩ := hok
    have h0 := h
    simp only [Option.some.injEq, Prod.mk.injEq] at h0
    obtain ⟨hp, hrest⟩ := h0
    rw [hp] at hm
    refine ⟨?_, hm⟩
    have hN : (nN zs).2.2 = 0 := posR_ok _ _ _ _ hE
    have hD : (nD zs).2.2 = 0 := varS_ok hN
    obtain ⟨d1, d2⟩ := varS_back hb hD
    have hbD : ByteOk (nD zs).2.1 := varS_bytes hb 0
    have hN' : (varS (nD zs).2.1 0).2.2 = 0 := by
      have := hN
      unfold nN at this
      rwa [hD] at this
    obtain ⟨n1, n2⟩ := varS_back hbD hN'
    have eN : varS (nD zs).2.1 0 = nN zs := by unfold nN; rw [hD]
    rw [eN] at n1 n2
    have hbN : ByteOk (nN zs).2.1 := by rw [← eN]; exact varS_bytes hbD 0
    have hE' : (posR (nN zs).1 0 (nN zs).2.1 0).2.2 = 0 := by
      have := hE
      unfold nP at this
      rwa [hN] at this
    have p1 := posR_back _ _ _ hbN hE'
    have eP : posR (nN zs).1 0 (nN zs).2.1 0 = nP zs := by unfold nP; rw [hN]
    rw [eP, hrest] at p1
    have hpos : p.pos = (nP zs).1 := by rw [← hp]; rfl
    have hplen : p.pos.length = (nN zs).1 := by rw [hpos]; exact posR_len _ _ _ _
    have hdoc : p.doc = (prev + (nD zs).1) % 4294967296 := by rw [← hp]; rfl
    have hm' := (may_parts hm).1
    have hd2 : (nD zs).1 < 4294967296 := d2
    have hdd : p.doc - prev = (nD zs).1 := by omega
    unfold formP
    rw [hdd, hplen, hpos, List.append_assoc, List.append_assoc]
    show zs = varBytes (nD zs).1 ++ (varBytes (nN zs).1 ++ (deltas ((0 : Nat) : Int) (nP zs).1 ++ rest))
    rw [← p1, ← n1]
    exact d1
  · cases h
theorem next_iff {prev : Nat} {zs rest : List Int} {p : Po} (hprev : prev < 4294967296) (hb : ByteOk zs) : nextP prev zs = some (p, rest) ↔ (zs = formP prev p ++ rest ∧ mayB prev p = true) :=
  ⟨next_back hprev hb, fun h => by rw [h.1]; exact next_form h.2 rest⟩

end Go.Proofs.Ytmjkpgmmfooajaa
