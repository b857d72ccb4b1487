/- What is read of a page's bytes (layer 10), as lists; there and back. No program. -/
import Derived.Test.YthnppkeifhnceaaNRd
import Derived.Test.YthnppkeifhnceaaNPutP
namespace Go.Proofs.Ythnppkeifhnceaa
set_option maxRecDepth 20000
open Go.RowKit
set_option linter.unusedVariables false

/-- package node's way, by a reader -/
def rdP : Nat → List Int → Int → List (List Int × List Int)
  | 0, _, _ => []
  | k + 1, zs, er => ((textS zs er 25).1, (textS (textS zs er 25).2.1 (textS zs er 25).2.2 24).1) :: rdP k (textS (textS zs er 25).2.1 (textS zs er 25).2.2 24).2.1 (textS (textS zs er 25).2.1 (textS zs er 25).2.2 24).2.2
def rdK : Nat → List Int → Int → List (List Int) × List Int
  | 0, _, _ => ([], [])
  | k + 1, zs, er => ((textS zs er 25).1 :: (rdK k (takeS (textS zs er 25).2.1 (textS zs er 25).2.2 2).2.1 (takeS (textS zs er 25).2.1 (textS zs er 25).2.2 2).2.2).1,
      ((numOf (takeS (textS zs er 25).2.1 (textS zs er 25).2.2 2).1 : Nat) : Int) :: (rdK k (takeS (textS zs er 25).2.1 (textS zs er 25).2.2 2).2.1 (takeS (textS zs er 25).2.1 (textS zs er 25).2.2 2).2.2).2)
def rdLeaf (zs : List Int) : Nd := ⟨true, rdP (numOf (takeS zs 0 1).1) (takeS zs 0 1).2.1 (takeS zs 0 1).2.2, [], []⟩
def rdInner (zs : List Int) : Nd :=
  ⟨false, [], (rdK (numOf (takeS zs 0 1).1) (takeS (takeS zs 0 1).2.1 (takeS zs 0 1).2.2 2).2.1 (takeS (takeS zs 0 1).2.1 (takeS zs 0 1).2.2 2).2.2).1,
    ((numOf (takeS (takeS zs 0 1).2.1 (takeS zs 0 1).2.2 2).1 : Nat) : Int) :: (rdK (numOf (takeS zs 0 1).1) (takeS (takeS zs 0 1).2.1 (takeS zs 0 1).2.2 2).2.1 (takeS (takeS zs 0 1).2.1 (takeS zs 0 1).2.2 2).2.2).2⟩
def rdN (kind : Int) (zs : List Int) : Nd := if kind = 3 then rdLeaf zs else rdInner zs
def getE (kind : Int) (zs : List Int) : Int := if kind = 3 ∨ kind = 4 then (if checkN (rdN kind zs) = 0 ∧ putB (rdN kind zs) = zs then 0 else 100) else 42
def getN (kind : Int) (zs : List Int) : Nd := if getE kind zs = 0 then rdN kind zs else noNd

/-- the document's way: behind the end noughts -/
def one (z : List Int) : Int := z.getD 0 0
def many (n : Nat) (z : List Int) : List Int := z.take n ++ List.replicate (n - z.length) 0
def tkP : Nat → List Int → List (List Int × List Int)
  | 0, _ => []
  | k + 1, z => let z1 := z.drop 1; let a := (one z).toNat; let z2 := z1.drop a; let z3 := z2.drop 1; let b := (one z2).toNat; (many a z1, many b z3) :: tkP k (z3.drop b)
def tkK : Nat → List Int → List (List Int) × List Int
  | 0, _ => ([], [])
  | k + 1, z => let z1 := z.drop 1; let a := (one z).toNat; let z2 := z1.drop a; (many a z1 :: (tkK k (z2.drop 2)).1, (256 * one z2 + one (z2.drop 1)) :: (tkK k (z2.drop 2)).2)
def tkN (kind : Int) (z : List Int) : Nd := if kind = 3 then ⟨true, tkP (one z).toNat (z.drop 1), [], []⟩ else ⟨false, [], (tkK (one z).toNat (z.drop 3)).1, (256 * one (z.drop 1) + one (z.drop 2)) :: (tkK (one z).toNat (z.drop 3)).2⟩
def rgetE (kind : Int) (zs : List Int) : Int := if kind = 3 ∨ kind = 4 then (if checkN (tkN kind zs) = 0 ∧ putB (tkN kind zs) = zs then 0 else 100) else 42
def rgetN (kind : Int) (zs : List Int) : Nd := if rgetE kind zs = 0 then tkN kind zs else noNd

/-! ### the bytes, from the front -/
def flP : List (List Int × List Int) → List Int
  | [] => []
  | p :: ps => txt p.1 ++ (txt p.2 ++ flP ps)
def flK : List (List Int) → List Int → List Int
  | k :: ks, c :: cs => txt k ++ (numBytes c.toNat 2 ++ flK ks cs)
  | _, _ => []
theorem flP_snoc : ∀ (ps : List (List Int × List Int)) (p : List Int × List Int), flP (ps ++ [p]) = flP ps ++ txt p.1 ++ txt p.2
  | [], p => by simp [flP]
  | q :: ps, p => by rw [List.cons_append, flP, flP, flP_snoc ps p]; simp
theorem flK_snoc : ∀ (ks : List (List Int)) (cs : List Int) (k : List Int) (c : Int), ks.length = cs.length → flK (ks ++ [k]) (cs ++ [c]) = flK ks cs ++ txt k ++ numBytes c.toNat 2
  | [], [], k, c, _ => by simp [flK]
  | [], _ :: _, k, c, h => by simp at h
  | _ :: _, [], k, c, h => by simp at h
  | q :: ks, d :: cs, k, c, h => by rw [List.cons_append, List.cons_append, flK, flK, flK_snoc ks cs k c (by simpa using h)]; simp
theorem lefT_fl (ps : List (List Int × List Int)) : ∀ k, k ≤ ps.length → lefT ps k = (ps.length : Int) :: flP (ps.take k)
  | 0, _ => by simp [lefT, flP]
  | k + 1, h => by
    rw [lefT, lefT_fl ps k (by omega), List.take_succ_eq_append_getElem (by omega), flP_snoc]
    simp [List.getD, show k < ps.length by omega]
theorem innT_fl (ks : List (List Int)) (c : Int) (cs : List Int) (hl : cs.length = ks.length) : ∀ k, k ≤ ks.length → innT ks (c :: cs) k = (ks.length : Int) :: (numBytes c.toNat 2 ++ flK (ks.take k) (cs.take k))
  | 0, _ => by simp [innT, flK]
  | k + 1, h => by
    rw [innT, innT_fl ks c cs hl k (by omega), List.take_succ_eq_append_getElem (show k < ks.length by omega), List.take_succ_eq_append_getElem (show k < cs.length by omega), flK_snoc _ _ _ _ (by simp; omega)]
    simp [List.getD, show k < ks.length by omega, show k < cs.length by omega]

theorem textS_txt (a rest : List Int) (most : Int) (hm : (a.length : Int) ≤ most) : textS (txt a ++ rest) 0 most = (a, rest, 0) := by
  have ht : tlen (txt a ++ rest) most = ((a.length : Int), 0) := by
    unfold tlen txt
    rw [if_neg (by omega), if_neg (by simp), if_neg (by simpa using hm), if_neg (by simp; omega)]
    simp
  unfold textS
  rw [if_neg (by simp), ht]
  simp only [ne_eq, not_true_eq_false, if_false]
  have e : 1 + ((a.length : Int)).toNat = a.length + 1 := by omega
  rw [e]
  simp [txt]
theorem takeS_num (v : Nat) (rest : List Int) : takeS (numBytes v 2 ++ rest) 0 2 = (numBytes v 2, rest, 0) := by
  have hl := numBytes_len 2 v
  unfold takeS
  rw [if_neg (by simp), if_neg (by omega), if_neg (by rw [List.length_append, hl]; omega)]
  have e : (2 : Int).toNat = (numBytes v 2).length := by rw [hl]; rfl
  rw [e]
  simp
theorem takeS_one (c : Int) (rest : List Int) : takeS (c :: rest) 0 1 = ([c], rest, 0) := by
  unfold takeS
  rw [if_neg (by simp), if_neg (by omega), if_neg (by simp; omega)]
  rfl
theorem numOf_num (v : Nat) (h : v < 65536) : numOf (numBytes v 2) = v := by
  have e : numBytes v 2 = [((v / 256 % 256 : Nat) : Int), ((v % 256 : Nat) : Int)] := rfl
  rw [e]
  simp only [numOf, numAcc]
  omega
theorem rdP_fl : ∀ (ps : List (List Int × List Int)) (rest : List Int), (∀ p ∈ ps, p.1.length ≤ 25 ∧ p.2.length ≤ 24) → rdP ps.length (flP ps ++ rest) 0 = ps
  | [], _, _ => rfl
  | p :: ps, rest, h => by
    have hp := h p (List.mem_cons_self ..)
    have e1 := textS_txt p.1 (txt p.2 ++ flP ps ++ rest) 25 (by omega)
    have e2 := textS_txt p.2 (flP ps ++ rest) 24 (by omega)
    rw [List.length_cons, rdP, flP, show txt p.1 ++ (txt p.2 ++ flP ps) ++ rest = txt p.1 ++ (txt p.2 ++ flP ps ++ rest) by simp, e1]
    simp only
    rw [show txt p.2 ++ flP ps ++ rest = txt p.2 ++ (flP ps ++ rest) by simp, e2]
    simp only
    rw [rdP_fl ps rest (fun q hq => h q (List.mem_cons_of_mem _ hq))]
theorem kid_lt {c : Int} (h : kidB c = true) : 0 ≤ c ∧ c.toNat < 65536 ∧ ((c.toNat : Nat) : Int) = c := by
  simp [kidB] at h
  omega
theorem rdK_fl : ∀ (ks : List (List Int)) (cs : List Int) (rest : List Int), ks.length = cs.length → (∀ k ∈ ks, k.length ≤ 25) → (∀ c ∈ cs, kidB c = true) → rdK ks.length (flK ks cs ++ rest) 0 = (ks, cs)
  | [], [], _, _, _, _ => rfl
  | [], _ :: _, _, h, _, _ => by simp at h
  | _ :: _, [], _, h, _, _ => by simp at h
  | k :: ks, c :: cs, rest, hl, h, hc => by
    have hp := h k (List.mem_cons_self ..)
    have hk := kid_lt (hc c (List.mem_cons_self ..))
    have e1 := textS_txt k (numBytes c.toNat 2 ++ (flK ks cs ++ rest)) 25 (by omega)
    have e2 := takeS_num c.toNat (flK ks cs ++ rest)
    rw [List.length_cons, rdK, flK, show txt k ++ (numBytes c.toNat 2 ++ flK ks cs) ++ rest = txt k ++ (numBytes c.toNat 2 ++ (flK ks cs ++ rest)) by simp, e1]
    simp only
    rw [e2]
    simp only
    rw [rdK_fl ks cs rest (by simpa using hl) (fun q hq => h q (List.mem_cons_of_mem _ hq)) (fun q hq => hc q (List.mem_cons_of_mem _ hq)), numOf_num _ hk.2.1, hk.2.2]

theorem many_front (a rest : List Int) : many a.length (a ++ rest) = a := by simp [many]
theorem one_cons (c : Int) (rest : List Int) : one (c :: rest) = c := rfl
theorem tkP_fl : ∀ (ps : List (List Int × List Int)) (rest : List Int), tkP ps.length (flP ps ++ rest) = ps
  | [], _ => rfl
  | p :: ps, rest => by
    rw [List.length_cons, tkP, flP]
    have e : txt p.1 ++ (txt p.2 ++ flP ps) ++ rest = (p.1.length : Int) :: (p.1 ++ ((p.2.length : Int) :: (p.2 ++ (flP ps ++ rest)))) := by simp [txt]
    rw [e]
    simp only [one_cons, List.drop_succ_cons, List.drop_zero, Int.toNat_natCast, List.drop_left, many_front]
    rw [tkP_fl ps rest]
theorem num_two (v : Nat) (rest : List Int) (h : v < 65536) : 256 * one (numBytes v 2 ++ rest) + one ((numBytes v 2 ++ rest).drop 1) = (v : Int) := by
  have e : numBytes v 2 = [((v / 256 % 256 : Nat) : Int), ((v % 256 : Nat) : Int)] := rfl
  rw [e]
  simp only [List.cons_append, List.nil_append, List.drop_succ_cons, List.drop_zero, one_cons]
  omega
theorem tkK_fl : ∀ (ks : List (List Int)) (cs : List Int) (rest : List Int), ks.length = cs.length → (∀ c ∈ cs, kidB c = true) → tkK ks.length (flK ks cs ++ rest) = (ks, cs)
  | [], [], _, _, _ => rfl
  | [], _ :: _, _, h, _ => by simp at h
  | _ :: _, [], _, h, _ => by simp at h
  | k :: ks, c :: cs, rest, hl, hc => by
    have hk := kid_lt (hc c (List.mem_cons_self ..))
    rw [List.length_cons, tkK, flK]
    have e : txt k ++ (numBytes c.toNat 2 ++ flK ks cs) ++ rest = (k.length : Int) :: (k ++ (numBytes c.toNat 2 ++ (flK ks cs ++ rest))) := by simp [txt]
    have e2 : (numBytes c.toNat 2 ++ (flK ks cs ++ rest)).drop 2 = flK ks cs ++ rest := rfl
    rw [e]
    simp only [one_cons, List.drop_succ_cons, List.drop_zero, Int.toNat_natCast, List.drop_left, many_front]
    rw [e2, num_two _ _ hk.2.1, tkK_fl ks cs rest (by simpa using hl) (fun q hq => hc q (List.mem_cons_of_mem _ hq)), hk.2.2]

/-! ### there and back -/
theorem check_kind {n : Nd} (h : checkN n = 0) : putK n = if n.lf then 3 else 4 := by unfold putK; rw [if_pos h]
theorem bytes_leaf {n : Nd} (h : leafB n = true) : bytesN n = (n.ps.length : Int) :: flP n.ps := by
  unfold bytesN
  rw [if_pos (leafB_lf h), lefT_fl _ _ (Nat.le_refl _), List.take_length]
theorem bytes_inner {n : Nd} (h : innerB n = true) : ∃ c cs, n.cs = c :: cs ∧ cs.length = n.ks.length ∧ bytesN n = (n.ks.length : Int) :: (numBytes c.toNat 2 ++ flK n.ks cs) := by
  obtain ⟨_, _, _, h4, _, _⟩ := innerB_ps h
  obtain ⟨lf, ps, ks, cs⟩ := n
  cases cs with
  | nil => simp at h4
  | cons c cs =>
    refine ⟨c, cs, rfl, by simpa using h4, ?_⟩
    have hl := innerB_lf h
    unfold bytesN
    simp only at h4 hl ⊢
    rw [if_neg (by simp [hl]), innT_fl ks c cs (by simpa using h4) _ (Nat.le_refl _), List.take_length, List.take_of_length_le (by simp at h4; omega)]
theorem back_pad {n : Nd} (h : checkN n = 0) : rdN (putK n) (putB n) = n ∧ tkN (putK n) (putB n) = n := by
  obtain ⟨hm, _⟩ := checkN_zero.1 h
  have hb := may_bounds hm
  rw [check_kind h, show putB n = padN (bytesN n) by unfold putB; rw [if_pos h]]
  cases hlf : n.lf with
  | true =>
    have hl : leafB n = true := by rw [mayN_lf hlf] at hm; exact hm
    have hps := leafB_ps hl
    have e : padN (bytesN n) = (n.ps.length : Int) :: (flP n.ps ++ List.replicate (240 - (bytesN n).length) 0) := by unfold padN; rw [bytes_leaf hl]; simp
    rw [e]
    generalize List.replicate (240 - (bytesN n).length) (0 : Int) = rest
    obtain ⟨lf, ps, ks, cs⟩ := n
    simp only at hlf hps hb ⊢
    obtain ⟨_, rfl, rfl, _⟩ := hps
    subst hlf
    constructor
    · simp only [if_true, rdN, rdLeaf]
      rw [takeS_one]
      simp only
      rw [show numOf [(ps.length : Int)] = ps.length by simp [numOf, numAcc], rdP_fl ps rest hb.2.2.2.1]
    · simp only [if_true, tkN]
      simp only [one_cons, List.drop_succ_cons, List.drop_zero, Int.toNat_natCast]
      rw [tkP_fl ps rest]
  | false =>
    have hl : innerB n = true := by rw [mayN_in hlf] at hm; exact hm
    have hps := innerB_ps hl
    obtain ⟨c, cs, hcs, hlen, hby⟩ := bytes_inner hl
    have e : padN (bytesN n) = (n.ks.length : Int) :: (numBytes c.toNat 2 ++ (flK n.ks cs ++ List.replicate (240 - (bytesN n).length) 0)) := by unfold padN; rw [hby]; simp
    rw [e]
    generalize List.replicate (240 - (bytesN n).length) (0 : Int) = rest
    obtain ⟨lf, ps, ks, cs'⟩ := n
    simp only at hlf hps hb hcs hlen ⊢
    subst hcs
    obtain ⟨rfl, h1, h2, h3, h4, h5⟩ := hps
    subst hlf
    have hk := kid_lt (h5 c (List.mem_cons_self ..))
    have hcs5 : ∀ q ∈ cs, kidB q = true := fun q hq => h5 q (List.mem_cons_of_mem _ hq)
    constructor
    · simp only [Bool.false_eq_true, if_false, rdN, rdInner, show ¬ (4 : Int) = 3 by omega]
      rw [takeS_one]
      simp only
      rw [takeS_num]
      simp only
      rw [show numOf [(ks.length : Int)] = ks.length by simp [numOf, numAcc], rdK_fl ks cs rest hlen.symm hb.2.2.2.2 hcs5, numOf_num _ hk.2.1, hk.2.2]
    · simp only [Bool.false_eq_true, if_false, tkN, show ¬ (4 : Int) = 3 by omega]
      have e2 : (numBytes c.toNat 2 ++ (flK ks cs ++ rest)).drop 2 = flK ks cs ++ rest := rfl
      have e3 := num_two c.toNat (flK ks cs ++ rest) hk.2.1
      simp only [one_cons, List.drop_succ_cons, List.drop_zero, Int.toNat_natCast]
      rw [e2, e3, tkK_fl ks cs rest hlen.symm hcs5, hk.2.2]

theorem rdN_lf (kind : Int) (zs : List Int) (h : kind = 3 ∨ kind = 4) : (if (rdN kind zs).lf then (3 : Int) else 4) = kind := by
  rcases h with rfl | rfl <;> simp [rdN, rdLeaf, rdInner]
theorem tkN_lf (kind : Int) (zs : List Int) (h : kind = 3 ∨ kind = 4) : (if (tkN kind zs).lf then (3 : Int) else 4) = kind := by
  rcases h with rfl | rfl <;> simp [tkN]
theorem get_tells (kind : Int) (zs : List Int) (h : getE kind zs = 0) : getN kind zs = rdN kind zs ∧ checkN (getN kind zs) = 0 ∧ putK (getN kind zs) = kind ∧ putB (getN kind zs) = zs := by
  have e : getN kind zs = rdN kind zs := by unfold getN; rw [if_pos h]
  rw [e]
  unfold getE at h
  split at h
  · rename_i hk
    split at h
    · rename_i hc
      exact ⟨rfl, hc.1, (check_kind hc.1).trans (rdN_lf kind zs hk), hc.2⟩
    · omega
  · omega
/-- package node's answer is the document's -/
theorem get_same (kind : Int) (zs : List Int) : getE kind zs = rgetE kind zs ∧ getN kind zs = rgetN kind zs := by
  by_cases hk : kind = 3 ∨ kind = 4
  · have h1 : (checkN (rdN kind zs) = 0 ∧ putB (rdN kind zs) = zs) → tkN kind zs = rdN kind zs := fun ⟨a, b⟩ => by
      have := (back_pad a).2
      rw [b, (check_kind a).trans (rdN_lf kind zs hk)] at this
      exact this
    have h2 : (checkN (tkN kind zs) = 0 ∧ putB (tkN kind zs) = zs) → rdN kind zs = tkN kind zs := fun ⟨a, b⟩ => by
      have := (back_pad a).1
      rw [b, (check_kind a).trans (tkN_lf kind zs hk)] at this
      exact this
    have hi : (checkN (rdN kind zs) = 0 ∧ putB (rdN kind zs) = zs) ↔ (checkN (tkN kind zs) = 0 ∧ putB (tkN kind zs) = zs) := ⟨fun h => by rw [h1 h]; exact h, fun h => by rw [h2 h]; exact h⟩
    have he : getE kind zs = rgetE kind zs := by unfold getE rgetE; rw [if_pos hk, if_pos hk]; by_cases hc : checkN (rdN kind zs) = 0 ∧ putB (rdN kind zs) = zs
                                                 · rw [if_pos hc, if_pos (hi.1 hc)]
                                                 · rw [if_neg hc, if_neg (fun h => hc (hi.2 h))]
    refine ⟨he, ?_⟩
    unfold getN rgetN
    rw [← he]
    by_cases hz : getE kind zs = 0
    · rw [if_pos hz, if_pos hz]
      have := get_tells kind zs hz
      rw [this.1] at this
      exact (h1 ⟨this.2.1, this.2.2.2⟩).symm
    · rw [if_neg hz, if_neg hz]
  · have e1 : getE kind zs = 42 := by unfold getE; rw [if_neg hk]
    have e2 : rgetE kind zs = 42 := by unfold rgetE; rw [if_neg hk]
    refine ⟨e1.trans e2.symm, ?_⟩
    unfold getN rgetN
    rw [e1, e2]
    rfl

end Go.Proofs.Ythnppkeifhnceaa
