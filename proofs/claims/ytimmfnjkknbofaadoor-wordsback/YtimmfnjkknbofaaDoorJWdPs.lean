/- A way's form, pure: its bytes, what is read of bytes; that a way is read of its form as it was, and that what is read has just these bytes. No program. -/
import Derived.Test.YtimmfnjkknbofaaDoorJNByt
import Derived.Test.YtimmfnjkknbofaaDoorJWdTerm
import Derived.Test.YtimmfnjkknbofaaDoorJWdCl
import Derived.Lib.AppendStr
namespace Go.Proofs.YtimmfnjkknbofaaDoor
set_option maxRecDepth 20000
open Go.RowKit
set_option linter.unusedVariables false
set_option linter.unusedSimpArgs false

theorem numAcc_snoc : ∀ (l : List Int) (acc : Nat) (c : Int), numAcc acc (l ++ [c]) = numAcc acc l * 256 + c.toNat
  | [], _, _ => rfl
  | x :: l, acc, c => by
    rw [List.cons_append, numAcc, numAcc_snoc l, numAcc]
theorem numOf_numBytes : ∀ (n x : Nat), x < 256 ^ n → numOf (numBytes x n) = x
  | 0, x, h => by
    simp at h
    subst h
    rfl
  | n + 1, x, h => by
    rw [Nat.pow_succ] at h
    have ih := numOf_numBytes n (x / 256) (by omega)
    unfold numOf at ih ⊢
    rw [numBytes, numAcc_snoc, ih]
    omega
theorem two_back {l : List Int} (hb : ByteOk l) (h : l.length = 2) : numBytes (numOf l) 2 = l := by
  match l, h with
  | [a, b], _ =>
    have h1 := hb a (by simp)
    have h2 := hb b (by simp)
    simp only [numOf, numAcc, numBytes, List.nil_append, List.cons_append, Nat.zero_mul, Nat.zero_add]
    have e1 : (((a.toNat * 256 + b.toNat) / 256 % 256 : Nat) : Int) = a := by omega
    have e2 : (((a.toNat * 256 + b.toNat) % 256 : Nat) : Int) = b := by omega
    simp [e1, e2]
    omega

/-! ### the form -/
def fdB (x : Fd) : List Int := numBytes x.1.toNat 2 ++ (numBytes x.2.1.toNat 2 ++ [x.2.2 - 1])
def formP (C : Cn) : List Int := C.cap :: (C.fs.length : Int) :: (C.fs.flatMap fdB ++ (C.ss.length : Int) :: C.ss.flatMap txt)

/-! ### what is read -/
abbrev RS := List Int × Int
def u8T (s : RS) : Nat × RS := (numOf (takeS s.1 s.2 1).1, (takeS s.1 s.2 1).2)
def u16T (s : RS) : Nat × RS := (numOf (takeS s.1 s.2 2).1, (takeS s.1 s.2 2).2)
def txtT (s : RS) : List Int × RS := ((textS s.1 s.2 24).1, (textS s.1 s.2 24).2)
def fdT (s : RS) : Fd × RS :=
  (((u16T s).1, (u16T (u16T s).2).1, (u8T (u16T (u16T s).2).2).1 + 1), (u8T (u16T (u16T s).2).2).2)
def fdsT : Nat → RS → List Fd × RS
  | 0, s => ([], s)
  | k + 1, s => ((fdsT k s).1 ++ [(fdT (fdsT k s).2).1], (fdT (fdsT k s).2).2)
def txsT : Nat → RS → List (List Int) × RS
  | 0, s => ([], s)
  | k + 1, s => ((txsT k s).1 ++ [(txtT (txsT k s).2).1], (txtT (txsT k s).2).2)
/-- the way, and what is left -/
def confT (s : RS) : Cn × RS :=
  let a := u8T s
  let b := u8T a.2
  let f := fdsT b.1 b.2
  let c := u8T f.2
  let t := txsT c.1 c.2
  (⟨f.1, t.1, (a.1 : Int)⟩, t.2)

theorem fdsT_len : ∀ (k : Nat) (s : RS), (fdsT k s).1.length = k
  | 0, _ => rfl
  | k + 1, s => by rw [fdsT, List.length_append, fdsT_len k s]; rfl
theorem txsT_len : ∀ (k : Nat) (s : RS), (txsT k s).1.length = k
  | 0, _ => rfl
  | k + 1, s => by rw [txsT, List.length_append, txsT_len k s]; rfl

/-! ### the way is read of its form -/
structure FmOk (C : Cn) : Prop where
  cap : 0 ≤ C.cap ∧ C.cap ≤ 255
  nf : C.fs.length ≤ 255
  fd : ∀ x ∈ C.fs, 0 ≤ x.1 ∧ x.1 ≤ 65535 ∧ 0 ≤ x.2.1 ∧ x.2.1 ≤ 65535 ∧ 1 ≤ x.2.2 ∧ x.2.2 ≤ 256
  ns : C.ss.length ≤ 255
  st : ∀ z ∈ C.ss, z.length ≤ 24 ∧ ByteOk z
theorem u8T_on (x : Int) (r : List Int) (h : 0 ≤ x ∧ x ≤ 255) : u8T (x :: r, 0) = (x.toNat, (r, 0)) := by
  have h2 : ¬ ((x :: r).length : Int) < 1 := by rw [List.length_cons]; omega
  unfold u8T takeS
  simp only [ne_eq, not_true_eq_false, if_false, h2, show ¬ ((1 : Int) < 0) by decide, show (1 : Int).toNat = 1 from rfl, List.take_succ_cons, List.take_zero, List.drop_succ_cons, List.drop_zero, numOf, numAcc, Nat.zero_mul, Nat.zero_add]
theorem u16T_on (v : Nat) (r : List Int) (h : v < 65536) : u16T (numBytes v 2 ++ r, 0) = (v, (r, 0)) := by
  have hl : (numBytes v 2).length = 2 := numBytes_len 2 v
  have e1 : (numBytes v 2 ++ r).take 2 = numBytes v 2 := by rw [← hl]; exact List.take_left
  have e2 : (numBytes v 2 ++ r).drop 2 = r := by rw [← hl]; exact List.drop_left
  unfold u16T takeS
  have h2 : ¬ ((numBytes v 2 ++ r).length : Int) < 2 := by rw [List.length_append, hl]; omega
  simp only [ne_eq, not_true_eq_false, if_false, h2, show ¬ ((2 : Int) < 0) by decide, show (2 : Int).toNat = 2 from rfl, e1, e2, numOf_numBytes 2 v (by omega)]
theorem txtT_on (z : List Int) (r : List Int) (h : z.length ≤ 24) : txtT (txt z ++ r, 0) = (z, (r, 0)) := by
  have ht : tlen (txt z ++ r) 24 = ((z.length : Int), 0) := by
    unfold tlen
    have e : (txt z ++ r).getD 0 0 = (z.length : Int) := rfl
    have el : (txt z ++ r).length = z.length + 1 + r.length := by rw [List.length_append]; rfl
    rw [e, el]
    rw [if_neg (by decide), if_neg (by omega), if_neg (by omega), if_neg (by omega)]
  unfold txtT textS
  rw [ht]
  have e1 : (txt z ++ r).take (1 + z.length) = txt z := by
    have : (txt z).length = 1 + z.length := by simp [txt]; omega
    rw [← this]; exact List.take_left
  have e2 : (txt z ++ r).drop (1 + z.length) = r := by
    have : (txt z).length = 1 + z.length := by simp [txt]; omega
    rw [← this]; exact List.drop_left
  simp only [ne_eq, not_true_eq_false, if_false, Int.toNat_natCast, e1, e2]
  rfl
theorem fdT_on (x : Fd) (r : List Int) (h : 0 ≤ x.1 ∧ x.1 ≤ 65535 ∧ 0 ≤ x.2.1 ∧ x.2.1 ≤ 65535 ∧ 1 ≤ x.2.2 ∧ x.2.2 ≤ 256) : fdT (fdB x ++ r, 0) = (x, (r, 0)) := by
  obtain ⟨a, b, n⟩ := x
  simp only at h
  unfold fdT fdB
  rw [List.append_assoc, List.append_assoc, List.singleton_append, u16T_on _ _ (by simp only; omega), u16T_on _ _ (by simp only; omega), u8T_on _ _ (by simp only; omega)]
  simp only [Prod.mk.injEq, and_true]
  omega
theorem fdsT_on : ∀ (fs : List Fd) (r : List Int) (s : RS) (k : Nat), (∀ x ∈ fs, 0 ≤ x.1 ∧ x.1 ≤ 65535 ∧ 0 ≤ x.2.1 ∧ x.2.1 ≤ 65535 ∧ 1 ≤ x.2.2 ∧ x.2.2 ≤ 256) → (fdsT k s).2 = (fs.flatMap fdB ++ r, 0) →
    fdsT (k + fs.length) s = ((fdsT k s).1 ++ fs, (r, 0))
  | [], r, s, k, _, h => by
    rw [List.length_nil, Nat.add_zero, List.append_nil]
    exact Prod.ext rfl h
  | x :: fs, r, s, k, hx, h => by
    have h1 : (fdsT (k + 1) s) = ((fdsT k s).1 ++ [x], (fs.flatMap fdB ++ r, 0)) := by
      rw [fdsT, h, List.flatMap_cons, List.append_assoc, fdT_on x _ (hx x (List.mem_cons_self ..))]
    have := fdsT_on fs r s (k + 1) (fun y hy => hx y (List.mem_cons_of_mem _ hy)) (by rw [h1])
    rw [h1] at this
    rw [List.length_cons, show k + (fs.length + 1) = k + 1 + fs.length by omega, this, List.append_assoc]
    rfl
theorem txsT_on : ∀ (ss : List (List Int)) (r : List Int) (s : RS) (k : Nat), (∀ z ∈ ss, z.length ≤ 24 ∧ ByteOk z) → (txsT k s).2 = (ss.flatMap txt ++ r, 0) →
    txsT (k + ss.length) s = ((txsT k s).1 ++ ss, (r, 0))
  | [], r, s, k, _, h => by
    rw [List.length_nil, Nat.add_zero, List.append_nil]
    exact Prod.ext rfl h
  | x :: fs, r, s, k, hx, h => by
    have h1 : (txsT (k + 1) s) = ((txsT k s).1 ++ [x], (fs.flatMap txt ++ r, 0)) := by
      rw [txsT, h, List.flatMap_cons, List.append_assoc, txtT_on x _ (hx x (List.mem_cons_self ..)).1]
    have := txsT_on fs r s (k + 1) (fun y hy => hx y (List.mem_cons_of_mem _ hy)) (by rw [h1])
    rw [h1] at this
    rw [List.length_cons, show k + (fs.length + 1) = k + 1 + fs.length by omega, this, List.append_assoc]
    rfl
theorem conf_on (C : Cn) (h : FmOk C) : confT (formP C, 0) = (C, ([], 0)) := by
  unfold confT formP
  have h1 := u8T_on C.cap ((C.fs.length : Int) :: (C.fs.flatMap fdB ++ (C.ss.length : Int) :: C.ss.flatMap txt)) h.cap
  have h2 := u8T_on (C.fs.length : Int) (C.fs.flatMap fdB ++ (C.ss.length : Int) :: C.ss.flatMap txt) (by have := h.nf; omega)
  have h3 := fdsT_on C.fs ((C.ss.length : Int) :: C.ss.flatMap txt) (C.fs.flatMap fdB ++ (C.ss.length : Int) :: C.ss.flatMap txt, 0) 0 h.fd rfl
  have h4 := u8T_on (C.ss.length : Int) (C.ss.flatMap txt) (by have := h.ns; omega)
  have h5 := txsT_on C.ss [] (C.ss.flatMap txt, 0) 0 h.st (by rw [List.append_nil]; rfl)
  rw [Nat.zero_add] at h3 h5
  simp only [h1, h2, Int.toNat_natCast, h3, h4, h5, fdsT, txsT, List.nil_append]
  have hc := h.cap
  rw [Int.toNat_of_nonneg hc.1]

/-! ### what is read has just these bytes -/
theorem take_back {zs : List Int} {er n : Int} (h : (takeS zs er n).2.2 = 0) (hn : 0 ≤ n) : er = 0 ∧ zs = (takeS zs er n).1 ++ (takeS zs er n).2.1 ∧ (takeS zs er n).1.length = n.toNat := by
  unfold takeS at h ⊢
  split at h
  · exact absurd h (by assumption)
  · split at h
    · omega
    · split at h
      · cases h
      · rename_i h1 h2 h3
        rw [if_neg h1, if_neg h2, if_neg h3]
        refine ⟨by omega, by simp, ?_⟩
        simp
        omega
theorem u8T_back {s : RS} (hb : ByteOk s.1) (h : (u8T s).2.2 = 0) : s.2 = 0 ∧ s.1 = ((u8T s).1 : Int) :: (u8T s).2.1 ∧ (u8T s).1 ≤ 255 := by
  obtain ⟨h1, h2, h3⟩ := take_back (n := 1) h (by decide)
  have hb2 := (takeS_ok s.1 s.2 1 hb).1
  obtain ⟨x, hx⟩ := List.length_eq_one_iff.1 (show (takeS s.1 s.2 1).1.length = 1 from h3)
  rw [hx] at hb2
  have hxx := hb2 x (by simp)
  have hn : (u8T s).1 = x.toNat := by show numOf _ = _; rw [hx]; simp [numOf, numAcc]
  refine ⟨h1, ?_, by rw [hn]; omega⟩
  rw [hn, Int.toNat_of_nonneg hxx.1]
  conv => lhs; rw [h2, hx]
  rfl
theorem u16T_back {s : RS} (hb : ByteOk s.1) (h : (u16T s).2.2 = 0) : s.2 = 0 ∧ s.1 = numBytes (u16T s).1 2 ++ (u16T s).2.1 := by
  obtain ⟨h1, h2, h3⟩ := take_back (n := 2) h (by decide)
  have hb2 := (takeS_ok s.1 s.2 2 hb).1
  refine ⟨h1, ?_⟩
  show _ = numBytes (numOf (takeS s.1 s.2 2).1) 2 ++ (takeS s.1 s.2 2).2.1
  rw [two_back hb2 h3]
  exact h2
theorem txtT_back {s : RS} (hb : ByteOk s.1) (h : (txtT s).2.2 = 0) : s.2 = 0 ∧ s.1 = txt (txtT s).1 ++ (txtT s).2.1 := by
  unfold txtT textS at h ⊢
  by_cases h1 : s.2 = 0
  · by_cases h2 : (tlen s.1 24).2 = 0
    · obtain ⟨q1, q2, q3, q4⟩ := tlen_ok s.1 24 hb h2
      simp only [h1, h2, ne_eq, not_true_eq_false, if_false] at h ⊢
      refine ⟨trivial, ?_⟩
      have hl : (tlen s.1 24).1 = s.1.getD 0 0 := by
        unfold tlen at h2 ⊢
        split at h2
        · cases h2
        · split at h2
          · cases h2
          · split at h2
            · cases h2
            · split at h2
              · cases h2
              · rename_i a b c d
                rw [if_neg a, if_neg b, if_neg c, if_neg d]
      generalize (tlen s.1 24).1 = L at *
      obtain ⟨zs, er⟩ := s
      simp only at *
      cases zs with
      | nil => simp at q4; omega
      | cons z zs =>
        simp only [List.getD_cons_zero] at hl
        subst hl
        rw [Nat.add_comm 1, List.take_succ_cons, List.drop_succ_cons, List.drop_succ_cons, List.drop_zero]
        unfold txt
        rw [List.length_take, Nat.min_eq_left (by simp at q4; omega), Int.toNat_of_nonneg q1, List.cons_append, List.take_append_drop]
    · simp only [h1, h2, ne_eq, not_true_eq_false, not_false_eq_true, if_false, if_true] at h
  · simp only [h1, ne_eq, not_false_eq_true, if_true] at h
theorem u8T_ok {s : RS} (hb : ByteOk s.1) : ByteOk (u8T s).2.1 := (takeS_ok s.1 s.2 1 hb).2
theorem u16T_ok {s : RS} (hb : ByteOk s.1) : ByteOk (u16T s).2.1 := (takeS_ok s.1 s.2 2 hb).2
theorem txtT_ok {s : RS} (hb : ByteOk s.1) : ByteOk (txtT s).2.1 ∧ ByteOk (txtT s).1 ∧ (txtT s).1.length ≤ 255 := by
  unfold txtT textS
  by_cases h1 : s.2 = 0
  · by_cases h2 : (tlen s.1 24).2 = 0
    · obtain ⟨q1, q2, q3, q4⟩ := tlen_ok s.1 24 hb h2
      simp only [h1, h2, ne_eq, not_true_eq_false, if_false]
      refine ⟨fun z hz => hb z (List.mem_of_mem_drop hz), fun z hz => hb z (List.mem_of_mem_take (List.mem_of_mem_drop hz)), ?_⟩
      simp
      omega
    · simp only [h1, h2, ne_eq, not_true_eq_false, not_false_eq_true, if_false, if_true]
      exact ⟨hb, (fun z hz => by cases hz), by simp⟩
  · simp only [h1, ne_eq, not_false_eq_true, if_true]
    exact ⟨hb, (fun z hz => by cases hz), by simp⟩
theorem fdT_ok {s : RS} (hb : ByteOk s.1) : ByteOk (fdT s).2.1 := u8T_ok (u16T_ok (u16T_ok hb))
theorem fdT_back {s : RS} (hb : ByteOk s.1) (h : (fdT s).2.2 = 0) : s.2 = 0 ∧ s.1 = fdB (fdT s).1 ++ (fdT s).2.1 := by
  obtain ⟨h3, e3, _⟩ := u8T_back (u16T_ok (u16T_ok hb)) h
  obtain ⟨h2, e2⟩ := u16T_back (u16T_ok hb) h3
  obtain ⟨h1, e1⟩ := u16T_back hb h2
  refine ⟨h1, ?_⟩
  rw [e1, e2, e3]
  unfold fdT fdB
  simp only [Int.toNat_natCast, List.append_assoc, List.singleton_append]
  congr 3
  omega
theorem fdsT_ok : ∀ (k : Nat) {s : RS}, ByteOk s.1 → ByteOk (fdsT k s).2.1
  | 0, _, h => h
  | k + 1, s, h => fdT_ok (fdsT_ok k h)
theorem txsT_ok : ∀ (k : Nat) {s : RS}, ByteOk s.1 → ByteOk (txsT k s).2.1
  | 0, _, h => h
  | k + 1, s, h => (txtT_ok (txsT_ok k h)).1
theorem fdsT_back : ∀ (k : Nat) {s : RS}, ByteOk s.1 → (fdsT k s).2.2 = 0 → s.2 = 0 ∧ s.1 = (fdsT k s).1.flatMap fdB ++ (fdsT k s).2.1
  | 0, _, _, h => ⟨h, rfl⟩
  | k + 1, s, hb, h => by
    obtain ⟨h1, e1⟩ := fdT_back (fdsT_ok k hb) h
    obtain ⟨h0, e0⟩ := fdsT_back k hb h1
    refine ⟨h0, ?_⟩
    rw [fdsT, List.flatMap_append, List.append_assoc]
    refine e0.trans ?_
    rw [List.flatMap_cons, List.flatMap_nil, List.append_nil]
    exact congrArg (_ ++ ·) e1
theorem txsT_back : ∀ (k : Nat) {s : RS}, ByteOk s.1 → (txsT k s).2.2 = 0 → s.2 = 0 ∧ s.1 = (txsT k s).1.flatMap txt ++ (txsT k s).2.1
  | 0, _, _, h => ⟨h, rfl⟩
  | k + 1, s, hb, h => by
    obtain ⟨h1, e1⟩ := txtT_back (txsT_ok k hb) h
    obtain ⟨h0, e0⟩ := txsT_back k hb h1
    refine ⟨h0, ?_⟩
    rw [txsT, List.flatMap_append, List.append_assoc]
    refine e0.trans ?_
    rw [List.flatMap_cons, List.flatMap_nil, List.append_nil]
    exact congrArg (_ ++ ·) e1
theorem conf_back {zs : List Int} (hb : ByteOk zs) (h : (confT (zs, 0)).2 = ([], 0)) : zs = formP (confT (zs, 0)).1 := by
  have e : confT (zs, 0) = (⟨(fdsT (u8T (u8T (zs, 0)).2).1 (u8T (u8T (zs, 0)).2).2).1, (txsT (u8T (fdsT (u8T (u8T (zs, 0)).2).1 (u8T (u8T (zs, 0)).2).2).2).1 (u8T (fdsT (u8T (u8T (zs, 0)).2).1 (u8T (u8T (zs, 0)).2).2).2).2).1, ((u8T (zs, 0)).1 : Int)⟩, (txsT (u8T (fdsT (u8T (u8T (zs, 0)).2).1 (u8T (u8T (zs, 0)).2).2).2).1 (u8T (fdsT (u8T (u8T (zs, 0)).2).1 (u8T (u8T (zs, 0)).2).2).2).2).2) := rfl
  rw [e] at h ⊢
  obtain ⟨a, ha⟩ : ∃ a, u8T (zs, 0) = a := ⟨_, rfl⟩
  obtain ⟨b, hbb⟩ : ∃ b, u8T a.2 = b := ⟨_, rfl⟩
  obtain ⟨f, hf⟩ : ∃ f, fdsT b.1 b.2 = f := ⟨_, rfl⟩
  obtain ⟨c, hc⟩ : ∃ c, u8T f.2 = c := ⟨_, rfl⟩
  obtain ⟨t, ht⟩ : ∃ t, txsT c.1 c.2 = t := ⟨_, rfl⟩
  have o0 : ByteOk ((zs, (0 : Int)) : RS).1 := hb
  have o1 : ByteOk a.2.1 := by rw [← ha]; exact u8T_ok o0
  have o2 : ByteOk b.2.1 := by rw [← hbb]; exact u8T_ok o1
  have o3 : ByteOk f.2.1 := by rw [← hf]; exact fdsT_ok _ o2
  have o4 : ByteOk c.2.1 := by rw [← hc]; exact u8T_ok o3
  simp only [ha, hbb, hf, hc, ht] at h ⊢
  have z5 : t.2.2 = 0 := by rw [h]
  obtain ⟨z4, e5⟩ := txsT_back c.1 o4 (by rw [ht]; exact z5)
  obtain ⟨z3, e4, _⟩ := u8T_back o3 (by rw [hc]; exact z4)
  obtain ⟨z2, e3⟩ := fdsT_back b.1 o2 (by rw [hf]; exact z3)
  obtain ⟨z1, e2, _⟩ := u8T_back o1 (by rw [hbb]; exact z2)
  obtain ⟨z0, e1, _⟩ := u8T_back o0 (by rw [ha]; exact z1)
  rw [ha] at e1
  rw [hbb] at e2
  rw [hf] at e3
  rw [hc] at e4
  rw [ht] at e5
  have lf : f.1.length = b.1 := by rw [← hf]; exact fdsT_len _ _
  have lt : t.1.length = c.1 := by rw [← ht]; exact txsT_len _ _
  unfold formP
  simp only at e1 ⊢
  rw [e1, e2, e3, e4, e5, lf, lt, h]
  simp

end Go.Proofs.YtimmfnjkknbofaaDoor
/- Contracts: a way's form, its bytes. -/
namespace Go.Proofs.YtimmfnjkknbofaaDoor
set_option maxRecDepth 20000
open Go.RowKit
set_option linter.unusedVariables false
set_option linter.unusedSimpArgs false
set_option maxRecDepth 100000

theorem infoB : (Tryd.prog.info? 5).map (fun i => (i.zero, i.size, i.bytes)) = some (some (.int .u8 0), 1, 1) := by kernel_rfl
theorem cell_belowW {w W : World} {a : Addr} {v : Value} (hb : Below w.heap.size w W) (h : w.cell? a = some v) : W.cell? a = some v := (World.cell?_of_block (w := w) (hb.block _ (World.block_lt_of_cell? w _ h))).trans h
/-- bytes that are owned -/
structure Ob (w : World) (base : Nat) (v : Value) (zs : List Int) : Prop where
  row : w.ownsRow base 5 1 v zs.length (zs.map (Value.int .u8))
  ok : ByteOk zs
theorem Ob.sl {w : World} {base : Nat} {v : Value} {zs : List Int} (h : Ob w base v zs) : Sl w v zs := sl_of_own h.row h.ok rfl
theorem Ob.shape {w : World} {base : Nat} {v : Value} {zs : List Int} (h : Ob w base v zs) : ∃ ao cap, v = .slice ao zs.length cap := own_form' h.row
theorem Ob.only {S : Nat → Prop} {w w' : World} {base : Nat} {v : Value} {zs : List Int} (h : Ob w base v zs) (ho : Only S w w') (hn : ∀ k, v.ownBlock = some k → ¬ S k) : Ob w' base v zs := ⟨ownsRow_only h.row ho hn, h.ok⟩
theorem Ob.fresh {w w' : World} {base : Nat} {v : Value} {zs : List Int} (h : Ob w base v zs) (hb : Below w.heap.size w w') : Ob w' base v zs := h.only (Only.of_below (fun _ => False) hb) (fun _ _ h => h)
theorem Ob.lt {w : World} {base : Nat} {v : Value} {zs : List Int} (h : Ob w base v zs) (k : Nat) (hk : v.ownBlock = some k) : base ≤ k ∧ k < w.heap.size := World.ownsRow.lt h.row k hk
theorem Ob.base {w : World} {b b' : Nat} {v : Value} {zs : List Int} (h : Ob w b v zs) (hb : b' ≤ b) : Ob w b' v zs := ⟨ownsRow_le' h.row hb, h.ok⟩
theorem ob_lit (w : World) (zs : List Int) (hb : ByteOk zs) (hm : zs.length ≤ maxLen) : Ob (w.alloc (.cells (zs.map (Value.int .u8)).toArray 5)) w.heap.size (.slice (some ⟨w.heap.size, 0, none⟩) zs.length zs.length) zs := by
  refine ⟨⟨by simp, .inr ⟨w.heap.size, zs.length, _, rfl, Nat.le_refl _, heap_alloc_new w _, Nat.le_refl _, hm, by simp, by simp; exact List.take_of_length_le (by simp)⟩⟩, hb⟩
/-- 'append(b, x)' -/
theorem run_append_b (w : World) (base : Nat) (v : Value) (zs : List Int) (h : Ob w base v zs) (x : Int) (hx : 0 ≤ x ∧ x ≤ 255) (hl : zs.length + 1 ≤ 1000000) (hb : base ≤ w.heap.size) :
    ∃ ao cap w', (Builtin.append_ #[26, 26] 26 #[v, .slice (some ⟨w.heap.size, 0, none⟩) 1 1]).run Tryd.prog (w.alloc (.cells #[.int .u8 x] 5)) = .ok (.slice ao (zs.length + 1) cap) w' ∧ Ob w' base (.slice ao (zs.length + 1) cap) (zs ++ [x]) ∧ Below base w w' := by
  obtain ⟨i0, hi, hz, hs, hby⟩ := info_parts infoB
  obtain ⟨v', w', hr, h1, h2, _, h4⟩ := run_append_own_at (P := Tryd.prog) (w.alloc (.cells #[.int .u8 x] 5)) base 26 26 5 i0 (.int .u8 0) 1 1 Tryd.underlying26 hi hz hs hby rfl (by decide) v zs.length (zs.map (Value.int .u8)) (World.ownsRow.alloc h.row _) ⟨w.heap.size, 0, none⟩ 1 1 [.int .u8 x] rfl
    (fun j u hj => by
      have hB := Blk.new w 5 [.int .u8 x]
      have hj0 : j < 1 := by have := (List.getElem?_eq_some_iff.1 hj).1; simpa using this
      obtain rfl : j = 0 := by omega
      have := hB.cell 0
      simp only [List.getElem?_cons_zero, Option.some.injEq] at hj
      subst hj
      exact this) (by intro u hu; simp at hu; subst hu; rfl) (by unfold maxLen; omega) (by omega) (by simp; omega)
  obtain ⟨ao, cap, rfl⟩ := own_form' h1
  refine ⟨ao, cap, w', hr, ⟨by simpa using h1, ?_⟩, ?_⟩
  · intro z hz
    rcases List.mem_append.1 hz with hz | hz
    · exact h.ok z hz
    · rw [List.mem_singleton] at hz
      omega
  · have ho : Only (fun q => v.ownBlock = some q) w w' := ((Only.refl _ w).alloc _).grown h2 (fun q e _ => e)
    exact ho.below hb (fun k hk e => by have := (h.lt k e).1; omega)
theorem cells_nums : ∀ (zs : List Int), ByteOk zs → Go.Lib.strCells (strOfNums zs) = zs.map (Value.int .u8) := by
  intro zs hb
  unfold Go.Lib.strCells strOfNums
  simp only [List.map_map]
  refine List.map_congr_left (fun z hz => ?_)
  have := hb z hz
  simp only [Function.comp, Value.int.injEq, true_and]
  rw [UInt8.toNat_ofNat']
  omega
/-- 'append(b, s...)' -/
theorem run_append_s (w : World) (base : Nat) (v : Value) (zs : List Int) (h : Ob w base v zs) (z : List Int) (hz : ByteOk z) (hl : zs.length + z.length ≤ 1000000) (hb : base ≤ w.heap.size) :
    ∃ ao cap w', (Builtin.append_ #[26, 9] 26 #[v, .string (strOfNums z)]).run Tryd.prog w = .ok (.slice ao (zs.length + z.length) cap) w' ∧ Ob w' base (.slice ao (zs.length + z.length) cap) (zs ++ z) ∧ Below base w w' := by
  obtain ⟨i0, hi, hz0, hs, hby⟩ := info_parts infoB
  have hsz : (strOfNums z).size = z.length := by simp [strOfNums, ByteArray.size]
  obtain ⟨v', w', hr, h1, h2, _⟩ := Go.Lib.run_append_own_string (P := Tryd.prog) (w := w) base 26 9 26 5 i0 Tryd.underlying26 Tryd.underlying9 hi hz0 hs hby v zs.length _ h.row (strOfNums z) (by unfold maxLen; omega) (by omega) hb
  rw [hsz, cells_nums z hz] at h1
  obtain ⟨ao, cap, rfl⟩ := own_form' h1
  refine ⟨ao, cap, w', hr, ⟨by simpa using h1, ?_⟩, ?_⟩
  · intro y hy
    rcases List.mem_append.1 hy with hy | hy
    · exact h.ok y hy
    · exact hz y hy
  · have ho : Only (fun q => v.ownBlock = some q) w w' := (Only.refl _ w).grown h2 (fun q e _ => e)
    exact ho.below hb (fun k hk e => by have := (h.lt k e).1; omega)

theorem wpList_append_run2 {P : Program} (w : World) {ops : Array Oper} {rest : List Oper} {o : Oper} {a : Act} {Q : Exit → Act → World → Prop} (hgd : o.guard = none) (s x : Operand) (t u : TypeId)
    (ho : o.op = .call { callee := .builtin .append, args := #[s, x], argTypes := #[t, u] }) (v y : Value) (hs : a.eval s = v) (hx : a.eval x = y) (v' : Value) (w' : World)
    (hr : (Builtin.append_ #[t, u] o.type #[v, y]).run P w = .ok v' w') (h : wpList P ops Q rest (a.put o.dst v') w') : wpList P ops Q (o :: rest) a w := by
  refine wpList_plain hgd fun _ hK => ?_
  unfold Oper.wp execOp
  simp only [ho, resolve, invoke, builtin, Sem.run_bind, Sem.run_pure, Result.andThen_ok, List.map_toArray, List.map_cons, List.map_nil, hs, hx, hr]
  exact hK _ _ h
theorem flat_snoc {α : Type} (l : List α) (f : α → List Int) (k : Nat) (x : α) (h : l[k]? = some x) : (l.take (k + 1)).flatMap f = (l.take k).flatMap f ++ f x := by
  rw [List.take_add_one, h, List.flatMap_append]
  simp
theorem flat_fd_len (fs : List Fd) : (fs.flatMap fdB).length = 5 * fs.length := by
  induction fs with
  | nil => rfl
  | cons x l ih =>
    rw [List.flatMap_cons, List.length_append, ih, List.length_cons]
    unfold fdB
    simp only [List.length_append, numBytes_len, List.length_cons, List.length_nil]
    omega
theorem flat_tx_len (ss : List (List Int)) (h : ∀ z ∈ ss, z.length ≤ 24) : (ss.flatMap txt).length ≤ 25 * ss.length := by
  induction ss with
  | nil => exact Nat.le_refl _
  | cons x l ih =>
    have := ih (fun z hz => h z (List.mem_cons_of_mem _ hz))
    have := h x (List.mem_cons_self ..)
    rw [List.flatMap_cons, List.length_append, List.length_cons]
    unfold txt at *
    rw [List.length_cons]
    omega

set_option maxHeartbeats 4000000 in
theorem wform_any (w : World) (v : Value) (C : Cn) (h : CnfV w v C) (hok : FmOk C) :
    Calls Tryd.prog 27 #[v] w fun e w' => ∃ u, e = .returned u ∧ Ob w' w.heap.size u (formP C) ∧ Below w.heap.size w w' := by
  obtain ⟨fo, fc, so, sc, w1, rfl, hw1, hb1, hB, hT, hS⟩ := box_cnf w v C h
  have c0 := hB.cell 0
  have c1 := hB.cell 1
  have c2 := hB.cell 2
  obtain ⟨K, hK⟩ : ∃ K, C.cap = K := ⟨_, rfl⟩
  obtain ⟨nf, hnf⟩ : ∃ K, C.fs.length = K := ⟨_, rfl⟩
  obtain ⟨ns, hns⟩ : ∃ K, C.ss.length = K := ⟨_, rfl⟩
  have hcap := hok.cap
  have hnfl := hok.nf
  have hnsl := hok.ns
  have HF : Hid (formP C = ([K, (nf : Int)] ++ C.fs.flatMap fdB) ++ [(ns : Int)] ++ C.ss.flatMap txt) := by
    show _ = _
    unfold formP
    rw [hK, hnf, hns]
    simp
  rw [hK] at c2 hcap hw1
  rw [hnf] at c0 hnfl hT hw1
  rw [hns] at c1 hnsl hS hw1
  simp only [List.getElem?_cons_zero, List.getElem?_cons_succ] at c0 c1 c2
  rw [hK, hnf, hns]
  have HT : Hid (∀ W, Below w1.heap.size w1 W → Tbl W (.slice fo nf fc) C.fs) := fun W hb => (hT.below hb1).below hb
  have HS : Hid (∀ W, Below w1.heap.size w1 W → Strs W (.slice so ns sc) C.ss) := fun W hb => (hS.below hb1).below hb
  have HW1 := hide hw1
  have HB1 := hide hb1
  have HNF := hide hnf
  have HNS := hide hns
  have HOK := hide hok
  have hsz1 : w1.heap.size = w.heap.size + 1 := by rw [← hw1]; simp
  have HSZ1 := hide hsz1
  have HBX : Hid (∀ W, Below w1.heap.size w1 W → W.cell? ⟨w.heap.size, 1, none⟩ = some (.slice so ns sc)) := fun W hb => cell_belowW hb c1
  obtain ⟨w2, hw2⟩ : ∃ w2, w1.alloc (.cells #[.int .u8 K, .int .u8 (nf : Int)] 5) = w2 := ⟨_, rfl⟩
  have hO2 : Ob w2 w1.heap.size (.slice (some ⟨w1.heap.size, 0, none⟩) 2 2) [K, (nf : Int)] := by
    rw [← hw2]
    exact ob_lit w1 [K, (nf : Int)] (fun z hz => by
      rcases List.mem_cons.1 hz with e | hz
      · subst e; omega
      · rw [List.mem_singleton] at hz; subst hz; omega) (by simp [maxLen])
  have hb2 : Below w1.heap.size w1 w2 := by rw [← hw2]; exact (Below.refl _ w1).alloc (Nat.le_refl _) _
  have HW2 := hide hw2
  have HO2 := hide hO2
  have HB2 := hide hb2
  have c0' := cell_belowW hb2 c0
  clear h hK hnf hns hT hS hB hb1 hok hsz1 hO2 hb2
  go_enter Tryd.func27, Tryd.ntmps27
  go_wp2
  clear hw1 hw2
  go_loopg [3, 19] nf (fun g l3 l19 wr => ∃ (k : Nat) (a : Option Addr) (n c : Nat), g + k = nf ∧ l19 = .int .i64 (k : Int) ∧ l3 = .slice a n c ∧ n = 2 + 5 * k ∧ Ob wr w1.heap.size (.slice a n c) ([K, (nf : Int)] ++ (C.fs.take k).flatMap fdB) ∧ Below w1.heap.size w1 wr)
  case atStart => exact ⟨0, _, 2, 2, by omega, rfl, rfl, rfl, by rw [List.take_zero]; exact HO2.out, HB2.out⟩
  case round =>
    obtain ⟨k, a, n, c, hg, rfl, rfl, hn, ho, hb⟩ := hrel
    have HO := hide ho
    have HB := hide hb
    have HG : Hid (gk + k = nf) := hg
    obtain ⟨GK, hGK⟩ : ∃ x, gk = x := ⟨_, rfl⟩
    have HGK := hide hGK
    obtain ⟨WR, hWR⟩ : ∃ y, y = wr := ⟨_, rfl⟩
    subst hWR
    clear ho hb hGK
    by_cases hk : k < nf
    · obtain ⟨fb, foff, x, rfl, hx, _, q0, q1, q2⟩ := (HT.out WR HB.out).at k (by have := HNF.out; omega)
      have hxm : x ∈ C.fs := List.mem_of_getElem? hx
      obtain ⟨e1, e2, e3, e4, e5, e6⟩ := HOK.out.fd x hxm
      have HX := hide hx
      obtain ⟨x0, x1, x2⟩ := x
      simp only at q0 q1 q2 e1 e2 e3 e4 e5 e6
      obtain ⟨F, rfl⟩ : ∃ F : Nat, x0 = (F : Int) := ⟨x0.toNat, by omega⟩
      obtain ⟨T, rfl⟩ : ∃ F : Nat, x1 = (F : Int) := ⟨x1.toNat, by omega⟩
      obtain ⟨W2, hW2⟩ : ∃ W2, WR.alloc (.cells #[.int .i32 (F : Int), .int .i32 (T : Int), .int .i64 x2] 54) = W2 := ⟨_, rfl⟩
      have hb2 : Below WR.heap.size WR W2 := by rw [← hW2]; exact (Below.refl _ WR).alloc (Nat.le_refl _) _
      have hB2 : Blk W2 WR.heap.size 54 [.int .i32 (F : Int), .int .i32 (T : Int), .int .i64 x2] := by rw [← hW2]; exact Blk.new WR _ _
      have hs2 : W2.heap.size = WR.heap.size + 1 := by rw [← hW2]; simp
      have r0 : W2.cell? ⟨WR.heap.size, 0, none⟩ = some (.int .i32 (F : Int)) := hB2.cell 0
      have HR1 : Hid (∀ W, Below W2.heap.size W2 W → W.cell? ⟨WR.heap.size, 1, none⟩ = some (.int .i32 (T : Int)) ∧ W.cell? ⟨WR.heap.size, 2, none⟩ = some (.int .i64 x2)) := fun W hb => ⟨cell_belowW hb (hB2.cell 1), cell_belowW hb (hB2.cell 2)⟩
      have hz1 := HB.out.size
      have hln : ([K, (nf : Int)] ++ (C.fs.take k).flatMap fdB).length = n := by rw [List.length_append, flat_fd_len, List.length_take, Nat.min_eq_left (by have := HNF.out; omega)]; simp; omega
      have HUA := hide (packU16_any W2 _ _ F ((HO.out.fresh hb2).sl) (by rw [hln]; omega) (by omega))
      have HU2 := hide (fun (W : World) (u : Value) (zs : List Int) (hu : Ob W w1.heap.size u zs) (hl : zs.length ≤ 5000) => packU16_any W u zs T hu.sl (by omega) (by omega))
      have HUB : Hid (∀ (W : World) (u : Value) (zs : List Int), Ob W w1.heap.size u zs → zs.length ≤ 5000 → w1.heap.size ≤ W.heap.size → ∃ ao cap w', (Builtin.append_ #[26, 26] 26 #[u, .slice (some ⟨W.heap.size, 0, none⟩) 1 1]).run Tryd.prog (W.alloc (.cells #[.int .u8 (x2 - 1)] 5)) = .ok (.slice ao (zs.length + 1) cap) w' ∧ Ob w' w1.heap.size (.slice ao (zs.length + 1) cap) (zs ++ [x2 - 1]) ∧ Below w1.heap.size W w') := fun W u zs hu hl hs => run_append_b W w1.heap.size u zs hu (x2 - 1) (by omega) (by omega) hs
      have HB12 : Hid (Below w1.heap.size w1 W2) := HB.out.trans (hb2.mono HB.out.size)
      have HLN := hide hln
      have hkk : (k : Int) < (nf : Int) := by omega
      have HOKB : Hid (ByteOk ([K, (nf : Int)] ++ (C.fs.take k).flatMap fdB)) := HO.out.ok
      have hn900 : n ≤ 2000 := by omega
      have HNN := hide hn
      clear hxm hx hB2 hb2 hln hn
      go_wp2_with (first
        | (go_at_call 53; refine HUA.out.mono ?_; rintro e w3 ⟨u3, rfl, ho3, hb3, _⟩; obtain ⟨a3, c3, rfl⟩ := own_form' ho3; have HO3 : Hid (Ob w3 w1.heap.size _ _) := (⟨ho3, fun z hz => by
            rcases List.mem_append.1 hz with h | h
            · exact HOKB.out z h
            · exact numBytes_ok 2 _ z h⟩ : Ob w3 W2.heap.size _ _).base HB12.out.size; have HB3 := hide hb3; have r1 := (HR1.out w3 hb3).1; rw [List.length_append, HLN.out, numBytes_len] at HO3 ⊢; clear HUA ho3 hb3)
        | (go_at_call 53; refine (HU2.out w3 _ _ HO3.out (by rw [List.length_append, HLN.out, numBytes_len]; omega)).mono ?_; rintro e w4 ⟨u4, rfl, ho4, hb4, _⟩; obtain ⟨a4, c4, rfl⟩ := own_form' ho4; have HO4 : Hid (Ob w4 w1.heap.size _ _) := (⟨ho4, fun z hz => by
            rcases List.mem_append.1 hz with h | h
            · exact HO3.out.ok z h
            · exact numBytes_ok 2 _ z h⟩ : Ob w4 w3.heap.size _ _).base (Nat.le_trans HB12.out.size HB3.out.size); have HB4 := hide (HB3.out.trans (hb4.mono HB3.out.size)); have r2 := (HR1.out w4 HB4.out).2; rw [List.length_append, List.length_append, HLN.out, numBytes_len, numBytes_len] at HO4 ⊢
           obtain ⟨a5, c5, w5, hr5, ho5, hb5⟩ := HUB.out w4 _ _ HO4.out (by rw [List.length_append, List.length_append, HLN.out, numBytes_len, numBytes_len]; omega) (Nat.le_trans HB12.out.size HB4.out.size)
           rw [List.length_append, List.length_append, HLN.out, numBytes_len, numBytes_len] at hr5 ho5
           have HR5 := hide hr5; have HO5 := hide ho5; have HB5 := hide hb5; clear HU2 HUB ho4 hb4 hr5 ho5 hb5)
        | (at_builtin; (with_reducible refine wpList_append_run _ rfl (.tmp 33) (.tmp 38) 26 rfl _ _ ?_ ?_ _ _ HR5.out ?_); exact rfl; exact rfl; clear HR5))
      go_roundg (GK - 1)
      case measure => have := HGK.out; have := HG.out; omega
      case rel =>
        refine ⟨k + 1, a5, _, c5, by have := HGK.out; have := HG.out; omega, by go_num, rfl, by have := HNN.out; omega, ?_, ?_⟩
        · have e := flat_snoc C.fs fdB k _ HX.out
          rw [e, show fdB ((F : Int), (T : Int), x2) = numBytes F 2 ++ (numBytes T 2 ++ [x2 - 1]) from rfl]
          have := HO5.out
          simpa using this
        · exact (HB12.out.trans (HB4.out.mono HB12.out.size)).trans HB5.out
    · obtain rfl : k = nf := by omega
      have hfull : C.fs.take k = C.fs := List.take_of_length_le (by have := HNF.out; omega)
      have hOa := HO.out
      rw [hfull] at hOa
      have hln : ([K, (k : Int)] ++ C.fs.flatMap fdB).length = n := by rw [List.length_append, flat_fd_len, HNF.out]; simp; omega
      have hz1 := HB.out.size
      obtain ⟨a6, c6, w6, hr6, ho6, hb6⟩ := run_append_b WR w1.heap.size _ _ hOa (ns : Int) (by omega) (by rw [hln]; omega) hz1
      rw [hln] at hr6 ho6
      have hbb6 : Below w1.heap.size w1 w6 := HB.out.trans hb6
      have r1 := HBX.out WR HB.out
      have r2 := HBX.out w6 hbb6
      have hn900 : n ≤ 2000 := by omega
      have HPL : Hid (([K, (k : Int)] ++ C.fs.flatMap fdB ++ [(ns : Int)]).length = n + 1) := by show _ = _; rw [List.length_append, hln]; rfl
      have HR6 := hide hr6
      have HO6 := hide ho6
      have HB6 := hide hbb6
      have HFD := hide HF.out
      obtain ⟨pre, hpre⟩ : ∃ pre, [K, (k : Int)] ++ C.fs.flatMap fdB ++ [(ns : Int)] = pre := ⟨_, rfl⟩
      rw [hpre] at HO6 HPL HFD
      clear hfull hOa hln hr6 ho6 hb6 hbb6 hn HF hpre
      go_wp2_with (at_builtin; (with_reducible refine wpList_append_run _ rfl (.tmp 41) (.tmp 46) 26 rfl _ _ ?_ ?_ _ _ HR6.out ?_); exact rfl; exact rfl; clear HR6)
      go_loopg [3, 51] ns (fun g l3 l51 wr => ∃ (j : Nat) (a : Option Addr) (m c : Nat), g + j = ns ∧ l51 = .int .i64 (j : Int) ∧ l3 = .slice a m c ∧ m = n + 1 + ((C.ss.take j).flatMap txt).length ∧ Ob wr w1.heap.size (.slice a m c) (pre ++ (C.ss.take j).flatMap txt) ∧ Below w1.heap.size w1 wr)
      case atStart => exact ⟨0, _, _, _, by omega, rfl, rfl, by rw [List.take_zero]; rfl, by rw [List.take_zero, List.flatMap_nil, List.append_nil]; exact HO6.out, HB6.out⟩
      case round =>
        obtain ⟨j, a, m, c, hg, rfl, rfl, hm, ho, hb⟩ := hrel
        have HO := hide ho
        have HB := hide hb
        have HG : Hid (gk + j = ns) := hg
        obtain ⟨GK, hGK⟩ : ∃ x, gk = x := ⟨_, rfl⟩
        have HGK := hide hGK
        have HM := hide hm
        have htl : ((C.ss.take j).flatMap txt).length ≤ 25 * 255 := by
          refine Nat.le_trans (flat_tx_len _ (fun z hz => (HOK.out.st z (List.mem_of_mem_take hz)).1)) ?_
          rw [List.length_take]
          have := HNS.out
          omega
        have hm2 : m ≤ 10000 := by omega
        clear ho hb hGK hm htl
        by_cases hk : j < ns
        · have hjl : j < C.ss.length := by have := HNS.out; omega
          obtain ⟨sb, soff, rfl, q0, hbz⟩ := (HS.out wr HB.out).at j hjl
          have hx : C.ss[j]? = some C.ss[j] := List.getElem?_eq_getElem hjl
          obtain ⟨z, hz⟩ : ∃ z, C.ss[j] = z := ⟨_, rfl⟩
          rw [hz] at q0 hbz hx
          have hzl : z.length ≤ 24 := (HOK.out.st z (List.mem_of_getElem? hx)).1
          obtain ⟨zn, hzn⟩ : ∃ zn, z.length = zn := ⟨_, rfl⟩
          rw [hzn] at hzl
          have hpm : (pre ++ (C.ss.take j).flatMap txt).length = m := by rw [List.length_append, HPL.out, HM.out]
          obtain ⟨a7, c7, w7, hr7, ho7, hb7⟩ := run_append_b wr w1.heap.size _ _ HO.out (zn : Int) (by omega) (by rw [hpm]; omega) HB.out.size
          have hpm7 : (pre ++ (C.ss.take j).flatMap txt ++ [(zn : Int)]).length = m + 1 := by rw [List.length_append, hpm]; rfl
          rw [hpm] at hr7 ho7
          obtain ⟨a8, c8, w8, hr8, ho8, hb8⟩ := run_append_s w7 w1.heap.size _ _ ho7 z hbz (by rw [hpm7, hzn]; omega) (Nat.le_trans HB.out.size (hb7.size))
          rw [hpm7, hzn] at hr8 ho8
          have hsz : ((strOfNums z).size : Int) = (zn : Int) := by rw [← hzn]; simp [strOfNums, ByteArray.size]
          have HR7 := hide hr7
          have HR8 := hide hr8
          have HO8 := hide ho8
          have HB8 := hide (HB.out.trans (hb7.trans hb8))
          have HX := hide hx
          have HZN := hide hzn
          have hjj : (j : Int) < (ns : Int) := by omega
          clear hz hx hzn hpm hr7 ho7 hb7 hpm7 hr8 ho8 hb8 hjl
          go_wp2_with (first
            | (at_builtin; (with_reducible refine wpList_append_run _ rfl (.tmp 55) (.tmp 59) 26 rfl _ _ ?_ ?_ _ _ HR7.out ?_); exact rfl; exact rfl; clear HR7)
            | (at_builtin; (with_reducible refine wpList_append_run2 _ rfl (.tmp 61) (.tmp 62) 26 9 rfl _ _ ?_ ?_ _ _ HR8.out ?_); exact rfl; exact rfl; clear HR8))
          go_roundg (GK - 1)
          case measure => have := HGK.out; have := HG.out; omega
          case rel =>
            have e := flat_snoc C.ss txt j _ HX.out
            refine ⟨j + 1, a8, _, c8, by have := HGK.out; have := HG.out; omega, by go_num, rfl, ?_, ?_, HB8.out⟩
            · rw [e, List.length_append, HM.out]
              have := HZN.out
              unfold txt
              rw [List.length_cons, this]
              omega
            · rw [e]
              have := HO8.out
              unfold txt
              rw [HZN.out]
              unfold txt at this
              simpa using this
        · obtain rfl : j = ns := by omega
          have hfull : C.ss.take j = C.ss := List.take_of_length_le (by have := HNS.out; omega)
          go_wp2
          go_ret
          refine ⟨_, rfl, ?_, HB1.out.trans (HB.out.mono HB1.out.size)⟩
          have := HO.out
          rw [hfull, ← HFD.out] at this
          exact this.base HB1.out.size

end Go.Proofs.YtimmfnjkknbofaaDoor
/- Contract: a way's bytes. -/
namespace Go.Proofs.YtimmfnjkknbofaaDoor
set_option maxRecDepth 20000
open Go.RowKit
set_option linter.unusedVariables false
set_option linter.unusedSimpArgs false
set_option maxRecDepth 100000

theorem fmL_len : ∀ l : List Nat, (∀ r ∈ l, letN r = true) → (fmL l).length ≤ 2 * l.length
  | [], _ => Nat.zero_le _
  | r :: l, h => by
    have h1 := (letN_len (h r (List.mem_cons_self ..))).2
    have h2 := fmL_len l (fun x hx => h x (List.mem_cons_of_mem _ hx))
    rw [fmL_cons, List.length_append, List.length_cons]
    omega
theorem goS_mem (us : List Fd) (m : Nat) : ∀ (ss : List (List Int)) (o : Option (List Int)), goS us m o ss = true → ∀ z ∈ ss, ownB us m z = true
  | [], _, _, z, hz => by cases hz
  | s :: ss, none, h, z, hz => by
    rw [goS, Bool.and_eq_true] at h
    rcases List.mem_cons.1 hz with e | hz
    · rw [e]; exact h.1
    · exact goS_mem us m ss _ h.2 z hz
  | s :: ss, some q, h, z, hz => by
    rw [goS, Bool.and_eq_true, Bool.and_eq_true] at h
    rcases List.mem_cons.1 hz with e | hz
    · rw [e]; exact h.1.2
    · exact goS_mem us m ss _ h.2 z hz
theorem ownB_len {xs : List Fd} {m : Nat} {z : List Int} (h : ownB (useL xs) m z = true) : z.length ≤ 2 * m := by
  unfold ownB at h
  simp only [Bool.and_eq_true, decide_eq_true_iff] at h
  obtain ⟨⟨_, h2⟩, h3⟩ := h
  have hl := (led_all h2).1
  rw [← h3]
  unfold termZ
  have := fmL_len _ (termR_let xs m hl)
  have h4 : (termR (useL xs) m (rs z)).length ≤ m := by unfold termR; rw [List.length_map, List.length_take]; omega
  omega
theorem mayC_fm {C : Cn} (h : mayC C = true) (hb : ∀ z ∈ C.ss, ByteOk z) : FmOk C := by
  unfold mayC at h
  simp only [Bool.and_eq_true, decide_eq_true_iff] at h
  obtain ⟨⟨⟨h1, h2⟩, h3⟩, h4⟩ := h
  unfold tblB at h1
  simp only [Bool.and_eq_true, decide_eq_true_iff, Bool.not_eq_true'] at h1
  obtain ⟨⟨⟨q1, q2⟩, _⟩, _⟩ := h1
  unfold stopsB at h4
  simp only [Bool.and_eq_true, decide_eq_true_iff] at h4
  have hn := no_ok q2
  refine ⟨by omega, by omega, fun x hx => ?_, by omega, fun z hz => ⟨?_, hb z hz⟩⟩
  · obtain ⟨⟨a1, a2⟩, a3, a4, a5, a6⟩ := hn x hx
    omega
  · have := ownB_len (goS_mem _ _ _ _ h4.2 z hz)
    omega
theorem formP_len {C : Cn} (h : FmOk C) : (formP C).length ≤ 10000 := by
  unfold formP
  have h1 := flat_fd_len C.fs
  have h2 := flat_tx_len C.ss (fun z hz => (h.st z hz).1)
  have := h.nf
  have := h.ns
  simp only [List.length_cons, List.length_append]
  omega

def bytE (C : Cn) : Int := if mayC C = true then (if (formP C).length ≤ 240 then 0 else 3) else 140
def bytL (C : Cn) : List Int := if mayC C = true ∧ (formP C).length ≤ 240 then formP C else []
theorem Ob.nil (w : World) (base : Nat) : Ob w base (.slice none 0 0) [] := ⟨World.ownsRow_nil _ _ _ _, fun z hz => by cases hz⟩

set_option maxHeartbeats 2000000 in
theorem bytes_any (w : World) (v : Value) (C : Cn) (h : CnfV w v C) (hok : CnOk C) (hL : Let w) :
    Calls Tryd.prog 8 #[v] w fun e w' => ∃ u, e = .returned (.tuple #[u, .int .i64 (bytE C)]) ∧ Ob w' w.heap.size u (bytL C) ∧ Below w.heap.size w w' := by
  have hbz := h
  obtain ⟨fo, fc, so, sc, w1, rfl, hw1, hb1, hB, hT, hS⟩ := box_cnf w v C h
  have HCK := hide (checkC_any w1 _ C (h.below hb1) hok (hL.below hb1))
  have HFM : Hid (mayC C = true → ∀ W, Below w1.heap.size w1 W → Calls Tryd.prog 27 #[.agg #[.slice fo C.fs.length fc, .slice so C.ss.length sc, .int .i64 C.cap]] W fun e w' => ∃ u, e = .returned u ∧ Ob w' W.heap.size u (formP C) ∧ Below W.heap.size W w') := fun hm W hb => wform_any W _ C ((h.below hb1).below hb) (mayC_fm hm (fun z hz => hS.1 z hz))
  have c0 := hB.cell 0
  have c1 := hB.cell 1
  have c2 := hB.cell 2
  simp only [List.getElem?_cons_zero, List.getElem?_cons_succ] at c0 c1 c2
  have HBX : Hid (∀ W, Below w1.heap.size w1 W → W.cell? ⟨w.heap.size, 0, none⟩ = some (.slice fo C.fs.length fc) ∧ W.cell? ⟨w.heap.size, 1, none⟩ = some (.slice so C.ss.length sc) ∧ W.cell? ⟨w.heap.size, 2, none⟩ = some (.int .i64 C.cap)) := fun W hb => ⟨cell_belowW hb c0, cell_belowW hb c1, cell_belowW hb c2⟩
  obtain ⟨fn, hfn⟩ : ∃ n, C.fs.length = n := ⟨_, rfl⟩
  obtain ⟨sn, hsn⟩ : ∃ n, C.ss.length = n := ⟨_, rfl⟩
  obtain ⟨K, hK⟩ : ∃ n, C.cap = n := ⟨_, rfl⟩
  rw [hfn] at hw1 c0 HCK HFM HBX ⊢
  rw [hsn] at hw1 c1 HCK HFM HBX ⊢
  rw [hK] at hw1 c2 HCK HFM HBX ⊢
  have HE : Hid (mayE C = if mayC C = true then 0 else 140) := rfl
  have HB1 := hide hb1
  clear h hT hS hB hb1 hok hL hfn hsn hK hbz
  cases hM : mayC C with
  | false =>
    rw [HE.out, hM, if_neg (by simp)] at HCK
    have e1 : bytE C = 140 := by unfold bytE; rw [if_neg (by rw [hM]; simp)]
    have e2 : bytL C = [] := by unfold bytL; rw [if_neg (by rw [hM]; simp)]
    rw [e1, e2]
    clear hM HE HFM e1 e2
    go_enter Tryd.func8, Tryd.ntmps8
    go_wp2_with (go_at_call 12; refine HCK.out.mono ?_; rintro e w2 ⟨rfl, hb⟩; have HB2 := hide (HB1.out.trans (hb.mono HB1.out.size)); clear HCK hb)
    go_ret2
    exact ⟨_, rfl, Ob.nil _ _, HB2.out⟩
  | true =>
    rw [HE.out, hM, if_pos rfl] at HCK
    have HF2 := hide (HFM.out hM)
    obtain ⟨fl, hfl⟩ : ∃ l, (formP C).length = l := ⟨_, rfl⟩
    by_cases h240 : fl ≤ 240
    · have e1 : bytE C = 0 := by unfold bytE; rw [if_pos hM, if_pos (by omega)]
      have e2 : bytL C = formP C := by unfold bytL; rw [if_pos ⟨hM, by omega⟩]
      have hgt : ¬ (240 : Int) < (fl : Int) := by omega
      have HFL := hide hfl
      rw [e1, e2]
      clear hM HE HFM e1 e2 hfl
      go_enter Tryd.func8, Tryd.ntmps8
      go_wp2_with (first
        | (go_at_call 12; refine HCK.out.mono ?_; rintro e w2 ⟨rfl, hb⟩; obtain ⟨d0, d1, d2⟩ := HBX.out w2 hb; have HB2 := hide hb; clear HCK hb)
        | (go_at_call 27; refine (HF2.out w2 HB2.out).mono ?_; rintro e w3 ⟨u, rfl, ho, hb⟩; obtain ⟨ua, uc, rfl⟩ := ho.shape; have HO := hide ho; have HB3 := hide (HB2.out.trans (hb.mono HB2.out.size)); rw [HFL.out] at HO ⊢; have HZ := hide (Nat.le_trans HB1.out.size HB2.out.size); clear HF2 ho hb))
      go_ret2
      exact ⟨_, rfl, HO.out.base HZ.out, HB1.out.trans (HB3.out.mono HB1.out.size)⟩
    · have e1 : bytE C = 3 := by unfold bytE; rw [if_pos hM, if_neg (by omega)]
      have e2 : bytL C = [] := by unfold bytL; rw [if_neg (by rintro ⟨_, h⟩; omega)]
      have hgt : (240 : Int) < (fl : Int) := by omega
      have HFL := hide hfl
      rw [e1, e2]
      clear hM HE HFM e1 e2 hfl
      go_enter Tryd.func8, Tryd.ntmps8
      go_wp2_with (first
        | (go_at_call 12; refine HCK.out.mono ?_; rintro e w2 ⟨rfl, hb⟩; obtain ⟨d0, d1, d2⟩ := HBX.out w2 hb; have HB2 := hide hb; clear HCK hb)
        | (go_at_call 27; refine (HF2.out w2 HB2.out).mono ?_; rintro e w3 ⟨u, rfl, ho, hb⟩; obtain ⟨ua, uc, rfl⟩ := ho.shape; have HB3 := hide (HB2.out.trans (hb.mono HB2.out.size)); rw [HFL.out]; clear HF2 ho hb))
      go_ret2
      exact ⟨_, rfl, Ob.nil _ _, HB1.out.trans (HB3.out.mono HB1.out.size)⟩

end Go.Proofs.YtimmfnjkknbofaaDoor
