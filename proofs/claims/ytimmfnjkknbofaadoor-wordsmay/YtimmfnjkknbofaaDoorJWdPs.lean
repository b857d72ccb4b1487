/- A way's form, pure: its bytes, what is read of bytes; that a way is read of its form as it was, and that what is read has just these bytes. No program. -/
import Derived.Test.YtimmfnjkknbofaaDoorJNRd
import Derived.Test.YtimmfnjkknbofaaDoorJWdTerm
namespace Go.Proofs.YtimmfnjkknbofaaDoor
set_option maxRecDepth 20000
open Go.RowKit
set_option linter.unusedVariables false
set_option linter.unusedSimpArgs false

theorem numAcc_snoc : ∀ (l : List Int) (acc : Nat) (c : Int), numAcc acc (l ++ [c]) = numAcc acc l * 256 + c.toNat
  | [], _, _ => rfl
  | x :: l, acc, c => by
    rw [List.cons_append, numAcc, numAcc_snoc l, numAcc]
theorem numOf_numBytes : ∀ (n x : Nat), x < 256 ^ n → numOf (numBytes x n) = x
  | 0, x, h => by
    simp at h
    subst h
    rfl
  | n + 1, x, h => by
    rw [Nat.pow_succ] at h
    have ih := numOf_numBytes n (x / 256) (by omega)
    unfold numOf at ih ⊢
    rw [numBytes, numAcc_snoc, ih]
    omega
theorem two_back {l : List Int} (hb : ByteOk l) (h : l.length = 2) : numBytes (numOf l) 2 = l := by
  match l, h with
  | [a, b], _ =>
    have h1 := hb a (by simp)
    have h2 := hb b (by simp)
    simp only [numOf, numAcc, numBytes, List.nil_append, List.cons_append, Nat.zero_mul, Nat.zero_add]
    have e1 : (((a.toNat * 256 + b.toNat) / 256 % 256 : Nat) : Int) = a := by omega
    have e2 : (((a.toNat * 256 + b.toNat) % 256 : Nat) : Int) = b := by omega
    simp [e1, e2]
    omega

/-! ### the form -/
def fdB (x : Fd) : List Int := numBytes x.1.toNat 2 ++ (numBytes x.2.1.toNat 2 ++ [x.2.2 - 1])
def formP (C : Cn) : List Int := C.cap :: (C.fs.length : Int) :: (C.fs.flatMap fdB ++ (C.ss.length : Int) :: C.ss.flatMap txt)

/-! ### what is read -/
abbrev RS := List Int × Int
def u8T (s : RS) : Nat × RS := (numOf (takeS s.1 s.2 1).1, (takeS s.1 s.2 1).2)
def u16T (s : RS) : Nat × RS := (numOf (takeS s.1 s.2 2).1, (takeS s.1 s.2 2).2)
def txtT (s : RS) : List Int × RS := ((textS s.1 s.2 24).1, (textS s.1 s.2 24).2)
def fdT (s : RS) : Fd × RS :=
  (((u16T s).1, (u16T (u16T s).2).1, (u8T (u16T (u16T s).2).2).1 + 1), (u8T (u16T (u16T s).2).2).2)
def fdsT : Nat → RS → List Fd × RS
  | 0, s => ([], s)
  | k + 1, s => ((fdsT k s).1 ++ [(fdT (fdsT k s).2).1], (fdT (fdsT k s).2).2)
def txsT : Nat → RS → List (List Int) × RS
  | 0, s => ([], s)
  | k + 1, s => ((txsT k s).1 ++ [(txtT (txsT k s).2).1], (txtT (txsT k s).2).2)
/-- the way, and what is left -/
def confT (s : RS) : Cn × RS :=
  let a := u8T s
  let b := u8T a.2
  let f := fdsT b.1 b.2
  let c := u8T f.2
  let t := txsT c.1 c.2
  (⟨f.1, t.1, (a.1 : Int)⟩, t.2)

theorem fdsT_len : ∀ (k : Nat) (s : RS), (fdsT k s).1.length = k
  | 0, _ => rfl
  | k + 1, s => by rw [fdsT, List.length_append, fdsT_len k s]; rfl
theorem txsT_len : ∀ (k : Nat) (s : RS), (txsT k s).1.length = k
  | 0, _ => rfl
  | k + 1, s => by rw [txsT, List.length_append, txsT_len k s]; rfl

/-! ### the way is read of its form -/
structure FmOk (C : Cn) : Prop where
  cap : 0 ≤ C.cap ∧ C.cap ≤ 255
  nf : C.fs.length ≤ 255
  fd : ∀ x ∈ C.fs, 0 ≤ x.1 ∧ x.1 ≤ 65535 ∧ 0 ≤ x.2.1 ∧ x.2.1 ≤ 65535 ∧ 1 ≤ x.2.2 ∧ x.2.2 ≤ 256
  ns : C.ss.length ≤ 255
  st : ∀ z ∈ C.ss, z.length ≤ 24 ∧ ByteOk z
theorem u8T_on (x : Int) (r : List Int) (h : 0 ≤ x ∧ x ≤ 255) : u8T (x :: r, 0) = (x.toNat, (r, 0)) := by
  have h2 : ¬ ((x :: r).length : Int) < 1 := by rw [List.length_cons]; omega
  unfold u8T takeS
  simp only [ne_eq, not_true_eq_false, if_false, h2, show ¬ ((1 : Int) < 0) by decide, show (1 : Int).toNat = 1 from rfl, List.take_succ_cons, List.take_zero, List.drop_succ_cons, List.drop_zero, numOf, numAcc, Nat.zero_mul, Nat.zero_add]
theorem u16T_on (v : Nat) (r : List Int) (h : v < 65536) : u16T (numBytes v 2 ++ r, 0) = (v, (r, 0)) := by
  have hl : (numBytes v 2).length = 2 := numBytes_len 2 v
  have e1 : (numBytes v 2 ++ r).take 2 = numBytes v 2 := by rw [← hl]; exact List.take_left
  have e2 : (numBytes v 2 ++ r).drop 2 = r := by rw [← hl]; exact List.drop_left
  unfold u16T takeS
  have h2 : ¬ ((numBytes v 2 ++ r).length : Int) < 2 := by rw [List.length_append, hl]; omega
  simp only [ne_eq, not_true_eq_false, if_false, h2, show ¬ ((2 : Int) < 0) by decide, show (2 : Int).toNat = 2 from rfl, e1, e2, numOf_numBytes 2 v (by omega)]
theorem txtT_on (z : List Int) (r : List Int) (h : z.length ≤ 24) : txtT (txt z ++ r, 0) = (z, (r, 0)) := by
  have ht : tlen (txt z ++ r) 24 = ((z.length : Int), 0) := by
    unfold tlen
    have e : (txt z ++ r).getD 0 0 = (z.length : Int) := rfl
    have el : (txt z ++ r).length = z.length + 1 + r.length := by rw [List.length_append]; rfl
    rw [e, el]
    rw [if_neg (by decide), if_neg (by omega), if_neg (by omega), if_neg (by omega)]
  unfold txtT textS
  rw [ht]
  have e1 : (txt z ++ r).take (1 + z.length) = txt z := by
    have : (txt z).length = 1 + z.length := by simp [txt]; omega
    rw [← this]; exact List.take_left
  have e2 : (txt z ++ r).drop (1 + z.length) = r := by
    have : (txt z).length = 1 + z.length := by simp [txt]; omega
    rw [← this]; exact List.drop_left
  simp only [ne_eq, not_true_eq_false, if_false, Int.toNat_natCast, e1, e2]
  rfl
theorem fdT_on (x : Fd) (r : List Int) (h : 0 ≤ x.1 ∧ x.1 ≤ 65535 ∧ 0 ≤ x.2.1 ∧ x.2.1 ≤ 65535 ∧ 1 ≤ x.2.2 ∧ x.2.2 ≤ 256) : fdT (fdB x ++ r, 0) = (x, (r, 0)) := by
  obtain ⟨a, b, n⟩ := x
  simp only at h
  unfold fdT fdB
  rw [List.append_assoc, List.append_assoc, List.singleton_append, u16T_on _ _ (by simp only; omega), u16T_on _ _ (by simp only; omega), u8T_on _ _ (by simp only; omega)]
  simp only [Prod.mk.injEq, and_true]
  omega
theorem fdsT_on : ∀ (fs : List Fd) (r : List Int) (s : RS) (k : Nat), (∀ x ∈ fs, 0 ≤ x.1 ∧ x.1 ≤ 65535 ∧ 0 ≤ x.2.1 ∧ x.2.1 ≤ 65535 ∧ 1 ≤ x.2.2 ∧ x.2.2 ≤ 256) → (fdsT k s).2 = (fs.flatMap fdB ++ r, 0) →
    fdsT (k + fs.length) s = ((fdsT k s).1 ++ fs, (r, 0))
  | [], r, s, k, _, h => by
    rw [List.length_nil, Nat.add_zero, List.append_nil]
    exact Prod.ext rfl h
  | x :: fs, r, s, k, hx, h => by
    have h1 : (fdsT (k + 1) s) = ((fdsT k s).1 ++ [x], (fs.flatMap fdB ++ r, 0)) := by
      rw [fdsT, h, List.flatMap_cons, List.append_assoc, fdT_on x _ (hx x (List.mem_cons_self ..))]
    have := fdsT_on fs r s (k + 1) (fun y hy => hx y (List.mem_cons_of_mem _ hy)) (by rw [h1])
    rw [h1] at this
    rw [List.length_cons, show k + (fs.length + 1) = k + 1 + fs.length by omega, this, List.append_assoc]
    rfl
theorem txsT_on : ∀ (ss : List (List Int)) (r : List Int) (s : RS) (k : Nat), (∀ z ∈ ss, z.length ≤ 24 ∧ ByteOk z) → (txsT k s).2 = (ss.flatMap txt ++ r, 0) →
    txsT (k + ss.length) s = ((txsT k s).1 ++ ss, (r, 0))
  | [], r, s, k, _, h => by
    rw [List.length_nil, Nat.add_zero, List.append_nil]
    exact Prod.ext rfl h
  | x :: fs, r, s, k, hx, h => by
    have h1 : (txsT (k + 1) s) = ((txsT k s).1 ++ [x], (fs.flatMap txt ++ r, 0)) := by
      rw [txsT, h, List.flatMap_cons, List.append_assoc, txtT_on x _ (hx x (List.mem_cons_self ..)).1]
    have := txsT_on fs r s (k + 1) (fun y hy => hx y (List.mem_cons_of_mem _ hy)) (by rw [h1])
    rw [h1] at this
    rw [List.length_cons, show k + (fs.length + 1) = k + 1 + fs.length by omega, this, List.append_assoc]
    rfl
theorem conf_on (C : Cn) (h : FmOk C) : confT (formP C, 0) = (C, ([], 0)) := by
  unfold confT formP
  have h1 := u8T_on C.cap ((C.fs.length : Int) :: (C.fs.flatMap fdB ++ (C.ss.length : Int) :: C.ss.flatMap txt)) h.cap
  have h2 := u8T_on (C.fs.length : Int) (C.fs.flatMap fdB ++ (C.ss.length : Int) :: C.ss.flatMap txt) (by have := h.nf; omega)
  have h3 := fdsT_on C.fs ((C.ss.length : Int) :: C.ss.flatMap txt) (C.fs.flatMap fdB ++ (C.ss.length : Int) :: C.ss.flatMap txt, 0) 0 h.fd rfl
  have h4 := u8T_on (C.ss.length : Int) (C.ss.flatMap txt) (by have := h.ns; omega)
  have h5 := txsT_on C.ss [] (C.ss.flatMap txt, 0) 0 h.st (by rw [List.append_nil]; rfl)
  rw [Nat.zero_add] at h3 h5
  simp only [h1, h2, Int.toNat_natCast, h3, h4, h5, fdsT, txsT, List.nil_append]
  have hc := h.cap
  rw [Int.toNat_of_nonneg hc.1]

/-! ### what is read has just these bytes -/
theorem take_back {zs : List Int} {er n : Int} (h : (takeS zs er n).2.2 = 0) (hn : 0 ≤ n) : er = 0 ∧ zs = (takeS zs er n).1 ++ (takeS zs er n).2.1 ∧ (takeS zs er n).1.length = n.toNat := by
  unfold takeS at h ⊢
  split at h
  · exact absurd h (by assumption)
  · split at h
    · omega
    · split at h
      · cases h
      · rename_i h1 h2 h3
        rw [if_neg h1, if_neg h2, if_neg h3]
        refine ⟨by omega, by simp, ?_⟩
        simp
        omega
theorem u8T_back {s : RS} (hb : ByteOk s.1) (h : (u8T s).2.2 = 0) : s.2 = 0 ∧ s.1 = ((u8T s).1 : Int) :: (u8T s).2.1 ∧ (u8T s).1 ≤ 255 := by
  obtain ⟨h1, h2, h3⟩ := take_back (n := 1) h (by decide)
  have hb2 := (takeS_ok s.1 s.2 1 hb).1
  obtain ⟨x, hx⟩ := List.length_eq_one_iff.1 (show (takeS s.1 s.2 1).1.length = 1 from h3)
  rw [hx] at hb2
  have hxx := hb2 x (by simp)
  have hn : (u8T s).1 = x.toNat := by show numOf _ = _; rw [hx]; simp [numOf, numAcc]
  refine ⟨h1, ?_, by rw [hn]; omega⟩
  rw [hn, Int.toNat_of_nonneg hxx.1]
  conv => lhs; rw [h2, hx]
  rfl
theorem u16T_back {s : RS} (hb : ByteOk s.1) (h : (u16T s).2.2 = 0) : s.2 = 0 ∧ s.1 = numBytes (u16T s).1 2 ++ (u16T s).2.1 := by
  obtain ⟨h1, h2, h3⟩ := take_back (n := 2) h (by decide)
  have hb2 := (takeS_ok s.1 s.2 2 hb).1
  refine ⟨h1, ?_⟩
  show _ = numBytes (numOf (takeS s.1 s.2 2).1) 2 ++ (takeS s.1 s.2 2).2.1
  rw [two_back hb2 h3]
  exact h2
theorem txtT_back {s : RS} (hb : ByteOk s.1) (h : (txtT s).2.2 = 0) : s.2 = 0 ∧ s.1 = txt (txtT s).1 ++ (txtT s).2.1 := by
  unfold txtT textS at h ⊢
  by_cases h1 : s.2 = 0
  · by_cases h2 : (tlen s.1 24).2 = 0
    · obtain ⟨q1, q2, q3, q4⟩ := tlen_ok s.1 24 hb h2
      simp only [h1, h2, ne_eq, not_true_eq_false, if_false] at h ⊢
      refine ⟨trivial, ?_⟩
      have hl : (tlen s.1 24).1 = s.1.getD 0 0 := by
        unfold tlen at h2 ⊢
        split at h2
        · cases h2
        · split at h2
          · cases h2
          · split at h2
            · cases h2
            · split at h2
              · cases h2
              · rename_i a b c d
                rw [if_neg a, if_neg b, if_neg c, if_neg d]
      generalize (tlen s.1 24).1 = L at *
      obtain ⟨zs, er⟩ := s
      simp only at *
      cases zs with
      | nil => simp at q4; omega
      | cons z zs =>
        simp only [List.getD_cons_zero] at hl
        subst hl
        rw [Nat.add_comm 1, List.take_succ_cons, List.drop_succ_cons, List.drop_succ_cons, List.drop_zero]
        unfold txt
        rw [List.length_take, Nat.min_eq_left (by simp at q4; omega), Int.toNat_of_nonneg q1, List.cons_append, List.take_append_drop]
    · simp only [h1, h2, ne_eq, not_true_eq_false, not_false_eq_true, if_false, if_true] at h
  · simp only [h1, ne_eq, not_false_eq_true, if_true] at h
theorem u8T_ok {s : RS} (hb : ByteOk s.1) : ByteOk (u8T s).2.1 := (takeS_ok s.1 s.2 1 hb).2
theorem u16T_ok {s : RS} (hb : ByteOk s.1) : ByteOk (u16T s).2.1 := (takeS_ok s.1 s.2 2 hb).2
theorem txtT_ok {s : RS} (hb : ByteOk s.1) : ByteOk (txtT s).2.1 ∧ ByteOk (txtT s).1 ∧ (txtT s).1.length ≤ 255 := by
  unfold txtT textS
  by_cases h1 : s.2 = 0
  · by_cases h2 : (tlen s.1 24).2 = 0
    · obtain ⟨q1, q2, q3, q4⟩ := tlen_ok s.1 24 hb h2
      simp only [h1, h2, ne_eq, not_true_eq_false, if_false]
      refine ⟨fun z hz => hb z (List.mem_of_mem_drop hz), fun z hz => hb z (List.mem_of_mem_take (List.mem_of_mem_drop hz)), ?_⟩
      simp
      omega
    · simp only [h1, h2, ne_eq, not_true_eq_false, not_false_eq_true, if_false, if_true]
      exact ⟨hb, (fun z hz => by cases hz), by simp⟩
  · simp only [h1, ne_eq, not_false_eq_true, if_true]
    exact ⟨hb, (fun z hz => by cases hz), by simp⟩
theorem fdT_ok {s : RS} (hb : ByteOk s.1) : ByteOk (fdT s).2.1 := u8T_ok (u16T_ok (u16T_ok hb))
theorem fdT_back {s : RS} (hb : ByteOk s.1) (h : (fdT s).2.2 = 0) : s.2 = 0 ∧ s.1 = fdB (fdT s).1 ++ (fdT s).2.1 := by
  obtain ⟨h3, e3, _⟩ := u8T_back (u16T_ok (u16T_ok hb)) h
  obtain ⟨h2, e2⟩ := u16T_back (u16T_ok hb) h3
  obtain ⟨h1, e1⟩ := u16T_back hb h2
  refine ⟨h1, ?_⟩
  rw [e1, e2, e3]
  unfold fdT fdB
  simp only [Int.toNat_natCast, List.append_assoc, List.singleton_append]
  congr 3
  omega
theorem fdsT_ok : ∀ (k : Nat) {s : RS}, ByteOk s.1 → ByteOk (fdsT k s).2.1
  | 0, _, h => h
  | k + 1, s, h => fdT_ok (fdsT_ok k h)
theorem txsT_ok : ∀ (k : Nat) {s : RS}, ByteOk s.1 → ByteOk (txsT k s).2.1
  | 0, _, h => h
  | k + 1, s, h => (txtT_ok (txsT_ok k h)).1
theorem fdsT_back : ∀ (k : Nat) {s : RS}, ByteOk s.1 → (fdsT k s).2.2 = 0 → s.2 = 0 ∧ s.1 = (fdsT k s).1.flatMap fdB ++ (fdsT k s).2.1
  | 0, _, _, h => ⟨h, rfl⟩
  | k + 1, s, hb, h => by
    obtain ⟨h1, e1⟩ := fdT_back (fdsT_ok k hb) h
    obtain ⟨h0, e0⟩ := fdsT_back k hb h1
    refine ⟨h0, ?_⟩
    rw [fdsT, List.flatMap_append, List.append_assoc]
    refine e0.trans ?_
    rw [List.flatMap_cons, List.flatMap_nil, List.append_nil]
    exact congrArg (_ ++ ·) e1
theorem txsT_back : ∀ (k : Nat) {s : RS}, ByteOk s.1 → (txsT k s).2.2 = 0 → s.2 = 0 ∧ s.1 = (txsT k s).1.flatMap txt ++ (txsT k s).2.1
  | 0, _, _, h => ⟨h, rfl⟩
  | k + 1, s, hb, h => by
    obtain ⟨h1, e1⟩ := txtT_back (txsT_ok k hb) h
    obtain ⟨h0, e0⟩ := txsT_back k hb h1
    refine ⟨h0, ?_⟩
    rw [txsT, List.flatMap_append, List.append_assoc]
    refine e0.trans ?_
    rw [List.flatMap_cons, List.flatMap_nil, List.append_nil]
    exact congrArg (_ ++ ·) e1
theorem conf_back {zs : List Int} (hb : ByteOk zs) (h : (confT (zs, 0)).2 = ([], 0)) : zs = formP (confT (zs, 0)).1 := by
  have e : confT (zs, 0) = (⟨(fdsT (u8T (u8T (zs, 0)).2).1 (u8T (u8T (zs, 0)).2).2).1, (txsT (u8T (fdsT (u8T (u8T (zs, 0)).2).1 (u8T (u8T (zs, 0)).2).2).2).1 (u8T (fdsT (u8T (u8T (zs, 0)).2).1 (u8T (u8T (zs, 0)).2).2).2).2).1, ((u8T (zs, 0)).1 : Int)⟩, (txsT (u8T (fdsT (u8T (u8T (zs, 0)).2).1 (u8T (u8T (zs, 0)).2).2).2).1 (u8T (fdsT (u8T (u8T (zs, 0)).2).1 (u8T (u8T (zs, 0)).2).2).2).2).2) := rfl
  rw [e] at h ⊢
  obtain ⟨a, ha⟩ : ∃ a, u8T (zs, 0) = a := ⟨_, rfl⟩
  obtain ⟨b, hbb⟩ : ∃ b, u8T a.2 = b := ⟨_, rfl⟩
  obtain ⟨f, hf⟩ : ∃ f, fdsT b.1 b.2 = f := ⟨_, rfl⟩
  obtain ⟨c, hc⟩ : ∃ c, u8T f.2 = c := ⟨_, rfl⟩
  obtain ⟨t, ht⟩ : ∃ t, txsT c.1 c.2 = t := ⟨_, rfl⟩
  have o0 : ByteOk ((zs, (0 : Int)) : RS).1 := hb
  have o1 : ByteOk a.2.1 := by rw [← ha]; exact u8T_ok o0
  have o2 : ByteOk b.2.1 := by rw [← hbb]; exact u8T_ok o1
  have o3 : ByteOk f.2.1 := by rw [← hf]; exact fdsT_ok _ o2
  have o4 : ByteOk c.2.1 := by rw [← hc]; exact u8T_ok o3
  simp only [ha, hbb, hf, hc, ht] at h ⊢
  have z5 : t.2.2 = 0 := by rw [h]
  obtain ⟨z4, e5⟩ := txsT_back c.1 o4 (by rw [ht]; exact z5)
  obtain ⟨z3, e4, _⟩ := u8T_back o3 (by rw [hc]; exact z4)
  obtain ⟨z2, e3⟩ := fdsT_back b.1 o2 (by rw [hf]; exact z3)
  obtain ⟨z1, e2, _⟩ := u8T_back o1 (by rw [hbb]; exact z2)
  obtain ⟨z0, e1, _⟩ := u8T_back o0 (by rw [ha]; exact z1)
  rw [ha] at e1
  rw [hbb] at e2
  rw [hf] at e3
  rw [hc] at e4
  rw [ht] at e5
  have lf : f.1.length = b.1 := by rw [← hf]; exact fdsT_len _ _
  have lt : t.1.length = c.1 := by rw [← ht]; exact txsT_len _ _
  unfold formP
  simp only at e1 ⊢
  rw [e1, e2, e3, e4, e5, lf, lt, h]
  simp

end Go.Proofs.YtimmfnjkknbofaaDoor
