/- A way's form as the document reads it, pure: places behind the end read as 0; what it reads of a form is the way; it answers as the program does. No program. -/
import Derived.Test.YtimmfnjkknbofaaDoorJWdPr
namespace Go.Proofs.YtimmfnjkknbofaaDoor
set_option maxRecDepth 20000
open Go.RowKit
set_option linter.unusedVariables false
set_option linter.unusedSimpArgs false

def fdZ (l : List Int) : Fd × List Int := ((256 * l.getD 0 0 + l.getD 1 0, 256 * l.getD 2 0 + l.getD 3 0, l.getD 4 0 + 1), l.drop 5)
def txZ (l : List Int) : List Int × List Int := ((List.range (l.getD 0 0).toNat).map (fun i => l.getD (1 + i) 0), l.drop (1 + (l.getD 0 0).toNat))
def fdsZ : Nat → List Int → List Fd × List Int
  | 0, l => ([], l)
  | k + 1, l => ((fdsZ k l).1 ++ [(fdZ (fdsZ k l).2).1], (fdZ (fdsZ k l).2).2)
def txsZ : Nat → List Int → List (List Int) × List Int
  | 0, l => ([], l)
  | k + 1, l => ((txsZ k l).1 ++ [(txZ (txsZ k l).2).1], (txZ (txsZ k l).2).2)
def confZ (l : List Int) : Cn :=
  let f := fdsZ (l.getD 1 0).toNat (l.drop 2)
  let t := txsZ (f.2.getD 0 0).toNat (f.2.drop 1)
  ⟨f.1, t.1, l.getD 0 0⟩

theorem fdZ_on (x : Fd) (r : List Int) (h : 0 ≤ x.1 ∧ x.1 ≤ 65535 ∧ 0 ≤ x.2.1 ∧ x.2.1 ≤ 65535 ∧ 1 ≤ x.2.2 ∧ x.2.2 ≤ 256) : fdZ (fdB x ++ r) = (x, r) := by
  obtain ⟨a, b, n⟩ := x
  simp only at h
  obtain ⟨A, rfl⟩ : ∃ A : Nat, a = (A : Int) := ⟨a.toNat, by omega⟩
  obtain ⟨B, rfl⟩ : ∃ B : Nat, b = (B : Int) := ⟨b.toNat, by omega⟩
  have e1 : A / 256 % 256 = A / 256 := Nat.mod_eq_of_lt (by omega)
  have e2 : B / 256 % 256 = B / 256 := Nat.mod_eq_of_lt (by omega)
  have e : fdB ((A : Int), (B : Int), n) ++ r = ((A / 256 : Nat) : Int) :: ((A % 256 : Nat) : Int) :: ((B / 256 : Nat) : Int) :: ((B % 256 : Nat) : Int) :: (n - 1) :: r := by
    unfold fdB
    simp [numBytes, e1, e2]
  rw [e]
  unfold fdZ
  simp only [List.getD_cons_zero, List.getD_cons_succ, List.drop_succ_cons, List.drop_zero, Prod.mk.injEq, and_true]
  omega
theorem txZ_on (z r : List Int) : txZ (txt z ++ r) = (z, r) := by
  unfold txZ txt
  simp only [List.cons_append, List.getD_cons_zero, Int.toNat_natCast, Prod.mk.injEq]
  refine ⟨?_, ?_⟩
  · refine List.ext_getElem (by simp) (fun i h1 h2 => ?_)
    have hi : i < z.length := by simpa using h1
    simp only [List.getElem_map, List.getElem_range]
    rw [Nat.add_comm 1 i, List.getD_cons_succ]
    simp [List.getD, List.getElem?_append_left hi, hi]
  · rw [Nat.add_comm 1, List.drop_succ_cons]
    exact List.drop_left
theorem fdsZ_on : ∀ (fs : List Fd) (r s : List Int) (k : Nat), (∀ x ∈ fs, 0 ≤ x.1 ∧ x.1 ≤ 65535 ∧ 0 ≤ x.2.1 ∧ x.2.1 ≤ 65535 ∧ 1 ≤ x.2.2 ∧ x.2.2 ≤ 256) → (fdsZ k s).2 = fs.flatMap fdB ++ r →
    fdsZ (k + fs.length) s = ((fdsZ k s).1 ++ fs, r)
  | [], r, s, k, _, h => by
    rw [List.length_nil, Nat.add_zero, List.append_nil]
    exact Prod.ext rfl h
  | x :: fs, r, s, k, hx, h => by
    have h1 : fdsZ (k + 1) s = ((fdsZ k s).1 ++ [x], fs.flatMap fdB ++ r) := by
      rw [fdsZ, h, List.flatMap_cons, List.append_assoc, fdZ_on x _ (hx x (List.mem_cons_self ..))]
    have := fdsZ_on fs r s (k + 1) (fun y hy => hx y (List.mem_cons_of_mem _ hy)) (by rw [h1])
    rw [h1] at this
    rw [List.length_cons, show k + (fs.length + 1) = k + 1 + fs.length by omega, this, List.append_assoc]
    rfl
theorem txsZ_on : ∀ (ss : List (List Int)) (r s : List Int) (k : Nat), (txsZ k s).2 = ss.flatMap txt ++ r → txsZ (k + ss.length) s = ((txsZ k s).1 ++ ss, r)
  | [], r, s, k, h => by
    rw [List.length_nil, Nat.add_zero, List.append_nil]
    exact Prod.ext rfl h
  | x :: fs, r, s, k, h => by
    have h1 : txsZ (k + 1) s = ((txsZ k s).1 ++ [x], fs.flatMap txt ++ r) := by
      rw [txsZ, h, List.flatMap_cons, List.append_assoc, txZ_on x _]
    have := txsZ_on fs r s (k + 1) (by rw [h1])
    rw [h1] at this
    rw [List.length_cons, show k + (fs.length + 1) = k + 1 + fs.length by omega, this, List.append_assoc]
    rfl
theorem confZ_on (C : Cn) (h : FmOk C) : confZ (formP C) = C := by
  have h1 : (formP C).getD 0 0 = C.cap := rfl
  have h2 : (formP C).getD 1 0 = (C.fs.length : Int) := rfl
  have h3 : (formP C).drop 2 = C.fs.flatMap fdB ++ (C.ss.length : Int) :: C.ss.flatMap txt := rfl
  have h4 := fdsZ_on C.fs ((C.ss.length : Int) :: C.ss.flatMap txt) (C.fs.flatMap fdB ++ (C.ss.length : Int) :: C.ss.flatMap txt) 0 h.fd rfl
  have h5 := txsZ_on C.ss [] (C.ss.flatMap txt) 0 (by rw [List.append_nil]; rfl)
  rw [Nat.zero_add] at h4 h5
  unfold confZ
  simp only [h1, h2, h3, Int.toNat_natCast, h4, List.getD_cons_zero, List.drop_succ_cons, List.drop_zero, h5, fdsZ, txsZ, List.nil_append]

theorem fdsZ_len : ∀ (k : Nat) (l : List Int), (fdsZ k l).1.length = k
  | 0, _ => rfl
  | k + 1, l => by rw [fdsZ, List.length_append, fdsZ_len k l]; rfl
theorem txsZ_len : ∀ (k : Nat) (l : List Int), (txsZ k l).1.length = k
  | 0, _ => rfl
  | k + 1, l => by rw [txsZ, List.length_append, txsZ_len k l]; rfl
theorem drop_ok {l : List Int} (h : ByteOk l) (n : Nat) : ByteOk (l.drop n) := fun z hz => h z (List.mem_of_mem_drop hz)
theorem fdsZ_ok : ∀ (k : Nat) {l : List Int}, ByteOk l → ByteOk (fdsZ k l).2
  | 0, _, h => h
  | k + 1, l, h => drop_ok (fdsZ_ok k h) 5
theorem txZ_ok {l : List Int} (h : ByteOk l) : ByteOk (txZ l).1 ∧ ByteOk (txZ l).2 ∧ (txZ l).1.length ≤ 255 := by
  refine ⟨fun z hz => ?_, drop_ok h _, ?_⟩
  · obtain ⟨i, _, rfl⟩ := List.mem_map.1 hz
    exact h.get (1 + i)
  · unfold txZ
    simp only [List.length_map, List.length_range]
    have := h.get 0
    omega
theorem txsZ_ok : ∀ (k : Nat) {l : List Int}, ByteOk l → ByteOk (txsZ k l).2 ∧ ∀ z ∈ (txsZ k l).1, ByteOk z ∧ z.length ≤ 255
  | 0, _, h => ⟨h, fun z hz => by cases hz⟩
  | k + 1, l, h => by
    obtain ⟨h1, h2⟩ := txsZ_ok k h
    obtain ⟨q1, q2, q3⟩ := txZ_ok h1
    refine ⟨q2, fun z hz => ?_⟩
    rw [txsZ] at hz
    rcases List.mem_append.1 hz with hz | hz
    · exact h2 z hz
    · rw [List.mem_singleton] at hz
      subst hz
      exact ⟨q1, q3⟩
theorem confZ_ok {l : List Int} (h : ByteOk l) : (∀ z ∈ (confZ l).ss, ByteOk z ∧ z.length ≤ 255) ∧ (confZ l).fs.length ≤ 255 ∧ (confZ l).ss.length ≤ 255 ∧ 0 ≤ (confZ l).cap ∧ (confZ l).cap ≤ 255 := by
  have hf := fdsZ_ok (l.getD 1 0).toNat (drop_ok h 2)
  have h1 := h.get 1
  have h2 := hf.get 0
  refine ⟨(txsZ_ok _ (drop_ok hf 1)).2, ?_, ?_, (h.get 0).1, (h.get 0).2⟩
  · show (fdsZ _ _).1.length ≤ 255
    rw [fdsZ_len]
    omega
  · show (txsZ _ _).1.length ≤ 255
    rw [txsZ_len]
    omega
/-- the document's answer is the program's -/
theorem ref_same {zs : List Int} (hb : ByteOk zs) : (bytE (confZ zs) = 0 ∧ bytL (confZ zs) = zs → prsB zs = true ∧ prsC zs = confZ zs) ∧ (prsB zs = true → bytE (confZ zs) = 0 ∧ bytL (confZ zs) = zs ∧ prsC zs = confZ zs) := by
  have hok := fun z hz => ((confZ_ok hb).1 z hz).1
  refine ⟨fun ⟨h1, h2⟩ => ?_, fun h => ?_⟩
  · have hm : mayC (confZ zs) = true ∧ (formP (confZ zs)).length ≤ 240 := by
      unfold bytE at h1
      split at h1
      · split at h1
        · exact ⟨by assumption, by assumption⟩
        · cases h1
      · cases h1
    have hf : formP (confZ zs) = zs := by unfold bytL at h2; rwa [if_pos hm] at h2
    have hc := conf_on _ (mayC_fm hm.1 hok)
    rw [hf] at hc
    have hp : prsC zs = confZ zs := by unfold prsC; rw [hc]
    refine ⟨?_, hp⟩
    unfold prsB
    rw [hp, hm.1, hc, decide_eq_true (show zs.length ≤ 240 by rw [← hf]; exact hm.2)]
    simp
  · unfold prsB at h
    simp only [Bool.and_eq_true, decide_eq_true_iff] at h
    obtain ⟨⟨h1, h2⟩, h3⟩ := h
    have hf : zs = formP (prsC zs) := conf_back hb h2
    have hst : ∀ z ∈ (prsC zs).ss, ByteOk z := fun z hz => by
      have hmem : ∀ y ∈ txt z, y ∈ zs := fun y hy => by
        rw [hf]
        unfold formP
        exact List.mem_cons_of_mem _ (List.mem_cons_of_mem _ (List.mem_append_right _ (List.mem_cons_of_mem _ (List.mem_flatMap.2 ⟨z, hz, hy⟩))))
      exact fun y hy => hb y (hmem y (List.mem_cons_of_mem _ hy))
    have hfm := mayC_fm h3 hst
    have hz : confZ zs = prsC zs := by
      conv => lhs; rw [hf]
      exact confZ_on _ hfm
    rw [hz]
    have hl : (formP (prsC zs)).length ≤ 240 := by rw [← hf]; exact h1
    refine ⟨by unfold bytE; rw [if_pos h3, if_pos hl], by unfold bytL; rw [if_pos ⟨h3, hl⟩]; exact hf.symm, rfl⟩

end Go.Proofs.YtimmfnjkknbofaaDoor
