/- Contract: package node's Join. -/
import Derived.Test.YtoamdbjailpgdaaNOwn
import Derived.Test.YtoamdbjailpgdaaRegionF
namespace Go.Proofs.Ytoamdbjailpgdaa
set_option maxRecDepth 20000
open Go.RowKit Go.Shelf
set_option linter.unusedVariables false
set_option linter.unusedSimpArgs false
set_option maxRecDepth 100000
attribute [local go_sem] Oper.semAt_some

def joinP (a b : Nd) : Nd := ⟨true, a.ps ++ b.ps, [], []⟩
def joinK (a : Nd) (key : List Int) (b : Nd) : Nd := ⟨false, [], a.ks ++ ([key] ++ b.ks), a.cs ++ b.cs⟩
def joinE (a : Nd) (key : List Int) (b : Nd) : Int := if leafB a && leafB b then ownE (joinP a b) else if !(innerB a && innerB b) then 100 else if keyB key then ownE (joinK a key b) else 1
def joinN (a : Nd) (key : List Int) (b : Nd) : Nd := if leafB a && leafB b then ownN (joinP a b) else if !(innerB a && innerB b) then noNd else if keyB key then ownN (joinK a key b) else noNd

/-! ### facts of a region that builds a node out of rows -/
/-- a literal of slices -/
def isLit (B : Nat) (e : TypeId) (vs : List Value) : Fct := fun v w => ∃ g, v = .slice (some ⟨g, 0, none⟩) vs.length vs.length ∧ B ≤ g ∧ Blk w g e vs
def isRowO (B : Nat) (e : TypeId) (m : Nat) (cs : List Value) : Fct := fun v w => ∃ a n c, v = .slice a n c ∧ w.ownsRow B e m (.slice a n c) n cs
def isTup (B : Nat) (n : Nd) (er : Int) : Fct := fun v w => ∃ l pa np pc ka nk kc ca nc cc, v = .tuple #[.agg #[.bool l, .slice pa np pc, .slice ka nk kc, .slice ca nc cc], .int .i64 er] ∧ NdN w B (.agg #[.bool l, .slice pa np pc, .slice ka nk kc, .slice ca nc cc]) n
def isNdO (B : Nat) (n : Nd) : Fct := fun v w => ∃ l pa np pc ka nk kc ca nc cc, v = .agg #[.bool l, .slice pa np pc, .slice ka nk kc, .slice ca nc cc] ∧ NdN w B (.agg #[.bool l, .slice pa np pc, .slice ka nk kc, .slice ca nc cc]) n
section
variable {S : Nat → Prop} {B : Nat}
theorem st_isLit (e : TypeId) (vs : List Value) (hS : ∀ j, S j → j < B) : ∀ v w w', Only S w w' → isLit B e vs v w → isLit B e vs v w' := fun v w w' ho ⟨g, h1, h2, h3⟩ => ⟨g, h1, h2, h3.only ho (fun hs => by have := hS g hs; omega)⟩
theorem st_isRowO (e : TypeId) (m : Nat) (cs : List Value) (hS : ∀ j, S j → j < B) : ∀ v w w', Only S w w' → isRowO B e m cs v w → isRowO B e m cs v w' := fun v w w' ho ⟨a, n, c, h1, h2⟩ => ⟨a, n, c, h1, ownsRow_only h2 ho (fun j hj hs => by have := (row_blk h2 hj).1; have := hS j hs; omega)⟩
theorem st_isTup (n : Nd) (er : Int) (hS : ∀ j, S j → j < B) : ∀ v w w', Only S w w' → isTup B n er v w → isTup B n er v w' := fun v w w' ho ⟨l, pa, np, pc, ka, nk, kc, ca, nc, cc, h1, h2⟩ => ⟨l, pa, np, pc, ka, nk, kc, ca, nc, cc, h1, h2.only ho hS⟩
theorem st_isNdO (n : Nd) (hS : ∀ j, S j → j < B) : ∀ v w w', Only S w w' → isNdO B n v w → isNdO B n v w' := fun v w w' ho ⟨l, pa, np, pc, ka, nk, kc, ca, nc, cc, h1, h2⟩ => ⟨l, pa, np, pc, ka, nk, kc, ca, nc, cc, h1, h2.only ho hS⟩
end
/-- what a call owned gives, as a fact -/
theorem owned_tup {w : World} {B : Nat} {v : Value} {n : Nd} (h : NdV w v n) (hB : B ≤ w.heap.size) : Calls Try.prog 73 #[v] w fun e w' => ∃ u, e = .returned u ∧ isTup B (ownN n) (ownE n) u w' ∧ Below w.heap.size w w' := by
  refine (owned_any w v n h).mono ?_
  rintro e w' ⟨u, rfl, hn, hb⟩
  obtain ⟨pa, np, pc, ka, nk, kc, ca, nc, cc, rfl⟩ := hn.form
  exact ⟨_, rfl, ⟨_, _, _, _, _, _, _, _, _, _, rfl, hn.le hB⟩, hb⟩
/-- a literal's rows -/
theorem lit_rows {w : World} {m : Nat} : ∀ {vs : List Value} {rows : List (List Value)}, vs.length = rows.length → (∀ x ∈ vs.zip rows, RowR w m x.1 x.2) → ∀ i, i < vs.length → RowR w m (vs.getD i nilS) (rows.getD i [])
  | [], _, _, _, i, hi => by simp at hi
  | v :: vs, [], h, _, _, _ => by simp at h
  | v :: vs, r :: rows, h, hz, 0, _ => hz (v, r) (by simp)
  | v :: vs, r :: rows, h, hz, i + 1, hi => by
    have := lit_rows (vs := vs) (rows := rows) (by simpa using h) (fun x hx => hz x (by simp [hx])) i (by simpa using hi)
    simpa using this

/-- the inner nodes' region: how far it is (ab, bb: the boxes; rb: the result's) -/
def JnB (w : World) (A B : List Value) (ar : List Value) (W : World) : Prop := Below w.heap.size w W ∧ Blk W w.heap.size 26 A ∧ Blk W (w.heap.size + 1) 26 B ∧ Blk W (w.heap.size + 2) 26 ar
def JnS (w : World) (A B : List Value) (n : Nd) (er : Int) : Nat → (Nat → Value) → World → Prop := fun i vals W => match i with
  | 0 => JnB w A B zeroC W
  | 1 => ∃ l pa np pc ka nk kc ca nc cc, JnB w A B [.bool l, .slice pa np pc, .slice ka nk kc, .slice ca nc cc] W ∧ NdN W (w.heap.size + 3) (.agg #[.bool l, .slice pa np pc, .slice ka nk kc, .slice ca nc cc]) n
  | _ => (∃ l pa np pc ka nk kc ca nc cc, JnB w A B [.bool l, .slice pa np pc, .slice ka nk kc, .slice ca nc cc] W ∧ NdN W (w.heap.size + 3) (.agg #[.bool l, .slice pa np pc, .slice ka nk kc, .slice ca nc cc]) n) ∧ vals 19 = .int .i64 er
theorem JnB.keep {w W W' : World} {A B ar : List Value} (h : JnB w A B ar W) (ho : Only (fun _ => False) W W') : JnB w A B ar W' :=
  ⟨h.1.trans (ho.below h.1.size (fun _ _ h => h)), h.2.1.only ho (fun h => h), h.2.2.1.only ho (fun h => h), h.2.2.2.only ho (fun h => h)⟩
theorem JnS.one {w W : World} {A B : List Value} {n : Nd} {er : Int} {vals : Nat → Value} (h : JnS w A B n er 1 vals W) : ∃ l pa np pc ka nk kc ca nc cc, JnB w A B [.bool l, .slice pa np pc, .slice ka nk kc, .slice ca nc cc] W ∧ NdN W (w.heap.size + 3) (.agg #[.bool l, .slice pa np pc, .slice ka nk kc, .slice ca nc cc]) n := h
theorem JnS.keep {w W W' : World} {A B : List Value} {n : Nd} {er : Int} {i : Nat} {vals : Nat → Value} (hi : i < 2) (h : JnS w A B n er i vals W) (ho : Only (fun _ => False) W W') : JnS w A B n er i vals W' := by
  rcases (show i = 0 ∨ i = 1 by omega) with rfl | rfl
  · exact JnB.keep (show JnB w A B zeroC W from h) ho
  · obtain ⟨l, pa, np, pc, ka, nk, kc, ca, nc, cc, h1, h2⟩ := h.one
    exact (⟨l, pa, np, pc, ka, nk, kc, ca, nc, cc, h1.keep ho, h2.only ho (fun _ h => h.elim)⟩ : ∃ l pa np pc ka nk kc ca nc cc, JnB w A B [.bool l, .slice pa np pc, .slice ka nk kc, .slice ca nc cc] W' ∧ NdN W' (w.heap.size + 3) (.agg #[.bool l, .slice pa np pc, .slice ka nk kc, .slice ca nc cc]) n)
theorem JnS.any {w W : World} {A B : List Value} {n : Nd} {er : Int} {i : Nat} {vals : Nat → Value} (hi : i < 2) (h : JnS w A B n er i vals W) : Below w.heap.size w W ∧ Blk W w.heap.size 26 A ∧ Blk W (w.heap.size + 1) 26 B ∧ w.heap.size + 3 ≤ W.heap.size := by
  rcases (show i = 0 ∨ i = 1 by omega) with rfl | rfl
  · have h' : JnB w A B zeroC W := h
    exact ⟨h'.1, h'.2.1, h'.2.2.1, by have := h'.2.2.2.lt; omega⟩
  · obtain ⟨l, pa, np, pc, ka, nk, kc, ca, nc, cc, h', _⟩ := h.one
    exact ⟨h'.1, h'.2.1, h'.2.2.1, by have := h'.2.2.2.lt; omega⟩
theorem JnS.ind {w : World} {A B : List Value} {n : Nd} {er : Int} : ∀ k vals vals' W, (∀ j, j ∈ [18, 19] → vals j = vals' j) → JnS w A B n er k vals W → JnS w A B n er k vals' W := fun k vals vals' W hv h => by
  match k, h with
  | 0, h => exact h
  | 1, h => exact h
  | k + 2, ⟨h1, h2⟩ => exact ⟨h1, by rw [← hv 19 (by simp)]; exact h2⟩
def isLitK (B : Nat) (ka : Option Addr) (nk kc : Nat) (q1 : Option Addr) (m1 dq : Nat) (ka' : Option Addr) (nk' kc' : Nat) : Fct := fun v w => ∃ g g2, v = .slice (some ⟨g, 0, none⟩) 3 3 ∧ B ≤ g ∧ B ≤ g2 ∧ Blk w g 23 [.slice ka nk kc, .slice (some ⟨g2, 0, none⟩) 1 1, .slice ka' nk' kc'] ∧ Blk w g2 34 [.slice q1 m1 dq]
def isNd2 (B : Nat) (ks cs : List Value) : Fct := fun v w => ∃ a n c a' n' c', v = .agg #[.bool false, .slice none 0 0, .slice a n c, .slice a' n' c'] ∧ w.ownsRow B 34 1 (.slice a n c) n ks ∧ w.ownsRow B 3 1 (.slice a' n' c') n' cs
theorem st_isLitK {S : Nat → Prop} {B : Nat} {ka : Option Addr} {nk kc : Nat} {q1 : Option Addr} {m1 dq : Nat} {ka' : Option Addr} {nk' kc' : Nat} (hS : ∀ j, S j → j < B) : ∀ v w w', Only S w w' → isLitK B ka nk kc q1 m1 dq ka' nk' kc' v w → isLitK B ka nk kc q1 m1 dq ka' nk' kc' v w' := fun v w w' ho ⟨g, g2, h1, h2, h3, h4, h5⟩ => ⟨g, g2, h1, h2, h3, h4.only ho (fun hs => by have := hS g hs; omega), h5.only ho (fun hs => by have := hS g2 hs; omega)⟩
theorem st_isNd2 {S : Nat → Prop} {B : Nat} {ks cs : List Value} (hS : ∀ j, S j → j < B) : ∀ v w w', Only S w w' → isNd2 B ks cs v w → isNd2 B ks cs v w' := fun v w w' ho ⟨a, n, c, a', n', c', h1, h2, h3⟩ => ⟨a, n, c, a', n', c', h1, ownsRow_only h2 ho (fun j hj hs => by have := (row_blk h2 hj).1; have := hS j hs; omega), ownsRow_only h3 ho (fun j hj hs => by have := (row_blk h3 hj).1; have := hS j hs; omega)⟩
theorem buildK3 (w : World) (a1 a2 a3 : Option Addr) (n1 n2 n3 c1 c2 c3 : Nat) : (Instr.buildSlice 106 3 #[(0, .slice a1 n1 c1), (1, .slice a2 n2 c2), (2, .slice a3 n3 c3)]).run Try.prog w = .ok (.slice (some ⟨w.heap.size, 0, none⟩) 3 3) (w.alloc (.cells #[.slice a1 n1 c1, .slice a2 n2 c2, .slice a3 n3 c3] 23)) := by kernel_rfl
theorem buildI2 (w : World) (a1 a2 : Option Addr) (n1 n2 c1 c2 : Nat) : (Instr.buildSlice 108 2 #[(0, .slice a1 n1 c1), (1, .slice a2 n2 c2)]).run Try.prog w = .ok (.slice (some ⟨w.heap.size, 0, none⟩) 2 2) (w.alloc (.cells #[.slice a1 n1 c1, .slice a2 n2 c2] 24)) := by kernel_rfl

set_option maxHeartbeats 8000000 in
theorem join_any (w : World) (va vb : Value) (a b : Nd) (kv : Value) (key : List Int) (ha : NdV w va a) (hb : NdV w vb b) (hk : Sl w kv key) :
    Calls Try.prog 43 #[va, kv, vb] w (GivesN w (joinN a key b) (joinE a key b)) := by
  have HLA : Hid (∀ w1, Below w.heap.size w w1 → Calls Try.prog 62 #[va] w1 fun e w' => e = .returned (.bool (leafB a)) ∧ Below w1.heap.size w1 w') := fun w1 hh => isLeaf_any w1 va a (ha.below hh)
  have HLB : Hid (∀ w1, Below w.heap.size w w1 → Calls Try.prog 62 #[vb] w1 fun e w' => e = .returned (.bool (leafB b)) ∧ Below w1.heap.size w1 w') := fun w1 hh => isLeaf_any w1 vb b (hb.below hh)
  have HIA : Hid (∀ w1, Below w.heap.size w w1 → Calls Try.prog 68 #[va] w1 fun e w' => e = .returned (.bool (innerB a)) ∧ Below w1.heap.size w1 w') := fun w1 hh => isInner_any w1 va a (ha.below hh)
  have HIB : Hid (∀ w1, Below w.heap.size w w1 → Calls Try.prog 68 #[vb] w1 fun e w' => e = .returned (.bool (innerB b)) ∧ Below w1.heap.size w1 w') := fun w1 hh => isInner_any w1 vb b (hb.below hh)
  have HKE : Hid (∀ w1, Below w.heap.size w w1 → Calls Try.prog 71 #[kv] w1 fun e w' => e = .returned (.bool (keyB key)) ∧ w' = w1) := fun w1 hh => isKey_any w1 kv key (hk.below hh)
  have HNN : Hid (joinN a key b = if leafB a && leafB b then ownN (joinP a b) else if !(innerB a && innerB b) then noNd else if keyB key then ownN (joinK a key b) else noNd) := rfl
  have HEE : Hid (joinE a key b = if leafB a && leafB b then ownE (joinP a b) else if !(innerB a && innerB b) then 100 else if keyB key then ownE (joinK a key b) else 1) := rfl
  have HPA : Hid (leafB a = true → leafB b = true → a.ps.length ≤ 255 ∧ b.ps.length ≤ 255) := fun h1 h2 => ⟨(leafB_ps h1).1, (leafB_ps h2).1⟩
  have HQA : Hid (innerB a = true → innerB b = true → a.ks.length ≤ 255 ∧ b.ks.length ≤ 255 ∧ a.cs.length ≤ 256 ∧ b.cs.length ≤ 256) := fun h1 h2 => by
    have := innerB_ps h1; have := innerB_ps h2; omega
  have HNL : Hid (innerB a = true → leafB a = false) := fun h => by
    cases hl : leafB a with
    | false => rfl
    | true => have := not_both hl; rw [h] at this; cases this
  have HKV := hide hk
  obtain ⟨pa, pc, ka, kc, ca, cc, xs, ys, rfl, hp1, hk1, hc1, hp2, hk2, hc2, hP, hK, hC⟩ := ha.open
  obtain ⟨pa', pc', ka', kc', ca', cc', xs', ys', rfl, hp1', hk1', hc1', hp2', hk2', hc2', hP', hK', hC'⟩ := hb.open
  have HP := hide hP
  have HK := hide hK
  have HC := hide hC
  have HP' := hide hP'
  have HK' := hide hK'
  have HC' := hide hC'
  have HXL := hide hP.1
  have HYL := hide hK.1
  obtain ⟨q1, m1, dq, rfl⟩ := sl_form hk
  unfold ndv at HLA HLB HIA HIB ⊢
  generalize hlf : a.lf = lf at *
  generalize hlf' : b.lf = lf' at *
  have hza : ∀ wx : World, (zeroValue 26).run Try.prog wx = .ok (.agg #[.bool false, .slice none 0 0, .slice none 0 0, .slice none 0 0]) wx := fun wx => by kernel_rfl
  obtain ⟨np, hnp⟩ : ∃ m, a.ps.length = m := ⟨_, rfl⟩
  obtain ⟨nk, hnk⟩ : ∃ m, a.ks.length = m := ⟨_, rfl⟩
  obtain ⟨nc, hnc⟩ : ∃ m, a.cs.length = m := ⟨_, rfl⟩
  obtain ⟨np', hnp'⟩ : ∃ m, b.ps.length = m := ⟨_, rfl⟩
  obtain ⟨nk', hnk'⟩ : ∃ m, b.ks.length = m := ⟨_, rfl⟩
  obtain ⟨nc', hnc'⟩ : ∃ m, b.cs.length = m := ⟨_, rfl⟩
  rw [hnp] at HP HPA HLA HIA ⊢
  rw [hnk] at HK HQA HLA HIA ⊢
  rw [hnc] at HC HQA HLA HIA ⊢
  rw [hnp'] at HP' HPA HLB HIB ⊢
  rw [hnk'] at HK' HQA HLB HIB ⊢
  rw [hnc'] at HC' HQA HLB HIB ⊢
  have HNP := hide hnp
  have HNP' := hide hnp'
  have HNK := hide hnk
  have HNK' := hide hnk'
  have HNC := hide hnc
  have HNC' := hide hnc'
  obtain ⟨w1, hw1⟩ : ∃ w1, ((w.alloc (.cells #[.bool lf, .slice pa np pc, .slice ka nk kc, .slice ca nc cc] 26)).alloc (.cells #[.bool lf', .slice pa' np' pc', .slice ka' nk' kc', .slice ca' nc' cc'] 26)).alloc (.cells #[.bool false, .slice none 0 0, .slice none 0 0, .slice none 0 0] 26) = w1 := ⟨_, rfl⟩
  have HJ1 : Hid (JnB w [.bool lf, .slice pa np pc, .slice ka nk kc, .slice ca nc cc] [.bool lf', .slice pa' np' pc', .slice ka' nk' kc', .slice ca' nc' cc'] zeroC w1) := by
    rw [← hw1]
    refine ⟨(((Below.refl _ w).alloc (Nat.le_refl _) _).alloc (by simp) _).alloc (by simp; omega) _, ((Blk.new w _ _).alloc _).alloc _, ?_, ?_⟩
    · have := (Blk.new (w.alloc (.cells #[.bool lf, .slice pa np pc, .slice ka nk kc, .slice ca nc cc] 26)) 26 [.bool lf', .slice pa' np' pc', .slice ka' nk' kc', .slice ca' nc' cc']).alloc (.cells #[.bool false, .slice none 0 0, .slice none 0 0, .slice none 0 0] 26)
      rw [World.size_alloc] at this
      exact this
    · have := Blk.new ((w.alloc (.cells #[.bool lf, .slice pa np pc, .slice ka nk kc, .slice ca nc cc] 26)).alloc (.cells #[.bool lf', .slice pa' np' pc', .slice ka' nk' kc', .slice ca' nc' cc'] 26)) 26 zeroC
      rw [World.size_alloc, World.size_alloc] at this
      exact this
  obtain ⟨⟨z0, z1, z2, z3⟩, _⟩ := node_cells HJ1.out.2.1
  clear ha hb hk hP hK hC hP' hK' hC' hnp hnk hnc hnp' hnk' hnc'
  cases hla : leafB a with
  | true =>
    cases hlb : leafB b with
    | true =>
      rw [hla, hlb] at HNN HEE
      rw [hla] at HLA
      rw [hlb] at HLB
      simp only [Bool.and_self, if_true] at HNN HEE
      rw [HNN.out, HEE.out]
      obtain ⟨hpa, hpb⟩ := HPA.out hla hlb
      clear HIA HIB HKE HNN HEE HPA HQA HNL
      have HLF : Hid (∀ w3, Below w.heap.size w w3 → Calls Try.prog 74 #[.slice (some ⟨w3.heap.size, 0, none⟩) 2 2] (w3.alloc (.cells #[.slice pa np pc, .slice pa' np' pc'] 22)) fun e w' => ∃ r N c, e = .returned (.agg #[.bool true, .slice r N c, .slice none 0 0, .slice none 0 0]) ∧ NdV w' (.agg #[.bool true, .slice r N c, .slice none 0 0, .slice none 0 0]) (joinP a b) ∧ Below w3.heap.size w3 w') := fun w3 hb3 => by
        have hal : Below w3.heap.size w3 (w3.alloc (.cells #[.slice pa np pc, .slice pa' np' pc'] 22)) := (Below.refl _ w3).alloc (Nat.le_refl _) _
        have hpr := (HP.out.below hb3).below hal
        have hpr' := (HP'.out.below hb3).below hal
        refine (leaf_any _ w3.heap.size [.slice pa np pc, .slice pa' np' pc'] [flatP xs, flatP xs'] rfl (by simp) (Blk.new w3 _ _) (lit_rows rfl (by
          intro x hx
          simp only [List.zip_cons_cons, List.zip_nil_right, List.mem_cons, List.not_mem_nil, or_false] at hx
          rcases hx with rfl | rfl
          · exact RowR.of_prs hpr (by rw [HNP.out]; omega)
          · exact RowR.of_prs hpr' (by rw [HNP'.out]; omega)))).mono ?_
        rintro e w' ⟨r, N, c, rfl, ho, hb'⟩
        have hN : N = (xs ++ xs').length := by
          have := ho.1
          simp only [List.flatten_cons, List.flatten_nil, List.append_nil, List.length_append, flatP_len] at this ⊢
          omega
        have ho' : w'.ownsRow (w3.alloc (.cells #[.slice pa np pc, .slice pa' np' pc'] 22)).heap.size 36 2 (.slice r N c) (xs ++ xs').length (flatP (xs ++ xs')) := by
          rw [flatP_append, ← hN]
          simpa using ho
        refine ⟨r, N, c, rfl, ⟨_, _, _, xs ++ xs', [], rfl, prs_own ho' (show (xs ++ xs').length = (a.ps ++ b.ps).length by rw [List.length_append, List.length_append, HP.out.1, HP'.out.1]) (texts_append HP.out.1 (hpr.below hb').texts (hpr'.below hb').texts), Bss.nil _, Is.nil' _⟩, after_alloc hb'⟩
      go_enter Try.func43, Try.ntmps43
      go_wp2_with (first | (go_at_call 62; refine (HLA.out w1 HJ1.out.1).mono ?_; rintro e w2 ⟨rfl, hb2⟩; have HJ2 := hide (HJ1.out.keep (Only.of_below (fun _ => False) hb2)); (try clear z0 z1 z2 z3); (try clear y0 y1 y2 y3); obtain ⟨⟨z0, z1, z2, z3⟩, _⟩ := node_cells HJ2.out.2.1; obtain ⟨⟨y0, y1, y2, y3⟩, _⟩ := node_cells HJ2.out.2.2.1; obtain ⟨⟨d0, d1, d2, d3⟩, k0, k1, k2, k3⟩ := node_cells HJ2.out.2.2.2; clear HLA hb2) | (go_at_call 62; refine (HLB.out w2 HJ2.out.1).mono ?_; rintro e w3 ⟨rfl, hb3⟩; have HJ3 := hide (HJ2.out.keep (Only.of_below (fun _ => False) hb3)); (try clear z0 z1 z2 z3); (try clear y0 y1 y2 y3); obtain ⟨⟨z0, z1, z2, z3⟩, _⟩ := node_cells HJ3.out.2.1; obtain ⟨⟨y0, y1, y2, y3⟩, _⟩ := node_cells HJ3.out.2.2.1; obtain ⟨⟨d0, d1, d2, d3⟩, k0, k1, k2, k3⟩ := node_cells HJ3.out.2.2.2; clear HLB hb3) | (go_at_call 74; refine (HLF.out w3 HJ3.out.1).mono ?_; rintro e w4 ⟨r4, N4, c4, rfl, hn4, hb4⟩; have HJ4 := hide (HJ3.out.keep (Only.of_below (fun _ => False) hb4)); have HO4 := hide (owned_tup hn4 (B := w.heap.size + 3) (by have := HJ4.out.2.2.2.lt; omega)); clear HLF hb4 hn4) | (go_at_call 73; refine HO4.out.mono ?_; rintro e w5 ⟨u5, rfl, ⟨l5, p5, n5, c5, k5, nk5, kc5, q5, nq5, qc5, rfl, hn5⟩, hb5⟩; have HJ5 := hide (HJ4.out.keep (Only.of_below (fun _ => False) hb5)); have HN5 := hide hn5; obtain ⟨⟨d0, d1, d2, d3⟩, k0, k1, k2, k3⟩ := node_cells HJ5.out.2.2.2; clear HO4 hb5 hn5))
      (try simp only [Exit.inBlock, Exit.then])
      refine bodyPost_ret (ret_node1 rfl _ _ (w.heap.size + 2) _ _ _ _ _ rfl rfl (laidN_blk HJ5.out.2.2.2 _ _ _ _)) rfl ?_
      exact ⟨_, rfl, (HN5.out.only (laidN_only w5 (w.heap.size + 2) _ _ _ _) (fun j hj => by omega)).le (by omega), HJ5.out.1.trans ((laidN_only w5 (w.heap.size + 2) _ _ _ _).below HJ5.out.1.size (fun j hj e => by omega))⟩
    | false =>
      have hia := not_both hla
      rw [hla, hlb] at HNN HEE
      rw [hia] at HNN HEE HIA
      rw [hla] at HLA
      rw [hlb] at HLB
      simp only [Bool.and_false, Bool.false_eq_true, if_false, Bool.false_and, Bool.not_false, if_true] at HNN HEE
      rw [HNN.out, HEE.out]
      go_enter Try.func43, Try.ntmps43
      go_wp2_with (first | (go_at_call 62; refine (HLA.out w1 HJ1.out.1).mono ?_; rintro e w2 ⟨rfl, hb2⟩; have HJ2 := hide (HJ1.out.keep (Only.of_below (fun _ => False) hb2)); (try clear z0 z1 z2 z3); (try clear y0 y1 y2 y3); obtain ⟨⟨z0, z1, z2, z3⟩, _⟩ := node_cells HJ2.out.2.1; obtain ⟨⟨y0, y1, y2, y3⟩, _⟩ := node_cells HJ2.out.2.2.1; obtain ⟨⟨d0, d1, d2, d3⟩, k0, k1, k2, k3⟩ := node_cells HJ2.out.2.2.2; clear HLA hb2) | (go_at_call 62; refine (HLB.out w2 HJ2.out.1).mono ?_; rintro e w3 ⟨rfl, hb3⟩; have HJ3 := hide (HJ2.out.keep (Only.of_below (fun _ => False) hb3)); (try clear z0 z1 z2 z3); (try clear y0 y1 y2 y3); obtain ⟨⟨z0, z1, z2, z3⟩, _⟩ := node_cells HJ3.out.2.1; obtain ⟨⟨y0, y1, y2, y3⟩, _⟩ := node_cells HJ3.out.2.2.1; obtain ⟨⟨d0, d1, d2, d3⟩, k0, k1, k2, k3⟩ := node_cells HJ3.out.2.2.2; clear HLB hb3) | (go_at_call 68; refine (HIA.out w3 HJ3.out.1).mono ?_; rintro e w4 ⟨rfl, hb4⟩; have HJ4 := hide (HJ3.out.keep (Only.of_below (fun _ => False) hb4)); (try clear z0 z1 z2 z3); (try clear y0 y1 y2 y3); obtain ⟨⟨z0, z1, z2, z3⟩, _⟩ := node_cells HJ4.out.2.1; obtain ⟨⟨y0, y1, y2, y3⟩, _⟩ := node_cells HJ4.out.2.2.1; obtain ⟨⟨d0, d1, d2, d3⟩, k0, k1, k2, k3⟩ := node_cells HJ4.out.2.2.2; clear HIA hb4))
      (try simp only [Exit.inBlock, Exit.then])
      refine bodyPost_ret (ret_node1 rfl _ _ (w.heap.size + 2) _ _ _ _ _ rfl rfl (laidN_blk HJ4.out.2.2.2 _ _ _ _)) rfl ?_
      exact GivesN.no 100 (HJ4.out.1.trans ((laidN_only w4 (w.heap.size + 2) _ _ _ _).below HJ4.out.1.size (fun j hj e => by omega)))
  | false =>
    cases hia : innerB a with
    | false =>
      rw [hla, hia] at HNN HEE
      rw [hia] at HIA
      rw [hla] at HLA
      simp only [Bool.false_and, Bool.false_eq_true, if_false, Bool.not_false, if_true] at HNN HEE
      rw [HNN.out, HEE.out]
      go_enter Try.func43, Try.ntmps43
      go_wp2_with (first | (go_at_call 62; refine (HLA.out w1 HJ1.out.1).mono ?_; rintro e w2 ⟨rfl, hb2⟩; have HJ2 := hide (HJ1.out.keep (Only.of_below (fun _ => False) hb2)); (try clear z0 z1 z2 z3); (try clear y0 y1 y2 y3); obtain ⟨⟨z0, z1, z2, z3⟩, _⟩ := node_cells HJ2.out.2.1; obtain ⟨⟨y0, y1, y2, y3⟩, _⟩ := node_cells HJ2.out.2.2.1; obtain ⟨⟨d0, d1, d2, d3⟩, k0, k1, k2, k3⟩ := node_cells HJ2.out.2.2.2; clear HLA hb2) | (go_at_call 68; refine (HIA.out w2 HJ2.out.1).mono ?_; rintro e w3 ⟨rfl, hb3⟩; have HJ3 := hide (HJ2.out.keep (Only.of_below (fun _ => False) hb3)); (try clear z0 z1 z2 z3); (try clear y0 y1 y2 y3); obtain ⟨⟨z0, z1, z2, z3⟩, _⟩ := node_cells HJ3.out.2.1; obtain ⟨⟨y0, y1, y2, y3⟩, _⟩ := node_cells HJ3.out.2.2.1; obtain ⟨⟨d0, d1, d2, d3⟩, k0, k1, k2, k3⟩ := node_cells HJ3.out.2.2.2; clear HIA hb3))
      (try simp only [Exit.inBlock, Exit.then])
      refine bodyPost_ret (ret_node1 rfl _ _ (w.heap.size + 2) _ _ _ _ _ rfl rfl (laidN_blk HJ3.out.2.2.2 _ _ _ _)) rfl ?_
      exact GivesN.no 100 (HJ3.out.1.trans ((laidN_only w3 (w.heap.size + 2) _ _ _ _).below HJ3.out.1.size (fun j hj e => by omega)))
    | true =>
      cases hib : innerB b with
      | false =>
        rw [hla, hia, hib] at HNN HEE
        rw [hia] at HIA
        rw [hib] at HIB
        rw [hla] at HLA
        simp only [Bool.false_and, Bool.false_eq_true, if_false, Bool.and_false, Bool.not_false, if_true] at HNN HEE
        rw [HNN.out, HEE.out]
        go_enter Try.func43, Try.ntmps43
        go_wp2_with (first | (go_at_call 62; refine (HLA.out w1 HJ1.out.1).mono ?_; rintro e w2 ⟨rfl, hb2⟩; have HJ2 := hide (HJ1.out.keep (Only.of_below (fun _ => False) hb2)); (try clear z0 z1 z2 z3); (try clear y0 y1 y2 y3); obtain ⟨⟨z0, z1, z2, z3⟩, _⟩ := node_cells HJ2.out.2.1; obtain ⟨⟨y0, y1, y2, y3⟩, _⟩ := node_cells HJ2.out.2.2.1; obtain ⟨⟨d0, d1, d2, d3⟩, k0, k1, k2, k3⟩ := node_cells HJ2.out.2.2.2; clear HLA hb2) | (go_at_call 68; refine (HIA.out w2 HJ2.out.1).mono ?_; rintro e w3 ⟨rfl, hb3⟩; have HJ3 := hide (HJ2.out.keep (Only.of_below (fun _ => False) hb3)); (try clear z0 z1 z2 z3); (try clear y0 y1 y2 y3); obtain ⟨⟨z0, z1, z2, z3⟩, _⟩ := node_cells HJ3.out.2.1; obtain ⟨⟨y0, y1, y2, y3⟩, _⟩ := node_cells HJ3.out.2.2.1; obtain ⟨⟨d0, d1, d2, d3⟩, k0, k1, k2, k3⟩ := node_cells HJ3.out.2.2.2; clear HIA hb3) | (go_at_call 68; refine (HIB.out w3 HJ3.out.1).mono ?_; rintro e w4 ⟨rfl, hb4⟩; have HJ4 := hide (HJ3.out.keep (Only.of_below (fun _ => False) hb4)); (try clear z0 z1 z2 z3); (try clear y0 y1 y2 y3); obtain ⟨⟨z0, z1, z2, z3⟩, _⟩ := node_cells HJ4.out.2.1; obtain ⟨⟨y0, y1, y2, y3⟩, _⟩ := node_cells HJ4.out.2.2.1; obtain ⟨⟨d0, d1, d2, d3⟩, k0, k1, k2, k3⟩ := node_cells HJ4.out.2.2.2; clear HIB hb4))
        (try simp only [Exit.inBlock, Exit.then])
        refine bodyPost_ret (ret_node1 rfl _ _ (w.heap.size + 2) _ _ _ _ _ rfl rfl (laidN_blk HJ4.out.2.2.2 _ _ _ _)) rfl ?_
        exact GivesN.no 100 (HJ4.out.1.trans ((laidN_only w4 (w.heap.size + 2) _ _ _ _).below HJ4.out.1.size (fun j hj e => by omega)))
      | true =>
        rw [hla, hia, hib] at HNN HEE
        rw [hia] at HIA
        rw [hib] at HIB
        rw [hla] at HLA
        simp only [Bool.false_and, Bool.false_eq_true, if_false, Bool.and_self, Bool.not_true] at HNN HEE
        cases hke : keyB key with
        | false =>
          rw [hke] at HNN HEE HKE
          simp only [Bool.false_eq_true, if_false] at HNN HEE
          rw [HNN.out, HEE.out]
          go_enter Try.func43, Try.ntmps43
          go_wp2_with (first | (go_at_call 62; refine (HLA.out w1 HJ1.out.1).mono ?_; rintro e w2 ⟨rfl, hb2⟩; have HJ2 := hide (HJ1.out.keep (Only.of_below (fun _ => False) hb2)); (try clear z0 z1 z2 z3); (try clear y0 y1 y2 y3); obtain ⟨⟨z0, z1, z2, z3⟩, _⟩ := node_cells HJ2.out.2.1; obtain ⟨⟨y0, y1, y2, y3⟩, _⟩ := node_cells HJ2.out.2.2.1; obtain ⟨⟨d0, d1, d2, d3⟩, k0, k1, k2, k3⟩ := node_cells HJ2.out.2.2.2; clear HLA hb2) | (go_at_call 68; refine (HIA.out w2 HJ2.out.1).mono ?_; rintro e w3 ⟨rfl, hb3⟩; have HJ3 := hide (HJ2.out.keep (Only.of_below (fun _ => False) hb3)); (try clear z0 z1 z2 z3); (try clear y0 y1 y2 y3); obtain ⟨⟨z0, z1, z2, z3⟩, _⟩ := node_cells HJ3.out.2.1; obtain ⟨⟨y0, y1, y2, y3⟩, _⟩ := node_cells HJ3.out.2.2.1; obtain ⟨⟨d0, d1, d2, d3⟩, k0, k1, k2, k3⟩ := node_cells HJ3.out.2.2.2; clear HIA hb3) | (go_at_call 68; refine (HIB.out w3 HJ3.out.1).mono ?_; rintro e w4 ⟨rfl, hb4⟩; have HJ4 := hide (HJ3.out.keep (Only.of_below (fun _ => False) hb4)); (try clear z0 z1 z2 z3); (try clear y0 y1 y2 y3); obtain ⟨⟨z0, z1, z2, z3⟩, _⟩ := node_cells HJ4.out.2.1; obtain ⟨⟨y0, y1, y2, y3⟩, _⟩ := node_cells HJ4.out.2.2.1; obtain ⟨⟨d0, d1, d2, d3⟩, k0, k1, k2, k3⟩ := node_cells HJ4.out.2.2.2; clear HIB hb4) | (go_at_call 71; refine (HKE.out w4 HJ4.out.1).mono ?_; rintro e wk ⟨rfl, hwk⟩; subst wk; clear HKE))
          (try simp only [Exit.inBlock, Exit.then])
          refine bodyPost_ret (ret_node1 rfl _ _ (w.heap.size + 2) _ _ _ _ _ rfl rfl (laidN_blk HJ4.out.2.2.2 _ _ _ _)) rfl ?_
          exact GivesN.no 1 (HJ4.out.1.trans ((laidN_only w4 (w.heap.size + 2) _ _ _ _).below HJ4.out.1.size (fun j hj e => by omega)))
        | true =>
          rw [hke] at HNN HEE HKE
          simp only [if_true] at HNN HEE
          rw [HNN.out, HEE.out]
          obtain ⟨IV, hIV⟩ : ∃ x, x = iv (a.cs ++ b.cs) := ⟨_, rfl⟩
          have HIV := hide hIV
          clear hIV
          obtain ⟨hqk, hqk', hqc, hqc'⟩ := HQA.out hia hib
          have hal : Sl w (.slice q1 m1 dq) key := HKV.out
          clear HNN HEE HPA HQA HNL HLB
          have HCK : Hid (∀ wx g g2, Below w.heap.size w wx → Blk wx g 23 [.slice ka nk kc, .slice (some ⟨g2, 0, none⟩) 1 1, .slice ka' nk' kc'] → Blk wx g2 34 [.slice q1 m1 dq] → Calls Try.prog 78 #[.slice (some ⟨g, 0, none⟩) 3 3] wx fun e w' => ∃ r N c, e = .returned (.slice r N c) ∧ w'.ownsRow wx.heap.size 34 1 (.slice r N c) N (ys ++ ([Value.slice q1 m1 dq] ++ ys')) ∧ Below wx.heap.size wx w') := fun wx g g2 hbw hB hB2 => by
            refine (concatK_any wx g [.slice ka nk kc, .slice (some ⟨g2, 0, none⟩) 1 1, .slice ka' nk' kc'] [ys, [.slice q1 m1 dq], ys'] rfl (by simp) hB (lit_rows rfl (by
              intro x hx
              simp only [List.zip_cons_cons, List.zip_nil_right, List.mem_cons, List.not_mem_nil, or_false] at hx
              rcases hx with rfl | rfl | rfl
              · exact RowR.of_bss (HK.out.below hbw) (by rw [HNK.out]; omega)
              · exact ⟨some ⟨g2, 0, none⟩, 1, 1, rfl, by simp, by omega, fun h => (by cases h), fun b hb j u hj => (by
                  obtain rfl := (Option.some.inj hb)
                  rw [Addr.add_mid, Nat.zero_add, hB2.cell]
                  exact hj), fun u hu => (by simp at hu; subst hu; rfl)⟩
              · exact RowR.of_bss (HK'.out.below hbw) (by rw [HNK'.out]; omega)))).mono ?_
            rintro e w' ⟨r, N, c, rfl, ho, hb'⟩
            exact ⟨r, N, c, rfl, by simpa using ho, hb'⟩
          have HCI : Hid (∀ wx g, Below w.heap.size w wx → Blk wx g 24 [.slice ca nc cc, .slice ca' nc' cc'] → Calls Try.prog 79 #[.slice (some ⟨g, 0, none⟩) 2 2] wx fun e w' => ∃ r N c, e = .returned (.slice r N c) ∧ w'.ownsRow wx.heap.size 3 1 (.slice r N c) N IV ∧ Below wx.heap.size wx w') := fun wx g hbw hB => by
            refine (concatI_any wx g [.slice ca nc cc, .slice ca' nc' cc'] [iv a.cs, iv b.cs] rfl (by simp) hB (lit_rows rfl (by
              intro x hx
              simp only [List.zip_cons_cons, List.zip_nil_right, List.mem_cons, List.not_mem_nil, or_false] at hx
              rcases hx with rfl | rfl
              · exact RowR.of_is (HC.out.below hbw) (by rw [HNC.out]; omega)
              · exact RowR.of_is (HC'.out.below hbw) (by rw [HNC'.out]; omega)))).mono ?_
            rintro e w' ⟨r, N, c, rfl, ho, hb'⟩
            exact ⟨r, N, c, rfl, (by rw [HIV.out, show iv (a.cs ++ b.cs) = iv a.cs ++ iv b.cs by simp [iv]]; simpa using ho), hb'⟩
          have HND : Hid (∀ wx a1 n1 c1 a2 n2 c2, Below w.heap.size w wx → wx.ownsRow (w.heap.size + 3) 34 1 (.slice a1 n1 c1) n1 (ys ++ ([Value.slice q1 m1 dq] ++ ys')) → wx.ownsRow (w.heap.size + 3) 3 1 (.slice a2 n2 c2) n2 IV → NdV wx (.agg #[.bool false, .slice none 0 0, .slice a1 n1 c1, .slice a2 n2 c2]) (joinK a key b)) := fun wx a1 n1 c1 a2 n2 c2 hbw h1 h2 => by
            have e1 : n1 = (ys ++ ([Value.slice q1 m1 dq] ++ ys')).length := by have := h1.1; omega
            rw [HIV.out] at h2
            have e2 : n2 = (a.cs ++ b.cs).length := by have := h2.1; simp only [iv, List.length_map] at this; omega
            rw [e1] at h1 ⊢
            rw [e2] at h2 ⊢
            refine ⟨_, _, _, [], (ys ++ ([Value.slice q1 m1 dq] ++ ys')), rfl, Prs.nil _, bss_own h1 ?_ ?_, (show Ints wx _ _ _ from h2).is⟩
            · show _ = (a.ks ++ ([key] ++ b.ks)).length
              simp only [List.length_append, HK.out.1, HK'.out.1, List.length_cons, List.length_nil]
            · exact keys_append HK.out.1 (HK.out.below hbw).texts (keys_append (ys := [.slice q1 m1 dq]) (ks := [key]) rfl (fun i hi => by
                obtain rfl : i = 0 := by simp at hi; omega
                exact HKV.out.below hbw) (HK'.out.below hbw).texts)
          go_enter Try.func43, Try.ntmps43
          go_wp2_with (first | (go_at_call 62; refine (HLA.out w1 HJ1.out.1).mono ?_; rintro e w2 ⟨rfl, hb2⟩; have HJ2 := hide (HJ1.out.keep (Only.of_below (fun _ => False) hb2)); (try clear z0 z1 z2 z3); (try clear y0 y1 y2 y3); obtain ⟨⟨z0, z1, z2, z3⟩, _⟩ := node_cells HJ2.out.2.1; obtain ⟨⟨y0, y1, y2, y3⟩, _⟩ := node_cells HJ2.out.2.2.1; obtain ⟨⟨d0, d1, d2, d3⟩, k0, k1, k2, k3⟩ := node_cells HJ2.out.2.2.2; clear HLA hb2) | (go_at_call 68; refine (HIA.out w2 HJ2.out.1).mono ?_; rintro e w3 ⟨rfl, hb3⟩; have HJ3 := hide (HJ2.out.keep (Only.of_below (fun _ => False) hb3)); (try clear z0 z1 z2 z3); (try clear y0 y1 y2 y3); obtain ⟨⟨z0, z1, z2, z3⟩, _⟩ := node_cells HJ3.out.2.1; obtain ⟨⟨y0, y1, y2, y3⟩, _⟩ := node_cells HJ3.out.2.2.1; obtain ⟨⟨d0, d1, d2, d3⟩, k0, k1, k2, k3⟩ := node_cells HJ3.out.2.2.2; clear HIA hb3) | (go_at_call 68; refine (HIB.out w3 HJ3.out.1).mono ?_; rintro e w4 ⟨rfl, hb4⟩; have HJ4 := hide (HJ3.out.keep (Only.of_below (fun _ => False) hb4)); (try clear z0 z1 z2 z3); (try clear y0 y1 y2 y3); obtain ⟨⟨z0, z1, z2, z3⟩, _⟩ := node_cells HJ4.out.2.1; obtain ⟨⟨y0, y1, y2, y3⟩, _⟩ := node_cells HJ4.out.2.2.1; obtain ⟨⟨d0, d1, d2, d3⟩, k0, k1, k2, k3⟩ := node_cells HJ4.out.2.2.2; clear HIB hb4) | (go_at_call 71; refine (HKE.out w4 HJ4.out.1).mono ?_; rintro e wk ⟨rfl, hwk⟩; subst wk; clear HKE))
          refine wp_region_mix (fun j => j = w.heap.size + 2) [some (isV (.pointer (some ⟨w.heap.size, 2, none⟩))), some (isV (.slice ka nk kc)), some (isV (.slice q1 m1 dq)), some (isLit (w.heap.size + 3) 34 [.slice q1 m1 dq]), some (isV (.pointer (some ⟨w.heap.size + 1, 2, none⟩))), some (isV (.slice ka' nk' kc')), some (isLitK (w.heap.size + 3) ka nk kc q1 m1 dq ka' nk' kc'), some (isRowO (w.heap.size + 3) 34 1 (ys ++ ([Value.slice q1 m1 dq] ++ ys'))), some (isV (.pointer (some ⟨w.heap.size, 3, none⟩))), some (isV (.slice ca nc cc)), some (isV (.pointer (some ⟨w.heap.size + 1, 3, none⟩))), some (isV (.slice ca' nc' cc')), some (isLit (w.heap.size + 3) 24 [.slice ca nc cc, .slice ca' nc' cc']), some (isRowO (w.heap.size + 3) 3 1 IV), some (isNd2 (w.heap.size + 3) (ys ++ ([Value.slice q1 m1 dq] ++ ys')) IV), some (isTup (w.heap.size + 3) (ownN (joinK a key b)) (ownE (joinK a key b))), some (isNdO (w.heap.size + 3) (ownN (joinK a key b))), some (isV (.int .i64 (ownE (joinK a key b)))), none, none] [18, 19] (JnS w [.bool lf, .slice pa np pc, .slice ka nk kc, .slice ca nc cc] [.bool lf', .slice pa' np' pc', .slice ka' nk' kc', .slice ca' nc' cc'] (ownN (joinK a key b)) (ownE (joinK a key b))) 57 (by kernel_rfl) (by kernel_rfl) (by kernel_rfl) (by kernel_rfl) rfl ?_ ?_ ?_ ?_ ?_
          · intro vals0
            exact (HJ4.out.keep ((Only.refl _ w4).drew) : JnB w [.bool lf, .slice pa np pc, .slice ka nk kc, .slice ca nc cc] [.bool lf', .slice pa' np' pc', .slice ka' nk' kc', .slice ca' nc' cc'] zeroC w4.drew)
          · refine allF_at _ ?_
            repeat (first | exact trivial | refine allF_none ?_ | refine allF_isV ?_ | refine allF_cons (st_isLit _ _ (fun j hj => by omega)) ?_ | refine allF_cons (st_isLitK (fun j hj => by omega)) ?_ | refine allF_cons (st_isRowO _ _ _ (fun j hj => by omega)) ?_ | refine allF_cons (st_isNd2 (fun j hj => by omega)) ?_ | refine allF_cons (st_isTup _ _ (fun j hj => by omega)) ?_ | refine allF_cons (st_isNdO _ (fun j hj => by omega)) ?_)
          · exact JnS.ind
          · refine ⟨?_, ?_, ?_, ?_, ?_, ?_, ?_, ?_, ?_, ?_, ?_, ?_, ?_, ?_, ?_, ?_, ?_, ?_, ?_, ?_, trivial⟩
            · intro k vals act wx hk h hs
              have e3 : act.eval (.tmp 3) = .pointer (some ⟨w.heap.size, 0, none⟩) := h.old 3 (by kernel_rfl)
              clear h
              refine gives_by rfl act.eval rfl ?_
              generalize act.eval = ρ at *
              intro hf hc
              go_simp
              exact ⟨rfl, Only.refl _ _, hs⟩
            · intro k vals act wx hk h hs
              obtain ⟨v39, e39, f39⟩ := h.f 0 39 (by kernel_rfl) rfl
              obtain rfl : v39 = .pointer (some ⟨w.heap.size, 2, none⟩) := f39
              clear h
              obtain ⟨hbw, hAx, hBx, hsz⟩ := JnS.any hk hs
              obtain ⟨⟨x0, x1, x2, x3⟩, _⟩ := node_cells hAx
              refine gives_by rfl act.eval rfl ?_
              generalize act.eval = ρ at *
              intro hf hc
              go_simp
              exact ⟨rfl, Only.refl _ _, hs⟩
            · intro k vals act wx hk h hs
              have e1 : act.eval (.tmp 1) = .slice q1 m1 dq := h.old 1 (by kernel_rfl)
              clear h
              refine gives_by rfl act.eval rfl ?_
              generalize act.eval = ρ at *
              intro hf hc
              go_simp
              exact ⟨rfl, Only.refl _ _, hs⟩
            · intro k vals act wx hk h hs
              obtain ⟨v41, e41, f41⟩ := h.f 2 41 (by kernel_rfl) rfl
              obtain rfl : v41 = .slice q1 m1 dq := f41
              clear h
              obtain ⟨hbw, hAx, hBx, hsz⟩ := JnS.any hk hs
              refine gives_of_run rfl (exec_buildSlice1 23 1 (.tmp 41) rfl _ _ e41 (build_row wx q1 m1 dq)) ?_
              have hon : Only (fun _ => False) wx (wx.alloc (.cells #[.slice q1 m1 dq] 34)) := (Only.refl _ wx).alloc _
              exact ⟨⟨wx.heap.size, rfl, hsz, Blk.new wx _ [.slice q1 m1 dq]⟩, hon, hs.keep hk hon⟩
            · intro k vals act wx hk h hs
              have e5 : act.eval (.tmp 5) = .pointer (some ⟨w.heap.size + 1, 0, none⟩) := h.old 5 (by kernel_rfl)
              clear h
              refine gives_by rfl act.eval rfl ?_
              generalize act.eval = ρ at *
              intro hf hc
              go_simp
              exact ⟨rfl, Only.refl _ _, hs⟩
            · intro k vals act wx hk h hs
              obtain ⟨v43, e43, f43⟩ := h.f 4 43 (by kernel_rfl) rfl
              obtain rfl : v43 = .pointer (some ⟨w.heap.size + 1, 2, none⟩) := f43
              clear h
              obtain ⟨hbw, hAx, hBx, hsz⟩ := JnS.any hk hs
              obtain ⟨⟨x0, x1, x2, x3⟩, _⟩ := node_cells hBx
              refine gives_by rfl act.eval rfl ?_
              generalize act.eval = ρ at *
              intro hf hc
              go_simp
              exact ⟨rfl, Only.refl _ _, hs⟩
            · intro k vals act wx hk h hs
              obtain ⟨v40, e40, f40⟩ := h.f 1 40 (by kernel_rfl) rfl
              obtain rfl : v40 = .slice ka nk kc := f40
              obtain ⟨v42, e42, f42⟩ := h.f 3 42 (by kernel_rfl) rfl
              obtain ⟨g42, rfl, hg42, B42⟩ := f42
              obtain ⟨v44, e44, f44⟩ := h.f 5 44 (by kernel_rfl) rfl
              obtain rfl : v44 = .slice ka' nk' kc' := f44
              clear h
              obtain ⟨hbw, hAx, hBx, hsz⟩ := JnS.any hk hs
              refine gives_of_run rfl (exec_build3 106 3 (.tmp 40) (.tmp 42) (.tmp 44) rfl _ _ _ _ e40 e42 e44 (buildK3 wx ka (some ⟨g42, 0, none⟩) ka' nk 1 nk' kc 1 kc')) ?_
              have hon : Only (fun _ => False) wx (wx.alloc (.cells #[.slice ka nk kc, .slice (some ⟨g42, 0, none⟩) 1 1, .slice ka' nk' kc'] 23)) := (Only.refl _ wx).alloc _
              exact ⟨⟨wx.heap.size, g42, rfl, hsz, hg42, Blk.new wx _ [.slice ka nk kc, .slice (some ⟨g42, 0, none⟩) 1 1, .slice ka' nk' kc'], B42.only hon (fun h => h)⟩, hon, hs.keep hk hon⟩
            · intro k vals act wx hk h hs
              obtain ⟨v45, e45, f45⟩ := h.f 6 45 (by kernel_rfl) rfl
              obtain ⟨g45, g42', rfl, hg45, hg42', B45, B42'⟩ := f45
              clear h
              refine gives_by rfl act.eval rfl ?_
              generalize act.eval = ρ at *
              intro hf hc
              go_simp
              obtain ⟨hbw, hAx, hBx, hsz⟩ := JnS.any hk hs
              refine (HCK.out wx g45 g42' hbw B45 B42').mono ?_
              rintro e w' ⟨r, N, c, he, ho, hb'⟩
              exact ⟨_, he, ⟨r, N, c, rfl, own_le' ho hsz⟩, Only.of_below _ hb', hs.keep hk (Only.of_below _ hb')⟩
            · intro k vals act wx hk h hs
              have e3 : act.eval (.tmp 3) = .pointer (some ⟨w.heap.size, 0, none⟩) := h.old 3 (by kernel_rfl)
              clear h
              refine gives_by rfl act.eval rfl ?_
              generalize act.eval = ρ at *
              intro hf hc
              go_simp
              exact ⟨rfl, Only.refl _ _, hs⟩
            · intro k vals act wx hk h hs
              obtain ⟨v47, e47, f47⟩ := h.f 8 47 (by kernel_rfl) rfl
              obtain rfl : v47 = .pointer (some ⟨w.heap.size, 3, none⟩) := f47
              clear h
              obtain ⟨hbw, hAx, hBx, hsz⟩ := JnS.any hk hs
              obtain ⟨⟨x0, x1, x2, x3⟩, _⟩ := node_cells hAx
              refine gives_by rfl act.eval rfl ?_
              generalize act.eval = ρ at *
              intro hf hc
              go_simp
              exact ⟨rfl, Only.refl _ _, hs⟩
            · intro k vals act wx hk h hs
              have e5 : act.eval (.tmp 5) = .pointer (some ⟨w.heap.size + 1, 0, none⟩) := h.old 5 (by kernel_rfl)
              clear h
              refine gives_by rfl act.eval rfl ?_
              generalize act.eval = ρ at *
              intro hf hc
              go_simp
              exact ⟨rfl, Only.refl _ _, hs⟩
            · intro k vals act wx hk h hs
              obtain ⟨v49, e49, f49⟩ := h.f 10 49 (by kernel_rfl) rfl
              obtain rfl : v49 = .pointer (some ⟨w.heap.size + 1, 3, none⟩) := f49
              clear h
              obtain ⟨hbw, hAx, hBx, hsz⟩ := JnS.any hk hs
              obtain ⟨⟨x0, x1, x2, x3⟩, _⟩ := node_cells hBx
              refine gives_by rfl act.eval rfl ?_
              generalize act.eval = ρ at *
              intro hf hc
              go_simp
              exact ⟨rfl, Only.refl _ _, hs⟩
            · intro k vals act wx hk h hs
              obtain ⟨v48, e48, f48⟩ := h.f 9 48 (by kernel_rfl) rfl
              obtain rfl : v48 = .slice ca nc cc := f48
              obtain ⟨v50, e50, f50⟩ := h.f 11 50 (by kernel_rfl) rfl
              obtain rfl : v50 = .slice ca' nc' cc' := f50
              clear h
              obtain ⟨hbw, hAx, hBx, hsz⟩ := JnS.any hk hs
              refine gives_of_run rfl (exec_build2 108 2 (.tmp 48) (.tmp 50) rfl _ _ _ e48 e50 (buildI2 wx ca ca' nc nc' cc cc')) ?_
              have hon : Only (fun _ => False) wx (wx.alloc (.cells #[.slice ca nc cc, .slice ca' nc' cc'] 24)) := (Only.refl _ wx).alloc _
              exact ⟨⟨wx.heap.size, rfl, hsz, Blk.new wx _ [.slice ca nc cc, .slice ca' nc' cc']⟩, hon, hs.keep hk hon⟩
            · intro k vals act wx hk h hs
              obtain ⟨v51, e51, f51⟩ := h.f 12 51 (by kernel_rfl) rfl
              obtain ⟨g51, rfl, hg51, B51⟩ := f51
              clear h
              refine gives_by rfl act.eval rfl ?_
              generalize act.eval = ρ at *
              intro hf hc
              go_simp
              obtain ⟨hbw, hAx, hBx, hsz⟩ := JnS.any hk hs
              refine (HCI.out wx g51 hbw B51).mono ?_
              rintro e w' ⟨r, N, c, he, ho, hb'⟩
              exact ⟨_, he, ⟨r, N, c, rfl, own_le' ho hsz⟩, Only.of_below _ hb', hs.keep hk (Only.of_below _ hb')⟩
            · intro k vals act wx hk h hs
              obtain ⟨v46, e46, f46⟩ := h.f 7 46 (by kernel_rfl) rfl
              obtain ⟨a46, n46, c46, rfl, O46⟩ := f46
              obtain ⟨v52, e52, f52⟩ := h.f 13 52 (by kernel_rfl) rfl
              obtain ⟨a52, n52, c52, rfl, O52⟩ := f52
              clear h
              refine gives_by rfl act.eval rfl ?_
              generalize act.eval = ρ at *
              intro hf hc
              go_simp
              exact ⟨⟨a46, n46, c46, a52, n52, c52, rfl, O46, O52⟩, Only.refl _ _, hs⟩
            · intro k vals act wx hk h hs
              obtain ⟨v53, e53, f53⟩ := h.f 14 53 (by kernel_rfl) rfl
              obtain ⟨a53, n53, c53, a53', n53', c53', rfl, O53, O53'⟩ := f53
              clear h
              refine gives_by rfl act.eval rfl ?_
              generalize act.eval = ρ at *
              intro hf hc
              go_simp
              obtain ⟨hbw, hAx, hBx, hsz⟩ := JnS.any hk hs
              refine (owned_tup (HND.out wx _ _ _ _ _ _ hbw O53 O53') hsz).mono ?_
              rintro e w' ⟨u, he, ht, hb'⟩
              exact ⟨u, he, ht, Only.of_below _ hb', hs.keep hk (Only.of_below _ hb')⟩
            · intro k vals act wx hk h hs
              obtain ⟨v54, e54, f54⟩ := h.f 15 54 (by kernel_rfl) rfl
              obtain ⟨l54, p54, np54, pc54, k54, nk54, kc54, q54, nq54, qc54, rfl, N54⟩ := f54
              clear h
              refine gives_by rfl act.eval rfl ?_
              generalize act.eval = ρ at *
              intro hf hc
              go_simp
              exact ⟨⟨l54, p54, np54, pc54, k54, nk54, kc54, q54, nq54, qc54, rfl, N54⟩, Only.refl _ _, hs⟩
            · intro k vals act wx hk h hs
              obtain ⟨v54, e54, f54⟩ := h.f 15 54 (by kernel_rfl) rfl
              obtain ⟨l54, p54, np54, pc54, k54, nk54, kc54, q54, nq54, qc54, rfl, N54⟩ := f54
              clear h
              refine gives_by rfl act.eval rfl ?_
              generalize act.eval = ρ at *
              intro hf hc
              go_simp
              exact ⟨rfl, Only.refl _ _, hs⟩
            · intro vals act wx h hs
              have e6 : act.eval (.tmp 6) = .pointer (some ⟨w.heap.size + 2, 0, none⟩) := h.old 6 (by kernel_rfl)
              obtain ⟨v55, e55, f55⟩ := h.f 16 55 (by kernel_rfl) rfl
              obtain ⟨l55, p55, np55, pc55, k55, nk55, kc55, q55, nq55, qc55, rfl, N55⟩ := f55
              clear h
              have hj : JnB w [.bool lf, .slice pa np pc, .slice ka nk kc, .slice ca nc cc] [.bool lf', .slice pa' np' pc', .slice ka' nk' kc', .slice ca' nc' cc'] zeroC wx := hs
              obtain ⟨⟨d0, d1', d2, d3⟩, k0, k1, k2, k3⟩ := node_cells hj.2.2.2
              have ho := laidN_only wx (w.heap.size + 2) (.bool l55) (.slice p55 np55 pc55) (.slice k55 nk55 kc55) (.slice q55 nq55 qc55)
              have hfin : JnS w [.bool lf, .slice pa np pc, .slice ka nk kc, .slice ca nc cc] [.bool lf', .slice pa' np' pc', .slice ka' nk' kc', .slice ca' nc' cc'] (ownN (joinK a key b)) (ownE (joinK a key b)) 1 (updV vals 18 undef) (laidN wx (w.heap.size + 2) (.bool l55) (.slice p55 np55 pc55) (.slice k55 nk55 kc55) (.slice q55 nq55 qc55)) := ⟨l55, p55, np55, pc55, k55, nk55, kc55, q55, nq55, qc55, ⟨hj.1.trans (ho.below hj.1.size (fun j hh e => by omega)), hj.2.1.only ho (by omega), hj.2.2.1.only ho (by omega), laidN_blk hj.2.2.2 _ _ _ _⟩, N55.only ho (fun j hh => by omega)⟩
              clear hs hj N55
              refine gives_by rfl act.eval rfl ?_
              generalize act.eval = ρ at *
              intro hf hc
              go_simp
              exact ⟨ho, hfin⟩
            · intro vals act wx h hs
              obtain ⟨v56, e56, f56⟩ := h.f 17 56 (by kernel_rfl) rfl
              obtain rfl : v56 = .int .i64 (ownE (joinK a key b)) := f56
              clear h
              have hj : JnS w [.bool lf, .slice pa np pc, .slice ka nk kc, .slice ca nc cc] [.bool lf', .slice pa' np' pc', .slice ka' nk' kc', .slice ca' nc' cc'] (ownN (joinK a key b)) (ownE (joinK a key b)) 1 vals wx := hs
              refine gives_by rfl act.eval rfl ?_
              generalize act.eval = ρ at *
              intro hf hc
              go_simp
              exact ⟨Only.refl _ _, ⟨hj, rfl⟩⟩
          · intro vals w8 hv hs
            obtain ⟨⟨l8, p8, n8, c8, k8, nk8, kc8, q8, nq8, qc8, hj, hn⟩, h19⟩ : (∃ l9 p9 n9 c9 k9 m9 d9 q9 r9 s9, JnB w [.bool lf, .slice pa np pc, .slice ka nk kc, .slice ca nc cc] [.bool lf', .slice pa' np' pc', .slice ka' nk' kc', .slice ca' nc' cc'] [.bool l9, .slice p9 n9 c9, .slice k9 m9 d9, .slice q9 r9 s9] w8 ∧ NdN w8 (w.heap.size + 3) (.agg #[.bool l9, .slice p9 n9 c9, .slice k9 m9 d9, .slice q9 r9 s9]) (ownN (joinK a key b))) ∧ vals 19 = .int .i64 (ownE (joinK a key b)) := hs
            have HJ8 := hide hj
            have HN8 := hide hn
            clear hv hj hn
            simp only [putAll, Act.put, List.setIfInBounds_toArray, List.set_cons_zero, List.set_cons_succ, Nat.zero_add, Nat.reduceAdd, h19]
            (try go_wp2)
            (try simp only [Exit.inBlock, Exit.then])
            refine bodyPost_ret (ret_node1 rfl _ _ (w.heap.size + 2) _ _ _ _ _ rfl rfl HJ8.out.2.2.2) rfl ?_
            exact ⟨_, rfl, HN8.out.le (by omega), HJ8.out.1⟩

end Go.Proofs.Ytoamdbjailpgdaa
