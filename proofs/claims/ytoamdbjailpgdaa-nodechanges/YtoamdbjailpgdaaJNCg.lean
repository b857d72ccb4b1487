/- What changes of a node share: its box and the result's box, rows that are cut. No package's function. -/
import Derived.Test.YtoamdbjailpgdaaNJoin
import Derived.Test.YtoamdbjailpgdaaNDel
import Derived.Test.YtoamdbjailpgdaaJNFind
namespace Go.Proofs.Ytoamdbjailpgdaa
set_option maxRecDepth 20000
open Go.RowKit Go.Shelf
set_option linter.unusedVariables false
set_option linter.unusedSimpArgs false
set_option maxRecDepth 100000

/-- a node's box, and the result's -/
def CgB (w : World) (A ar : List Value) (W : World) : Prop := Below w.heap.size w W ∧ Blk W w.heap.size 26 A ∧ Blk W (w.heap.size + 1) 26 ar
def CgS (w : World) (A : List Value) (n : Nd) (er : Int) (o : Nat) : Nat → (Nat → Value) → World → Prop := fun i vals W => match i with
  | 0 => CgB w A zeroC W
  | 1 => ∃ l pa np pc ka nk kc ca nc cc, CgB w A [.bool l, .slice pa np pc, .slice ka nk kc, .slice ca nc cc] W ∧ NdN W (w.heap.size + 2) (.agg #[.bool l, .slice pa np pc, .slice ka nk kc, .slice ca nc cc]) n
  | _ => (∃ l pa np pc ka nk kc ca nc cc, CgB w A [.bool l, .slice pa np pc, .slice ka nk kc, .slice ca nc cc] W ∧ NdN W (w.heap.size + 2) (.agg #[.bool l, .slice pa np pc, .slice ka nk kc, .slice ca nc cc]) n) ∧ vals o = .int .i64 er
theorem CgB.keep {w W W' : World} {A ar : List Value} (h : CgB w A ar W) (ho : Only (fun _ => False) W W') : CgB w A ar W' :=
  ⟨h.1.trans (ho.below h.1.size (fun _ _ h => h)), h.2.1.only ho (fun h => h), h.2.2.only ho (fun h => h)⟩
theorem CgB.grow {w W W' : World} {A ar : List Value} (h : CgB w A ar W) (hb : Below W.heap.size W W') : CgB w A ar W' := h.keep (Only.of_below _ hb)
theorem CgS.one {w W : World} {A : List Value} {n : Nd} {er : Int} {o : Nat} {vals : Nat → Value} (h : CgS w A n er o 1 vals W) : ∃ l pa np pc ka nk kc ca nc cc, CgB w A [.bool l, .slice pa np pc, .slice ka nk kc, .slice ca nc cc] W ∧ NdN W (w.heap.size + 2) (.agg #[.bool l, .slice pa np pc, .slice ka nk kc, .slice ca nc cc]) n := h
theorem CgS.keep {w W W' : World} {A : List Value} {n : Nd} {er : Int} {o i : Nat} {vals : Nat → Value} (hi : i < 2) (h : CgS w A n er o i vals W) (ho : Only (fun _ => False) W W') : CgS w A n er o i vals W' := by
  rcases (show i = 0 ∨ i = 1 by omega) with rfl | rfl
  · exact CgB.keep (show CgB w A zeroC W from h) ho
  · obtain ⟨l, pa, np, pc, ka, nk, kc, ca, nc, cc, h1, h2⟩ := h.one
    exact (⟨l, pa, np, pc, ka, nk, kc, ca, nc, cc, h1.keep ho, h2.only ho (fun _ h => h.elim)⟩ : ∃ l pa np pc ka nk kc ca nc cc, CgB w A [.bool l, .slice pa np pc, .slice ka nk kc, .slice ca nc cc] W' ∧ NdN W' (w.heap.size + 2) (.agg #[.bool l, .slice pa np pc, .slice ka nk kc, .slice ca nc cc]) n)
theorem CgS.any {w W : World} {A : List Value} {n : Nd} {er : Int} {o i : Nat} {vals : Nat → Value} (hi : i < 2) (h : CgS w A n er o i vals W) : Below w.heap.size w W ∧ Blk W w.heap.size 26 A ∧ w.heap.size + 2 ≤ W.heap.size := by
  rcases (show i = 0 ∨ i = 1 by omega) with rfl | rfl
  · have h' : CgB w A zeroC W := h
    exact ⟨h'.1, h'.2.1, by have := h'.2.2.lt; omega⟩
  · obtain ⟨l, pa, np, pc, ka, nk, kc, ca, nc, cc, h', _⟩ := h.one
    exact ⟨h'.1, h'.2.1, by have := h'.2.2.lt; omega⟩
theorem CgS.ind {w : World} {A : List Value} {n : Nd} {er : Int} {o : Nat} {ch : List Nat} (hc : o ∈ ch) : ∀ k vals vals' W, (∀ j, j ∈ ch → vals j = vals' j) → CgS w A n er o k vals W → CgS w A n er o k vals' W := fun k vals vals' W hv h => by
  match k, h with
  | 0, h => exact h
  | 1, h => exact h
  | k + 2, ⟨h1, h2⟩ => exact ⟨h1, by rw [← hv o hc]; exact h2⟩
theorem cg_new (w : World) (x0 x1 x2 x3 : Value) : ∃ w1, (w.alloc (.cells #[x0, x1, x2, x3] 26)).alloc (.cells #[.bool false, .slice none 0 0, .slice none 0 0, .slice none 0 0] 26) = w1 ∧ CgB w [x0, x1, x2, x3] zeroC w1 := by
  refine ⟨_, rfl, ((Below.refl _ w).alloc (Nat.le_refl _) _).alloc (by simp) _, (Blk.new w _ _).alloc _, ?_⟩
  have := Blk.new (w.alloc (.cells #[x0, x1, x2, x3] 26)) 26 zeroC
  rw [World.size_alloc] at this
  exact this
/-- what an answer without a node leaves -/
theorem cg_no {w W : World} {A ar : List Value} (h : CgB w A ar W) (er : Int) (x0 x1 x2 x3 : Value) (hx : .agg #[x0, x1, x2, x3] = (.agg #[.bool false, .slice none 0 0, .slice none 0 0, .slice none 0 0] : Value)) : GivesN w noNd er (.returned (.tuple #[.agg #[x0, x1, x2, x3], .int .i64 er])) (laidN W (w.heap.size + 1) x0 x1 x2 x3) := by
  rw [hx]
  exact GivesN.no er (h.1.trans ((laidN_only W (w.heap.size + 1) x0 x1 x2 x3).below h.1.size (fun j hj e => by omega)))
/-- what an answer with a node leaves -/
theorem cg_yes {w W : World} {A ar : List Value} (h : CgB w A ar W) (er : Int) {x0 x1 x2 x3 : Value} {n : Nd} (hn : NdN W (w.heap.size + 2) (.agg #[x0, x1, x2, x3]) n) : GivesN w n er (.returned (.tuple #[.agg #[x0, x1, x2, x3], .int .i64 er])) (laidN W (w.heap.size + 1) x0 x1 x2 x3) :=
  ⟨_, rfl, (hn.only (laidN_only W (w.heap.size + 1) x0 x1 x2 x3) (fun j hj => by omega)).le (by omega), h.1.trans ((laidN_only W (w.heap.size + 1) x0 x1 x2 x3).below h.1.size (fun j hj e => by omega))⟩

/-! ### s[l:] of rows that are read -/
theorem Prs.low {W : World} {pa : Option Addr} {np pc : Nat} {xs : List (Value × Value)} {ps : List (List Int × List Int)} (h : Prs W (.slice pa np pc) xs ps) (hn : ps.length = np) (l : Nat) (hl : l ≤ np) : ∃ a' c', (∀ wx, (Instr.slice 22 (.slice pa np pc) (some (.int .i64 (l : Int))) none none).run Try.prog wx = .ok (.slice a' (np - l) c') wx) ∧ (∀ W', Prs W' (.slice pa np pc) xs ps → Prs W' (.slice a' (np - l) c') (xs.drop l) (ps.drop l)) ∧ np - l ≤ c' ∧ c' ≤ 9223372036854775807 := by
  subst hn
  obtain ⟨ao, cap, he, hc1, hc2⟩ := h.shape
  simp only [Value.slice.injEq, true_and] at he
  obtain ⟨rfl, rfl⟩ := he
  by_cases hlc : l < pc
  · exact ⟨_, _, fun wx => cut_low (P := Try.prog) 22 36 2 Try.underlying22 sizePair pa ps.length pc l hl hc1 hlc (by unfold maxLen; omega) wx, fun W' h' => h'.drop l hl, by omega, by omega⟩
  · obtain rfl : l = ps.length := by omega
    obtain rfl : pc = ps.length := by omega
    refine ⟨pa, 0, fun wx => by rw [Nat.sub_self]; exact cut_end (P := Try.prog) 22 36 2 Try.underlying22 sizePair pa ps.length (by unfold maxLen; omega) wx, fun W' h' => ?_, by omega, by omega⟩
    rw [Nat.sub_self, List.drop_eq_nil_of_le (Nat.le_refl _), List.drop_eq_nil_of_le (by rw [h'.1]; exact Nat.le_refl _)]
    exact ⟨rfl, pa, 0, rfl, Nat.le_refl _, by simp [maxLen], fun i hi => absurd hi (by simp), fun hne => absurd rfl hne⟩
theorem buildP3 (w : World) (a1 a2 a3 : Option Addr) (n1 n2 n3 c1 c2 c3 : Nat) : (Instr.buildSlice 104 3 #[(0, .slice a1 n1 c1), (1, .slice a2 n2 c2), (2, .slice a3 n3 c3)]).run Try.prog w = .ok (.slice (some ⟨w.heap.size, 0, none⟩) 3 3) (w.alloc (.cells #[.slice a1 n1 c1, .slice a2 n2 c2, .slice a3 n3 c3] 22)) := by kernel_rfl
theorem buildP2 (w : World) (a1 a2 : Option Addr) (n1 n2 c1 c2 : Nat) : (Instr.buildSlice 104 2 #[(0, .slice a1 n1 c1), (1, .slice a2 n2 c2)]).run Try.prog w = .ok (.slice (some ⟨w.heap.size, 0, none⟩) 2 2) (w.alloc (.cells #[.slice a1 n1 c1, .slice a2 n2 c2] 22)) := by kernel_rfl
theorem build_p1 (w : World) (a1 a2 : Option Addr) (n1 n2 c1 c2 : Nat) : (Instr.buildSlice 22 1 #[(0, .agg #[.slice a1 n1 c1, .slice a2 n2 c2])]).run Try.prog w = .ok (.slice (some ⟨w.heap.size, 0, none⟩) 1 1) (w.alloc (.cells #[.slice a1 n1 c1, .slice a2 n2 c2] 36)) := by kernel_rfl
/-- one pair, as a row that is read -/
theorem prs_one {W : World} {g : Nat} {u1 u2 : Value} {p : List Int × List Int} (hB : Blk W g 36 [u1, u2]) (h1 : Sl W u1 p.1) (h2 : Sl W u2 p.2) : Prs W (.slice (some ⟨g, 0, none⟩) 1 1) [(u1, u2)] [p] := by
  refine ⟨rfl, some ⟨g, 0, none⟩, 1, rfl, Nat.le_refl _, by simp [maxLen], fun i hi => ?_, fun _ => ⟨g, 0, rfl, fun i hi => ?_⟩⟩
  · obtain rfl : i = 0 := by simp at hi; omega
    exact ⟨h1, h2⟩
  · obtain rfl : i = 0 := by simp at hi; omega
    exact hB.range 0 _ (fun j hj => by rw [Nat.zero_add]; rfl)
/-- leaf's answer, of rows that are read -/
theorem leaf_prs (W : World) (g : Nat) (vs : List Value) (xss : List (List (Value × Value))) (pss : List (List (List Int × List Int))) (hl : vs.length = xss.length) (hl2 : vs.length = pss.length) (hk : vs.length ≤ 5) (hB : Blk W g 22 vs) (hr : ∀ i, i < vs.length → Prs W (vs.getD i nilS) (xss.getD i []) (pss.getD i []) ∧ (pss.getD i []).length ≤ 1000) :
    Calls Try.prog 74 #[.slice (some ⟨g, 0, none⟩) vs.length vs.length] W fun e w' => ∃ r N c, e = .returned (.agg #[.bool true, .slice r N c, .slice none 0 0, .slice none 0 0]) ∧ NdV w' (.agg #[.bool true, .slice r N c, .slice none 0 0, .slice none 0 0]) ⟨true, pss.flatten, [], []⟩ ∧ Below W.heap.size W w' := by
  refine (leaf_any W g vs (xss.map flatP) (by simp [hl]) hk hB (fun i hi => ?_)).mono ?_
  · have := hr i hi
    have hx : i < xss.length := by omega
    rw [show (xss.map flatP).getD i [] = flatP (xss.getD i []) by simp [List.getD, hx]]
    exact RowR.of_prs this.1 this.2
  · rintro e w' ⟨r, N, c, rfl, ho, hb'⟩
    have hfl : (xss.map flatP).flatten = flatP xss.flatten := by
      clear hr hl hl2 ho
      induction xss with
      | nil => rfl
      | cons x xs ih => rw [List.map_cons, List.flatten_cons, ih, List.flatten_cons, flatP_append]
    rw [hfl] at ho
    have hN : N = xss.flatten.length := by
      have := ho.1
      rw [flatP_len] at this
      omega
    have hall : ∀ (xss : List (List (Value × Value))) (pss : List (List (List Int × List Int))), xss.length = pss.length → (∀ i, i < xss.length → (xss.getD i []).length = (pss.getD i []).length ∧ ∀ k, k < (pss.getD i []).length → Sl w' ((xss.getD i []).getD k nil2).1 ((pss.getD i []).getD k ([], [])).1 ∧ Sl w' ((xss.getD i []).getD k nil2).2 ((pss.getD i []).getD k ([], [])).2) →
        xss.flatten.length = pss.flatten.length ∧ ∀ k, k < pss.flatten.length → Sl w' (xss.flatten.getD k nil2).1 (pss.flatten.getD k ([], [])).1 ∧ Sl w' (xss.flatten.getD k nil2).2 (pss.flatten.getD k ([], [])).2 := by
      intro xss
      induction xss with
      | nil => intro pss h1 h2; cases pss with
        | nil => exact ⟨rfl, fun k hk => absurd hk (by simp)⟩
        | cons p ps => simp at h1
      | cons x xs ih =>
        intro pss h1 h2
        cases pss with
        | nil => simp at h1
        | cons p ps =>
          obtain ⟨i1, i2⟩ := ih ps (by simpa using h1) (fun i hi => by simpa using h2 (i + 1) (by simpa using hi))
          have h0 := h2 0 (by simp)
          simp only [List.getD_cons_zero] at h0
          simp only [List.flatten_cons]
          refine ⟨by rw [List.length_append, List.length_append, i1, h0.1], ?_⟩
          exact texts_append h0.1 h0.2 i2
    have hpre := hall xss pss (by omega) (fun i hi => by
      have := (hr i (by omega)).1
      exact ⟨this.1, fun k hk => (this.below hb').texts k hk⟩)
    rw [hN] at ho
    exact ⟨r, N, c, rfl, ⟨_, _, _, xss.flatten, [], by rw [hN]; rfl, by
      have := prs_own ho hpre.1 hpre.2
      rw [← hN] at this ⊢
      exact this, Bss.nil _, Is.nil' _⟩, hb'⟩

end Go.Proofs.Ytoamdbjailpgdaa
/- Contract: package node's Set. -/
namespace Go.Proofs.Ytoamdbjailpgdaa
set_option maxRecDepth 20000
open Go.RowKit Go.Shelf
set_option linter.unusedVariables false
set_option linter.unusedSimpArgs false
set_option maxRecDepth 100000
attribute [local go_sem] Oper.semAt_some

/-- a leaf with a pair more -/
def insN (n : Nd) (key val : List Int) : Nd := ⟨true, n.ps.take (findN n key) ++ ([(key, val)] ++ n.ps.drop (findN n key + if findB n key then 1 else 0)), [], []⟩
def setN (n : Nd) (key val : List Int) : Nd := if leafB n then (if keyB key && valB val then ownN (insN n key val) else noNd) else noNd
def setE (n : Nd) (key val : List Int) : Int := if leafB n then (if keyB key && valB val then ownE (insN n key val) else 1) else 100
/-- a leaf with a pair less -/
def delN (n : Nd) (key : List Int) : Nd := ⟨true, n.ps.take (findN n key) ++ n.ps.drop (findN n key + 1), [], []⟩
def unsetN (n : Nd) (key : List Int) : Nd := if leafB n then (if findB n key then ownN (delN n key) else noNd) else noNd
def unsetE (n : Nd) (key : List Int) : Int := if leafB n then (if findB n key then ownE (delN n key) else 4) else 100
theorem find_le {n : Nd} (key : List Int) (h : leafB n = true) : findN n key ≤ n.ps.length ∧ (findB n key = true → findN n key < n.ps.length) := by
  unfold findN findB
  rw [if_pos h, if_pos h]
  refine ⟨by have := cntK_le (n.ps.map (·.1)) key; rwa [List.length_map] at this, fun hb => ?_⟩
  simp only [isK, Bool.and_eq_true, decide_eq_true_iff, List.length_map] at hb
  exact hb.1

set_option maxHeartbeats 3000000 in
theorem set_any (w : World) (v : Value) (n : Nd) (h : NdV w v n) (kv : Value) (key : List Int) (hk : Sl w kv key) (vv : Value) (val : List Int) (hvv : Sl w vv val) :
    Calls Try.prog 31 #[v, kv, vv] w (GivesN w (setN n key val) (setE n key val)) := by
  have HM : Hid (∀ w1, Below w.heap.size w w1 → Calls Try.prog 62 #[v] w1 fun e w' => e = .returned (.bool (leafB n)) ∧ Below w1.heap.size w1 w') := fun w1 hb => isLeaf_any w1 v n (h.below hb)
  have HKE : Hid (∀ w1, Below w.heap.size w w1 → Calls Try.prog 71 #[kv] w1 fun e w' => e = .returned (.bool (keyB key)) ∧ w' = w1) := fun w1 hb => isKey_any w1 kv key (hk.below hb)
  have HVE : Hid (∀ w1, Below w.heap.size w w1 → Calls Try.prog 72 #[vv] w1 fun e w' => e = .returned (.bool (valB val)) ∧ w' = w1) := fun w1 hb => isVal_any w1 vv val (hvv.below hb)
  have HFD : Hid (∀ w1, Below w.heap.size w w1 → Calls Try.prog 23 #[v, kv] w1 fun e w' => e = .returned (.tuple #[.int .i64 (findN n key), .bool (findB n key)]) ∧ Below w1.heap.size w1 w') := fun w1 hb => find_any w1 v n (h.below hb) kv key (hk.below hb)
  have HNN : Hid (setN n key val = if leafB n then (if keyB key && valB val then ownN (insN n key val) else noNd) else noNd) := rfl
  have HEE : Hid (setE n key val = if leafB n then (if keyB key && valB val then ownE (insN n key val) else 1) else 100) := rfl
  have HIN : Hid (insN n key val = ⟨true, n.ps.take (findN n key) ++ ([(key, val)] ++ n.ps.drop (findN n key + if findB n key then 1 else 0)), [], []⟩) := rfl
  have HFL := hide (@find_le n key)
  have HPL : Hid (leafB n = true → n.ps.length ≤ 255) := fun h => (leafB_ps h).1
  have hza : ∀ wx : World, (zeroValue 26).run Try.prog wx = .ok (.agg #[.bool false, .slice none 0 0, .slice none 0 0, .slice none 0 0]) wx := fun wx => by kernel_rfl
  obtain ⟨pa, pc, ka, kc, ca, cc, xs, ys, rfl, hp1, hk1, hc1, hp2, hk2, hc2, hP, hK, hC⟩ := h.open
  have HP := hide hP
  have HKV := hide hk
  have HVV := hide hvv
  obtain ⟨a1, n1, c1, rfl⟩ := sl_form hk
  obtain ⟨a2, n2, c2, rfl⟩ := sl_form hvv
  unfold ndv at HM HFD ⊢
  generalize n.lf = lf at *
  obtain ⟨np, hnp⟩ : ∃ m, n.ps.length = m := ⟨_, rfl⟩
  rw [hnp] at HP HM HFD hp1 HFL HPL ⊢
  have HNP := hide hnp
  generalize n.ks.length = nk at *
  generalize n.cs.length = nc at *
  obtain ⟨w1, hw1, hcg⟩ := cg_new w (.bool lf) (.slice pa np pc) (.slice ka nk kc) (.slice ca nc cc)
  have HG1 := hide hcg
  obtain ⟨⟨z0, z1, z2, z3⟩, _⟩ := node_cells hcg.2.1
  clear h hk hvv hP hK hC hcg hnp hk1 hc1 hk2 hc2
  generalize setN n key val = SN at *
  generalize setE n key val = SE at *
  generalize insN n key val = IN at *
  generalize findN n key = FI at *
  generalize findB n key = FB at *
  generalize leafB n = LB at *
  generalize keyB key = KB at *
  generalize valB val = VB at *
  cases LB with
  | false =>
    simp only [Bool.false_eq_true, if_false] at HNN HEE
    rw [HNN.out, HEE.out]
    go_enter Try.func31, Try.ntmps31
    go_wp2_with (go_at_call 62; refine (HM.out w1 HG1.out.1).mono ?_; rintro e w2 ⟨rfl, hb2⟩; have HG2 := hide (HG1.out.grow hb2); clear z0 z1 z2 z3; obtain ⟨⟨d0, d1, d2, d3⟩, k0, k1, k2, k3⟩ := node_cells HG2.out.2.2; clear HM hb2)
    (try simp only [Exit.inBlock, Exit.then])
    refine bodyPost_ret (ret_node1 rfl _ _ (w.heap.size + 1) _ _ _ _ _ rfl rfl (laidN_blk HG2.out.2.2 _ _ _ _)) rfl ?_
    exact cg_no HG2.out _ _ _ _ _ rfl
  | true =>
    simp only [if_true] at HNN HEE
    by_cases hKV : (KB && VB) = true
    · rw [if_pos hKV] at HNN HEE
      rw [HNN.out, HEE.out]
      obtain ⟨rfl, rfl⟩ : KB = true ∧ VB = true := by simpa using hKV
      have hnp5 := HPL.out rfl
      obtain ⟨hF1, hF2⟩ := HFL.out rfl
      clear HNN HEE hKV HFL HPL
      have hct := fun wx => cut_head (P := Try.prog) 22 36 2 Try.underlying22 sizePair pa np pc FI (by omega) (by unfold maxLen; omega) wx
      obtain ⟨ba, bc, hlo, hB, hbc1, hbc2⟩ := HP.out.low HNP.out FI hF1
      have hb1 := fun wx => build_p1 wx a1 a2 n1 n2 c1 c2
      have HTK : Hid (∀ W, Below w.heap.size w W → Prs W (.slice pa FI pc) (xs.take FI) (n.ps.take FI)) := fun W hb => by
        have := HP.out.below hb
        rw [← HNP.out] at this
        exact this.take FI pc (by rw [HNP.out]; omega) (by omega) (by unfold maxLen; omega)
      have HLF : Hid (∀ W b2 m2 bc2 zs qs, Below w.heap.size w W → (∀ W', Below w.heap.size w W' → Prs W' (.slice b2 m2 bc2) zs qs) → qs.length ≤ 1000 → IN = ⟨true, n.ps.take FI ++ ([(key, val)] ++ qs), [], []⟩ → Calls Try.prog 74 #[.slice (some ⟨W.heap.size + 1, 0, none⟩) 3 3] ((W.alloc (.cells #[.slice a1 n1 c1, .slice a2 n2 c2] 36)).alloc (.cells #[.slice pa FI pc, .slice (some ⟨W.heap.size, 0, none⟩) 1 1, .slice b2 m2 bc2] 22)) fun e w' => ∃ r N c, e = .returned (.agg #[.bool true, .slice r N c, .slice none 0 0, .slice none 0 0]) ∧ NdV w' (.agg #[.bool true, .slice r N c, .slice none 0 0, .slice none 0 0]) IN ∧ Below W.heap.size W w') := fun W b2 m2 bc2 zs qs hW hq hql hIN => by
        have ha1 : Below W.heap.size W (W.alloc (.cells #[.slice a1 n1 c1, .slice a2 n2 c2] 36)) := (Below.refl _ W).alloc (Nat.le_refl _) _
        have ha2 : Below W.heap.size W ((W.alloc (.cells #[.slice a1 n1 c1, .slice a2 n2 c2] 36)).alloc (.cells #[.slice pa FI pc, .slice (some ⟨W.heap.size, 0, none⟩) 1 1, .slice b2 m2 bc2] 22)) := ha1.alloc (by simp) _
        have haw := hW.trans (ha2.mono hW.size)
        have hBl := Blk.new (W.alloc (.cells #[.slice a1 n1 c1, .slice a2 n2 c2] 36)) 22 [.slice pa FI pc, .slice (some ⟨W.heap.size, 0, none⟩) 1 1, .slice b2 m2 bc2]
        rw [World.size_alloc] at hBl
        refine (leaf_prs _ (W.heap.size + 1) [.slice pa FI pc, .slice (some ⟨W.heap.size, 0, none⟩) 1 1, .slice b2 m2 bc2] [xs.take FI, [(.slice a1 n1 c1, .slice a2 n2 c2)], zs] [n.ps.take FI, [(key, val)], qs] rfl rfl (by simp) hBl ?_).mono ?_
        · intro i hi
          have : i = 0 ∨ i = 1 ∨ i = 2 := by simp at hi; omega
          rcases this with rfl | rfl | rfl
          · exact ⟨HTK.out _ haw, by show (n.ps.take FI).length ≤ 1000; rw [List.length_take]; have := HNP.out; omega⟩
          · exact ⟨prs_one ((Blk.new W _ _).alloc _) (HKV.out.below haw) (HVV.out.below haw), by show ([(key, val)] : List (List Int × List Int)).length ≤ 1000; simp⟩
          · exact ⟨hq _ haw, hql⟩
        · rintro e w' ⟨r, N, c, rfl, hn, hb⟩
          refine ⟨r, N, c, rfl, ?_, ha2.trans (hb.mono ha2.size)⟩
          rw [hIN]
          simpa using hn
      have hbb := fun wx b2 m2 bc2 => buildP3 wx pa (some ⟨wx.heap.size, 0, none⟩) b2 FI 1 m2 pc 1 bc2
      cases FB with
      | false =>
        have hb3 := fun wx (q : Nat) => buildP3 wx pa (some ⟨q, 0, none⟩) ba FI 1 (np - FI) pc 1 bc
        have HL1 : Hid (∀ W, Below w.heap.size w W → Calls Try.prog 74 #[.slice (some ⟨W.heap.size + 1, 0, none⟩) 3 3] ((W.alloc (.cells #[.slice a1 n1 c1, .slice a2 n2 c2] 36)).alloc (.cells #[.slice pa FI pc, .slice (some ⟨W.heap.size, 0, none⟩) 1 1, .slice ba (np - FI) bc] 22)) fun e w' => ∃ r N c, e = .returned (.agg #[.bool true, .slice r N c, .slice none 0 0, .slice none 0 0]) ∧ NdV w' (.agg #[.bool true, .slice r N c, .slice none 0 0, .slice none 0 0]) IN ∧ Below W.heap.size W w') := fun W hW => HLF.out W ba (np - FI) bc (xs.drop FI) (n.ps.drop FI) hW (fun W' hW' => hB W' (HP.out.below hW')) (by rw [List.length_drop]; have := HNP.out; omega) (by rw [HIN.out]; simp)
        clear HLF HTK HIN hB hbb HP HKV HVV
        go_enter Try.func31, Try.ntmps31
        go_wp2_with (first
          | (go_at_call 62; refine (HM.out w1 HG1.out.1).mono ?_; rintro e w2 ⟨rfl, hb2⟩; have HG2 := hide (HG1.out.grow hb2); clear z0 z1 z2 z3; obtain ⟨⟨z0, z1, z2, z3⟩, _⟩ := node_cells HG2.out.2.1; obtain ⟨⟨d0, d1, d2, d3⟩, k0, k1, k2, k3⟩ := node_cells HG2.out.2.2; clear HM hb2)
          | (go_at_call 71; refine (HKE.out w2 HG2.out.1).mono ?_; rintro e w3 ⟨rfl, hw⟩; subst w3; clear HKE)
          | (go_at_call 72; refine (HVE.out w2 HG2.out.1).mono ?_; rintro e w3 ⟨rfl, hw⟩; subst w3; clear HVE)
          | (go_at_call 23; refine (HFD.out w2 HG2.out.1).mono ?_; rintro e w4 ⟨rfl, hb4⟩; have HG4 := hide (HG2.out.grow hb4); clear z0 z1 z2 z3 d0 d1 d2 d3 k0 k1 k2 k3; obtain ⟨⟨z0, z1, z2, z3⟩, _⟩ := node_cells HG4.out.2.1; clear HFD hb4)
          | (go_at_call 74; refine (HL1.out w4 HG4.out.1).mono ?_; rintro e w5 ⟨r5, N5, c5, rfl, hn5, hb5⟩; have HG5 := hide (HG4.out.grow hb5); have HO5 := hide (owned_tup hn5 (B := w.heap.size + 2) (by have := HG5.out.2.2.lt; omega)); clear HL1 hb5 hn5)
          | (go_at_call 73; refine HO5.out.mono ?_; rintro e w6 ⟨u6, rfl, ⟨l6, p6, n6, c6, k6, nk6, kc6, q6, nq6, qc6, rfl, hn6⟩, hb6⟩; have HG6 := hide (HG5.out.grow hb6); have HN6 := hide hn6; obtain ⟨⟨d0, d1, d2, d3⟩, k0, k1, k2, k3⟩ := node_cells HG6.out.2.2; clear HO5 hb6 hn6))
        (try simp only [Exit.inBlock, Exit.then])
        refine bodyPost_ret (ret_node1 rfl _ _ (w.heap.size + 1) _ _ _ _ _ rfl rfl (laidN_blk HG6.out.2.2 _ _ _ _)) rfl ?_
        exact cg_yes HG6.out _ HN6.out
      | true =>
        have hF3 := hF2 rfl
        have hpb : Prs w (.slice ba (np - FI) bc) (xs.drop FI) (n.ps.drop FI) := hB w HP.out
        obtain ⟨ba2, bc2, hlo2, hB2, hbd1, hbd2⟩ := hpb.low (by rw [List.length_drop, HNP.out]) 1 (by omega)
        have hlo3 : ∀ wx, (Instr.slice 22 (.slice ba (np - FI) bc) (some (.int .i64 1)) none none).run Try.prog wx = .ok (.slice ba2 (np - FI - 1) bc2) wx := hlo2
        have hb3 := fun wx (q : Nat) => buildP3 wx pa (some ⟨q, 0, none⟩) ba2 FI 1 (np - FI - 1) pc 1 bc2
        have HL1 : Hid (∀ W, Below w.heap.size w W → Calls Try.prog 74 #[.slice (some ⟨W.heap.size + 1, 0, none⟩) 3 3] ((W.alloc (.cells #[.slice a1 n1 c1, .slice a2 n2 c2] 36)).alloc (.cells #[.slice pa FI pc, .slice (some ⟨W.heap.size, 0, none⟩) 1 1, .slice ba2 (np - FI - 1) bc2] 22)) fun e w' => ∃ r N c, e = .returned (.agg #[.bool true, .slice r N c, .slice none 0 0, .slice none 0 0]) ∧ NdV w' (.agg #[.bool true, .slice r N c, .slice none 0 0, .slice none 0 0]) IN ∧ Below W.heap.size W w') := fun W hW => HLF.out W ba2 (np - FI - 1) bc2 ((xs.drop FI).drop 1) ((n.ps.drop FI).drop 1) hW (fun W' hW' => hB2 W' (hB W' (HP.out.below hW'))) (by rw [List.length_drop, List.length_drop]; have := HNP.out; omega) (by rw [HIN.out, List.drop_drop]; simp)
        clear HLF HTK HIN hB hB2 hpb hbb hlo2 HP HKV HVV
        go_enter Try.func31, Try.ntmps31
        go_wp2_with (first
          | (go_at_call 62; refine (HM.out w1 HG1.out.1).mono ?_; rintro e w2 ⟨rfl, hb2⟩; have HG2 := hide (HG1.out.grow hb2); clear z0 z1 z2 z3; obtain ⟨⟨z0, z1, z2, z3⟩, _⟩ := node_cells HG2.out.2.1; obtain ⟨⟨d0, d1, d2, d3⟩, k0, k1, k2, k3⟩ := node_cells HG2.out.2.2; clear HM hb2)
          | (go_at_call 71; refine (HKE.out w2 HG2.out.1).mono ?_; rintro e w3 ⟨rfl, hw⟩; subst w3; clear HKE)
          | (go_at_call 72; refine (HVE.out w2 HG2.out.1).mono ?_; rintro e w3 ⟨rfl, hw⟩; subst w3; clear HVE)
          | (go_at_call 23; refine (HFD.out w2 HG2.out.1).mono ?_; rintro e w4 ⟨rfl, hb4⟩; have HG4 := hide (HG2.out.grow hb4); clear z0 z1 z2 z3 d0 d1 d2 d3 k0 k1 k2 k3; obtain ⟨⟨z0, z1, z2, z3⟩, _⟩ := node_cells HG4.out.2.1; clear HFD hb4)
          | (go_at_call 74; refine (HL1.out w4 HG4.out.1).mono ?_; rintro e w5 ⟨r5, N5, c5, rfl, hn5, hb5⟩; have HG5 := hide (HG4.out.grow hb5); have HO5 := hide (owned_tup hn5 (B := w.heap.size + 2) (by have := HG5.out.2.2.lt; omega)); clear HL1 hb5 hn5)
          | (go_at_call 73; refine HO5.out.mono ?_; rintro e w6 ⟨u6, rfl, ⟨l6, p6, n6, c6, k6, nk6, kc6, q6, nq6, qc6, rfl, hn6⟩, hb6⟩; have HG6 := hide (HG5.out.grow hb6); have HN6 := hide hn6; obtain ⟨⟨d0, d1, d2, d3⟩, k0, k1, k2, k3⟩ := node_cells HG6.out.2.2; clear HO5 hb6 hn6))
        (try simp only [Exit.inBlock, Exit.then])
        refine bodyPost_ret (ret_node1 rfl _ _ (w.heap.size + 1) _ _ _ _ _ rfl rfl (laidN_blk HG6.out.2.2 _ _ _ _)) rfl ?_
        exact cg_yes HG6.out _ HN6.out
    · rw [if_neg hKV] at HNN HEE
      rw [HNN.out, HEE.out]
      clear HNN HEE
      cases KB with
      | false =>
        go_enter Try.func31, Try.ntmps31
        go_wp2_with (first
          | (go_at_call 62; refine (HM.out w1 HG1.out.1).mono ?_; rintro e w2 ⟨rfl, hb2⟩; have HG2 := hide (HG1.out.grow hb2); clear z0 z1 z2 z3; obtain ⟨⟨z0, z1, z2, z3⟩, _⟩ := node_cells HG2.out.2.1; obtain ⟨⟨d0, d1, d2, d3⟩, k0, k1, k2, k3⟩ := node_cells HG2.out.2.2; clear HM hb2)
          | (go_at_call 71; refine (HKE.out w2 HG2.out.1).mono ?_; rintro e w3 ⟨rfl, hw⟩; subst w3; clear HKE)
          | (go_at_call 72; refine (HVE.out w2 HG2.out.1).mono ?_; rintro e w3 ⟨rfl, hw⟩; subst w3; clear HVE))
        (try simp only [Exit.inBlock, Exit.then])
        refine bodyPost_ret (ret_node1 rfl _ _ (w.heap.size + 1) _ _ _ _ _ rfl rfl (laidN_blk HG2.out.2.2 _ _ _ _)) rfl ?_
        exact cg_no HG2.out _ _ _ _ _ rfl
      | true =>
        obtain rfl : VB = false := by simpa using hKV
        go_enter Try.func31, Try.ntmps31
        go_wp2_with (first
          | (go_at_call 62; refine (HM.out w1 HG1.out.1).mono ?_; rintro e w2 ⟨rfl, hb2⟩; have HG2 := hide (HG1.out.grow hb2); clear z0 z1 z2 z3; obtain ⟨⟨z0, z1, z2, z3⟩, _⟩ := node_cells HG2.out.2.1; obtain ⟨⟨d0, d1, d2, d3⟩, k0, k1, k2, k3⟩ := node_cells HG2.out.2.2; clear HM hb2)
          | (go_at_call 71; refine (HKE.out w2 HG2.out.1).mono ?_; rintro e w3 ⟨rfl, hw⟩; subst w3; clear HKE)
          | (go_at_call 72; refine (HVE.out w2 HG2.out.1).mono ?_; rintro e w3 ⟨rfl, hw⟩; subst w3; clear HVE))
        (try simp only [Exit.inBlock, Exit.then])
        refine bodyPost_ret (ret_node1 rfl _ _ (w.heap.size + 1) _ _ _ _ _ rfl rfl (laidN_blk HG2.out.2.2 _ _ _ _)) rfl ?_
        exact cg_no HG2.out _ _ _ _ _ rfl

end Go.Proofs.Ytoamdbjailpgdaa
/- Contract: package node's Unset. -/
namespace Go.Proofs.Ytoamdbjailpgdaa
set_option maxRecDepth 20000
open Go.RowKit Go.Shelf
set_option linter.unusedVariables false
set_option linter.unusedSimpArgs false
set_option maxRecDepth 100000
attribute [local go_sem] Oper.semAt_some

def isNdP (B : Nat) (cs : List Value) : Fct := fun v w => ∃ a n c, v = .agg #[.bool true, .slice a n c, .slice none 0 0, .slice none 0 0] ∧ w.ownsRow B 36 2 (.slice a n c) n cs
theorem st_isNdP {S : Nat → Prop} {B : Nat} (cs : List Value) (hS : ∀ j, S j → j < B) : ∀ v w w', Only S w w' → isNdP B cs v w → isNdP B cs v w' := fun v w w' ho ⟨a, n, c, h1, h2⟩ => ⟨a, n, c, h1, ownsRow_only h2 ho (fun j hj hs => by have := (row_blk h2 hj).1; have := hS j hs; omega)⟩

set_option maxHeartbeats 3000000 in
theorem unset_any (w : World) (v : Value) (n : Nd) (h : NdV w v n) (kv : Value) (key : List Int) (hk : Sl w kv key) :
    Calls Try.prog 33 #[v, kv] w (GivesN w (unsetN n key) (unsetE n key)) := by
  have HM : Hid (∀ w1, Below w.heap.size w w1 → Calls Try.prog 62 #[v] w1 fun e w' => e = .returned (.bool (leafB n)) ∧ Below w1.heap.size w1 w') := fun w1 hb => isLeaf_any w1 v n (h.below hb)
  have HFD : Hid (∀ w1, Below w.heap.size w w1 → Calls Try.prog 23 #[v, kv] w1 fun e w' => e = .returned (.tuple #[.int .i64 (findN n key), .bool (findB n key)]) ∧ Below w1.heap.size w1 w') := fun w1 hb => find_any w1 v n (h.below hb) kv key (hk.below hb)
  have HNN : Hid (unsetN n key = if leafB n then (if findB n key then ownN (delN n key) else noNd) else noNd) := rfl
  have HEE : Hid (unsetE n key = if leafB n then (if findB n key then ownE (delN n key) else 4) else 100) := rfl
  have HDN : Hid (delN n key = ⟨true, n.ps.take (findN n key) ++ n.ps.drop (findN n key + 1), [], []⟩) := rfl
  have HFL := hide (@find_le n key)
  have HPL : Hid (leafB n = true → n.ps.length ≤ 255) := fun h => (leafB_ps h).1
  have hza : ∀ wx : World, (zeroValue 26).run Try.prog wx = .ok (.agg #[.bool false, .slice none 0 0, .slice none 0 0, .slice none 0 0]) wx := fun wx => by kernel_rfl
  obtain ⟨pa, pc, ka, kc, ca, cc, xs, ys, rfl, hp1, hk1, hc1, hp2, hk2, hc2, hP, hK, hC⟩ := h.open
  have HP := hide hP
  obtain ⟨a1, n1, c1, rfl⟩ := sl_form hk
  unfold ndv at HM HFD ⊢
  generalize n.lf = lf at *
  obtain ⟨np, hnp⟩ : ∃ m, n.ps.length = m := ⟨_, rfl⟩
  rw [hnp] at HP HM HFD hp1 HFL HPL ⊢
  have HNP := hide hnp
  generalize n.ks.length = nk at *
  generalize n.cs.length = nc at *
  obtain ⟨w1, hw1, hcg⟩ := cg_new w (.bool lf) (.slice pa np pc) (.slice ka nk kc) (.slice ca nc cc)
  have HG1 := hide hcg
  obtain ⟨⟨z0, z1, z2, z3⟩, _⟩ := node_cells hcg.2.1
  clear h hk hP hK hC hcg hnp hk1 hc1 hk2 hc2
  generalize unsetN n key = SN at *
  generalize unsetE n key = SE at *
  generalize delN n key = DN at *
  generalize findN n key = FI at *
  generalize findB n key = FB at *
  generalize leafB n = LB at *
  cases LB with
  | false =>
    simp only [Bool.false_eq_true, if_false] at HNN HEE
    rw [HNN.out, HEE.out]
    go_enter Try.func33, Try.ntmps33
    go_wp2_with (first
      | (go_at_call 62; refine (HM.out w1 HG1.out.1).mono ?_; rintro e w2 ⟨rfl, hb2⟩; have HG2 := hide (HG1.out.grow hb2); clear z0 z1 z2 z3; obtain ⟨⟨z0, z1, z2, z3⟩, _⟩ := node_cells HG2.out.2.1; obtain ⟨⟨d0, d1, d2, d3⟩, k0, k1, k2, k3⟩ := node_cells HG2.out.2.2; clear HM hb2))
    (try simp only [Exit.inBlock, Exit.then])
    refine bodyPost_ret (ret_node1 rfl _ _ (w.heap.size + 1) _ _ _ _ _ rfl rfl (laidN_blk HG2.out.2.2 _ _ _ _)) rfl ?_
    exact cg_no HG2.out _ _ _ _ _ rfl
  | true =>
    simp only [if_true] at HNN HEE
    cases FB with
    | false =>
      simp only [Bool.false_eq_true, if_false] at HNN HEE
      rw [HNN.out, HEE.out]
      go_enter Try.func33, Try.ntmps33
      go_wp2_with (first
        | (go_at_call 62; refine (HM.out w1 HG1.out.1).mono ?_; rintro e w2 ⟨rfl, hb2⟩; have HG2 := hide (HG1.out.grow hb2); clear z0 z1 z2 z3; obtain ⟨⟨z0, z1, z2, z3⟩, _⟩ := node_cells HG2.out.2.1; obtain ⟨⟨d0, d1, d2, d3⟩, k0, k1, k2, k3⟩ := node_cells HG2.out.2.2; clear HM hb2)
        | (go_at_call 23; refine (HFD.out w2 HG2.out.1).mono ?_; rintro e w4 ⟨rfl, hb4⟩; have HG4 := hide (HG2.out.grow hb4); clear z0 z1 z2 z3 d0 d1 d2 d3 k0 k1 k2 k3; obtain ⟨⟨z0, z1, z2, z3⟩, _⟩ := node_cells HG4.out.2.1; obtain ⟨⟨d0, d1, d2, d3⟩, k0, k1, k2, k3⟩ := node_cells HG4.out.2.2; clear HFD hb4))
      (try simp only [Exit.inBlock, Exit.then])
      refine bodyPost_ret (ret_node1 rfl _ _ (w.heap.size + 1) _ _ _ _ _ rfl rfl (laidN_blk HG4.out.2.2 _ _ _ _)) rfl ?_
      exact cg_no HG4.out _ _ _ _ _ rfl
    | true =>
      simp only [if_true] at HNN HEE
      rw [HNN.out, HEE.out]
      have hnp5 := HPL.out rfl
      obtain ⟨hF1, hF2⟩ := HFL.out rfl
      have hF3 := hF2 rfl
      clear HNN HEE HFL HPL
      have HCT := hide (fun wx => cut_head (P := Try.prog) 22 36 2 Try.underlying22 sizePair pa np pc FI (by omega) (by unfold maxLen; omega) wx)
      obtain ⟨ba, bc, hlo, hB, hbc1, hbc2⟩ := HP.out.low HNP.out (FI + 1) (by omega)
      have HLO : Hid (∀ wx, (Instr.slice 22 (.slice pa np pc) (some (.int .i64 (FI + 1 : Int))) none none).run Try.prog wx = .ok (.slice ba (np - (FI + 1)) bc) wx) := fun wx => by
        have := hlo wx
        rwa [show ((FI + 1 : Nat) : Int) = (FI + 1 : Int) by omega] at this
      obtain ⟨bn, hbn⟩ : ∃ m, np - (FI + 1) = m := ⟨_, rfl⟩
      rw [hbn] at HLO hB
      have HTK : Hid (∀ W, Below w.heap.size w W → Prs W (.slice pa FI pc) (xs.take FI) (n.ps.take FI)) := fun W hb => by
        have := HP.out.below hb
        rw [← HNP.out] at this
        exact this.take FI pc (by rw [HNP.out]; omega) (by omega) (by unfold maxLen; omega)
      have HDR : Hid (∀ W, Below w.heap.size w W → Prs W (.slice ba bn bc) (xs.drop (FI + 1)) (n.ps.drop (FI + 1))) := fun W hb => hB W (HP.out.below hb)
      obtain ⟨XS, hXS⟩ : ∃ x, x = xs.take FI ++ xs.drop (FI + 1) := ⟨_, rfl⟩
      have HLF : Hid (∀ wx g, Below w.heap.size w wx → Blk wx g 22 [.slice pa FI pc, .slice ba bn bc] → Calls Try.prog 74 #[.slice (some ⟨g, 0, none⟩) 2 2] wx fun e w' => ∃ r N c, e = .returned (.agg #[.bool true, .slice r N c, .slice none 0 0, .slice none 0 0]) ∧ w'.ownsRow wx.heap.size 36 2 (.slice r N c) N (flatP XS) ∧ Below wx.heap.size wx w') := fun wx g hbw hBl => by
        refine (leaf_any wx g [.slice pa FI pc, .slice ba bn bc] [flatP (xs.take FI), flatP (xs.drop (FI + 1))] rfl (by simp) hBl (lit_rows rfl (by
          intro x hx
          simp only [List.zip_cons_cons, List.zip_nil_right, List.mem_cons, List.not_mem_nil, or_false] at hx
          rcases hx with rfl | rfl
          · exact RowR.of_prs (HTK.out wx hbw) (by rw [List.length_take]; have := HNP.out; omega)
          · exact RowR.of_prs (HDR.out wx hbw) (by rw [List.length_drop]; have := HNP.out; omega)))).mono ?_
        rintro e w' ⟨r, N, c, rfl, ho, hb'⟩
        exact ⟨r, N, c, rfl, by rw [hXS, flatP_append]; simpa using ho, hb'⟩
      have HND : Hid (∀ wx a m c, Below w.heap.size w wx → wx.ownsRow (w.heap.size + 2) 36 2 (.slice a m c) m (flatP XS) → NdV wx (.agg #[.bool true, .slice a m c, .slice none 0 0, .slice none 0 0]) DN) := fun wx a m c hbw ho => by
        have hm : m = XS.length := by have := ho.1; rw [flatP_len] at this; omega
        subst hm
        rw [HDN.out]
        refine ⟨_, _, _, XS, [], rfl, prs_own ho ?_ ?_, Bss.nil _, Is.nil' _⟩
        · rw [hXS]
          show _ = (n.ps.take FI ++ n.ps.drop (FI + 1)).length
          rw [List.length_append, List.length_append, (HTK.out wx hbw).1, (HDR.out wx hbw).1]
        · rw [hXS]
          exact texts_append (HTK.out wx hbw).1 (HTK.out wx hbw).texts (HDR.out wx hbw).texts
      clear HTK HDR hXS hB hlo HP HDN hbn
      go_enter Try.func33, Try.ntmps33
      go_wp2_with (first
        | (go_at_call 62; refine (HM.out w1 HG1.out.1).mono ?_; rintro e w2 ⟨rfl, hb2⟩; have HG2 := hide (HG1.out.grow hb2); clear z0 z1 z2 z3; obtain ⟨⟨z0, z1, z2, z3⟩, _⟩ := node_cells HG2.out.2.1; obtain ⟨⟨d0, d1, d2, d3⟩, k0, k1, k2, k3⟩ := node_cells HG2.out.2.2; clear HM hb2)
        | (go_at_call 23; refine (HFD.out w2 HG2.out.1).mono ?_; rintro e w4 ⟨rfl, hb4⟩; have HG4 := hide (HG2.out.grow hb4); clear z0 z1 z2 z3 d0 d1 d2 d3 k0 k1 k2 k3; obtain ⟨⟨z0, z1, z2, z3⟩, _⟩ := node_cells HG4.out.2.1; obtain ⟨⟨d0, d1, d2, d3⟩, k0, k1, k2, k3⟩ := node_cells HG4.out.2.2; clear HFD hb4))
      refine wp_region_mix (fun j => j = w.heap.size + 1) [some (isV (.pointer (some ⟨w.heap.size, 1, none⟩))), some (isV (.slice pa np pc)), some (isV (.int .i64 (FI : Int))), some (isV (.slice pa FI pc)), some (isV (.pointer (some ⟨w.heap.size, 1, none⟩))), some (isV (.slice pa np pc)), some (isV (.int .i64 (FI : Int))), some (isV (.int .i64 (FI + 1 : Int))), some (isV (.slice ba bn bc)), some (isLit (w.heap.size + 2) 22 [.slice pa FI pc, .slice ba bn bc]), some (isNdP (w.heap.size + 2) (flatP XS)), some (isTup (w.heap.size + 2) (ownN DN) (ownE DN)), some (isNdO (w.heap.size + 2) (ownN DN)), some (isV (.int .i64 (ownE DN))), none, none] [14, 15] (CgS w [.bool lf, .slice pa np pc, .slice ka nk kc, .slice ca nc cc] (ownN DN) (ownE DN) 15) 35 (by kernel_rfl) (by kernel_rfl) (by kernel_rfl) (by kernel_rfl) rfl ?_ ?_ ?_ ?_ ?_
      · intro vals0
        exact (HG4.out.keep ((Only.refl _ w4).drew) : CgB w [.bool lf, .slice pa np pc, .slice ka nk kc, .slice ca nc cc] zeroC w4.drew)
      · refine allF_at _ ?_
        repeat (first | exact trivial | refine allF_none ?_ | refine allF_isV ?_ | refine allF_cons (st_isLit _ _ (fun j hj => by omega)) ?_ | refine allF_cons (st_isNdP _ (fun j hj => by omega)) ?_ | refine allF_cons (st_isTup _ _ (fun j hj => by omega)) ?_ | refine allF_cons (st_isNdO _ (fun j hj => by omega)) ?_)
      · exact CgS.ind (by decide)
      · refine ⟨?_, ?_, ?_, ?_, ?_, ?_, ?_, ?_, ?_, ?_, ?_, ?_, ?_, ?_, ?_, ?_, trivial⟩
        · intro k vals act wx hk h hs
          have e2 : act.eval (.tmp 2) = .pointer (some ⟨w.heap.size, 0, none⟩) := h.old 2 (by kernel_rfl)
          clear h
          refine gives_by rfl act.eval rfl ?_
          generalize act.eval = ρ at *
          intro hf hc
          go_simp
          exact ⟨rfl, Only.refl _ _, hs⟩
        · intro k vals act wx hk h hs
          obtain ⟨v21, e21, f21⟩ := h.f 0 21 (by kernel_rfl) rfl
          obtain rfl : v21 = .pointer (some ⟨w.heap.size, 1, none⟩) := f21
          clear h
          obtain ⟨hbw, hAx, hsz⟩ := CgS.any hk hs
          obtain ⟨⟨x0, x1, x2, x3⟩, _⟩ := node_cells hAx
          refine gives_by rfl act.eval rfl ?_
          generalize act.eval = ρ at *
          intro hf hc
          go_simp
          exact ⟨rfl, Only.refl _ _, hs⟩
        · intro k vals act wx hk h hs
          have e6 : act.eval (.tmp 6) = .int .i64 (FI : Int) := h.old 6 (by kernel_rfl)
          clear h
          refine gives_by rfl act.eval rfl ?_
          generalize act.eval = ρ at *
          intro hf hc
          go_simp
          exact ⟨rfl, Only.refl _ _, hs⟩
        · intro k vals act wx hk h hs
          obtain ⟨v22, e22, f22⟩ := h.f 1 22 (by kernel_rfl) rfl
          obtain rfl : v22 = .slice pa np pc := f22
          obtain ⟨v23, e23, f23⟩ := h.f 2 23 (by kernel_rfl) rfl
          obtain rfl : v23 = .int .i64 (FI : Int) := f23
          clear h
          have hct := HCT.out wx
          refine gives_by rfl act.eval rfl ?_
          generalize act.eval = ρ at *
          intro hf hc
          go_simp
          exact ⟨rfl, Only.refl _ _, hs⟩
        · intro k vals act wx hk h hs
          have e2 : act.eval (.tmp 2) = .pointer (some ⟨w.heap.size, 0, none⟩) := h.old 2 (by kernel_rfl)
          clear h
          refine gives_by rfl act.eval rfl ?_
          generalize act.eval = ρ at *
          intro hf hc
          go_simp
          exact ⟨rfl, Only.refl _ _, hs⟩
        · intro k vals act wx hk h hs
          obtain ⟨v25, e25, f25⟩ := h.f 4 25 (by kernel_rfl) rfl
          obtain rfl : v25 = .pointer (some ⟨w.heap.size, 1, none⟩) := f25
          clear h
          obtain ⟨hbw, hAx, hsz⟩ := CgS.any hk hs
          obtain ⟨⟨x0, x1, x2, x3⟩, _⟩ := node_cells hAx
          refine gives_by rfl act.eval rfl ?_
          generalize act.eval = ρ at *
          intro hf hc
          go_simp
          exact ⟨rfl, Only.refl _ _, hs⟩
        · intro k vals act wx hk h hs
          have e6 : act.eval (.tmp 6) = .int .i64 (FI : Int) := h.old 6 (by kernel_rfl)
          clear h
          refine gives_by rfl act.eval rfl ?_
          generalize act.eval = ρ at *
          intro hf hc
          go_simp
          exact ⟨rfl, Only.refl _ _, hs⟩
        · intro k vals act wx hk h hs
          obtain ⟨v27, e27, f27⟩ := h.f 6 27 (by kernel_rfl) rfl
          obtain rfl : v27 = .int .i64 (FI : Int) := f27
          clear h
          refine gives_by rfl act.eval rfl ?_
          generalize act.eval = ρ at *
          intro hf hc
          go_simp
          rw [IntWalk.i64_in _ (by omega)]
          exact ⟨rfl, Only.refl _ _, hs⟩
        · intro k vals act wx hk h hs
          obtain ⟨v26, e26, f26⟩ := h.f 5 26 (by kernel_rfl) rfl
          obtain rfl : v26 = .slice pa np pc := f26
          obtain ⟨v28, e28, f28⟩ := h.f 7 28 (by kernel_rfl) rfl
          obtain rfl : v28 = .int .i64 (FI + 1 : Int) := f28
          clear h
          have hlo := HLO.out wx
          refine gives_by rfl act.eval rfl ?_
          generalize act.eval = ρ at *
          intro hf hc
          go_simp
          exact ⟨rfl, Only.refl _ _, hs⟩
        · intro k vals act wx hk h hs
          obtain ⟨v24, e24, f24⟩ := h.f 3 24 (by kernel_rfl) rfl
          obtain rfl : v24 = .slice pa FI pc := f24
          obtain ⟨v29, e29, f29⟩ := h.f 8 29 (by kernel_rfl) rfl
          obtain rfl : v29 = .slice ba bn bc := f29
          clear h
          obtain ⟨hbw, hAx, hsz⟩ := CgS.any hk hs
          refine gives_of_run rfl (exec_build2 104 2 (.tmp 24) (.tmp 29) rfl _ _ _ e24 e29 (buildP2 wx pa ba FI bn pc bc)) ?_
          have hon : Only (fun _ => False) wx (wx.alloc (.cells #[.slice pa FI pc, .slice ba bn bc] 22)) := (Only.refl _ wx).alloc _
          exact ⟨⟨wx.heap.size, rfl, hsz, Blk.new wx _ [.slice pa FI pc, .slice ba bn bc]⟩, hon, hs.keep hk hon⟩
        · intro k vals act wx hk h hs
          obtain ⟨v30, e30, f30⟩ := h.f 9 30 (by kernel_rfl) rfl
          obtain ⟨g30, rfl, hg30, B30⟩ := f30
          clear h
          refine gives_by rfl act.eval rfl ?_
          generalize act.eval = ρ at *
          intro hf hc
          go_simp
          obtain ⟨hbw, hAx, hsz⟩ := CgS.any hk hs
          refine (HLF.out wx g30 hbw B30).mono ?_
          rintro e w' ⟨r, N, c, he, hn, hb'⟩
          exact ⟨_, he, ⟨r, N, c, rfl, own_le' hn hsz⟩, Only.of_below _ hb', hs.keep hk (Only.of_below _ hb')⟩
        · intro k vals act wx hk h hs
          obtain ⟨v31, e31, f31⟩ := h.f 10 31 (by kernel_rfl) rfl
          obtain ⟨r31, N31, c31, rfl, O31⟩ := f31
          clear h
          refine gives_by rfl act.eval rfl ?_
          generalize act.eval = ρ at *
          intro hf hc
          go_simp
          obtain ⟨hbw, hAx, hsz⟩ := CgS.any hk hs
          refine (owned_tup (HND.out wx _ _ _ hbw O31) hsz).mono ?_
          rintro e w' ⟨u, he, ht, hb'⟩
          exact ⟨u, he, ht, Only.of_below _ hb', hs.keep hk (Only.of_below _ hb')⟩
        · intro k vals act wx hk h hs
          obtain ⟨v32, e32, f32⟩ := h.f 11 32 (by kernel_rfl) rfl
          obtain ⟨l32, p32, np32, pc32, k32, nk32, kc32, q32, nq32, qc32, rfl, N32⟩ := f32
          clear h
          refine gives_by rfl act.eval rfl ?_
          generalize act.eval = ρ at *
          intro hf hc
          go_simp
          exact ⟨⟨l32, p32, np32, pc32, k32, nk32, kc32, q32, nq32, qc32, rfl, N32⟩, Only.refl _ _, hs⟩
        · intro k vals act wx hk h hs
          obtain ⟨v32, e32, f32⟩ := h.f 11 32 (by kernel_rfl) rfl
          obtain ⟨l32, p32, np32, pc32, k32, nk32, kc32, q32, nq32, qc32, rfl, N32⟩ := f32
          clear h
          refine gives_by rfl act.eval rfl ?_
          generalize act.eval = ρ at *
          intro hf hc
          go_simp
          exact ⟨rfl, Only.refl _ _, hs⟩
        · intro vals act wx h hs
          have e4 : act.eval (.tmp 4) = .pointer (some ⟨w.heap.size + 1, 0, none⟩) := h.old 4 (by kernel_rfl)
          obtain ⟨v33, e33, f33⟩ := h.f 12 33 (by kernel_rfl) rfl
          obtain ⟨l33, p33, np33, pc33, k33, nk33, kc33, q33, nq33, qc33, rfl, N33⟩ := f33
          clear h
          have hj : CgB w [.bool lf, .slice pa np pc, .slice ka nk kc, .slice ca nc cc] zeroC wx := hs
          obtain ⟨⟨d0, d1', d2, d3⟩, k0, k1, k2, k3⟩ := node_cells hj.2.2
          have ho := laidN_only wx (w.heap.size + 1) (.bool l33) (.slice p33 np33 pc33) (.slice k33 nk33 kc33) (.slice q33 nq33 qc33)
          have hfin : CgS w [.bool lf, .slice pa np pc, .slice ka nk kc, .slice ca nc cc] (ownN DN) (ownE DN) 15 1 (updV vals 14 undef) (laidN wx (w.heap.size + 1) (.bool l33) (.slice p33 np33 pc33) (.slice k33 nk33 kc33) (.slice q33 nq33 qc33)) := ⟨l33, p33, np33, pc33, k33, nk33, kc33, q33, nq33, qc33, ⟨hj.1.trans (ho.below hj.1.size (fun j hh e => by omega)), hj.2.1.only ho (by omega), laidN_blk hj.2.2 _ _ _ _⟩, N33.only ho (fun j hh => by omega)⟩
          clear hs hj N33
          refine gives_by rfl act.eval rfl ?_
          generalize act.eval = ρ at *
          intro hf hc
          go_simp
          exact ⟨ho, hfin⟩
        · intro vals act wx h hs
          obtain ⟨v34, e34, f34⟩ := h.f 13 34 (by kernel_rfl) rfl
          obtain rfl : v34 = .int .i64 (ownE DN) := f34
          clear h
          have hj : CgS w [.bool lf, .slice pa np pc, .slice ka nk kc, .slice ca nc cc] (ownN DN) (ownE DN) 15 1 vals wx := hs
          refine gives_by rfl act.eval rfl ?_
          generalize act.eval = ρ at *
          intro hf hc
          go_simp
          exact ⟨Only.refl _ _, ⟨hj, rfl⟩⟩
      · intro vals w8 hv hs
        obtain ⟨⟨l8, p8, n8, c8, k8, nk8, kc8, q8, nq8, qc8, hj, hn⟩, h19⟩ : (∃ l9 p9 n9 c9 k9 m9 d9 q9 r9 s9, CgB w [.bool lf, .slice pa np pc, .slice ka nk kc, .slice ca nc cc] [.bool l9, .slice p9 n9 c9, .slice k9 m9 d9, .slice q9 r9 s9] w8 ∧ NdN w8 (w.heap.size + 2) (.agg #[.bool l9, .slice p9 n9 c9, .slice k9 m9 d9, .slice q9 r9 s9]) (ownN DN)) ∧ vals 15 = .int .i64 (ownE DN) := hs
        have HJ8 := hide hj
        have HN8 := hide hn
        clear hv hj hn
        simp only [putAll, Act.put, List.setIfInBounds_toArray, List.set_cons_zero, List.set_cons_succ, Nat.zero_add, Nat.reduceAdd, h19]
        (try go_wp2)
        (try simp only [Exit.inBlock, Exit.then])
        refine bodyPost_ret (ret_node1 rfl _ _ (w.heap.size + 1) _ _ _ _ _ rfl rfl HJ8.out.2.2) rfl ?_
        exact ⟨_, rfl, HN8.out.le (by omega), HJ8.out.1⟩

end Go.Proofs.Ytoamdbjailpgdaa
