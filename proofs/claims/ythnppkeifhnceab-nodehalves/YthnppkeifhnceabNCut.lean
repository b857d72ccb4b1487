/- Contract: package node's Cut. -/
import Derived.Test.YthnppkeifhnceabNHalf
import Derived.Test.YthnppkeifhnceabNMidL
import Derived.Test.YthnppkeifhnceabNOwn
namespace Go.Proofs.Ythnppkeifhnceab
set_option maxRecDepth 20000
open Go.RowKit Go.Shelf
set_option linter.unusedVariables false
set_option linter.unusedSimpArgs false
set_option maxRecDepth 100000
attribute [local go_sem] Oper.semAt_some

def cutM (n : Nd) : Nat := midN n.lf (partsN n)
def cutE (n : Nd) : Int := if mayN n then (if 0 < cutM n then 0 else 4) else 100
def cutA (n : Nd) : Nd := if cutE n = 0 then halfA n (cutM n) else noNd
def cutB (n : Nd) : Nd := if cutE n = 0 then halfB n (cutM n) else noNd
def cutK (n : Nd) : List Int := if cutE n = 0 then halfK n (cutM n) else []

theorem mid_bounds {n : Nd} (hm : mayN n = true) (h : 0 < cutM n) : (n.lf = true → cutM n < n.ps.length ∧ n.ps.length ≤ 1000) ∧ (n.lf = false → cutM n + 1 < n.ks.length ∧ n.cs.length = n.ks.length + 1 ∧ n.ks.length ≤ 1000) := by
  have hb := may_bounds hm
  obtain ⟨h1, h2, _⟩ := midN_ok n.lf (partsN n) h
  constructor
  · intro hl
    rw [mayN_lf hl] at hm
    have hk := (leafB_ps hm).2.1
    have hp : (partsN n).length = n.ps.length := by unfold partsN; rw [hk]; simp
    exact ⟨by unfold cutM; omega, by omega⟩
  · intro hl
    rw [mayN_in hl] at hm
    have hi := innerB_ps hm
    have hp : (partsN n).length = n.ks.length := by unfold partsN; rw [hi.1]; simp
    refine ⟨?_, hi.2.2.2.1, by omega⟩
    rcases Nat.lt_or_ge (cutM n + 1) n.ks.length with h3 | h3
    · exact h3
    · exfalso
      apply h2.2
      unfold sndC
      rw [hl]
      simp only [Bool.false_eq_true, if_false]
      have h4 : (partsN n).length ≤ midN false (partsN n) + 1 := by rw [← hl]; unfold cutM at h3; omega
      rw [List.drop_eq_nil_of_le h4]
      rfl
theorem all_takeX {α : Type} (f : α → Bool) (l : List α) (i : Nat) (h : l.all f = true) : (l.take i).all f = true := by
  rw [List.all_eq_true] at h ⊢
  exact fun x hx => h x (List.mem_of_mem_take hx)
theorem all_dropX {α : Type} (f : α → Bool) (l : List α) (i : Nat) (h : l.all f = true) : (l.drop i).all f = true := by
  rw [List.all_eq_true] at h ⊢
  exact fun x hx => h x (List.mem_of_mem_drop hx)
theorem few_half {n : Nd} (i : Nat) (h : few1 n = true) : few1 (halfA n i) = true ∧ few1 (halfB n i) = true := by
  simp only [few1, Bool.and_eq_true, decide_eq_true_iff] at h
  obtain ⟨⟨⟨⟨h1, h2⟩, h3⟩, h4⟩, h5⟩ := h
  unfold halfA halfB
  cases n.lf with
  | true =>
    simp only [if_true, few1, Bool.and_eq_true, decide_eq_true_iff, List.length_take, List.length_drop, List.length_nil, List.all_nil]
    exact ⟨⟨⟨⟨⟨by omega, by omega⟩, by omega⟩, all_takeX _ _ _ h4⟩, trivial⟩, ⟨⟨⟨⟨by omega, by omega⟩, by omega⟩, all_dropX _ _ _ h4⟩, trivial⟩⟩
  | false =>
    simp only [Bool.false_eq_true, if_false, few1, Bool.and_eq_true, decide_eq_true_iff, List.length_take, List.length_drop, List.length_nil, List.all_nil]
    exact ⟨⟨⟨⟨⟨by omega, by omega⟩, by omega⟩, trivial⟩, all_takeX _ _ _ h5⟩, ⟨⟨⟨⟨by omega, by omega⟩, by omega⟩, trivial⟩, all_dropX _ _ _ h5⟩⟩
theorem halfK_len {n : Nd} (hm : mayN n = true) (i : Nat) : (halfK n i).length ≤ 100000 := by
  have hb := may_bounds hm
  unfold halfK
  split
  · by_cases hi : i < n.ps.length
    · have := hb.2.2.2.1 (n.ps.getD i ([], [])) (by simp only [List.getD, List.getElem?_eq_getElem hi]; exact List.getElem_mem hi)
      omega
    · simp [List.getD, Nat.le_of_not_lt hi]
  · by_cases hi : i < n.ks.length
    · have := hb.2.2.2.2 (n.ks.getD i []) (by simp only [List.getD, List.getElem?_eq_getElem hi]; exact List.getElem_mem hi)
      omega
    · simp [List.getD, Nat.le_of_not_lt hi]

theorem results4 {fn : Func} {p u q r : Tmp} {ty : TypeId} (h : fn.results = #[.cell p ty, .tmp u, .cell q ty, .tmp r]) (tmps : Array Value) (P : Program) (w : World) :
    (results fn tmps).run P w = ((asAddr (tmps.getD p undef)).run P w).andThen fun a w₁ => ((loadVar ty a).run P w₁).andThen fun v w₂ => ((asAddr (tmps.getD q undef)).run P w₂).andThen fun a' w₃ => ((loadVar ty a').run P w₃).andThen fun v' w₄ => .ok (.tuple #[v, tmps.getD u undef, v', tmps.getD r undef]) w₄ := by
  simp only [results, h]
  simp [Sem.run_bind, Result.andThen]
theorem ret_node4 {fn : Func} {p u q r : Tmp} (h : fn.results = #[.cell p 26, .tmp u, .cell q 26, .tmp r]) (tmps : Array Value) (w : World) (b d : Nat) (x0 x1 x2 x3 y0 y1 y2 y3 k e : Value) (hp : tmps.getD p undef = .pointer (some ⟨b, 0, none⟩)) (hu : tmps.getD u undef = k) (hq : tmps.getD q undef = .pointer (some ⟨d, 0, none⟩)) (hr : tmps.getD r undef = e) (hB : Blk w b 26 [x0, x1, x2, x3]) (hD : Blk w d 26 [y0, y1, y2, y3]) :
    (results fn tmps).run Try.prog w = .ok (.tuple #[.agg #[x0, x1, x2, x3], k, .agg #[y0, y1, y2, y3], e]) w := by
  rw [results4 h, hp, hu, hq, hr]
  simp only [asAddr, Sem.run_pure, Result.andThen_ok]
  rw [load_node w b x0 x1 x2 x3 hB]
  simp only [Result.andThen_ok]
  rw [load_node w d y0 y1 y2 y3 hD]
  rfl

/-- a cut that was answered -/
def GivesX (w : World) (a : Nd) (k : List Int) (b : Nd) (er : Int) (r : Ending) (w' : World) : Prop := ∃ u1 k1 k2 k3 u2, r = .returned (.tuple #[u1, .slice k1 k2 k3, u2, .int .i64 er]) ∧ NdN w' w.heap.size u1 a ∧ Sl w' (.slice k1 k2 k3) k ∧ NdN w' w.heap.size u2 b ∧ Below w.heap.size w w'

structure CtB (w : World) (ab bb : Nat) (VA VB : List Value) (W : World) : Prop where
  below : Below w.heap.size w W
  size : w.heap.size + 3 ≤ W.heap.size
  ba : Blk W ab 26 VA
  bb : Blk W bb 26 VB
theorem CtB.only {w : World} {ab bb : Nat} {VA VB : List Value} {W W' : World} {S : Nat → Prop} (h : CtB w ab bb VA VB W) (ho : Only S W W') (hS : ∀ j, S j → w.heap.size ≤ j) (ha : ¬ S ab) (hb : ¬ S bb) : CtB w ab bb VA VB W' :=
  ⟨h.below.trans (ho.below h.below.size (fun j hj hs => by have := hS j hs; omega)), Nat.le_trans h.size ho.size, h.ba.only ho ha, h.bb.only ho hb⟩
def ndO (B : Nat) (n : Nd) (v : Value) (w : World) : Prop := ∃ l pa np pc ka nk kc ca nc cc, v = .agg #[.bool l, .slice pa np pc, .slice ka nk kc, .slice ca nc cc] ∧ NdN w B (.agg #[.bool l, .slice pa np pc, .slice ka nk kc, .slice ca nc cc]) n
def ndS (B r : Nat) (n : Nd) (w : World) : Prop := ∃ l pa np pc ka nk kc ca nc cc, Blk w r 26 [.bool l, .slice pa np pc, .slice ka nk kc, .slice ca nc cc] ∧ NdN w B (.agg #[.bool l, .slice pa np pc, .slice ka nk kc, .slice ca nc cc]) n
def byO (B : Nat) (zs : List Int) (v : Value) (w : World) : Prop := ∃ a n c, v = .slice a n c ∧ ownsB w B (.slice a n c) zs
theorem ndO.only {B : Nat} {n : Nd} {v : Value} {w w' : World} {S : Nat → Prop} (h : ndO B n v w) (ho : Only S w w') (hS : ∀ j, S j → j < B) : ndO B n v w' := by
  obtain ⟨l, pa, np, pc, ka, nk, kc, ca, nc, cc, h1, h2⟩ := h
  exact ⟨l, pa, np, pc, ka, nk, kc, ca, nc, cc, h1, h2.only ho hS⟩
theorem ndS.only {B r : Nat} {n : Nd} {w w' : World} {S : Nat → Prop} (h : ndS B r n w) (ho : Only S w w') (hS : ∀ j, S j → j < B) (hr : ¬ S r) : ndS B r n w' := by
  obtain ⟨l, pa, np, pc, ka, nk, kc, ca, nc, cc, h1, h2⟩ := h
  exact ⟨l, pa, np, pc, ka, nk, kc, ca, nc, cc, h1.only ho hr, h2.only ho hS⟩
theorem byO.only {B : Nat} {zs : List Int} {v : Value} {w w' : World} {S : Nat → Prop} (h : byO B zs v w) (ho : Only S w w') (hS : ∀ j, S j → j < B) : byO B zs v w' := by
  obtain ⟨a, n, c, h1, h2⟩ := h
  exact ⟨a, n, c, h1, ownsRow_only h2 ho (fun j hj hs => by have := (row_blk h2 hj).1; have := hS j hs; omega)⟩
abbrev blkN (W : World) (r : Nat) (V : List Value) : Prop := Blk W r 26 V
/-- the cut's region -/
def CtS (w : World) (ab bb : Nat) (VA VB : List Value) (A B : Nd) (K : List Int) : Nat → (Nat → Value) → World → Prop := fun i vals W => CtB w ab bb VA VB W ∧ match i with
  | 0 => blkN W (w.heap.size + 1) zeroC ∧ blkN W (w.heap.size + 1 + 1) zeroC
  | 1 => (blkN W (w.heap.size + 1) zeroC ∧ blkN W (w.heap.size + 1 + 1) zeroC) ∧ ndO (w.heap.size + 3) A (vals 1) W
  | 2 => (blkN W (w.heap.size + 1) zeroC ∧ blkN W (w.heap.size + 1 + 1) zeroC) ∧ ndO (w.heap.size + 3) A (vals 1) W ∧ byO (w.heap.size + 3) K (vals 3) W
  | 3 => (blkN W (w.heap.size + 1) zeroC ∧ blkN W (w.heap.size + 1 + 1) zeroC) ∧ ndO (w.heap.size + 3) A (vals 1) W ∧ byO (w.heap.size + 3) K (vals 3) W ∧ ndO (w.heap.size + 3) B (vals 5) W
  | 4 => (ndS (w.heap.size + 3) (w.heap.size + 1) A W ∧ blkN W (w.heap.size + 1 + 1) zeroC) ∧ byO (w.heap.size + 3) K (vals 3) W ∧ ndO (w.heap.size + 3) B (vals 5) W
  | 5 => (ndS (w.heap.size + 3) (w.heap.size + 1) A W ∧ blkN W (w.heap.size + 1 + 1) zeroC) ∧ byO (w.heap.size + 3) K (vals 7) W ∧ ndO (w.heap.size + 3) B (vals 5) W
  | 6 => (ndS (w.heap.size + 3) (w.heap.size + 1) A W ∧ ndS (w.heap.size + 3) (w.heap.size + 1 + 1) B W) ∧ byO (w.heap.size + 3) K (vals 7) W
  | _ => (ndS (w.heap.size + 3) (w.heap.size + 1) A W ∧ ndS (w.heap.size + 3) (w.heap.size + 1 + 1) B W) ∧ byO (w.heap.size + 3) K (vals 7) W ∧ vals 9 = .int .i64 0

set_option maxHeartbeats 8000000 in
theorem cut_any (w : World) (v : Value) (n : Nd) (h : NdV w v n) : Calls Try.prog 6 #[v] w (GivesX w (cutA n) (cutK n) (cutB n) (cutE n)) := by
  have HM : Hid (∀ w1, Below w.heap.size w w1 → Calls Try.prog 25 #[v] w1 fun e w' => e = .returned (.bool (mayN n)) ∧ Below w1.heap.size w1 w') := fun w1 hb => mayBe_any w1 v n (h.below hb)
  have HMI : Hid (mayN n = true → ∀ w1, Below w.heap.size w w1 → Calls Try.prog 26 #[v] w1 fun e w' => e = .returned (.tuple #[.int .i64 (cutM n), .bool (decide (0 < cutM n))]) ∧ Below w1.heap.size w1 w') := fun hm w1 hb => middle_any w1 v n (h.below hb) hm
  have HHA : Hid (mayN n = true → 0 < cutM n → ∀ w1, Below w.heap.size w w1 → Calls Try.prog 27 #[v, .int .i64 (cutM n : Nat)] w1 fun e w' => ∃ l p a b kx c d q r s k1 k2 k3 l' p' a' b' kx' c' d' q' r' s', e = .returned (.tuple #[.agg #[.bool l, .slice p a b, .slice kx c d, .slice q r s], .slice k1 k2 k3, .agg #[.bool l', .slice p' a' b', .slice kx' c' d', .slice q' r' s']]) ∧ NdV w (.agg #[.bool l, .slice p a b, .slice kx c d, .slice q r s]) (halfA n (cutM n)) ∧ Sl w (.slice k1 k2 k3) (halfK n (cutM n)) ∧ NdV w (.agg #[.bool l', .slice p' a' b', .slice kx' c' d', .slice q' r' s']) (halfB n (cutM n)) ∧ Below w1.heap.size w1 w') := fun hm h0 w1 hb => by
    refine (halves_any w w1 hb v n h (cutM n) h0 (mid_bounds hm h0).1 (mid_bounds hm h0).2).mono ?_
    rintro e w' ⟨u1, k1, k2, k3, u2, rfl, h1, h2, h3, h4⟩
    obtain ⟨l, p, a, b, kx, c, d, q, r, s, rfl, -⟩ := nd_open h1
    obtain ⟨l', p', a', b', kx', c', d', q', r', s', rfl, -⟩ := nd_open h3
    exact ⟨l, p, a, b, kx, c, d, q, r, s, k1, k2, k3, l', p', a', b', kx', c', d', q', r', s', rfl, h1, h2, h3, h4⟩
  have HCL : Hid (mayN n = true → (few1 (halfA n (cutM n)) = true ∧ few1 (halfB n (cutM n)) = true) ∧ (halfK n (cutM n)).length ≤ 100000) := fun hm => ⟨few_half _ (may_few hm), halfK_len hm _⟩
  have HEE : Hid (cutE n = if mayN n then (if 0 < cutM n then 0 else 4) else 100) := rfl
  have HAA : Hid (cutA n = if cutE n = 0 then halfA n (cutM n) else noNd) := rfl
  have HBB : Hid (cutB n = if cutE n = 0 then halfB n (cutM n) else noNd) := rfl
  have HKK : Hid (cutK n = if cutE n = 0 then halfK n (cutM n) else []) := rfl
  have hza : ∀ wx : World, (zeroValue 26).run Try.prog wx = .ok (.agg #[.bool false, .slice none 0 0, .slice none 0 0, .slice none 0 0]) wx := fun wx => by kernel_rfl
  obtain ⟨lf, pa, np, pc, ka, nk, kc, ca, nc, cc, rfl, hlf, -⟩ := nd_open h
  obtain ⟨w1, hw1⟩ : ∃ w1, ((w.alloc (.cells #[.bool lf, .slice pa np pc, .slice ka nk kc, .slice ca nc cc] 26)).alloc (.cells #[.bool false, .slice none 0 0, .slice none 0 0, .slice none 0 0] 26)).alloc (.cells #[.bool false, .slice none 0 0, .slice none 0 0, .slice none 0 0] 26) = w1 := ⟨_, rfl⟩
  have HX1 : Hid (Below w.heap.size w w1 ∧ blkN w1 w.heap.size [.bool lf, .slice pa np pc, .slice ka nk kc, .slice ca nc cc] ∧ blkN w1 (w.heap.size + 1) zeroC ∧ blkN w1 (w.heap.size + 1 + 1) zeroC) := by
    rw [← hw1]
    refine ⟨(((Below.refl _ w).alloc (Nat.le_refl _) _).alloc (by simp) _).alloc (by simp <;> omega) _, ((Blk.new w _ _).alloc _).alloc _, ?_, ?_⟩
    · have := (Blk.new (w.alloc (.cells #[.bool lf, .slice pa np pc, .slice ka nk kc, .slice ca nc cc] 26)) 26 zeroC).alloc (.cells #[.bool false, .slice none 0 0, .slice none 0 0, .slice none 0 0] 26)
      rw [World.size_alloc] at this
      exact this
    · have := Blk.new ((w.alloc (.cells #[.bool lf, .slice pa np pc, .slice ka nk kc, .slice ca nc cc] 26)).alloc (.cells #[.bool false, .slice none 0 0, .slice none 0 0, .slice none 0 0] 26)) 26 zeroC
      rw [World.size_alloc, World.size_alloc] at this
      exact this
  have HKP : Hid (∀ {W W' : World}, (Below w.heap.size w W ∧ blkN W w.heap.size [.bool lf, .slice pa np pc, .slice ka nk kc, .slice ca nc cc] ∧ blkN W (w.heap.size + 1) zeroC ∧ blkN W (w.heap.size + 1 + 1) zeroC) → Below W.heap.size W W' → (Below w.heap.size w W' ∧ blkN W' w.heap.size [.bool lf, .slice pa np pc, .slice ka nk kc, .slice ca nc cc] ∧ blkN W' (w.heap.size + 1) zeroC ∧ blkN W' (w.heap.size + 1 + 1) zeroC)) := fun hx hb => ⟨hx.1.trans (hb.mono hx.1.size), hx.2.1.below hb hx.2.1.lt, hx.2.2.1.below hb hx.2.2.1.lt, hx.2.2.2.below hb hx.2.2.2.lt⟩
  obtain ⟨⟨z0, z1, z2, z3⟩, _⟩ := node_cells HX1.out.2.1
  clear h hlf
  cases hm : mayN n with
  | false =>
    rw [hm] at HEE HM
    simp only [Bool.false_eq_true, if_false] at HEE
    rw [HEE.out] at HAA HBB HKK ⊢
    rw [if_neg (by omega)] at HAA HBB HKK
    rw [HAA.out, HBB.out, HKK.out]
    clear HMI HHA HCL HEE HAA HBB HKK hm
    go_enter Try.func6, Try.ntmps6
    go_wp2_with (go_at_call 25; refine (HM.out w1 HX1.out.1).mono ?_; rintro e w2 ⟨rfl, hb2⟩; have HX2 := hide (HKP.out HX1.out hb2); obtain ⟨⟨d0, d1, d2, d3⟩, k0, k1, k2, k3⟩ := node_cells HX2.out.2.2.1; have hb4 := HX2.out.2.2.2.only (laidN_only w2 (w.heap.size + 1) (.bool false) (.slice none 0 0) (.slice none 0 0) (.slice none 0 0)) (by omega); obtain ⟨⟨g0, g1, g2, g3⟩, q0, q1, q2, q3⟩ := node_cells hb4; unfold laidN at g0 g1 g2 g3 q0 q1 q2 q3; have HB4 := hide hb4; clear HM hb2 hb4)
    (try simp only [Exit.inBlock, Exit.then])
    have h3 := laidN_blk HB4.out (.bool false) (.slice none 0 0) (.slice none 0 0) (.slice none 0 0)
    have o1 := laidN_only w2 (w.heap.size + 1) (.bool false) (.slice none 0 0) (.slice none 0 0) (.slice none 0 0)
    have o2 := laidN_only (laidN w2 (w.heap.size + 1) (.bool false) (.slice none 0 0) (.slice none 0 0) (.slice none 0 0)) (w.heap.size + 1 + 1) (.bool false) (.slice none 0 0) (.slice none 0 0) (.slice none 0 0)
    have h2 := (laidN_blk HX2.out.2.2.1 (.bool false) (.slice none 0 0) (.slice none 0 0) (.slice none 0 0)).only o2 (by omega)
    refine bodyPost_ret (ret_node4 rfl _ _ (w.heap.size + 1) (w.heap.size + 1 + 1) _ _ _ _ _ _ _ _ _ _ rfl rfl rfl rfl h2 h3) rfl ?_
    exact ⟨_, none, 0, 0, _, rfl, NdN.none _ _, Sl.nil _, NdN.none _ _, (HX2.out.1.trans (o1.below HX2.out.1.size (fun j hj e => by omega))).trans (o2.below (by have := HX2.out.1.size; have := o1.size; omega) (fun j hj e => by omega))⟩
  | true =>
    have HMI1 := hide (HMI.out hm)
    rw [hm] at HEE HM
    simp only [if_true] at HEE
    by_cases h0 : 0 < cutM n
    · rw [if_pos h0] at HEE
      rw [HEE.out] at HAA HBB HKK ⊢
      rw [if_pos rfl] at HAA HBB HKK
      rw [HAA.out, HBB.out, HKK.out]
      rw [decide_eq_true h0] at HMI1
      have HHA1 := hide (HHA.out hm h0)
      obtain ⟨⟨hfa, hfb⟩, hkl⟩ := HCL.out hm
      clear HMI HHA HCL HEE HAA HBB HKK hm
      generalize halfA n (cutM n) = A at *
      generalize halfB n (cutM n) = B at *
      generalize halfK n (cutM n) = K at *
      generalize cutM n = I at *
      go_enter Try.func6, Try.ntmps6
      go_wp2_with (first
        | (go_at_call 25; refine (HM.out w1 HX1.out.1).mono ?_; rintro e w2 ⟨rfl, hb2⟩; have HX2 := hide (HKP.out HX1.out hb2); clear z0 z1 z2 z3; obtain ⟨⟨z0, z1, z2, z3⟩, _⟩ := node_cells HX2.out.2.1; clear HM hb2)
        | (go_at_call 26; refine (HMI1.out w2 HX2.out.1).mono ?_; rintro e w3 ⟨rfl, hb3⟩; have HX3 := hide (HKP.out HX2.out hb3); clear z0 z1 z2 z3; obtain ⟨⟨z0, z1, z2, z3⟩, _⟩ := node_cells HX3.out.2.1; clear HMI1 hb3)
        | (go_at_call 27; refine (HHA1.out w3 HX3.out.1).mono ?_; rintro e w4 ⟨l, p, a, b, kx, c, d, q, r, s, k1, k2, k3, l', p', a', b', kx', c', d', q', r', s', rfl, hva, hsk, hvb, hb4⟩; have HX4 := hide (HKP.out HX3.out hb4); have HVA := hide hva; have HVB := hide hvb; have HSK := hide hsk; clear HHA1 hb4 hva hvb hsk))
      obtain ⟨W, hW⟩ : ∃ W, W = (w4.alloc (.cells #[.bool l, .slice p a b, .slice kx c d, .slice q r s] 26)).alloc (.cells #[.bool l', .slice p' a' b', .slice kx' c' d', .slice q' r' s'] 26) := ⟨_, rfl⟩
      obtain ⟨ab, hab⟩ : ∃ x, x = w4.heap.size := ⟨_, rfl⟩
      obtain ⟨bb, hbb⟩ : ∃ x, x = ab + 1 := ⟨_, rfl⟩
      have hs4 : w.heap.size + 3 ≤ w4.heap.size := by have := HX4.out.2.2.2.lt; omega
      have HC0 : Hid (CtB w ab bb [.bool l, .slice p a b, .slice kx c d, .slice q r s] [.bool l', .slice p' a' b', .slice kx' c' d', .slice q' r' s'] W ∧ blkN W (w.heap.size + 1) zeroC ∧ blkN W (w.heap.size + 1 + 1) zeroC) := by
        have hb : Below w4.heap.size w4 W := by rw [hW]; exact ((Below.refl _ w4).alloc (Nat.le_refl _) _).alloc (by simp) _
        have hx := HKP.out HX4.out hb
        refine ⟨⟨hx.1, by have := hb.size; omega, ?_, ?_⟩, hx.2.2.1, hx.2.2.2⟩
        · rw [hab, hW]; exact (Blk.new w4 _ _).alloc _
        · rw [hbb, hab, hW]
          have := Blk.new (w4.alloc (.cells #[.bool l, .slice p a b, .slice kx c d, .slice q r s] 26)) 26 [.bool l', .slice p' a' b', .slice kx' c' d', .slice q' r' s']
          rw [World.size_alloc] at this
          exact this
      have hab3 : w.heap.size + 3 ≤ ab := by omega
      have hbb3 : w.heap.size + 3 ≤ bb := by omega
      simp only [← hab, ← hW]
      simp only [← hbb]
      clear hW hab hbb HX1 HX2 HX3 HX4 HKP z0 z1 z2 z3
      (try go_wp2)
      refine wp_region_chain [some (.agg #[.bool l, .slice p a b, .slice kx c d, .slice q r s]), none, some (.slice k1 k2 k3), none, some (.agg #[.bool l', .slice p' a' b', .slice kx' c' d', .slice q' r' s']), none, none, none, none, none] [1, 3, 5, 6, 7, 8, 9] (CtS w ab bb [.bool l, .slice p a b, .slice kx c d, .slice q r s] [.bool l', .slice p' a' b', .slice kx' c' d', .slice q' r' s'] A B K) 38 (by kernel_rfl) (by kernel_rfl) (by kernel_rfl) (by kernel_rfl) rfl ?_ ?_ ?_
      · intro vals0
        have ho := (Only.refl (fun _ => False) W).drew
        exact (⟨HC0.out.1.only ho (fun _ h => h.elim) (fun h => h) (fun h => h), HC0.out.2.1.only ho (fun h => h), HC0.out.2.2.only ho (fun h => h)⟩ : CtB w ab bb [.bool l, .slice p a b, .slice kx c d, .slice q r s] [.bool l', .slice p' a' b', .slice kx' c' d', .slice q' r' s'] W.drew ∧ blkN W.drew (w.heap.size + 1) zeroC ∧ blkN W.drew (w.heap.size + 1 + 1) zeroC)
      · refine ⟨?_, ?_, ?_, ?_, ?_, ?_, ?_, ?_, ?_, ?_, trivial⟩
        · intro k vals act wx hk h hs
          have e8 : act.eval (.tmp 8) = .pointer (some ⟨ab, 0, none⟩) := h.old 8 (by kernel_rfl)
          clear h
          have hC : CtB w ab bb [.bool l, .slice p a b, .slice kx c d, .slice q r s] [.bool l', .slice p' a' b', .slice kx' c' d', .slice q' r' s'] wx := hs.1
          obtain ⟨⟨x0, x1, x2, x3⟩, _⟩ := node_cells hC.ba
          refine gives_by rfl act.eval rfl ?_
          generalize act.eval = ρ at *
          intro hf hc
          go_simp
          exact ⟨rfl, hs⟩
        · intro vals act wx h hs
          have e32 : act.eval (.tmp 32) = .agg #[.bool l, .slice p a b, .slice kx c d, .slice q r s] := h.q 0 32 (by kernel_rfl) rfl
          clear h
          obtain ⟨hC, hZ1, hZ2⟩ : CtB w ab bb [.bool l, .slice p a b, .slice kx c d, .slice q r s] [.bool l', .slice p' a' b', .slice kx' c' d', .slice q' r' s'] wx ∧ blkN wx (w.heap.size + 1) zeroC ∧ blkN wx (w.heap.size + 1 + 1) zeroC := hs
          refine gives_by rfl act.eval rfl ?_
          generalize act.eval = ρ at *
          intro hf hc
          go_simp
          refine (ndClone_any wx _ A (HVA.out.below hC.below) hfa).mono ?_
          rintro e w' ⟨u, he, hn, hb'⟩
          have ho : Only (fun _ => False) wx w' := Only.of_below _ hb'
          obtain ⟨pa3, np3, pc3, ka3, nk3, kc3, ca3, nc3, cc3, rfl⟩ := hn.form
          exact ⟨_, he, (⟨hC.only ho (fun _ h => h.elim) (fun h => h) (fun h => h), ⟨hZ1.only ho (fun h => h), hZ2.only ho (fun h => h)⟩, ⟨_, _, _, _, _, _, _, _, _, _, rfl, hn.le hC.size⟩⟩ : CtB w ab bb [.bool l, .slice p a b, .slice kx c d, .slice q r s] [.bool l', .slice p' a' b', .slice kx' c' d', .slice q' r' s'] w' ∧ (blkN w' (w.heap.size + 1) zeroC ∧ blkN w' (w.heap.size + 1 + 1) zeroC) ∧ ndO (w.heap.size + 3) A (.agg #[.bool A.lf, .slice pa3 np3 pc3, .slice ka3 nk3 kc3, .slice ca3 nc3 cc3]) w')⟩
        · intro k vals act wx hk h hs
          have e9 : act.eval (.tmp 9) = .slice k1 k2 k3 := h.old 9 (by kernel_rfl)
          clear h
          refine gives_by rfl act.eval rfl ?_
          generalize act.eval = ρ at *
          intro hf hc
          go_simp
          exact ⟨rfl, hs⟩
        · intro vals act wx h hs
          have e34 : act.eval (.tmp 34) = .slice k1 k2 k3 := h.q 2 34 (by kernel_rfl) rfl
          clear h
          obtain ⟨hC, ⟨hZ1, hZ2⟩, h1⟩ : CtB w ab bb [.bool l, .slice p a b, .slice kx c d, .slice q r s] [.bool l', .slice p' a' b', .slice kx' c' d', .slice q' r' s'] wx ∧ (blkN wx (w.heap.size + 1) zeroC ∧ blkN wx (w.heap.size + 1 + 1) zeroC) ∧ ndO (w.heap.size + 3) A (vals 1) wx := hs
          refine gives_by rfl act.eval rfl ?_
          generalize act.eval = ρ at *
          intro hf hc
          go_simp
          refine (clone_any wx _ K (HSK.out.below hC.below) hkl).mono ?_
          rintro e w' ⟨u, he, hn, hb'⟩
          have ho : Only (fun _ => False) wx w' := Only.of_below _ hb'
          obtain ⟨ua, uc, rfl⟩ := own_form' hn
          exact ⟨_, he, (⟨hC.only ho (fun _ h => h.elim) (fun h => h) (fun h => h), ⟨hZ1.only ho (fun h => h), hZ2.only ho (fun h => h)⟩, h1.only ho (fun _ h => h.elim), ⟨_, _, _, rfl, own_le' hn hC.size⟩⟩ : CtB w ab bb [.bool l, .slice p a b, .slice kx c d, .slice q r s] [.bool l', .slice p' a' b', .slice kx' c' d', .slice q' r' s'] w' ∧ (blkN w' (w.heap.size + 1) zeroC ∧ blkN w' (w.heap.size + 1 + 1) zeroC) ∧ ndO (w.heap.size + 3) A (vals 1) w' ∧ byO (w.heap.size + 3) K (.slice ua K.length uc) w')⟩
        · intro k vals act wx hk h hs
          have e10 : act.eval (.tmp 10) = .pointer (some ⟨bb, 0, none⟩) := h.old 10 (by kernel_rfl)
          clear h
          have hC : CtB w ab bb [.bool l, .slice p a b, .slice kx c d, .slice q r s] [.bool l', .slice p' a' b', .slice kx' c' d', .slice q' r' s'] wx := hs.1
          obtain ⟨⟨x0, x1, x2, x3⟩, _⟩ := node_cells hC.bb
          refine gives_by rfl act.eval rfl ?_
          generalize act.eval = ρ at *
          intro hf hc
          go_simp
          exact ⟨rfl, hs⟩
        · intro vals act wx h hs
          have e36 : act.eval (.tmp 36) = .agg #[.bool l', .slice p' a' b', .slice kx' c' d', .slice q' r' s'] := h.q 4 36 (by kernel_rfl) rfl
          clear h
          obtain ⟨hC, ⟨hZ1, hZ2⟩, h1, h3⟩ : CtB w ab bb [.bool l, .slice p a b, .slice kx c d, .slice q r s] [.bool l', .slice p' a' b', .slice kx' c' d', .slice q' r' s'] wx ∧ (blkN wx (w.heap.size + 1) zeroC ∧ blkN wx (w.heap.size + 1 + 1) zeroC) ∧ ndO (w.heap.size + 3) A (vals 1) wx ∧ byO (w.heap.size + 3) K (vals 3) wx := hs
          refine gives_by rfl act.eval rfl ?_
          generalize act.eval = ρ at *
          intro hf hc
          go_simp
          refine (ndClone_any wx _ B (HVB.out.below hC.below) hfb).mono ?_
          rintro e w' ⟨u, he, hn, hb'⟩
          have ho : Only (fun _ => False) wx w' := Only.of_below _ hb'
          obtain ⟨pa3, np3, pc3, ka3, nk3, kc3, ca3, nc3, cc3, rfl⟩ := hn.form
          exact ⟨_, he, (⟨hC.only ho (fun _ h => h.elim) (fun h => h) (fun h => h), ⟨hZ1.only ho (fun h => h), hZ2.only ho (fun h => h)⟩, h1.only ho (fun _ h => h.elim), h3.only ho (fun _ h => h.elim), ⟨_, _, _, _, _, _, _, _, _, _, rfl, hn.le hC.size⟩⟩ : CtB w ab bb [.bool l, .slice p a b, .slice kx c d, .slice q r s] [.bool l', .slice p' a' b', .slice kx' c' d', .slice q' r' s'] w' ∧ (blkN w' (w.heap.size + 1) zeroC ∧ blkN w' (w.heap.size + 1 + 1) zeroC) ∧ ndO (w.heap.size + 3) A (vals 1) w' ∧ byO (w.heap.size + 3) K (vals 3) w' ∧ ndO (w.heap.size + 3) B (.agg #[.bool B.lf, .slice pa3 np3 pc3, .slice ka3 nk3 kc3, .slice ca3 nc3 cc3]) w')⟩
        · intro vals act wx h hs
          have e2 : act.eval (.tmp 2) = .pointer (some ⟨w.heap.size + 1, 0, none⟩) := h.old 2 (by kernel_rfl)
          have e33 : act.eval (.tmp 33) = vals 1 := h.val 1 33 (by kernel_rfl)
          clear h
          obtain ⟨hC, ⟨hZ1, hZ2⟩, h1, h3, h5⟩ : CtB w ab bb [.bool l, .slice p a b, .slice kx c d, .slice q r s] [.bool l', .slice p' a' b', .slice kx' c' d', .slice q' r' s'] wx ∧ (blkN wx (w.heap.size + 1) zeroC ∧ blkN wx (w.heap.size + 1 + 1) zeroC) ∧ ndO (w.heap.size + 3) A (vals 1) wx ∧ byO (w.heap.size + 3) K (vals 3) wx ∧ ndO (w.heap.size + 3) B (vals 5) wx := hs
          obtain ⟨l9, pa9, np9, pc9, ka9, nk9, kc9, ca9, nc9, cc9, hv9, hn9⟩ := h1
          rw [hv9] at e33
          obtain ⟨⟨d0, d1, d2, d3⟩, f0, f1, f2, f3⟩ := node_cells hZ1
          have ho := laidN_only wx (w.heap.size + 1) (.bool l9) (.slice pa9 np9 pc9) (.slice ka9 nk9 kc9) (.slice ca9 nc9 cc9)
          have hfin : CtB w ab bb [.bool l, .slice p a b, .slice kx c d, .slice q r s] [.bool l', .slice p' a' b', .slice kx' c' d', .slice q' r' s'] (laidN wx (w.heap.size + 1) (.bool l9) (.slice pa9 np9 pc9) (.slice ka9 nk9 kc9) (.slice ca9 nc9 cc9)) ∧ (ndS (w.heap.size + 3) (w.heap.size + 1) A (laidN wx (w.heap.size + 1) (.bool l9) (.slice pa9 np9 pc9) (.slice ka9 nk9 kc9) (.slice ca9 nc9 cc9)) ∧ blkN (laidN wx (w.heap.size + 1) (.bool l9) (.slice pa9 np9 pc9) (.slice ka9 nk9 kc9) (.slice ca9 nc9 cc9)) (w.heap.size + 1 + 1) zeroC) ∧ byO (w.heap.size + 3) K (vals 3) (laidN wx (w.heap.size + 1) (.bool l9) (.slice pa9 np9 pc9) (.slice ka9 nk9 kc9) (.slice ca9 nc9 cc9)) ∧ ndO (w.heap.size + 3) B (vals 5) (laidN wx (w.heap.size + 1) (.bool l9) (.slice pa9 np9 pc9) (.slice ka9 nk9 kc9) (.slice ca9 nc9 cc9)) := ⟨hC.only ho (fun j hj => by omega) (by omega) (by omega), ⟨⟨_, _, _, _, _, _, _, _, _, _, laidN_blk hZ1 _ _ _ _, hn9.only ho (fun j hj => by omega)⟩, hZ2.only ho (by omega)⟩, h3.only ho (fun j hj => by omega), h5.only ho (fun j hj => by omega)⟩
          clear hC hZ1 hZ2 hv9 hn9 h3 h5
          refine gives_by rfl act.eval rfl ?_
          generalize act.eval = ρ at *
          intro hf hc
          go_simp
          exact hfin
        · intro vals act wx h hs
          have e35 : act.eval (.tmp 35) = vals 3 := h.val 3 35 (by kernel_rfl)
          clear h
          obtain ⟨hC, hZ, h3, h5⟩ : CtB w ab bb [.bool l, .slice p a b, .slice kx c d, .slice q r s] [.bool l', .slice p' a' b', .slice kx' c' d', .slice q' r' s'] wx ∧ (ndS (w.heap.size + 3) (w.heap.size + 1) A wx ∧ blkN wx (w.heap.size + 1 + 1) zeroC) ∧ byO (w.heap.size + 3) K (vals 3) wx ∧ ndO (w.heap.size + 3) B (vals 5) wx := hs
          obtain ⟨ua, un, uc, hu, h3'⟩ := h3
          rw [hu] at e35
          refine gives_by rfl act.eval rfl ?_
          generalize act.eval = ρ at *
          intro hf hc
          go_simp
          exact (⟨hC, hZ, ⟨ua, un, uc, rfl, h3'⟩, h5⟩ : CtB w ab bb [.bool l, .slice p a b, .slice kx c d, .slice q r s] [.bool l', .slice p' a' b', .slice kx' c' d', .slice q' r' s'] wx ∧ (ndS (w.heap.size + 3) (w.heap.size + 1) A wx ∧ blkN wx (w.heap.size + 1 + 1) zeroC) ∧ byO (w.heap.size + 3) K (.slice ua un uc) wx ∧ ndO (w.heap.size + 3) B (vals 5) wx)
        · intro vals act wx h hs
          have e4 : act.eval (.tmp 4) = .pointer (some ⟨w.heap.size + 1 + 1, 0, none⟩) := h.old 4 (by kernel_rfl)
          have e37 : act.eval (.tmp 37) = vals 5 := h.val 5 37 (by kernel_rfl)
          clear h
          obtain ⟨hC, ⟨hS1, hZ2⟩, h3, h5⟩ : CtB w ab bb [.bool l, .slice p a b, .slice kx c d, .slice q r s] [.bool l', .slice p' a' b', .slice kx' c' d', .slice q' r' s'] wx ∧ (ndS (w.heap.size + 3) (w.heap.size + 1) A wx ∧ blkN wx (w.heap.size + 1 + 1) zeroC) ∧ byO (w.heap.size + 3) K (vals 7) wx ∧ ndO (w.heap.size + 3) B (vals 5) wx := hs
          obtain ⟨l9, pa9, np9, pc9, ka9, nk9, kc9, ca9, nc9, cc9, hv9, hn9⟩ := h5
          rw [hv9] at e37
          obtain ⟨⟨d0, d1, d2, d3⟩, f0, f1, f2, f3⟩ := node_cells hZ2
          have ho := laidN_only wx (w.heap.size + 1 + 1) (.bool l9) (.slice pa9 np9 pc9) (.slice ka9 nk9 kc9) (.slice ca9 nc9 cc9)
          have hfin : CtB w ab bb [.bool l, .slice p a b, .slice kx c d, .slice q r s] [.bool l', .slice p' a' b', .slice kx' c' d', .slice q' r' s'] (laidN wx (w.heap.size + 1 + 1) (.bool l9) (.slice pa9 np9 pc9) (.slice ka9 nk9 kc9) (.slice ca9 nc9 cc9)) ∧ (ndS (w.heap.size + 3) (w.heap.size + 1) A (laidN wx (w.heap.size + 1 + 1) (.bool l9) (.slice pa9 np9 pc9) (.slice ka9 nk9 kc9) (.slice ca9 nc9 cc9)) ∧ ndS (w.heap.size + 3) (w.heap.size + 1 + 1) B (laidN wx (w.heap.size + 1 + 1) (.bool l9) (.slice pa9 np9 pc9) (.slice ka9 nk9 kc9) (.slice ca9 nc9 cc9))) ∧ byO (w.heap.size + 3) K (vals 7) (laidN wx (w.heap.size + 1 + 1) (.bool l9) (.slice pa9 np9 pc9) (.slice ka9 nk9 kc9) (.slice ca9 nc9 cc9)) := ⟨hC.only ho (fun j hj => by omega) (by omega) (by omega), ⟨hS1.only ho (fun j hj => by omega) (by omega), ⟨_, _, _, _, _, _, _, _, _, _, laidN_blk hZ2 _ _ _ _, hn9.only ho (fun j hj => by omega)⟩⟩, h3.only ho (fun j hj => by omega)⟩
          clear hC hZ2 hv9 hn9 h3 hS1
          refine gives_by rfl act.eval rfl ?_
          generalize act.eval = ρ at *
          intro hf hc
          go_simp
          exact hfin
        · intro vals act wx h hs
          clear h
          obtain ⟨hC, hZ, h3⟩ : CtB w ab bb [.bool l, .slice p a b, .slice kx c d, .slice q r s] [.bool l', .slice p' a' b', .slice kx' c' d', .slice q' r' s'] wx ∧ (ndS (w.heap.size + 3) (w.heap.size + 1) A wx ∧ ndS (w.heap.size + 3) (w.heap.size + 1 + 1) B wx) ∧ byO (w.heap.size + 3) K (vals 7) wx := hs
          refine gives_by rfl act.eval rfl ?_
          generalize act.eval = ρ at *
          intro hf hc
          go_simp
          exact (⟨hC, hZ, h3, rfl⟩ : CtB w ab bb [.bool l, .slice p a b, .slice kx c d, .slice q r s] [.bool l', .slice p' a' b', .slice kx' c' d', .slice q' r' s'] wx ∧ (ndS (w.heap.size + 3) (w.heap.size + 1) A wx ∧ ndS (w.heap.size + 3) (w.heap.size + 1 + 1) B wx) ∧ byO (w.heap.size + 3) K (vals 7) wx ∧ (.int .i64 0 : Value) = .int .i64 0)
      · intro vals w' hq hs
        obtain ⟨hC, ⟨hS1, hS2⟩, h7, h9⟩ : CtB w ab bb [.bool l, .slice p a b, .slice kx c d, .slice q r s] [.bool l', .slice p' a' b', .slice kx' c' d', .slice q' r' s'] w' ∧ (ndS (w.heap.size + 3) (w.heap.size + 1) A w' ∧ ndS (w.heap.size + 3) (w.heap.size + 1 + 1) B w') ∧ byO (w.heap.size + 3) K (vals 7) w' ∧ (vals 9) = .int .i64 0 := hs
        obtain ⟨ua, un, uc, hu, h7'⟩ := h7
        obtain ⟨l9, pa9, np9, pc9, ka9, nk9, kc9, ca9, nc9, cc9, hB1, hN1⟩ := hS1
        obtain ⟨l8, pa8, np8, pc8, ka8, nk8, kc8, ca8, nc8, cc8, hB2, hN2⟩ := hS2
        have HB1 := hide hB1
        have HB2 := hide hB2
        have HN1 := hide hN1
        have HN2 := hide hN2
        have HO7 := hide h7'
        have HCC := hide hC
        clear hq hC hB1 hB2 hN1 hN2 h7'
        simp only [putAll, Act.put, List.setIfInBounds_toArray, List.set_cons_zero, List.set_cons_succ, Nat.zero_add, Nat.reduceAdd, hu, h9]
        (try go_wp2)
        (try simp only [Exit.inBlock, Exit.then])
        refine bodyPost_ret (ret_node4 rfl _ _ (w.heap.size + 1) (w.heap.size + 1 + 1) _ _ _ _ _ _ _ _ _ _ rfl rfl rfl rfl HB1.out HB2.out) rfl ?_
        exact ⟨_, ua, un, uc, _, rfl, HN1.out.le (by omega), sl_of_own_len HO7.out HSK.out.bytes, HN2.out.le (by omega), HCC.out.below⟩
    · rw [if_neg h0] at HEE
      rw [HEE.out] at HAA HBB HKK ⊢
      rw [if_neg (by omega)] at HAA HBB HKK
      rw [HAA.out, HBB.out, HKK.out]
      rw [decide_eq_false h0] at HMI1
      clear HMI HHA HCL HEE HAA HBB HKK hm
      go_enter Try.func6, Try.ntmps6
      go_wp2_with (first
        | (go_at_call 25; refine (HM.out w1 HX1.out.1).mono ?_; rintro e w0 ⟨rfl, hb2⟩; have HX0 := hide (HKP.out HX1.out hb2); clear z0 z1 z2 z3; obtain ⟨⟨z0, z1, z2, z3⟩, _⟩ := node_cells HX0.out.2.1; clear HM hb2)
        | (go_at_call 26; refine (HMI1.out w0 HX0.out.1).mono ?_; rintro e w2 ⟨rfl, hb2⟩; have HX2 := hide (HKP.out HX0.out hb2); obtain ⟨⟨d0, d1, d2, d3⟩, k0, k1, k2, k3⟩ := node_cells HX2.out.2.2.1; have hb4 := HX2.out.2.2.2.only (laidN_only w2 (w.heap.size + 1) (.bool false) (.slice none 0 0) (.slice none 0 0) (.slice none 0 0)) (by omega); obtain ⟨⟨g0, g1, g2, g3⟩, q0, q1, q2, q3⟩ := node_cells hb4; unfold laidN at g0 g1 g2 g3 q0 q1 q2 q3; have HB4 := hide hb4; clear HMI1 hb2 hb4))
      (try simp only [Exit.inBlock, Exit.then])
      have h3 := laidN_blk HB4.out (.bool false) (.slice none 0 0) (.slice none 0 0) (.slice none 0 0)
      have o1 := laidN_only w2 (w.heap.size + 1) (.bool false) (.slice none 0 0) (.slice none 0 0) (.slice none 0 0)
      have o2 := laidN_only (laidN w2 (w.heap.size + 1) (.bool false) (.slice none 0 0) (.slice none 0 0) (.slice none 0 0)) (w.heap.size + 1 + 1) (.bool false) (.slice none 0 0) (.slice none 0 0) (.slice none 0 0)
      have h2 := (laidN_blk HX2.out.2.2.1 (.bool false) (.slice none 0 0) (.slice none 0 0) (.slice none 0 0)).only o2 (by omega)
      refine bodyPost_ret (ret_node4 rfl _ _ (w.heap.size + 1) (w.heap.size + 1 + 1) _ _ _ _ _ _ _ _ _ _ rfl rfl rfl rfl h2 h3) rfl ?_
      exact ⟨_, none, 0, 0, _, rfl, NdN.none _ _, Sl.nil _, NdN.none _ _, (HX2.out.1.trans (o1.below HX2.out.1.size (fun j hj e => by omega))).trans (o2.below (by have := HX2.out.1.size; have := o1.size; omega) (fun j hj e => by omega))⟩

end Go.Proofs.Ythnppkeifhnceab
