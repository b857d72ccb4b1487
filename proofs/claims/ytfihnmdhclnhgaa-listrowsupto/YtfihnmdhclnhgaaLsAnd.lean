/- Contract: package list's And. -/
import Derived.Test.YtfihnmdhclnhgaaLsChk
namespace Go.Proofs.Ytfihnmdhclnhgaa
set_option maxRecDepth 20000
open Go.RowKit
set_option linter.unusedVariables false
set_option linter.unusedSimpArgs false
set_option maxRecDepth 100000

theorem tyUs : Try.prog.underlying 22 = some (.slice (Try.prog.elem 22)) := by kernel_rfl
theorem szUs (wx : World) : (Go.sizeOf (Try.prog.elem 22)).run Try.prog wx = .ok 1 wx := by kernel_rfl
/-- l[1:] -/
theorem cut_1Us (ao : Option Addr) (us : List Value) (ls : List (List Int)) (cap : Nat) (hk : 1 ≤ ls.length) (hn : ls.length ≤ cap) (hc : cap ≤ 9223372036854775807) :
    ∃ a' c', (∀ wx, (Instr.slice 22 (.slice ao ls.length cap) (some (.int .i64 1)) none none).run Try.prog wx = .ok (.slice a' (ls.length - 1) c') wx) ∧
      ∀ wx, Uls wx (.slice ao ls.length cap) us ls → Uls wx (.slice a' (ls.length - 1) c') (us.drop 1) (ls.drop 1) := by
  have hlen : (ls.drop 1).length = ls.length - 1 := by simp
  have e1 : ∀ i, (us.drop 1).getD i nilS = us.getD (1 + i) nilS := fun i => by simp only [List.getD, List.getElem?_drop]
  have e2 : ∀ i, (ls.drop 1).getD i [] = ls.getD (1 + i) [] := fun i => by simp only [List.getD, List.getElem?_drop]
  by_cases h : cap = 1
  · refine ⟨ao, 0, fun wx => ?_, fun wx hP => ⟨by rw [List.length_drop, List.length_drop, hP.1], ao, 0, by rw [hlen], by rw [hlen]; omega, by simp [maxLen], fun i hi => by rw [hlen] at hi; omega, fun hx => absurd (List.drop_of_length_le (by omega)) hx⟩⟩
    rw [run_slice_l wx 22 ao ls.length cap tyUs .i64 1 (by omega) (by omega), szUs]
    simp only [Result.andThen, sliced, show (1 : Int).toNat = 1 from rfl]
    rw [if_pos h, show cap - 1 = 0 by omega]
  · refine ⟨Option.map (fun x => x.add (1 * 1)) ao, cap - 1, fun wx => ?_, fun wx hP => ?_⟩
    · rw [run_slice_l wx 22 ao ls.length cap tyUs .i64 1 (by omega) (by omega), szUs]
      simp only [Result.andThen, sliced, show (1 : Int).toNat = 1 from rfl]
      rw [if_neg h]
    · obtain ⟨hl, ao', cap', he, h1, h2, h3, h4⟩ := hP
      simp only [Value.slice.injEq, true_and] at he
      obtain ⟨rfl, rfl⟩ := he
      refine ⟨by rw [List.length_drop, List.length_drop, hl], _, _, by rw [hlen], by rw [hlen]; omega, by omega, fun i hi => ?_, fun hx => ?_⟩
      · rw [hlen] at hi
        rw [e1, e2]
        exact h3 (1 + i) (by omega)
      · obtain ⟨b, off, rfl, hc2⟩ := h4 (by intro e; simp [e] at hx)
        refine ⟨b, off + 1 * 1, by simp [Addr.add], fun i hi => ?_⟩
        rw [hlen] at hi
        rw [show off + 1 * 1 + i = off + (1 + i) by omega, e1]
        exact hc2 (1 + i) (by omega)

/-- what is in all -/
def andA : List (List Int) → List Int
  | [] => []
  | x :: r => r.foldl comL x
def andL (ls : List (List Int)) : List Int := if ls.all riseB = true then andA ls else []
theorem meet_len {α β : Type} (o : α → β → Int) : ∀ (a : List α) (b : List β), (meetL o a b).length ≤ a.length
  | [], _ => Nat.le_refl _
  | x :: a, b => by
    rw [meetL]
    split
    · exact Nat.zero_le _
    · split
      · simp only [List.length_cons]
        exact Nat.succ_le_succ (meet_len o a _)
      · exact Nat.le_succ_of_le (meet_len o a _)
theorem com_len (xs ys : List Int) : (comL xs ys).length ≤ xs.length := by
  unfold comL
  rw [List.length_map]
  exact meet_len _ _ _
theorem fold_com_len : ∀ (r : List (List Int)) (x : List Int), (r.foldl comL x).length ≤ x.length
  | [], _ => Nat.le_refl _
  | y :: r, x => Nat.le_trans (fold_com_len r (comL x y)) (com_len x y)
theorem getD_drop1 {α : Type} (l : List α) (i : Nat) (d : α) : (l.drop 1).getD i d = l.getD (1 + i) d := by simp only [List.getD, List.getElem?_drop]

set_option maxHeartbeats 2000000 in
theorem and_any (w : World) (v : Value) (us : List Value) (ls : List (List Int)) (h : Uls w v us ls) (hl : ∀ x ∈ ls, x.length ≤ 100000) :
    Calls Try.prog 12 #[v] w fun e w' => ∃ u, e = .returned (.tuple #[u, .int .i64 (risesE ls)]) ∧ Un w' w.heap.size u (andL ls) ∧ Below w.heap.size w w' := by
  obtain ⟨ao, cap, rfl, h1, h2⟩ := h.shape
  have HU := hide h
  have HCK := hide (checkAll_any w _ us ls h)
  cases hA : ls.all riseB with
  | false =>
    have he : risesE ls = 160 := by unfold risesE; rw [hA]; rfl
    have ha : andL ls = [] := by unfold andL; rw [hA]; rfl
    rw [he] at HCK
    rw [he, ha]
    clear h hA he ha hl
    generalize ls.length = n at *
    go_enter Try.func12, Try.ntmps12
    go_wp2_with (go_at_call 36; refine HCK.out.mono ?_; rintro e w1 ⟨rfl, hb⟩; have HB1 := hide hb; clear HCK hb)
    go_ret2
    exact ⟨_, rfl, Un.nil _ _, HB1.out⟩
  | true =>
    have he : risesE ls = 0 := by unfold risesE; rw [hA]; rfl
    have ha : andL ls = andA ls := by unfold andL; rw [hA]; rfl
    rw [he] at HCK
    rw [he, ha]
    clear h hA he ha
    cases ls with
    | nil =>
      simp only [List.length_nil] at HCK h1 ⊢
      go_enter Try.func12, Try.ntmps12
      go_wp2_with (go_at_call 36; refine HCK.out.mono ?_; rintro e w1 ⟨rfl, hb⟩; have HB1 := hide hb; clear HCK hb)
      go_ret2
      exact ⟨_, rfl, Un.nil _ _, HB1.out⟩
    | cons x r =>
      obtain ⟨ca, cc, hcl, hcd⟩ := cut_1Us ao us (x :: r) cap (by simp) h1 h2
      obtain ⟨b, off, rfl, c0, hu0⟩ := HU.out.at 0 (by simp)
      rw [List.getD_cons_zero] at hu0
      obtain ⟨ua, uc, hus, _, _⟩ := hu0.shape
      rw [hus] at c0 hu0
      have hxl := hl x (List.mem_cons_self ..)
      obtain ⟨n, hn⟩ : ∃ n, r.length = n := ⟨_, rfl⟩
      have hn1 : (x :: r).length = n + 1 := by rw [List.length_cons, hn]
      have HN := hide hn
      have HCL : Hid (∀ W', Below w.heap.size w W' → Calls Try.prog 11 #[.slice ua x.length uc] W' fun e w' => ∃ u, e = .returned u ∧ Un w' W'.heap.size u x ∧ Below W'.heap.size W' w') := fun W' hb => cloneU_any W' _ x (hu0.below hb) (by omega)
      have HRR : Hid (∀ W', Below w.heap.size w W' → Uls W' (.slice ca n cc) (us.drop 1) r) := fun W' hb => by
        have := hcd W' (HU.out.below hb)
        rw [hn1] at this
        exact this
      rw [hn1] at hcl h1 HCK ⊢
      have hcapr : n ≤ cc ∧ (cc : Int) ≤ 9223372036854775807 := by
        obtain ⟨_, ao', cap', he, q1, q2, _⟩ := HRR.out w (Below.refl _ w)
        simp only [Value.slice.injEq] at he
        obtain ⟨rfl, _, rfl⟩ := he
        unfold maxLen at q2
        have := HN.out
        omega
      have HLR : Hid (∀ y ∈ r, y.length ≤ 100000) := fun y hy => hl y (List.mem_cons_of_mem _ hy)
      have HC0 : Hid (∀ W', Below w.heap.size w W' → W'.cell? ⟨b, off + 0, none⟩ = some (.slice ua x.length uc)) := fun W' hb => cell_belowL hb c0
      rw [Nat.add_zero] at HC0
      have HXL := hide hxl
      clear hcd hu0 hus hn hn1 hl c0 HU
      obtain ⟨hcr1, hcr2⟩ := hcapr
      have hn1i : ¬ ((n + 1 : Nat) : Int) = 0 := by omega
      have hn1p : (0 : Int) < ((n + 1 : Nat) : Int) := by omega
      have hcapi : ((n + 1 : Nat) : Int) ≤ (cap : Int) := by omega
      simp only [show n + 1 - 1 = n from rfl] at hcl
      generalize hN1 : n + 1 = N1 at *
      go_enter Try.func12, Try.ntmps12
      go_wp2_with (first
        | (go_at_call 36; refine HCK.out.mono ?_; rintro e w1 ⟨rfl, hb⟩; have HB1 := hide hb; have c1 := HC0.out w1 hb; clear HCK hb HC0)
        | (go_at_call 11; refine (HCL.out w1 HB1.out).mono ?_; rintro e w2 ⟨u, rfl, hu, hb⟩; have HU2 := hide (hu.base HB1.out.size); have HB2 := hide (HB1.out.trans (hb.mono HB1.out.size)); clear HCL hb hu c1))
      go_loopg [5, 25] n (fun g l5 l25 wr => ∃ (k : Nat) (a : Option Addr) (c : Nat), g + k = n ∧ l25 = .int .i64 (k : Int) ∧ l5 = .slice a ((r.take k).foldl comL x).length c ∧ Un wr w.heap.size (.slice a ((r.take k).foldl comL x).length c) ((r.take k).foldl comL x) ∧ Below w2.heap.size w2 wr)
      case atStart =>
        obtain ⟨a, c, rfl⟩ := HU2.out.shape
        exact ⟨0, a, c, by omega, rfl, rfl, HU2.out, Below.refl _ _⟩
      case round =>
        obtain ⟨k, a, c, hg, rfl, rfl, hun, hb⟩ := hrel
        have HUN := hide hun
        have HBW : Hid (Below w.heap.size w wr) := HB2.out.trans (hb.mono HB2.out.size)
        have HB3 := hide hb
        obtain ⟨X, hX⟩ : ∃ X, (r.take k).foldl comL x = X := ⟨_, rfl⟩
        have HX := hide hX
        rw [hX] at HUN
        have hXl : X.length ≤ 100000 := by rw [← hX]; have := fold_com_len (r.take k) x; have := HXL.out; omega
        rw [hX]
        clear hun hb hX
        by_cases hk : k < n
        · obtain ⟨b2, off2, rfl, c2, hu2⟩ := (HRR.out wr HBW.out).at k (by have := HN.out; omega)
          obtain ⟨y, hy⟩ : ∃ y, r.getD k [] = y := ⟨_, rfl⟩
          have hyl : y.length ≤ 100000 := by
            have hkr : k < r.length := by have := HN.out; omega
            rw [← hy]
            simp only [List.getD, List.getElem?_eq_getElem hkr, Option.getD_some]
            exact HLR.out _ (List.getElem_mem hkr)
          have HNX : Hid ((r.take (k + 1)).foldl comL x = comL X y) := by
            have hkr : k < r.length := by have := HN.out; omega
            show _ = _
            rw [take_snoc r k hkr, List.foldl_append, HX.out, ← hy]
            simp [List.getD, hkr]
          rw [hy] at hu2
          obtain ⟨ya, yc, hyv, _, _⟩ := hu2.shape
          rw [hyv] at c2 hu2
          have hkk : (k : Int) < (n : Int) := by omega
          have HCM := hide (common_any wr a ya X.length y.length c yc)
          obtain ⟨w4, hw4⟩ : ∃ w4, (wr.alloc (.cells #[.slice a X.length c] 23)).alloc (.cells #[.slice ya y.length yc] 23) = w4 := ⟨_, rfl⟩
          have hb4 : Below wr.heap.size wr w4 := by rw [← hw4]; exact ((Below.refl _ wr).alloc (Nat.le_refl _) _).alloc (by simp) _
          have hab : Blk w4 wr.heap.size 23 [.slice a X.length c] := by rw [← hw4]; exact (Blk.new wr _ _).alloc _
          have hbb : Blk w4 (wr.heap.size + 1) 23 [.slice ya y.length yc] := by
            rw [← hw4]
            have := Blk.new (wr.alloc (.cells #[.slice a X.length c] 23)) 23 [.slice ya y.length yc]
            rw [World.size_alloc] at this
            exact this
          have hX4 : Ul w4 (.slice a X.length c) X := HUN.out.ul.below hb4
          have hY4 : Ul w4 (.slice ya y.length yc) y := hu2.below hb4
          have HCO := hide (collectU_any w4 64 #[.pointer (some ⟨wr.heap.size, 0, none⟩), .pointer (some ⟨wr.heap.size + 1, 0, none⟩)] (comL X y) (ComV wr.heap.size (wr.heap.size + 1) (.slice a X.length c) (.slice ya y.length yc) X y) enters_common (common_iter _ _ _ _ X y (by omega) (by omega)) (fun k' W' ho => by
            have hbb' : Below w4.heap.size w4 W' := ho.below (Nat.le_refl _) (fun _ _ h => h)
            exact ⟨⟨(hab.only ho (fun h => h)).cell 0, (hbb.only ho (fun h => h)).cell 0⟩, hX4.below hbb', hY4.below hbb'⟩) (by have := com_len X y; omega))
          rw [hw4] at HCM
          have HB4 := hide hb4
          clear hu2 hyv hy hab hbb hX4 hY4 hb4 hw4 hXl hyl
          go_wp2_with (first
            | (go_at_call 38; refine HCM.out.mono ?_; rintro e w5 ⟨rfl, hw⟩; subst w5; clear HCM)
            | (go_at_call 37; refine HCO.out.mono ?_; rintro e w6 ⟨u6, rfl, hu6, hb6⟩; have HU6 := hide hu6; have HB6 := hide hb6; clear HCO hu6 hb6))
          go_roundg (gk - 1)
          case measure => omega
          case rel =>
            obtain ⟨a6, c6, rfl⟩ := HU6.out.shape
            refine ⟨k + 1, a6, c6, by omega, by go_num, by rw [HNX.out], ?_, ?_⟩
            · rw [HNX.out]
              exact HU6.out.base (Nat.le_trans HBW.out.size HB4.out.size)
            · exact HB3.out.trans ((HB4.out.trans (HB6.out.mono HB4.out.size)).mono HB3.out.size)
        · obtain rfl : k = n := by omega
          go_wp2
          go_ret2
          refine ⟨_, rfl, ?_, HBW.out⟩
          have hx := HX.out
          rw [List.take_of_length_le (by rw [HN.out]; exact Nat.le_refl _)] at hx
          show Un _ _ _ (r.foldl comL x)
          rw [hx]
          exact HUN.out

end Go.Proofs.Ytfihnmdhclnhgaa
