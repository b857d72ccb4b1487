/- Contracts: package words' stopsMayBe, Check. -/
import Derived.Test.YtgeclnnhblffkaaDoorWdOwnT
namespace Go.Proofs.YtgeclnnhblffkaaDoor
set_option maxRecDepth 20000
open Go.RowKit
set_option linter.unusedVariables false
set_option linter.unusedSimpArgs false
set_option maxRecDepth 100000

theorem cmp_flip : ∀ (xs ys : List Int), cmp ys xs = - cmp xs ys
  | [], [] => rfl
  | [], _ :: _ => rfl
  | _ :: _, [] => rfl
  | a :: xs, b :: ys => by
    have ih := cmp_flip xs ys
    simp only [cmp]
    by_cases h : a < b
    · rw [if_neg (by omega), if_pos h, if_pos h]; rfl
    · by_cases h2 : b < a
      · rw [if_pos h2, if_neg h, if_pos h2]
      · rw [if_neg h2, if_neg h, if_neg h, if_neg h2, ih]
theorem cmp_not {xs ys : List Int} (h : ¬ cmp xs ys < 0) : cmp ys xs < 0 ∨ ys = xs := by
  rcases cmp_range xs ys with e | e | e
  · omega
  · exact .inr (cmp_eq_zero xs ys e).symm
  · left; rw [cmp_flip xs ys]; omega
theorem cmp_yes {xs ys : List Int} (h : cmp xs ys < 0) : ¬ cmp ys xs < 0 ∧ ¬ ys = xs := by
  refine ⟨by rw [cmp_flip xs ys]; omega, fun e => ?_⟩
  rw [e, cmp_self] at h
  omega

/-- stop words that rise, each its own term; behind one, or none -/
def goS (us : List Fd) (m : Nat) : Option (List Int) → List (List Int) → Bool
  | _, [] => true
  | none, s :: ss => ownB us m s && goS us m (some s) ss
  | some q, s :: ss => decide (cmp q s < 0) && ownB us m s && goS us m (some s) ss
def prevS (ss : List (List Int)) : Nat → Option (List Int)
  | 0 => none
  | j + 1 => ss[j]?
def stopsB (us : List Fd) (m : Nat) (ss : List (List Int)) : Bool := decide (ss.length ≤ 32) && goS us m none ss
def mayC (C : Cn) : Bool := tblB C.fs && decide (1 ≤ C.cap) && decide (C.cap ≤ 12) && stopsB (useL C.fs) C.cap.toNat C.ss
def mayE (C : Cn) : Int := if mayC C = true then 0 else 140

set_option maxHeartbeats 2000000 in
theorem stopsMayBe_any (w : World) (v : Value) (C : Cn) (h : CnfV w v C) (hok : CnOk C) (m : Nat) (hm : C.cap = (m : Int)) (hm2 : m ≤ 100) (hL : Let w) :
    Calls Tryd.prog 46 #[v] w fun e w' => e = .returned (.bool (stopsB (useL C.fs) m C.ss)) ∧ Below w.heap.size w w' := by
  obtain ⟨fo, fc, so, sc, w1, rfl, hw1, hb1, hB, hT, hS⟩ := box_cnf w v C h
  obtain ⟨n, hn⟩ : ∃ n, C.ss.length = n := ⟨_, rfl⟩
  rw [hn] at h hw1 hB hS ⊢
  have HOT : Hid (∀ W (j : Nat) (hj : j < C.ss.length), Below w1.heap.size w1 W → Calls Tryd.prog 74 #[.agg #[.slice fo C.fs.length fc, .slice so n sc, .int .i64 C.cap], .string (strOfNums C.ss[j])] W fun e w' => e = .returned (.bool (ownB (useL C.fs) m C.ss[j])) ∧ Below W.heap.size W w') := fun W j hj hb => by
    have hbb := hb1.trans (hb.mono hb1.size)
    exact isOwnTerm_any W _ C (h.below hbb) m hm hm2 _ (hS.1 _ (List.getElem_mem hj)) (by have := hok.each _ (List.getElem_mem hj); omega) (hL.below hbb)
  have HS : Hid (∀ W, Below w1.heap.size w1 W → Strs W (.slice so n sc) C.ss) := fun W hb => (hS.below hb1).below hb
  have HBK := hide hS.1
  have HB1 := hide hb1
  have HBX := hide hB
  have hsl := hok.ss
  generalize hus : useL C.fs = us at *
  have HRES : Hid (stopsB us m C.ss = (decide (n ≤ 32) && goS us m none C.ss)) := by rw [← hn]; rfl
  have c1 : w1.cell? ⟨w.heap.size, 1, none⟩ = some (.slice so n sc) := hB.cell 1
  obtain ⟨ss, hss⟩ : ∃ ss, C.ss = ss := ⟨_, rfl⟩
  simp only [hss] at *
  have HN := hide hn
  have hni : (n : Int) ≤ 1000 := by omega
  generalize C.fs.length = fn at *
  generalize C.cap = K at *
  clear h hT hS hB hb1 hL hok hm hus hss hn hsl
  by_cases h32 : n ≤ 32
  · have h32i : ¬ (32 : Int) < (n : Int) := by omega
    have HRS : Hid (stopsB us m ss = goS us m none ss) := by show _ = _; rw [HRES.out, decide_eq_true h32, Bool.true_and]
    clear HRES
    go_enter Tryd.func46, Tryd.ntmps46
    go_wp2
    go_loopg [12] n (fun k i wr => ∃ j : Nat, k + j = n ∧ i = .int .i64 (j : Int) ∧ goS us m (prevS ss j) (ss.drop j) = goS us m none ss ∧ Below w1.heap.size w1 wr)
    case atStart => exact ⟨0, rfl, rfl, rfl, Below.refl _ w1⟩
    case round =>
      clear c1
      obtain ⟨j, hk, rfl, hg, hbw⟩ := hrel
      have HG := hide hg
      have HB := hide hbw
      have c0 : wr.cell? ⟨w.heap.size, 0, none⟩ = some (.slice fo fn fc) := (HBX.out.below hbw HBX.out.lt).cell 0
      have c1 : wr.cell? ⟨w.heap.size, 1, none⟩ = some (.slice so n sc) := (HBX.out.below hbw HBX.out.lt).cell 1
      have c2 : wr.cell? ⟨w.heap.size, 2, none⟩ = some (.int .i64 K) := (HBX.out.below hbw HBX.out.lt).cell 2
      clear hg hbw
      cases gk with
      | zero =>
        obtain rfl : j = n := by omega
        have hlt : ¬ (j : Int) < (j : Int) := by omega
        clear c0 c1 c2
        go_wp2
        go_ret
        exact ⟨ret_bool (by rw [HRS.out, ← HG.out, List.drop_eq_nil_of_le (by rw [HN.out]; exact Nat.le_refl _)]; cases prevS ss j <;> rfl), HB1.out.trans (HB.out.mono HB1.out.size)⟩
      | succ k =>
        have hj : (j : Int) < (n : Int) := by omega
        have hjl : j < ss.length := by rw [HN.out]; omega
        obtain ⟨b, off, hso, hx, hokj⟩ := (HS.out wr HB.out).at j hjl
        have hd := dropS_at hjl
        have HO := hide (HOT.out wr j hjl HB.out)
        obtain ⟨A, hA⟩ : ∃ A, ownB us m ss[j] = A := ⟨_, rfl⟩
        rw [hA] at HO
        by_cases h0 : j = 0
        · have hi0 : ¬ (0 : Int) < (j : Int) := by omega
          have HGS : Hid (goS us m none ss = (A && goS us m (prevS ss (j + 1)) (ss.drop (j + 1)))) := by
            show _ = _
            rw [← HG.out, hd, ← hA]
            subst h0
            show (_ && _) = (_ && goS us m (ss[0]?) _)
            rw [List.getElem?_eq_getElem hjl]
          obtain ⟨s, hs⟩ : ∃ s, strOfNums ss[j] = s := ⟨_, rfl⟩
          rw [hs] at hx HO
          subst hso
          clear hokj hd hA h0 hs
          cases A with
          | true =>
            go_wp2_with (go_at_call 74; refine HO.out.mono ?_; rintro e w2 ⟨rfl, hb⟩; have HB2 := hide (HB.out.trans (hb.mono HB.out.size)); clear HO hb)
            go_roundg k
            case measure => omega
            case rel => exact ⟨j + 1, by omega, by go_num, by have := HGS.out; rw [Bool.true_and] at this; exact this.symm, HB2.out⟩
          | false =>
            go_wp2_with (go_at_call 74; refine HO.out.mono ?_; rintro e w2 ⟨rfl, hb⟩; have HB2 := hide (HB.out.trans (hb.mono HB.out.size)); clear HO hb)
            go_ret
            exact ⟨ret_bool (by rw [HRS.out, HGS.out]; rfl), HB1.out.trans (HB2.out.mono HB1.out.size)⟩
        · obtain ⟨i, rfl⟩ : ∃ i, j = i + 1 := ⟨j - 1, by omega⟩
          have hi0 : (0 : Int) < ((i + 1 : Nat) : Int) := by omega
          have hil : i < ss.length := by omega
          obtain ⟨b', off', hso', hy, hoki⟩ := (HS.out wr HB.out).at i hil
          obtain ⟨rfl, rfl⟩ : b' = b ∧ off' = off := by
            have := hso'.symm.trans hso
            simpa using this
          have hle := bin_leq hokj hoki
          have HGS : Hid (goS us m none ss = (decide (cmp ss[i] ss[i + 1] < 0) && A && goS us m (prevS ss (i + 1 + 1)) (ss.drop (i + 1 + 1)))) := by
            show _ = _
            rw [← HG.out, hd, ← hA]
            show goS us m (ss[i]?) _ = (_ && goS us m (ss[i + 1]?) _)
            rw [List.getElem?_eq_getElem hjl, List.getElem?_eq_getElem hil]
            rfl
          obtain ⟨s, hs⟩ : ∃ s, strOfNums ss[i + 1] = s := ⟨_, rfl⟩
          obtain ⟨q, hq⟩ : ∃ q, strOfNums ss[i] = q := ⟨_, rfl⟩
          rw [hs] at hx HO hle
          rw [hq] at hy hle
          subst hso
          have hixe : ((i + 1 : Nat) : Int) = (i : Int) + 1 := by omega
          have hin : (i : Int) < (n : Int) := by omega
          by_cases hlt : cmp ss[i] ss[i + 1] < 0
          · obtain ⟨g1, g2⟩ := cmp_yes hlt
            rw [decide_eq_false g1, decide_eq_false g2, Bool.or_false] at hle
            rw [decide_eq_true hlt, Bool.true_and] at HGS
            clear hokj hoki hd hA h0 hs hq hso' hlt g1 g2
            cases A with
            | true =>
              go_wp2_with (go_at_call 74; refine HO.out.mono ?_; rintro e w2 ⟨rfl, hb⟩; have HB2 := hide (HB.out.trans (hb.mono HB.out.size)); clear HO hb)
              go_roundg k
              case measure => omega
              case rel => exact ⟨i + 1 + 1, by omega, by go_num, by have := HGS.out; rw [Bool.true_and] at this; exact this.symm, HB2.out⟩
            | false =>
              go_wp2_with (go_at_call 74; refine HO.out.mono ?_; rintro e w2 ⟨rfl, hb⟩; have HB2 := hide (HB.out.trans (hb.mono HB.out.size)); clear HO hb)
              go_ret
              exact ⟨ret_bool (by rw [HRS.out, HGS.out]; rfl), HB1.out.trans (HB2.out.mono HB1.out.size)⟩
          · rw [decide_eq_false hlt, Bool.false_and, Bool.false_and] at HGS
            replace hle : ∀ t W, (binOp .leq t (.string s) (.string q)).run Tryd.prog W = .ok (.bool true) W := fun t W => by
              rw [hle t W]
              rcases cmp_not hlt with e | e
              · rw [decide_eq_true e]; rfl
              · rw [decide_eq_true e, Bool.or_true]
            clear hokj hoki hd hA h0 hs hq hso' hlt HO
            go_wp2
            go_ret
            exact ⟨ret_bool (by rw [HRS.out, HGS.out]), HB1.out.trans (HB.out.mono HB1.out.size)⟩
  · have h32i : (32 : Int) < (n : Int) := by omega
    have HRS : Hid (stopsB us m ss = false) := by show _ = _; rw [HRES.out, decide_eq_false h32]; rfl
    clear HRES
    go_enter Tryd.func46, Tryd.ntmps46
    go_wp2
    go_ret
    exact ⟨ret_bool HRS.out.symm, HB1.out⟩

end Go.Proofs.YtgeclnnhblffkaaDoor
