/- Contracts: package words' termOf. -/
import Derived.Test.YtimmfnjkknbofaaDoorJWdStop
import Derived.Test.YtimmfnjkknbofaaDoorRegion
namespace Go.Proofs.YtimmfnjkknbofaaDoor
set_option maxRecDepth 20000
open Go.RowKit
set_option linter.unusedVariables false
set_option linter.unusedSimpArgs false
set_option maxRecDepth 100000

def isSlz (zs : List Int) : Value → World → Prop := fun v w => Sl w v zs
theorem stable_isSlz (zs : List Int) : ∀ v w w', Below w.heap.size w w' → isSlz zs v w → isSlz zs v w' := fun v w w' hb h => h.below hb

set_option maxHeartbeats 1000000 in
theorem termOf_any (w : World) (v : Value) (C : Cn) (h : CnfV w v C) (m : Nat) (hm : C.cap = (m : Int)) (hm2 : m ≤ 100) (L : List Nat) (hLt : ∀ r ∈ L, letN r = true) (hL : Let w) :
    Calls Tryd.prog 44 #[v, .string (strOfNums (fmL L))] w fun e w' => e = .returned (.string (strOfNums (termZ (useL C.fs) m L))) ∧ Below w.heap.size w w' := by
  obtain ⟨fo, fc, so, sc, w1, rfl, hw1, hb1, hB, hT, hS⟩ := box_cnf w v C h
  rw [hm] at hw1 hB ⊢
  have hlen : (fmL (L.take m)).length ≤ 1000 := by
    have := (fmL_len2 (L.take m) (fun r hr => hLt r (List.mem_of_mem_take hr))).2
    have : (L.take m).length ≤ m := by simp; omega
    omega
  have HLR : Hid (∀ wx, Below w1.heap.size w1 wx → Calls Tryd.prog 70 #[.string (strOfNums (fmL L)), .int .i64 (m : Int)] wx fun e w' => e = .returned (.string (strOfNums (fmL (L.take m)))) ∧ Below wx.heap.size wx w') := fun wx _ => leadRunes_any wx L hLt m hm2
  have HCV : Hid (∀ wx, ∃ c w', (convert 9 26 (.string (strOfNums (fmL (L.take m))))).run Tryd.prog wx = .ok (.slice (some ⟨wx.heap.size, 0, none⟩) (fmL (L.take m)).length c) w' ∧ Sl w' (.slice (some ⟨wx.heap.size, 0, none⟩) (fmL (L.take m)).length c) (fmL (L.take m)) ∧ Below wx.heap.size wx w') := fun wx => conv_sl wx _ (fmL_ok _) (by omega)
  have HTX : Hid (∀ wx u, Below w1.heap.size w1 wx → Sl wx u (fmL (L.take m)) → Calls Tryd.prog 69 #[.slice fo C.fs.length fc, u] wx fun e w' => e = .returned (.string (strOfNums (termZ (useL C.fs) m L))) ∧ Below wx.heap.size wx w') := fun wx u hb hu => by
    have hbb := hb1.trans (hb.mono hb1.size)
    have := text_any wx _ C.fs (hT.below hbb) u _ hu (by omega) (hL.below hbb)
    rwa [term_text C.fs m L hLt] at this
  have HBX := hide hB
  have HB1 := hide hb1
  generalize termZ (useL C.fs) m L = T3 at *
  generalize strOfNums T3 = S3 at *
  generalize fmL (L.take m) = Z2 at *
  generalize Z2.length = N2 at *
  generalize strOfNums Z2 = S2 at *
  generalize strOfNums (fmL L) = S1 at *
  generalize C.fs.length = fn at *
  generalize C.ss.length = sn at *
  clear h hT hS hB hb1 hLt hL hm hlen
  go_enter Tryd.func44, Tryd.ntmps44
  go_wp2
  clear hw1
  refine wp_region_facts (FL [isV (.pointer (some ⟨w.heap.size, 0, none⟩)), isV (.slice fo fn fc), isV (.string S1), isV (.pointer (some ⟨w.heap.size, 2, none⟩)), isV (.int .i64 (m : Int)), isV (.string S2), isSlz Z2, isV (.string S3), isV (.string S3)]) 13 (by kernel_rfl) (by kernel_rfl) (by kernel_rfl) rfl (FL_stable _ (by repeat (first | exact trivial | refine ⟨stable_isV _, ?_⟩ | refine ⟨stable_isSlz _, ?_⟩))) ?_ ?_
  · refine ⟨?_, ?_, ?_, ?_, ?_, ?_, ?_, ?_, ?_, trivial⟩
    · intro act wx h
      have e2 : act.eval (.tmp 2) = .pointer (some ⟨w.heap.size, 0, none⟩) := h.old 2 (by kernel_rfl)
      have hbel := h.below
      clear h
      refine gives_by rfl act.eval rfl ?_
      generalize act.eval = ρ at *
      intro hf hc
      go_simp
      exact ⟨Below.refl _ _, rfl⟩
    · intro act wx h
      obtain ⟨v5, e5, f5⟩ := h.val 0 5 (by kernel_rfl)
      obtain rfl : v5 = .pointer (some ⟨w.heap.size, 0, none⟩) := f5
      have hbel := h.below
      clear h
      have hB := HBX.out.below hbel HBX.out.lt
      have cx := hB.cell 0
      clear hB
      refine gives_by rfl act.eval rfl ?_
      generalize act.eval = ρ at *
      intro hf hc
      go_simp
      exact ⟨Below.refl _ _, rfl⟩
    · intro act wx h
      have e1 : act.eval (.tmp 1) = .string S1 := h.old 1 (by kernel_rfl)
      have hbel := h.below
      clear h
      refine gives_by rfl act.eval rfl ?_
      generalize act.eval = ρ at *
      intro hf hc
      go_simp
      exact ⟨Below.refl _ _, rfl⟩
    · intro act wx h
      have e2 : act.eval (.tmp 2) = .pointer (some ⟨w.heap.size, 0, none⟩) := h.old 2 (by kernel_rfl)
      have hbel := h.below
      clear h
      refine gives_by rfl act.eval rfl ?_
      generalize act.eval = ρ at *
      intro hf hc
      go_simp
      exact ⟨Below.refl _ _, rfl⟩
    · intro act wx h
      obtain ⟨v8, e8, f8⟩ := h.val 3 8 (by kernel_rfl)
      obtain rfl : v8 = .pointer (some ⟨w.heap.size, 2, none⟩) := f8
      have hbel := h.below
      clear h
      have hB := HBX.out.below hbel HBX.out.lt
      have cx : wx.cell? ⟨w.heap.size, 2, none⟩ = some (.int .i64 (m : Int)) := hB.cell 2
      clear hB
      refine gives_by rfl act.eval rfl ?_
      generalize act.eval = ρ at *
      intro hf hc
      go_simp
      exact ⟨Below.refl _ _, rfl⟩
    · intro act wx h
      obtain ⟨v7, e7, f7⟩ := h.val 2 7 (by kernel_rfl)
      obtain rfl : v7 = .string S1 := f7
      obtain ⟨v9, e9, f9⟩ := h.val 4 9 (by kernel_rfl)
      obtain rfl : v9 = .int .i64 (m : Int) := f9
      have hbel := h.below
      clear h
      refine gives_by rfl act.eval rfl ?_
      generalize act.eval = ρ at *
      intro hf hc
      go_simp
      exact call_gives (HLR.out wx hbel) (fun _ => rfl)
    · intro act wx h
      obtain ⟨v10, e10, f10⟩ := h.val 5 10 (by kernel_rfl)
      obtain rfl : v10 = .string S2 := f10
      have hbel := h.below
      clear h
      obtain ⟨c, wy, hrc, hsc, hbc⟩ := HCV.out wx
      refine gives_by rfl act.eval rfl ?_
      generalize act.eval = ρ at *
      intro hf hc
      go_simp
      exact ⟨hbc, hsc⟩
    · intro act wx h
      obtain ⟨v6, e6, f6⟩ := h.val 1 6 (by kernel_rfl)
      obtain rfl : v6 = .slice fo fn fc := f6
      obtain ⟨v11, e11, f11⟩ := h.val 6 11 (by kernel_rfl)
      obtain h11 : Hid (Sl wx v11 Z2) := f11
      have hbel := h.below
      clear h
      refine gives_by rfl act.eval rfl ?_
      generalize act.eval = ρ at *
      intro hf hc
      go_simp
      exact call_gives (HTX.out wx v11 hbel f11.out) (fun _ => rfl)
    · intro act wx h
      obtain ⟨v12, e12, f12⟩ := h.val 7 12 (by kernel_rfl)
      obtain rfl : v12 = .string S3 := f12
      have hbel := h.below
      clear h
      refine gives_by rfl act.eval rfl ?_
      generalize act.eval = ρ at *
      intro hf hc
      go_simp
      exact ⟨Below.refl _ _, rfl⟩
  · intro vals w8 hb8 hv
    have hv4 : vals 8 = .string S3 := hv 8 4 (by kernel_rfl)
    clear hv
    generalize hact : putAll _ vals 0 _ = act
    have HB8 := hide hb8
    clear hb8
    subst hact
    simp only [putAll, Act.put, List.setIfInBounds_toArray, List.set_cons_zero, List.set_cons_succ, hv4, Nat.zero_add, Nat.reduceAdd]
    clear hv4
    go_wp2
    go_ret
    exact ⟨rfl, HB1.out.trans (HB8.out.mono HB1.out.size)⟩

end Go.Proofs.YtimmfnjkknbofaaDoor
/- Contracts: package words' isOwnTerm, stopsMayBe, Check. -/
namespace Go.Proofs.YtimmfnjkknbofaaDoor
set_option maxRecDepth 20000
open Go.RowKit
set_option linter.unusedVariables false
set_option linter.unusedSimpArgs false
set_option maxRecDepth 100000

/-- a text that is its own term -/
def ownB (us : List Fd) (m : Nat) (z : List Int) : Bool := decide (¬ z = []) && decide (fmL (ledR z) = z) && decide (termZ us m (rs z) = z)
theorem led_all {z : List Int} (h : fmL (ledR z) = z) : (∀ r ∈ rs z, letN r = true) ∧ fmL (rs z) = z := by
  have e : rs z = ledR z := by
    conv => lhs; rw [← h]
    exact rs_fmLet _ (ledR_let z)
  rw [e]
  exact ⟨ledR_let z, h⟩
theorem str_nil : strOfNums [] = ⟨#[]⟩ := by simp [strOfNums]

set_option maxHeartbeats 1000000 in
theorem isOwnTerm_any (w : World) (v : Value) (C : Cn) (h : CnfV w v C) (m : Nat) (hm : C.cap = (m : Int)) (hm2 : m ≤ 100) (z : List Int) (hz : ByteOk z) (hzl : z.length ≤ 1000000) (hL : Let w) :
    Calls Tryd.prog 63 #[v, .string (strOfNums z)] w fun e w' => e = .returned (.bool (ownB (useL C.fs) m z)) ∧ Below w.heap.size w w' := by
  obtain ⟨fo, fc, so, sc, w1, rfl, hw1, hb1, hB, hT, hS⟩ := box_cnf w v C h
  have HV : Hid (∀ W, Below w.heap.size w W → CnfV W (.agg #[.slice fo C.fs.length fc, .slice so C.ss.length sc, .int .i64 C.cap]) C) := fun W hb => ⟨fo, fc, so, sc, rfl, hT.below hb, hS.below hb⟩
  have HLL : Hid (∀ W, Below w.heap.size w W → Let W) := fun W hb => hL.below hb
  have HB1 := hide hb1
  have HBX := hide hB
  have HRES : Hid (ownB (useL C.fs) m z = (decide (¬ z = []) && decide (fmL (ledR z) = z) && decide (termZ (useL C.fs) m (rs z) = z))) := rfl
  by_cases h0 : z = []
  · have hn := bin_neq hz (show ByteOk [] from fun x hx => by cases hx)
    have hn2 : (strOfNums z).toList = [] := by rw [h0, str_nil, ByteArray.toList_eq]
    have HR : Hid (ownB (useL C.fs) m z = false) := by rw [HRES.out, decide_eq_false (show ¬ ¬ z = [] by simpa using h0)]; rfl
    generalize strOfNums z = s at *
    generalize C.ss.length = sn at *
    generalize C.fs.length = fn at *
    clear h hT hS hB hb1 hL HV HLL h0 HRES hz hm
    go_enter Tryd.func63, Tryd.ntmps63
    go_wp2
    go_ret
    exact ⟨ret_bool HR.out.symm, HB1.out⟩
  · have hn2 : ¬ (strOfNums z).toList = [] := by
      intro e
      rw [ByteArray.toList_eq, strOfNums_data] at e
      exact h0 (List.map_eq_nil_iff.1 e)
    have HLD : Hid (∀ W, Below w.heap.size w W → Calls Tryd.prog 68 #[.string (strOfNums z)] W fun e w' => e = .returned (.string (strOfNums (fmL (ledR z)))) ∧ Below W.heap.size W w') := fun W hb => led_any W z hz hzl (hL.below hb)
    have HNE : Hid ((strOfNums z).toList.isEmpty = false) := by show _ = false; rw [Bool.eq_false_iff]; intro e; exact hn2 (List.isEmpty_iff.1 e)
    have hq1 := str_same (fmL_ok (ledR z)) hz
    by_cases h1 : fmL (ledR z) = z
    · obtain ⟨hal, hfm⟩ := led_all h1
      have HTM : Hid (∀ W, Below w.heap.size w W → Calls Tryd.prog 44 #[.agg #[.slice fo C.fs.length fc, .slice so C.ss.length sc, .int .i64 C.cap], .string (strOfNums z)] W fun e w' => e = .returned (.string (strOfNums (termZ (useL C.fs) m (rs z)))) ∧ Below W.heap.size W w') := fun W hb => by
        have := termOf_any W _ C (HV.out W hb) m hm hm2 (rs z) hal (hL.below hb)
        rwa [hfm] at this
      rw [decide_eq_true h1, beq_iff_eq] at hq1
      have hq2 := str_same (show ByteOk (termZ (useL C.fs) m (rs z)) from fmL_ok _) hz
      obtain ⟨A, hA⟩ : ∃ A, decide (termZ (useL C.fs) m (rs z) = z) = A := ⟨_, rfl⟩
      rw [hA] at hq2
      have HA := hide hq2
      have HR : Hid (ownB (useL C.fs) m z = A) := by rw [HRES.out, hA, decide_eq_true h1, decide_eq_true (show ¬ z = [] from h0)]; rfl
      have c0 : w1.cell? ⟨w.heap.size, 0, none⟩ = some (.slice fo C.fs.length fc) := hB.cell 0
      have c1 : w1.cell? ⟨w.heap.size, 1, none⟩ = some (.slice so C.ss.length sc) := hB.cell 1
      have c2 : w1.cell? ⟨w.heap.size, 2, none⟩ = some (.int .i64 C.cap) := hB.cell 2
      generalize strOfNums (fmL (ledR z)) = s1 at *
      generalize strOfNums (termZ (useL C.fs) m (rs z)) = s2 at *
      generalize strOfNums z = s at *
      generalize C.ss.length = sn at *
      generalize C.fs.length = fn at *
      generalize C.cap = K at *
      clear h hT hS hB hb1 hL HV HLL h0 h1 hal hfm hA HRES hz hm hq2
      go_enter Tryd.func63, Tryd.ntmps63
      go_wp2_with (first
        | (go_at_call 68; refine (HLD.out w1 HB1.out).mono ?_; rintro e w2 ⟨rfl, hb⟩; have HB2 := hide (HB1.out.trans (hb.mono HB1.out.size)); have c0 := (HBX.out.below hb HBX.out.lt).cell 0; have c1 := (HBX.out.below hb HBX.out.lt).cell 1; have c2 := (HBX.out.below hb HBX.out.lt).cell 2; clear HLD hb)
        | (go_at_call 44; refine (HTM.out w2 HB2.out).mono ?_; rintro e w3 ⟨rfl, hb⟩; have HB3 := hide (HB2.out.trans (hb.mono HB2.out.size)); clear HTM hb))
      go_ret
      exact ⟨ret_bool (by rw [HR.out, HA.out, HNE.out]; rfl), HB3.out⟩
    · rw [decide_eq_false h1] at hq1
      replace hq1 : ¬ (strOfNums (fmL (ledR z))).toList = (strOfNums z).toList := fun e => Bool.eq_false_iff.1 hq1 (beq_iff_eq.2 e)
      have HR : Hid (ownB (useL C.fs) m z = false) := by rw [HRES.out, decide_eq_false h1, Bool.and_false, Bool.false_and]; rfl
      generalize strOfNums (fmL (ledR z)) = s1 at *
      generalize strOfNums z = s at *
      generalize C.ss.length = sn at *
      generalize C.fs.length = fn at *
      clear h hT hS hB hb1 hL HV HLL h0 h1 HRES hz hm
      go_enter Tryd.func63, Tryd.ntmps63
      go_wp2_with (go_at_call 68; refine (HLD.out w1 HB1.out).mono ?_; rintro e w2 ⟨rfl, hb⟩; have HB2 := hide (HB1.out.trans (hb.mono HB1.out.size)); clear HLD hb)
      go_ret
      exact ⟨ret_bool HR.out.symm, HB2.out⟩

end Go.Proofs.YtimmfnjkknbofaaDoor
/- Contracts: package words' stopsMayBe, Check. -/
namespace Go.Proofs.YtimmfnjkknbofaaDoor
set_option maxRecDepth 20000
open Go.RowKit
set_option linter.unusedVariables false
set_option linter.unusedSimpArgs false
set_option maxRecDepth 100000

theorem cmp_flip : ∀ (xs ys : List Int), cmp ys xs = - cmp xs ys
  | [], [] => rfl
  | [], _ :: _ => rfl
  | _ :: _, [] => rfl
  | a :: xs, b :: ys => by
    have ih := cmp_flip xs ys
    simp only [cmp]
    by_cases h : a < b
    · rw [if_neg (by omega), if_pos h, if_pos h]; rfl
    · by_cases h2 : b < a
      · rw [if_pos h2, if_neg h, if_pos h2]
      · rw [if_neg h2, if_neg h, if_neg h, if_neg h2, ih]
theorem cmp_not {xs ys : List Int} (h : ¬ cmp xs ys < 0) : cmp ys xs < 0 ∨ ys = xs := by
  rcases cmp_range xs ys with e | e | e
  · omega
  · exact .inr (cmp_eq_zero xs ys e).symm
  · left; rw [cmp_flip xs ys]; omega
theorem cmp_yes {xs ys : List Int} (h : cmp xs ys < 0) : ¬ cmp ys xs < 0 ∧ ¬ ys = xs := by
  refine ⟨by rw [cmp_flip xs ys]; omega, fun e => ?_⟩
  rw [e, cmp_self] at h
  omega

/-- stop words that rise, each its own term; behind one, or none -/
def goS (us : List Fd) (m : Nat) : Option (List Int) → List (List Int) → Bool
  | _, [] => true
  | none, s :: ss => ownB us m s && goS us m (some s) ss
  | some q, s :: ss => decide (cmp q s < 0) && ownB us m s && goS us m (some s) ss
def prevS (ss : List (List Int)) : Nat → Option (List Int)
  | 0 => none
  | j + 1 => ss[j]?
def stopsB (us : List Fd) (m : Nat) (ss : List (List Int)) : Bool := decide (ss.length ≤ 32) && goS us m none ss
def mayC (C : Cn) : Bool := tblB C.fs && decide (1 ≤ C.cap) && decide (C.cap ≤ 12) && stopsB (useL C.fs) C.cap.toNat C.ss
def mayE (C : Cn) : Int := if mayC C = true then 0 else 140

set_option maxHeartbeats 2000000 in
theorem stopsMayBe_any (w : World) (v : Value) (C : Cn) (h : CnfV w v C) (hok : CnOk C) (m : Nat) (hm : C.cap = (m : Int)) (hm2 : m ≤ 100) (hL : Let w) :
    Calls Tryd.prog 37 #[v] w fun e w' => e = .returned (.bool (stopsB (useL C.fs) m C.ss)) ∧ Below w.heap.size w w' := by
  obtain ⟨fo, fc, so, sc, w1, rfl, hw1, hb1, hB, hT, hS⟩ := box_cnf w v C h
  obtain ⟨n, hn⟩ : ∃ n, C.ss.length = n := ⟨_, rfl⟩
  rw [hn] at h hw1 hB hS ⊢
  have HOT : Hid (∀ W (j : Nat) (hj : j < C.ss.length), Below w1.heap.size w1 W → Calls Tryd.prog 63 #[.agg #[.slice fo C.fs.length fc, .slice so n sc, .int .i64 C.cap], .string (strOfNums C.ss[j])] W fun e w' => e = .returned (.bool (ownB (useL C.fs) m C.ss[j])) ∧ Below W.heap.size W w') := fun W j hj hb => by
    have hbb := hb1.trans (hb.mono hb1.size)
    exact isOwnTerm_any W _ C (h.below hbb) m hm hm2 _ (hS.1 _ (List.getElem_mem hj)) (by have := hok.each _ (List.getElem_mem hj); omega) (hL.below hbb)
  have HS : Hid (∀ W, Below w1.heap.size w1 W → Strs W (.slice so n sc) C.ss) := fun W hb => (hS.below hb1).below hb
  have HBK := hide hS.1
  have HB1 := hide hb1
  have HBX := hide hB
  have hsl := hok.ss
  generalize hus : useL C.fs = us at *
  have HRES : Hid (stopsB us m C.ss = (decide (n ≤ 32) && goS us m none C.ss)) := by rw [← hn]; rfl
  have c1 : w1.cell? ⟨w.heap.size, 1, none⟩ = some (.slice so n sc) := hB.cell 1
  obtain ⟨ss, hss⟩ : ∃ ss, C.ss = ss := ⟨_, rfl⟩
  simp only [hss] at *
  have HN := hide hn
  have hni : (n : Int) ≤ 1000 := by omega
  generalize C.fs.length = fn at *
  generalize C.cap = K at *
  clear h hT hS hB hb1 hL hok hm hus hss hn hsl
  by_cases h32 : n ≤ 32
  · have h32i : ¬ (32 : Int) < (n : Int) := by omega
    have HRS : Hid (stopsB us m ss = goS us m none ss) := by show _ = _; rw [HRES.out, decide_eq_true h32, Bool.true_and]
    clear HRES
    go_enter Tryd.func37, Tryd.ntmps37
    go_wp2
    go_loopg [12] n (fun k i wr => ∃ j : Nat, k + j = n ∧ i = .int .i64 (j : Int) ∧ goS us m (prevS ss j) (ss.drop j) = goS us m none ss ∧ Below w1.heap.size w1 wr)
    case atStart => exact ⟨0, rfl, rfl, rfl, Below.refl _ w1⟩
    case round =>
      clear c1
      obtain ⟨j, hk, rfl, hg, hbw⟩ := hrel
      have HG := hide hg
      have HB := hide hbw
      have c0 : wr.cell? ⟨w.heap.size, 0, none⟩ = some (.slice fo fn fc) := (HBX.out.below hbw HBX.out.lt).cell 0
      have c1 : wr.cell? ⟨w.heap.size, 1, none⟩ = some (.slice so n sc) := (HBX.out.below hbw HBX.out.lt).cell 1
      have c2 : wr.cell? ⟨w.heap.size, 2, none⟩ = some (.int .i64 K) := (HBX.out.below hbw HBX.out.lt).cell 2
      clear hg hbw
      cases gk with
      | zero =>
        obtain rfl : j = n := by omega
        have hlt : ¬ (j : Int) < (j : Int) := by omega
        clear c0 c1 c2
        go_wp2
        go_ret
        exact ⟨ret_bool (by rw [HRS.out, ← HG.out, List.drop_eq_nil_of_le (by rw [HN.out]; exact Nat.le_refl _)]; cases prevS ss j <;> rfl), HB1.out.trans (HB.out.mono HB1.out.size)⟩
      | succ k =>
        have hj : (j : Int) < (n : Int) := by omega
        have hjl : j < ss.length := by rw [HN.out]; omega
        obtain ⟨b, off, hso, hx, hokj⟩ := (HS.out wr HB.out).at j hjl
        have hd := dropS_at hjl
        have HO := hide (HOT.out wr j hjl HB.out)
        obtain ⟨A, hA⟩ : ∃ A, ownB us m ss[j] = A := ⟨_, rfl⟩
        rw [hA] at HO
        by_cases h0 : j = 0
        · have hi0 : ¬ (0 : Int) < (j : Int) := by omega
          have HGS : Hid (goS us m none ss = (A && goS us m (prevS ss (j + 1)) (ss.drop (j + 1)))) := by
            show _ = _
            rw [← HG.out, hd, ← hA]
            subst h0
            show (_ && _) = (_ && goS us m (ss[0]?) _)
            rw [List.getElem?_eq_getElem hjl]
          obtain ⟨s, hs⟩ : ∃ s, strOfNums ss[j] = s := ⟨_, rfl⟩
          rw [hs] at hx HO
          subst hso
          clear hokj hd hA h0 hs
          cases A with
          | true =>
            go_wp2_with (go_at_call 63; refine HO.out.mono ?_; rintro e w2 ⟨rfl, hb⟩; have HB2 := hide (HB.out.trans (hb.mono HB.out.size)); clear HO hb)
            go_roundg k
            case measure => omega
            case rel => exact ⟨j + 1, by omega, by go_num, by have := HGS.out; rw [Bool.true_and] at this; exact this.symm, HB2.out⟩
          | false =>
            go_wp2_with (go_at_call 63; refine HO.out.mono ?_; rintro e w2 ⟨rfl, hb⟩; have HB2 := hide (HB.out.trans (hb.mono HB.out.size)); clear HO hb)
            go_ret
            exact ⟨ret_bool (by rw [HRS.out, HGS.out]; rfl), HB1.out.trans (HB2.out.mono HB1.out.size)⟩
        · obtain ⟨i, rfl⟩ : ∃ i, j = i + 1 := ⟨j - 1, by omega⟩
          have hi0 : (0 : Int) < ((i + 1 : Nat) : Int) := by omega
          have hil : i < ss.length := by omega
          obtain ⟨b', off', hso', hy, hoki⟩ := (HS.out wr HB.out).at i hil
          obtain ⟨rfl, rfl⟩ : b' = b ∧ off' = off := by
            have := hso'.symm.trans hso
            simpa using this
          have hle := bin_leq hokj hoki
          have HGS : Hid (goS us m none ss = (decide (cmp ss[i] ss[i + 1] < 0) && A && goS us m (prevS ss (i + 1 + 1)) (ss.drop (i + 1 + 1)))) := by
            show _ = _
            rw [← HG.out, hd, ← hA]
            show goS us m (ss[i]?) _ = (_ && goS us m (ss[i + 1]?) _)
            rw [List.getElem?_eq_getElem hjl, List.getElem?_eq_getElem hil]
            rfl
          obtain ⟨s, hs⟩ : ∃ s, strOfNums ss[i + 1] = s := ⟨_, rfl⟩
          obtain ⟨q, hq⟩ : ∃ q, strOfNums ss[i] = q := ⟨_, rfl⟩
          rw [hs] at hx HO hle
          rw [hq] at hy hle
          subst hso
          have hixe : ((i + 1 : Nat) : Int) = (i : Int) + 1 := by omega
          have hin : (i : Int) < (n : Int) := by omega
          by_cases hlt : cmp ss[i] ss[i + 1] < 0
          · obtain ⟨g1, g2⟩ := cmp_yes hlt
            rw [decide_eq_false g1, decide_eq_false g2, Bool.or_false] at hle
            rw [decide_eq_true hlt, Bool.true_and] at HGS
            clear hokj hoki hd hA h0 hs hq hso' hlt g1 g2
            cases A with
            | true =>
              go_wp2_with (go_at_call 63; refine HO.out.mono ?_; rintro e w2 ⟨rfl, hb⟩; have HB2 := hide (HB.out.trans (hb.mono HB.out.size)); clear HO hb)
              go_roundg k
              case measure => omega
              case rel => exact ⟨i + 1 + 1, by omega, by go_num, by have := HGS.out; rw [Bool.true_and] at this; exact this.symm, HB2.out⟩
            | false =>
              go_wp2_with (go_at_call 63; refine HO.out.mono ?_; rintro e w2 ⟨rfl, hb⟩; have HB2 := hide (HB.out.trans (hb.mono HB.out.size)); clear HO hb)
              go_ret
              exact ⟨ret_bool (by rw [HRS.out, HGS.out]; rfl), HB1.out.trans (HB2.out.mono HB1.out.size)⟩
          · rw [decide_eq_false hlt, Bool.false_and, Bool.false_and] at HGS
            replace hle : ∀ t W, (binOp .leq t (.string s) (.string q)).run Tryd.prog W = .ok (.bool true) W := fun t W => by
              rw [hle t W]
              rcases cmp_not hlt with e | e
              · rw [decide_eq_true e]; rfl
              · rw [decide_eq_true e, Bool.or_true]
            clear hokj hoki hd hA h0 hs hq hso' hlt HO
            go_wp2
            go_ret
            exact ⟨ret_bool (by rw [HRS.out, HGS.out]), HB1.out.trans (HB.out.mono HB1.out.size)⟩
  · have h32i : (32 : Int) < (n : Int) := by omega
    have HRS : Hid (stopsB us m ss = false) := by show _ = _; rw [HRES.out, decide_eq_false h32]; rfl
    clear HRES
    go_enter Tryd.func37, Tryd.ntmps37
    go_wp2
    go_ret
    exact ⟨ret_bool HRS.out.symm, HB1.out⟩

end Go.Proofs.YtimmfnjkknbofaaDoor
/- Contract: package words' Check. -/
namespace Go.Proofs.YtimmfnjkknbofaaDoor
set_option maxRecDepth 20000
open Go.RowKit
set_option linter.unusedVariables false
set_option linter.unusedSimpArgs false
set_option maxRecDepth 100000

set_option maxHeartbeats 1000000 in
theorem checkC_any (w : World) (v : Value) (C : Cn) (h : CnfV w v C) (hok : CnOk C) (hL : Let w) :
    Calls Tryd.prog 12 #[v] w fun e w' => e = .returned (.int .i64 (mayE C)) ∧ Below w.heap.size w w' := by
  obtain ⟨fo, fc, so, sc, w1, rfl, hw1, hb1, hB, hT, hS⟩ := box_cnf w v C h
  have HFC := hide (check_any w1 _ C.fs (hT.below hb1) (hL.below hb1))
  have HSM : Hid (∀ W, Below w1.heap.size w1 W → 1 ≤ C.cap → C.cap ≤ 12 → Calls Tryd.prog 37 #[.agg #[.slice fo C.fs.length fc, .slice so C.ss.length sc, .int .i64 C.cap]] W fun e w' => e = .returned (.bool (stopsB (useL C.fs) C.cap.toNat C.ss)) ∧ Below W.heap.size W w') := fun W hb h1 h2 => by
    have hbb := hb1.trans (hb.mono hb1.size)
    exact stopsMayBe_any W _ C (h.below hbb) hok C.cap.toNat (by omega) (by omega) (hL.below hbb)
  have HB1 := hide hb1
  have HBX := hide hB
  have HE : Hid (mayE C = if (tblB C.fs && decide (1 ≤ C.cap) && decide (C.cap ≤ 12) && stopsB (useL C.fs) C.cap.toNat C.ss) = true then 0 else 140) := rfl
  have HT : Hid (tblE C.fs = if tblB C.fs = true then 0 else 130) := rfl
  have hlo := hok.lo
  have hhi := hok.hi
  have c0 : w1.cell? ⟨w.heap.size, 0, none⟩ = some (.slice fo C.fs.length fc) := hB.cell 0
  generalize tblE C.fs = TE at *
  generalize tblB C.fs = T at *
  generalize stopsB (useL C.fs) C.cap.toNat C.ss = S at *
  generalize mayE C = E at *
  generalize C.fs.length = fn at *
  generalize C.ss.length = sn at *
  generalize C.cap = K at *
  clear h hT hS hB hb1 hL hok
  cases T with
  | false =>
    have ht := HT.out
    rw [if_neg (by simp)] at ht
    subst ht
    have HE2 : Hid (E = 140) := by show _ = _; rw [HE.out]; simp
    clear HSM HE HT
    go_enter Tryd.func12, Tryd.ntmps12
    go_wp2_with (go_at_call 36; refine HFC.out.mono ?_; rintro e w2 ⟨rfl, hb⟩; have HB2 := hide (HB1.out.trans (hb.mono HB1.out.size)); clear HFC hb)
    go_ret
    exact ⟨ret_int HE2.out.symm, HB2.out⟩
  | true =>
    have ht := HT.out
    rw [if_pos rfl] at ht
    subst ht
    by_cases h1 : K < 1
    · have HE2 : Hid (E = 140) := by show _ = _; rw [HE.out, decide_eq_false (show ¬ 1 ≤ K by omega)]; simp
      clear HSM HE HT
      go_enter Tryd.func12, Tryd.ntmps12
      go_wp2_with (go_at_call 36; refine HFC.out.mono ?_; rintro e w2 ⟨rfl, hb⟩; have HB2 := hide (HB1.out.trans (hb.mono HB1.out.size)); have c2 : w2.cell? ⟨w.heap.size, 2, none⟩ = some (.int .i64 K) := (HBX.out.below hb HBX.out.lt).cell 2; clear HFC hb)
      go_ret
      exact ⟨ret_int HE2.out.symm, HB2.out⟩
    · by_cases h2 : 12 < K
      · have HE2 : Hid (E = 140) := by show _ = _; rw [HE.out, decide_eq_false (show ¬ K ≤ 12 by omega)]; simp
        clear HSM HE HT
        go_enter Tryd.func12, Tryd.ntmps12
        go_wp2_with (go_at_call 36; refine HFC.out.mono ?_; rintro e w2 ⟨rfl, hb⟩; have HB2 := hide (HB1.out.trans (hb.mono HB1.out.size)); have c2 : w2.cell? ⟨w.heap.size, 2, none⟩ = some (.int .i64 K) := (HBX.out.below hb HBX.out.lt).cell 2; clear HFC hb)
        go_ret
        exact ⟨ret_int HE2.out.symm, HB2.out⟩
      · have HS2 : Hid (∀ W, Below w1.heap.size w1 W → Calls Tryd.prog 37 #[.agg #[.slice fo fn fc, .slice so sn sc, .int .i64 K]] W fun e w' => e = .returned (.bool S) ∧ Below W.heap.size W w') := fun W hb => HSM.out W hb (by omega) (by omega)
        have HE2 : Hid (E = if S = true then 0 else 140) := by show _ = _; rw [HE.out, decide_eq_true (show 1 ≤ K by omega), decide_eq_true (show K ≤ 12 by omega)]; simp
        clear HSM HE HT
        cases S with
        | true =>
          go_enter Tryd.func12, Tryd.ntmps12
          go_wp2_with (first
            | (go_at_call 36; refine HFC.out.mono ?_; rintro e w2 ⟨rfl, hb⟩; have HB2 := hide (HB1.out.trans (hb.mono HB1.out.size)); have HM := hide hb; have hBx := HBX.out.below hb HBX.out.lt; have c0 : w2.cell? ⟨w.heap.size, 0, none⟩ = some (.slice fo fn fc) := hBx.cell 0; have c1 : w2.cell? ⟨w.heap.size, 1, none⟩ = some (.slice so sn sc) := hBx.cell 1; have c2 : w2.cell? ⟨w.heap.size, 2, none⟩ = some (.int .i64 K) := hBx.cell 2; clear HFC hb hBx)
            | (go_at_call 37; refine (HS2.out w2 HM.out).mono ?_; rintro e w3 ⟨rfl, hb⟩; have HB3 := hide (HB2.out.trans (hb.mono HB2.out.size)); clear HS2 hb))
          go_ret
          exact ⟨ret_int (by rw [HE2.out]; rfl), HB3.out⟩
        | false =>
          go_enter Tryd.func12, Tryd.ntmps12
          go_wp2_with (first
            | (go_at_call 36; refine HFC.out.mono ?_; rintro e w2 ⟨rfl, hb⟩; have HB2 := hide (HB1.out.trans (hb.mono HB1.out.size)); have HM := hide hb; have hBx := HBX.out.below hb HBX.out.lt; have c0 : w2.cell? ⟨w.heap.size, 0, none⟩ = some (.slice fo fn fc) := hBx.cell 0; have c1 : w2.cell? ⟨w.heap.size, 1, none⟩ = some (.slice so sn sc) := hBx.cell 1; have c2 : w2.cell? ⟨w.heap.size, 2, none⟩ = some (.int .i64 K) := hBx.cell 2; clear HFC hb hBx)
            | (go_at_call 37; refine (HS2.out w2 HM.out).mono ?_; rintro e w3 ⟨rfl, hb⟩; have HB3 := hide (HB2.out.trans (hb.mono HB2.out.size)); clear HS2 hb))
          go_ret
          exact ⟨ret_int (by rw [HE2.out]; rfl), HB3.out⟩

end Go.Proofs.YtimmfnjkknbofaaDoor
