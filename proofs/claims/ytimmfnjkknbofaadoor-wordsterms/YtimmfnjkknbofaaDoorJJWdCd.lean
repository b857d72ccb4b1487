/- Contract: the document's Check of a way (incipitref14.Check). -/
import Derived.Test.YtimmfnjkknbofaaDoorJJWdRt
import Derived.Test.YtimmfnjkknbofaaDoorJWdTerm
import Derived.Test.YtimmfnjkknbofaaDoorJJWdAi
import Derived.BigQuiet
namespace Go.Proofs.YtimmfnjkknbofaaDoor
set_option maxRecDepth 20000
open Go.RowKit
set_option linter.unusedVariables false
set_option linter.unusedSimpArgs false
set_option maxRecDepth 100000

/-- a stop word, by the document -/
def docOk (us : List Fd) (r : Nat) : Bool := letN r && decide (foldN us r = r)
def docB (us : List Fd) (m : Nat) (z : List Int) : Bool := decide (1 ≤ (rs z).length) && decide ((rs z).length ≤ m) && (rs z).all (docOk us)
theorem fm_all : ∀ (n : Nat) (b : List Int), ByteOk b → b.length ≤ n → (∀ r ∈ rs b, letN r = true) → fmL (rs b) = b
  | 0, b, _, hl, _ => by
    obtain rfl : b = [] := List.eq_nil_of_length_eq_zero (by omega)
    rfl
  | n + 1, b, hb, hl, h => by
    by_cases hne : b = []
    · subst hne; rfl
    · rw [rs_on hne] at h ⊢
      obtain ⟨⟨t, ht⟩, h2⟩ := led_on hb hne (h _ (List.mem_cons_self ..))
      have hpos := (letN_len (h _ (List.mem_cons_self ..))).1
      rw [h2] at h ⊢
      rw [fmL_cons]
      obtain ⟨F, hF⟩ : ∃ F, formL ((decN b).1 : Int) = F := ⟨_, rfl⟩
      rw [hF] at ht hpos h ⊢
      have hd : b.drop F.length = t := by rw [← ht]; simp
      rw [hd] at h ⊢
      rw [fm_all n t (fun z hz => hb z (by rw [← ht]; exact List.mem_append_right _ hz)) (by
        have h3 := congrArg List.length ht
        simp only [List.length_append] at h3
        omega) (fun r hr => h r (List.mem_cons_of_mem _ hr)), ht]
theorem own_doc (xs : List Fd) (m : Nat) (z : List Int) (hz : ByteOk z) : ownB (useL xs) m z = docB (useL xs) m z := by
  rw [Bool.eq_iff_iff]
  unfold ownB docB
  simp only [Bool.and_eq_true, decide_eq_true_iff, List.all_eq_true, docOk]
  constructor
  · rintro ⟨⟨h0, h1⟩, h2⟩
    obtain ⟨hal, hfm⟩ := led_all h1
    have hne : rs z ≠ [] := fun e => by rw [e] at hfm; exact h0 hfm.symm
    have ht : termR (useL xs) m (rs z) = rs z := by
      refine fmL_inj (fun r hr => letN_rune (termR_let xs m hal r hr)) (fun r hr => letN_rune (hal r hr)) ?_
      rw [hfm]
      exact h2
    have hlen := congrArg List.length ht
    unfold termR at hlen ht
    rw [List.length_map, List.length_take] at hlen
    refine ⟨⟨List.length_pos_iff.2 hne, by omega⟩, fun r hr => ⟨hal r hr, ?_⟩⟩
    rw [List.take_of_length_le (by omega)] at ht
    obtain ⟨i, hi, rfl⟩ := List.mem_iff_getElem.1 hr
    have := List.getElem_map (foldN (useL xs)) (l := rs z) (i := i) (h := by simpa using hi)
    rw [← this]
    simp only [ht]
  · rintro ⟨⟨h0, h1⟩, h2⟩
    have hal : ∀ r ∈ rs z, letN r = true := fun r hr => (h2 r hr).1
    have hfm := fm_all _ z hz (Nat.le_refl _) hal
    have hled : ledR z = rs z := by
      unfold ledR
      exact (takeWhile_eq (rs z) hal).1
    refine ⟨⟨fun e => ?_, by rw [hled]; exact hfm⟩, ?_⟩
    · rw [e, rs_nil] at h0
      simp at h0
    · unfold termZ termR
      rw [List.take_of_length_le h1, List.map_congr_left (g := id) (fun r hr => (h2 r hr).2), List.map_id]
      exact hfm

set_option maxHeartbeats 4000000 in
theorem checkD_any (w : World) (v : Value) (C : Cn) (h : CnfV w v C) (hok : CnOk C) :
    Calls Tryd.prog 13 #[v] w fun e w' => e = .returned (.int .i64 (mayE C)) ∧ Below w.heap.size w w' := by
  obtain ⟨fo, fc, so, sc, w1, rfl, hw1, hb1, hB, hT, hS⟩ := box_cnf w v C h
  have HCK := hide (refCheck_any w1 _ C.fs (hT.below hb1))
  have HRU0 : Hid (∀ W r, Below w1.heap.size w1 W → letN r = true → Calls Tryd.prog 41 #[.slice fo C.fs.length fc, .int .i32 (r : Int)] W fun e w' => e = .returned (.int .i32 ((foldN (useL C.fs) r : Nat) : Int)) ∧ Below W.heap.size W w') := fun W r hb hr => by
    rw [foldN_at C.fs (letN_rune hr)]
    exact refRune_any W _ C.fs r (hT.below (hb1.trans (hb.mono hb1.size))) (by have := letN_lt hr; constructor <;> omega)
  have HS : Hid (∀ W, Below w1.heap.size w1 W → Strs W (.slice so C.ss.length sc) C.ss) := fun W hb => (hS.below hb1).below hb
  have HE : Hid (mayE C = if (tblB C.fs && decide (1 ≤ C.cap) && decide (C.cap ≤ 12) && stopsB (useL C.fs) C.cap.toNat C.ss) = true then 0 else 140) := rfl
  have HT : Hid (tblE C.fs = if tblB C.fs = true then 0 else 130) := rfl
  have HOD : Hid (∀ m z, ByteOk z → ownB (useL C.fs) m z = docB (useL C.fs) m z) := fun m z hz => own_doc C.fs m z hz
  have HSB : Hid (∀ m, stopsB (useL C.fs) m C.ss = (decide (C.ss.length ≤ 32) && goS (useL C.fs) m none C.ss)) := fun m => rfl
  have HB1 := hide hb1
  have HBX := hide hB
  have hlo := hok.lo
  have hhi := hok.hi
  have hsl := hok.ss
  have HEACH := hide hok.each
  generalize tblE C.fs = TE at *
  generalize tblB C.fs = T at *
  generalize mayE C = E at *
  generalize useL C.fs = us at *
  generalize C.fs.length = fn at *
  generalize hn : C.ss.length = n at *
  generalize hss : C.ss = ss at *
  have HN := hide hn
  generalize C.cap = K at *
  have c0 : w1.cell? ⟨w.heap.size, 0, none⟩ = some (.slice fo fn fc) := hB.cell 0
  clear h hT hS hB hb1 hok hn
  cases T with
  | false =>
    have ht := HT.out
    rw [if_neg (by simp)] at ht
    subst ht
    have HE2 : Hid (E = 140) := by show _ = _; rw [HE.out]; simp
    clear HS HE HT HRU0
    go_enter Tryd.func13, Tryd.ntmps13
    go_wp2_with (go_at_call 38; refine HCK.out.mono ?_; rintro e w2 ⟨rfl, hb⟩; have HB2 := hide (HB1.out.trans (hb.mono HB1.out.size)); clear HCK hb)
    go_ret
    exact ⟨ret_int HE2.out.symm, HB2.out⟩
  | true =>
    have ht := HT.out
    rw [if_pos rfl] at ht
    subst ht
    by_cases h1 : K < 1
    · have HE2 : Hid (E = 140) := by show _ = _; rw [HE.out, decide_eq_false (show ¬ 1 ≤ K by omega)]; simp
      clear HS HE HT HRU0
      go_enter Tryd.func13, Tryd.ntmps13
      go_wp2_with (go_at_call 38; refine HCK.out.mono ?_; rintro e w2 ⟨rfl, hb⟩; have HB2 := hide (HB1.out.trans (hb.mono HB1.out.size)); have c2 : w2.cell? ⟨w.heap.size, 2, none⟩ = some (.int .i64 K) := (HBX.out.below hb HBX.out.lt).cell 2; clear HCK hb)
      go_ret
      exact ⟨ret_int HE2.out.symm, HB2.out⟩
    by_cases h2 : 12 < K
    · have HE2 : Hid (E = 140) := by show _ = _; rw [HE.out, decide_eq_false (show ¬ K ≤ 12 by omega)]; simp
      clear HS HE HT HRU0
      go_enter Tryd.func13, Tryd.ntmps13
      go_wp2_with (go_at_call 38; refine HCK.out.mono ?_; rintro e w2 ⟨rfl, hb⟩; have HB2 := hide (HB1.out.trans (hb.mono HB1.out.size)); have c2 : w2.cell? ⟨w.heap.size, 2, none⟩ = some (.int .i64 K) := (HBX.out.below hb HBX.out.lt).cell 2; clear HCK hb)
      go_ret
      exact ⟨ret_int HE2.out.symm, HB2.out⟩
    by_cases h3 : 32 < n
    · have h3i : (32 : Int) < (n : Int) := by omega
      have HE2 : Hid (E = 140) := by show _ = _; rw [HE.out, HSB.out, decide_eq_false (show ¬ n ≤ 32 by omega)]; simp
      clear HS HE HT HRU0 HSB
      go_enter Tryd.func13, Tryd.ntmps13
      go_wp2_with (go_at_call 38; refine HCK.out.mono ?_; rintro e w2 ⟨rfl, hb⟩; have HB2 := hide (HB1.out.trans (hb.mono HB1.out.size)); have c2 : w2.cell? ⟨w.heap.size, 2, none⟩ = some (.int .i64 K) := (HBX.out.below hb HBX.out.lt).cell 2; have c1 : w2.cell? ⟨w.heap.size, 1, none⟩ = some (.slice so n sc) := (HBX.out.below hb HBX.out.lt).cell 1; clear HCK hb)
      go_ret
      exact ⟨ret_int HE2.out.symm, HB2.out⟩
    obtain ⟨m, rfl⟩ : ∃ m : Nat, K = (m : Int) := ⟨K.toNat, by omega⟩
    have h3i : ¬ (32 : Int) < (n : Int) := by omega
    have HE2 : Hid (E = if goS us m none ss = true then 0 else 140) := by
      show _ = _
      rw [HE.out, HSB.out, decide_eq_true (show n ≤ 32 by omega), decide_eq_true (show 1 ≤ (m : Int) by omega), decide_eq_true (show (m : Int) ≤ 12 by omega)]
      simp
    clear HE HT HSB
    go_enter Tryd.func13, Tryd.ntmps13
    go_wp2_with (go_at_call 38; refine HCK.out.mono ?_; rintro e w2 ⟨rfl, hb⟩; have HB2 := hide hb; have c2 : w2.cell? ⟨w.heap.size, 2, none⟩ = some (.int .i64 (m : Int)) := (HBX.out.below hb HBX.out.lt).cell 2; have c1 : w2.cell? ⟨w.heap.size, 1, none⟩ = some (.slice so n sc) := (HBX.out.below hb HBX.out.lt).cell 1; clear HCK hb)
    clear c0 c1 c2
    go_loopg [3] n (fun k i wr => ∃ j : Nat, k + j = n ∧ i = .int .i64 (j : Int) ∧ goS us m (prevS ss j) (ss.drop j) = goS us m none ss ∧ Below w1.heap.size w1 wr)
    case atStart => exact ⟨0, rfl, rfl, rfl, HB2.out⟩
    case round =>
      clear HB2
      obtain ⟨j, hk, rfl, hg, hbw⟩ := hrel
      have HG := hide hg
      have HB := hide hbw
      have c0 : wr.cell? ⟨w.heap.size, 0, none⟩ = some (.slice fo fn fc) := (HBX.out.below hbw HBX.out.lt).cell 0
      have c1 : wr.cell? ⟨w.heap.size, 1, none⟩ = some (.slice so n sc) := (HBX.out.below hbw HBX.out.lt).cell 1
      clear hg hbw
      cases gk with
      | zero =>
        obtain rfl : j = n := by omega
        have hlt : ¬ (j : Int) < (j : Int) := by omega
        have HE3 : Hid (E = 0) := by
          show _ = _
          rw [HE2.out, if_pos]
          rw [← HG.out, List.drop_eq_nil_of_le (by rw [HN.out]; exact Nat.le_refl _)]
          cases prevS ss j <;> rfl
        clear c0
        go_wp2
        go_ret
        exact ⟨ret_int HE3.out.symm, HB1.out.trans (HB.out.mono HB1.out.size)⟩
      | succ k =>
        have hj : (j : Int) < (n : Int) := by omega
        have hjl : j < ss.length := by rw [HN.out]; omega
        obtain ⟨b, off, hso, hx, hokj⟩ := (HS.out wr HB.out).at j hjl
        have hd := dropS_at hjl
        have hzl := HEACH.out ss[j] (List.getElem_mem hjl)
        obtain ⟨A, hA⟩ : ∃ A, ownB us m ss[j] = A := ⟨_, rfl⟩
        have hAD : A = docB us m ss[j] := by rw [← hA, HOD.out m _ hokj]
        obtain ⟨z, hzd⟩ : ∃ z, ss[j] = z := ⟨_, rfl⟩
        obtain ⟨c5, w5, hcv, hsl5, hb5⟩ := conv_sl wr ss[j] hokj (by omega)
        rw [hzd] at hx hAD hcv hsl5 hzl
        have HRN := hide (runesD_any w5 _ z hsl5 (by omega))
        have HB5 : Hid (Below w1.heap.size w1 w5) := HB.out.trans (hb5.mono HB.out.size)
        have HADD : Hid (A = (decide (1 ≤ (rs z).length) && decide ((rs z).length ≤ m) && (rs z).all (docOk us))) := hAD
        have hrl := rs_len z
        have HRI : Hid (∀ r ∈ rs z, I32 (r : Int)) := fun r hr => by
          obtain ⟨q, hq, rfl⟩ := List.mem_map.1 hr
          have := runesN_i32 z _ hq
          constructor <;> omega
        generalize rs z = R at *
        have HA0 : Hid (A = false → E = 140) := fun e => by
          rw [HE2.out, if_neg]
          rw [← HG.out, hd]
          cases prevS ss j <;> simp [goS, hA, e]
        obtain ⟨L, hL⟩ : ∃ L, R.length = L := ⟨_, rfl⟩
        have HLL := hide hL
        have hLl : (L : Int) ≤ 1000 := by omega
        rw [hL] at HADD
        clear c0 hsl5 hb5 hAD hrl
        subst hso
        go_wp2_with (go_at_call 39; refine HRN.out.mono ?_; rintro e w6 ⟨u, rfl, hu, hb⟩; obtain ⟨al, lc, rfl⟩ := hu.shape; rw [HLL.out] at hu ⊢; have HU := hide hu; have HB6 := hide (HB5.out.trans (hb.mono HB5.out.size)); clear HRN hu hb)
        clear c1 hx hcv hL
        have c1 : w6.cell? ⟨w.heap.size, 1, none⟩ = some (.slice (some ⟨b, off, none⟩) n sc) := (HBX.out.below HB6.out HBX.out.lt).cell 1
        have c2 : w6.cell? ⟨w.heap.size, 2, none⟩ = some (.int .i64 (m : Int)) := (HBX.out.below HB6.out HBX.out.lt).cell 2
        obtain ⟨b', off', hso', hx, _⟩ := (HS.out w6 HB6.out).at j hjl
        obtain ⟨rfl, rfl⟩ : b = b' ∧ off = off' := by simpa using hso'
        by_cases hL1 : L < 1
        · have hL1i : (L : Int) < 1 := by omega
          have HBADr : Hid (E = 140) := HA0.out (by rw [HADD.out, decide_eq_false (show ¬ 1 ≤ L by omega)]; simp)
          go_quiet (fail)
          go_wp2
          go_ret
          exact ⟨ret_int HBADr.out.symm, HB1.out.trans ((below_drewN HB6.out nq).mono HB1.out.size)⟩
        have hL1i : ¬ (L : Int) < 1 := by omega
        by_cases hLm : m < L
        · have hLmi : (m : Int) < (L : Int) := by omega
          have HBADr : Hid (E = 140) := HA0.out (by rw [HADD.out, decide_eq_false (show ¬ L ≤ m by omega)]; simp)
          go_quiet (fail)
          go_wp2
          go_ret
          exact ⟨ret_int HBADr.out.symm, HB1.out.trans ((below_drewN HB6.out nq).mono HB1.out.size)⟩
        have hLmi : ¬ (m : Int) < (L : Int) := by omega
        have HADA : Hid (A = R.all (docOk us)) := by show _ = _; rw [HADD.out, decide_eq_true (show 1 ≤ L by omega), decide_eq_true (show L ≤ m by omega)]; simp
        clear HADD hso'
        by_cases h0 : j = 0
        · have hi0 : ¬ (0 : Int) < (j : Int) := by omega
          have hi0d : decide ((0 : Int) < (j : Int)) = false := decide_eq_false hi0
          have HGS : Hid (goS us m none ss = (A && goS us m (prevS ss (j + 1)) (ss.drop (j + 1)))) := by
            show _ = _
            rw [← HG.out, hd, ← hA]
            subst h0
            show (_ && _) = (_ && goS us m (ss[0]?) _)
            rw [List.getElem?_eq_getElem hjl]
          have HGO : Hid (A = true → goS us m (prevS ss (j + 1)) (ss.drop (j + 1)) = goS us m none ss) := fun e => by
            rw [HGS.out, e, Bool.true_and]
          clear hd hA hzd hi0 hi0d
          subst h0
          go_quiet (fail)
          go_wp2
          obtain ⟨w7, hw7⟩ : ∃ w7, w6.drewN nq = w7 := ⟨_, rfl⟩
          have HB7 : Hid (Below w1.heap.size w1 w7) := by rw [← hw7]; exact below_drewN HB6.out nq
          have HU7 : Hid (RnO w7 w5.heap.size (.slice al L lc) R) := by rw [← hw7]; exact HU.out.below (below_drewN (Below.refl _ w6) nq)
          rw [hw7]
          clear c1 c2 hx HU HB6 hw7
          go_loopg [5] L (fun k i wr2 => ∃ q : Nat, k + q = L ∧ i = .int .i64 (q : Int) ∧ (∀ r ∈ R.take q, docOk us r = true) ∧ Below w7.heap.size w7 wr2)
          case atStart => exact ⟨0, by omega, rfl, (fun r hr => by simp at hr), Below.refl _ w7⟩
          case round =>
            obtain ⟨q, hkq, rfl, hqs, hbq⟩ := hrel
            have HQS := hide hqs
            have HBQ := hide hbq
            have HB3 : Hid (Below w1.heap.size w1 wr) := HB7.out.trans (hbq.mono HB7.out.size)
            clear hqs hbq
            cases gk with
            | zero =>
              obtain rfl : q = L := by omega
              have hqq : ¬ (q : Int) < (q : Int) := by omega
              have HGT := hide (HGO.out (by
                rw [HADA.out, List.all_eq_true]
                have := HQS.out
                rwa [List.take_of_length_le (by rw [HLL.out]; exact Nat.le_refl _)] at this))
              go_wp2
              go_roundg k
              case measure => omega
              case rel => exact ⟨0 + 1, by omega, by go_num, HGT.out, HB3.out⟩
            | succ GQ =>
              have hqi : (q : Int) < (L : Int) := by omega
              have hqR : q < R.length := by rw [HLL.out]; omega
              obtain ⟨gl, e, _, hgl, hcx⟩ := HU7.out.at q hqR
              subst e
              obtain ⟨r, hr⟩ : ∃ r, R[q] = r := ⟨_, rfl⟩
              rw [hr] at hcx
              have hrm : r ∈ R := by rw [← hr]; exact List.getElem_mem hqR
              have HLX : Hid (∀ W, Below wr.heap.size wr W → W.cell? ⟨gl, q, none⟩ = some (.int .i32 (r : Int))) := fun W hw => by
                have h1 := HBQ.out.block gl hgl
                have h2 := hw.block gl (by have := HBQ.out.size; omega)
                exact (World.cell?_of_block (a := ⟨gl, q, none⟩) (h2.trans h1)).trans hcx
              have HL0 : Hid (∀ wx, Calls Tryd.prog 40 #[.int .i32 (r : Int)] wx fun e w' => e = .returned (.bool (letB (r : Int))) ∧ Below wx.heap.size wx w') := fun wx => (refLetter_any wx _ (HRI.out r hrm)).mono (by rintro e w' ⟨rfl, rfl⟩; exact ⟨rfl, Below.refl _ _⟩)
              have HTK : Hid (∀ x ∈ R.take (q + 1), x ∈ R.take q ∨ x = r) := fun x hx => by
                rw [List.take_succ_eq_append_getElem hqR, hr] at hx
                rcases List.mem_append.1 hx with h | h
                · exact .inl h
                · exact .inr (List.mem_singleton.1 h)
              have HNO : Hid (docOk us r = false → E = 140) := fun e => HA0.out (by
                rw [HADA.out, Bool.eq_false_iff]
                intro e2
                rw [List.all_eq_true] at e2
                rw [e2 r hrm] at e
                cases e)
              have HKQ := hide hkq
              clear hcx hr hqR hkq
              cases hb : letB (r : Int) with
              | false =>
                have HBADr : Hid (E = 140) := HNO.out (by unfold docOk letN; rw [hb]; rfl)
                rw [hb] at HL0
                have HLT := HL0
                clear HL0 hb
                go_wp2
                refine wp_region_facts (FL [isV (.slice (some ⟨gl, 0, none⟩) L lc), isV (.int .i64 (q : Int)), isV (.pointer (some ⟨gl, q, none⟩)), isV (.int .i32 (r : Int)), isV (.bool false), isV (.bool true), isV (.bool true), isV (undef), isV (undef), isV (undef), isV (undef), isV (undef), isV (undef), isV (undef), isV (undef), isV (undef), isV (undef), isV (undef), isV (undef), isV (.bool true)]) 94 (by kernel_rfl) (by kernel_rfl) (by kernel_rfl) rfl (FL_stable _ (by repeat (first | exact trivial | refine ⟨stable_isV _, ?_⟩))) ?_ ?_
                · refine ⟨?_, ?_, ?_, ?_, ?_, ?_, ?_, ?_, ?_, ?_, ?_, ?_, ?_, ?_, ?_, ?_, ?_, ?_, ?_, ?_, trivial⟩
                  · intro act wx h
                    have e4 : act.eval (.tmp 4) = .slice (some ⟨gl, 0, none⟩) L lc := h.old 4 (by kernel_rfl)
                    have hbel := h.below
                    clear h
                    refine gives_by rfl act.eval rfl ?_
                    generalize act.eval = ρ at *
                    intro hf hc
                    go_simp
                    exact ⟨Below.refl _ _, rfl⟩
                  · intro act wx h
                    have e5 : act.eval (.tmp 5) = .int .i64 (q : Int) := h.old 5 (by kernel_rfl)
                    have hbel := h.below
                    clear h
                    refine gives_by rfl act.eval rfl ?_
                    generalize act.eval = ρ at *
                    intro hf hc
                    go_simp
                    exact ⟨Below.refl _ _, rfl⟩
                  · intro act wx h
                    obtain ⟨v74, e74, f74⟩ := h.val 0 74 (by kernel_rfl)
                    obtain rfl : v74 = .slice (some ⟨gl, 0, none⟩) L lc := f74
                    obtain ⟨v75, e75, f75⟩ := h.val 1 75 (by kernel_rfl)
                    obtain rfl : v75 = .int .i64 (q : Int) := f75
                    have hbel := h.below
                    clear h
                    refine gives_by rfl act.eval rfl ?_
                    generalize act.eval = ρ at *
                    intro hf hc
                    go_simp
                    exact ⟨Below.refl _ _, rfl⟩
                  · intro act wx h
                    obtain ⟨v76, e76, f76⟩ := h.val 2 76 (by kernel_rfl)
                    obtain rfl : v76 = .pointer (some ⟨gl, q, none⟩) := f76
                    have hbel := h.below
                    clear h
                    have cx := HLX.out wx hbel
                    refine gives_by rfl act.eval rfl ?_
                    generalize act.eval = ρ at *
                    intro hf hc
                    go_simp
                    exact ⟨Below.refl _ _, rfl⟩
                  · intro act wx h
                    obtain ⟨v77, e77, f77⟩ := h.val 3 77 (by kernel_rfl)
                    obtain rfl : v77 = .int .i32 (r : Int) := f77
                    have hbel := h.below
                    clear h
                    refine gives_by rfl act.eval rfl ?_
                    generalize act.eval = ρ at *
                    intro hf hc
                    go_simp
                    exact call_gives (HLT.out wx) (fun _ => rfl)
                  · intro act wx h
                    obtain ⟨v78, e78, f78⟩ := h.val 4 78 (by kernel_rfl)
                    obtain rfl : v78 = .bool false := f78
                    have hbel := h.below
                    clear h
                    refine gives_by rfl act.eval rfl ?_
                    generalize act.eval = ρ at *
                    intro hf hc
                    go_simp
                    exact ⟨Below.refl _ _, rfl⟩
                  · intro act wx h
                    obtain ⟨v79, e79, f79⟩ := h.val 5 79 (by kernel_rfl)
                    obtain rfl : v79 = .bool true := f79
                    have hbel := h.below
                    clear h
                    refine gives_by rfl act.eval rfl ?_
                    generalize act.eval = ρ at *
                    intro hf hc
                    go_simp
                    exact ⟨Below.refl _ _, rfl⟩
                  · intro act wx h
                    have hg := h.guard 6 80 (by kernel_rfl) true (fun v hv => hv)
                    clear h
                    exact gives_off (by simp only [Region.wanted, hg]; rfl) ⟨Below.refl _ _, rfl⟩
                  · intro act wx h
                    have hg := h.guard 6 80 (by kernel_rfl) true (fun v hv => hv)
                    clear h
                    exact gives_off (by simp only [Region.wanted, hg]; rfl) ⟨Below.refl _ _, rfl⟩
                  · intro act wx h
                    have hg := h.guard 6 80 (by kernel_rfl) true (fun v hv => hv)
                    clear h
                    exact gives_off (by simp only [Region.wanted, hg]; rfl) ⟨Below.refl _ _, rfl⟩
                  · intro act wx h
                    have hg := h.guard 6 80 (by kernel_rfl) true (fun v hv => hv)
                    clear h
                    exact gives_off (by simp only [Region.wanted, hg]; rfl) ⟨Below.refl _ _, rfl⟩
                  · intro act wx h
                    have hg := h.guard 6 80 (by kernel_rfl) true (fun v hv => hv)
                    clear h
                    exact gives_off (by simp only [Region.wanted, hg]; rfl) ⟨Below.refl _ _, rfl⟩
                  · intro act wx h
                    have hg := h.guard 6 80 (by kernel_rfl) true (fun v hv => hv)
                    clear h
                    exact gives_off (by simp only [Region.wanted, hg]; rfl) ⟨Below.refl _ _, rfl⟩
                  · intro act wx h
                    have hg := h.guard 6 80 (by kernel_rfl) true (fun v hv => hv)
                    clear h
                    exact gives_off (by simp only [Region.wanted, hg]; rfl) ⟨Below.refl _ _, rfl⟩
                  · intro act wx h
                    have hg := h.guard 6 80 (by kernel_rfl) true (fun v hv => hv)
                    clear h
                    exact gives_off (by simp only [Region.wanted, hg]; rfl) ⟨Below.refl _ _, rfl⟩
                  · intro act wx h
                    have hg := h.guard 6 80 (by kernel_rfl) true (fun v hv => hv)
                    clear h
                    exact gives_off (by simp only [Region.wanted, hg]; rfl) ⟨Below.refl _ _, rfl⟩
                  · intro act wx h
                    have hg := h.guard 6 80 (by kernel_rfl) true (fun v hv => hv)
                    clear h
                    exact gives_off (by simp only [Region.wanted, hg]; rfl) ⟨Below.refl _ _, rfl⟩
                  · intro act wx h
                    have hg := h.guard 6 80 (by kernel_rfl) true (fun v hv => hv)
                    clear h
                    exact gives_off (by simp only [Region.wanted, hg]; rfl) ⟨Below.refl _ _, rfl⟩
                  · intro act wx h
                    have hg := h.guard 6 80 (by kernel_rfl) true (fun v hv => hv)
                    clear h
                    exact gives_off (by simp only [Region.wanted, hg]; rfl) ⟨Below.refl _ _, rfl⟩
                  · intro act wx h
                    obtain ⟨v80, e80, f80⟩ := h.val 6 80 (by kernel_rfl)
                    obtain rfl : v80 = .bool true := f80
                    obtain ⟨v92, e92, f92⟩ := h.val 18 92 (by kernel_rfl)
                    obtain rfl : v92 = undef := f92
                    have hbel := h.below
                    clear h
                    refine gives_by rfl act.eval rfl ?_
                    generalize act.eval = ρ at *
                    intro hf hc
                    go_simp
                    exact ⟨Below.refl _ _, rfl⟩
                · intro vals w8 hb8 hv
                  have hv93 : vals 19 = .bool true := hv 19 93 (by kernel_rfl)
                  clear hv
                  generalize hact : putAll _ vals 0 _ = act
                  have HB8 := hide hb8
                  clear hb8
                  subst hact
                  simp only [putAll, Act.put, List.setIfInBounds_toArray, List.set_cons_zero, List.set_cons_succ, hv93, Nat.zero_add, Nat.reduceAdd]
                  clear hv93
                  go_wp2
                  go_ret
                  exact ⟨ret_int HBADr.out.symm, HB1.out.trans ((HB3.out.trans (HB8.out.mono HB3.out.size)).mono HB1.out.size)⟩
              | true =>
                rw [hb] at HL0
                have HLT := HL0
                have hlr : letN r = true := hb
                have HRQ : Hid (∀ W, Below wr.heap.size wr W → Calls Tryd.prog 41 #[.slice fo fn fc, .int .i32 (r : Int)] W fun e w' => e = .returned (.int .i32 ((foldN us r : Nat) : Int)) ∧ Below W.heap.size W w') := fun W hw => HRU0.out W r (HB3.out.trans (hw.mono HB3.out.size)) hlr
                by_cases hfe : foldN us r = r
                · rw [hfe] at HRQ
                  have HRU := HRQ
                  have HNEXT : Hid (∀ x ∈ R.take (q + 1), docOk us x = true) := fun x hx => by
                    rcases HTK.out x hx with h | rfl
                    · exact HQS.out x h
                    · unfold docOk; rw [hlr, hfe]; simp
                  clear HRQ HL0 hb hlr hfe
                  have hkq := HKQ.out
                  go_wp2
                  refine wp_region_facts (FL [isV (.slice (some ⟨gl, 0, none⟩) L lc), isV (.int .i64 (q : Int)), isV (.pointer (some ⟨gl, q, none⟩)), isV (.int .i32 (r : Int)), isV (.bool true), isV (.bool false), isV (.bool false), isV (.pointer (some ⟨w.heap.size, 0, none⟩)), isV (.slice fo fn fc), isV (.slice (some ⟨gl, 0, none⟩) L lc), isV (.int .i64 (q : Int)), isV (.pointer (some ⟨gl, q, none⟩)), isV (.int .i32 (r : Int)), isV (.int .i32 (r : Int)), isV (.slice (some ⟨gl, 0, none⟩) L lc), isV (.int .i64 (q : Int)), isV (.pointer (some ⟨gl, q, none⟩)), isV (.int .i32 (r : Int)), isV (.bool false), isV (.bool false)]) 94 (by kernel_rfl) (by kernel_rfl) (by kernel_rfl) rfl (FL_stable _ (by repeat (first | exact trivial | refine ⟨stable_isV _, ?_⟩))) ?_ ?_
                  · refine ⟨?_, ?_, ?_, ?_, ?_, ?_, ?_, ?_, ?_, ?_, ?_, ?_, ?_, ?_, ?_, ?_, ?_, ?_, ?_, ?_, trivial⟩
                    · intro act wx h
                      have e4 : act.eval (.tmp 4) = .slice (some ⟨gl, 0, none⟩) L lc := h.old 4 (by kernel_rfl)
                      have hbel := h.below
                      clear h
                      refine gives_by rfl act.eval rfl ?_
                      generalize act.eval = ρ at *
                      intro hf hc
                      go_simp
                      exact ⟨Below.refl _ _, rfl⟩
                    · intro act wx h
                      have e5 : act.eval (.tmp 5) = .int .i64 (q : Int) := h.old 5 (by kernel_rfl)
                      have hbel := h.below
                      clear h
                      refine gives_by rfl act.eval rfl ?_
                      generalize act.eval = ρ at *
                      intro hf hc
                      go_simp
                      exact ⟨Below.refl _ _, rfl⟩
                    · intro act wx h
                      obtain ⟨v74, e74, f74⟩ := h.val 0 74 (by kernel_rfl)
                      obtain rfl : v74 = .slice (some ⟨gl, 0, none⟩) L lc := f74
                      obtain ⟨v75, e75, f75⟩ := h.val 1 75 (by kernel_rfl)
                      obtain rfl : v75 = .int .i64 (q : Int) := f75
                      have hbel := h.below
                      clear h
                      refine gives_by rfl act.eval rfl ?_
                      generalize act.eval = ρ at *
                      intro hf hc
                      go_simp
                      exact ⟨Below.refl _ _, rfl⟩
                    · intro act wx h
                      obtain ⟨v76, e76, f76⟩ := h.val 2 76 (by kernel_rfl)
                      obtain rfl : v76 = .pointer (some ⟨gl, q, none⟩) := f76
                      have hbel := h.below
                      clear h
                      have cx := HLX.out wx hbel
                      refine gives_by rfl act.eval rfl ?_
                      generalize act.eval = ρ at *
                      intro hf hc
                      go_simp
                      exact ⟨Below.refl _ _, rfl⟩
                    · intro act wx h
                      obtain ⟨v77, e77, f77⟩ := h.val 3 77 (by kernel_rfl)
                      obtain rfl : v77 = .int .i32 (r : Int) := f77
                      have hbel := h.below
                      clear h
                      refine gives_by rfl act.eval rfl ?_
                      generalize act.eval = ρ at *
                      intro hf hc
                      go_simp
                      exact call_gives (HLT.out wx) (fun _ => rfl)
                    · intro act wx h
                      obtain ⟨v78, e78, f78⟩ := h.val 4 78 (by kernel_rfl)
                      obtain rfl : v78 = .bool true := f78
                      have hbel := h.below
                      clear h
                      refine gives_by rfl act.eval rfl ?_
                      generalize act.eval = ρ at *
                      intro hf hc
                      go_simp
                      exact ⟨Below.refl _ _, rfl⟩
                    · intro act wx h
                      obtain ⟨v79, e79, f79⟩ := h.val 5 79 (by kernel_rfl)
                      obtain rfl : v79 = .bool false := f79
                      have hbel := h.below
                      clear h
                      refine gives_by rfl act.eval rfl ?_
                      generalize act.eval = ρ at *
                      intro hf hc
                      go_simp
                      exact ⟨Below.refl _ _, rfl⟩
                    · intro act wx h
                      have e1 : act.eval (.tmp 1) = .pointer (some ⟨w.heap.size, 0, none⟩) := h.old 1 (by kernel_rfl)
                      have hg := h.guard 6 80 (by kernel_rfl) false (fun v hv => hv)
                      have hbel := h.below
                      clear h
                      refine gives_by (by simp only [Region.wanted, hg]; rfl) act.eval rfl ?_
                      generalize act.eval = ρ at *
                      intro hf hc
                      go_simp
                      exact ⟨Below.refl _ _, rfl⟩
                    · intro act wx h
                      obtain ⟨v81, e81, f81⟩ := h.val 7 81 (by kernel_rfl)
                      obtain rfl : v81 = .pointer (some ⟨w.heap.size, 0, none⟩) := f81
                      have hg := h.guard 6 80 (by kernel_rfl) false (fun v hv => hv)
                      have hbel := h.below
                      clear h
                      have cx := (HBX.out.below (HB3.out.trans (hbel.mono HB3.out.size)) HBX.out.lt).cell 0
                      refine gives_by (by simp only [Region.wanted, hg]; rfl) act.eval rfl ?_
                      generalize act.eval = ρ at *
                      intro hf hc
                      go_simp
                      exact ⟨Below.refl _ _, rfl⟩
                    · intro act wx h
                      have e4 : act.eval (.tmp 4) = .slice (some ⟨gl, 0, none⟩) L lc := h.old 4 (by kernel_rfl)
                      have hg := h.guard 6 80 (by kernel_rfl) false (fun v hv => hv)
                      have hbel := h.below
                      clear h
                      refine gives_by (by simp only [Region.wanted, hg]; rfl) act.eval rfl ?_
                      generalize act.eval = ρ at *
                      intro hf hc
                      go_simp
                      exact ⟨Below.refl _ _, rfl⟩
                    · intro act wx h
                      have e5 : act.eval (.tmp 5) = .int .i64 (q : Int) := h.old 5 (by kernel_rfl)
                      have hg := h.guard 6 80 (by kernel_rfl) false (fun v hv => hv)
                      have hbel := h.below
                      clear h
                      refine gives_by (by simp only [Region.wanted, hg]; rfl) act.eval rfl ?_
                      generalize act.eval = ρ at *
                      intro hf hc
                      go_simp
                      exact ⟨Below.refl _ _, rfl⟩
                    · intro act wx h
                      obtain ⟨v83, e83, f83⟩ := h.val 9 83 (by kernel_rfl)
                      obtain rfl : v83 = .slice (some ⟨gl, 0, none⟩) L lc := f83
                      obtain ⟨v84, e84, f84⟩ := h.val 10 84 (by kernel_rfl)
                      obtain rfl : v84 = .int .i64 (q : Int) := f84
                      have hg := h.guard 6 80 (by kernel_rfl) false (fun v hv => hv)
                      have hbel := h.below
                      clear h
                      refine gives_by (by simp only [Region.wanted, hg]; rfl) act.eval rfl ?_
                      generalize act.eval = ρ at *
                      intro hf hc
                      go_simp
                      exact ⟨Below.refl _ _, rfl⟩
                    · intro act wx h
                      obtain ⟨v85, e85, f85⟩ := h.val 11 85 (by kernel_rfl)
                      obtain rfl : v85 = .pointer (some ⟨gl, q, none⟩) := f85
                      have hg := h.guard 6 80 (by kernel_rfl) false (fun v hv => hv)
                      have hbel := h.below
                      clear h
                      have cx := HLX.out wx hbel
                      refine gives_by (by simp only [Region.wanted, hg]; rfl) act.eval rfl ?_
                      generalize act.eval = ρ at *
                      intro hf hc
                      go_simp
                      exact ⟨Below.refl _ _, rfl⟩
                    · intro act wx h
                      obtain ⟨v82, e82, f82⟩ := h.val 8 82 (by kernel_rfl)
                      obtain rfl : v82 = .slice fo fn fc := f82
                      obtain ⟨v86, e86, f86⟩ := h.val 12 86 (by kernel_rfl)
                      obtain rfl : v86 = .int .i32 (r : Int) := f86
                      have hg := h.guard 6 80 (by kernel_rfl) false (fun v hv => hv)
                      have hbel := h.below
                      clear h
                      refine gives_by (by simp only [Region.wanted, hg]; rfl) act.eval rfl ?_
                      generalize act.eval = ρ at *
                      intro hf hc
                      go_simp
                      exact call_gives (HRU.out wx hbel) (fun _ => rfl)
                    · intro act wx h
                      have e4 : act.eval (.tmp 4) = .slice (some ⟨gl, 0, none⟩) L lc := h.old 4 (by kernel_rfl)
                      have hg := h.guard 6 80 (by kernel_rfl) false (fun v hv => hv)
                      have hbel := h.below
                      clear h
                      refine gives_by (by simp only [Region.wanted, hg]; rfl) act.eval rfl ?_
                      generalize act.eval = ρ at *
                      intro hf hc
                      go_simp
                      exact ⟨Below.refl _ _, rfl⟩
                    · intro act wx h
                      have e5 : act.eval (.tmp 5) = .int .i64 (q : Int) := h.old 5 (by kernel_rfl)
                      have hg := h.guard 6 80 (by kernel_rfl) false (fun v hv => hv)
                      have hbel := h.below
                      clear h
                      refine gives_by (by simp only [Region.wanted, hg]; rfl) act.eval rfl ?_
                      generalize act.eval = ρ at *
                      intro hf hc
                      go_simp
                      exact ⟨Below.refl _ _, rfl⟩
                    · intro act wx h
                      obtain ⟨v88, e88, f88⟩ := h.val 14 88 (by kernel_rfl)
                      obtain rfl : v88 = .slice (some ⟨gl, 0, none⟩) L lc := f88
                      obtain ⟨v89, e89, f89⟩ := h.val 15 89 (by kernel_rfl)
                      obtain rfl : v89 = .int .i64 (q : Int) := f89
                      have hg := h.guard 6 80 (by kernel_rfl) false (fun v hv => hv)
                      have hbel := h.below
                      clear h
                      refine gives_by (by simp only [Region.wanted, hg]; rfl) act.eval rfl ?_
                      generalize act.eval = ρ at *
                      intro hf hc
                      go_simp
                      exact ⟨Below.refl _ _, rfl⟩
                    · intro act wx h
                      obtain ⟨v90, e90, f90⟩ := h.val 16 90 (by kernel_rfl)
                      obtain rfl : v90 = .pointer (some ⟨gl, q, none⟩) := f90
                      have hg := h.guard 6 80 (by kernel_rfl) false (fun v hv => hv)
                      have hbel := h.below
                      clear h
                      have cx := HLX.out wx hbel
                      refine gives_by (by simp only [Region.wanted, hg]; rfl) act.eval rfl ?_
                      generalize act.eval = ρ at *
                      intro hf hc
                      go_simp
                      exact ⟨Below.refl _ _, rfl⟩
                    · intro act wx h
                      obtain ⟨v87, e87, f87⟩ := h.val 13 87 (by kernel_rfl)
                      obtain rfl : v87 = .int .i32 (r : Int) := f87
                      obtain ⟨v91, e91, f91⟩ := h.val 17 91 (by kernel_rfl)
                      obtain rfl : v91 = .int .i32 (r : Int) := f91
                      have hg := h.guard 6 80 (by kernel_rfl) false (fun v hv => hv)
                      have hbel := h.below
                      clear h
                      refine gives_by (by simp only [Region.wanted, hg]; rfl) act.eval rfl ?_
                      generalize act.eval = ρ at *
                      intro hf hc
                      go_simp
                      exact ⟨Below.refl _ _, by first | rfl | (simp [FL, isV]; done) | (simp [FL, isV]; omega)⟩
                    · intro act wx h
                      obtain ⟨v80, e80, f80⟩ := h.val 6 80 (by kernel_rfl)
                      obtain rfl : v80 = .bool false := f80
                      obtain ⟨v92, e92, f92⟩ := h.val 18 92 (by kernel_rfl)
                      obtain rfl : v92 = .bool false := f92
                      have hbel := h.below
                      clear h
                      refine gives_by rfl act.eval rfl ?_
                      generalize act.eval = ρ at *
                      intro hf hc
                      go_simp
                      exact ⟨Below.refl _ _, rfl⟩
                  · intro vals w8 hb8 hv
                    have hv93 : vals 19 = .bool false := hv 19 93 (by kernel_rfl)
                    clear hv
                    generalize hact : putAll _ vals 0 _ = act
                    have HB8 := hide hb8
                    clear hb8
                    subst hact
                    simp only [putAll, Act.put, List.setIfInBounds_toArray, List.set_cons_zero, List.set_cons_succ, hv93, Nat.zero_add, Nat.reduceAdd]
                    clear hv93
                    go_wp2
                    go_roundg GQ
                    case measure => omega
                    case rel => exact ⟨q + 1, by omega, by go_num, HNEXT.out, HBQ.out.trans (HB8.out.mono HBQ.out.size)⟩
                · have hne : ¬ ((foldN us r : Nat) : Int) = (r : Int) := by omega
                  have HBADr : Hid (E = 140) := HNO.out (by unfold docOk; rw [decide_eq_false hfe, Bool.and_false])
                  obtain ⟨fr, hfr⟩ : ∃ fr, foldN us r = fr := ⟨_, rfl⟩
                  rw [hfr] at hne HRQ
                  have HRU := HRQ
                  clear HRQ HL0 hb hlr hfe hfr
                  go_wp2
                  refine wp_region_facts (FL [isV (.slice (some ⟨gl, 0, none⟩) L lc), isV (.int .i64 (q : Int)), isV (.pointer (some ⟨gl, q, none⟩)), isV (.int .i32 (r : Int)), isV (.bool true), isV (.bool false), isV (.bool false), isV (.pointer (some ⟨w.heap.size, 0, none⟩)), isV (.slice fo fn fc), isV (.slice (some ⟨gl, 0, none⟩) L lc), isV (.int .i64 (q : Int)), isV (.pointer (some ⟨gl, q, none⟩)), isV (.int .i32 (r : Int)), isV (.int .i32 (fr : Int)), isV (.slice (some ⟨gl, 0, none⟩) L lc), isV (.int .i64 (q : Int)), isV (.pointer (some ⟨gl, q, none⟩)), isV (.int .i32 (r : Int)), isV (.bool true), isV (.bool true)]) 94 (by kernel_rfl) (by kernel_rfl) (by kernel_rfl) rfl (FL_stable _ (by repeat (first | exact trivial | refine ⟨stable_isV _, ?_⟩))) ?_ ?_
                  · refine ⟨?_, ?_, ?_, ?_, ?_, ?_, ?_, ?_, ?_, ?_, ?_, ?_, ?_, ?_, ?_, ?_, ?_, ?_, ?_, ?_, trivial⟩
                    · intro act wx h
                      have e4 : act.eval (.tmp 4) = .slice (some ⟨gl, 0, none⟩) L lc := h.old 4 (by kernel_rfl)
                      have hbel := h.below
                      clear h
                      refine gives_by rfl act.eval rfl ?_
                      generalize act.eval = ρ at *
                      intro hf hc
                      go_simp
                      exact ⟨Below.refl _ _, rfl⟩
                    · intro act wx h
                      have e5 : act.eval (.tmp 5) = .int .i64 (q : Int) := h.old 5 (by kernel_rfl)
                      have hbel := h.below
                      clear h
                      refine gives_by rfl act.eval rfl ?_
                      generalize act.eval = ρ at *
                      intro hf hc
                      go_simp
                      exact ⟨Below.refl _ _, rfl⟩
                    · intro act wx h
                      obtain ⟨v74, e74, f74⟩ := h.val 0 74 (by kernel_rfl)
                      obtain rfl : v74 = .slice (some ⟨gl, 0, none⟩) L lc := f74
                      obtain ⟨v75, e75, f75⟩ := h.val 1 75 (by kernel_rfl)
                      obtain rfl : v75 = .int .i64 (q : Int) := f75
                      have hbel := h.below
                      clear h
                      refine gives_by rfl act.eval rfl ?_
                      generalize act.eval = ρ at *
                      intro hf hc
                      go_simp
                      exact ⟨Below.refl _ _, rfl⟩
                    · intro act wx h
                      obtain ⟨v76, e76, f76⟩ := h.val 2 76 (by kernel_rfl)
                      obtain rfl : v76 = .pointer (some ⟨gl, q, none⟩) := f76
                      have hbel := h.below
                      clear h
                      have cx := HLX.out wx hbel
                      refine gives_by rfl act.eval rfl ?_
                      generalize act.eval = ρ at *
                      intro hf hc
                      go_simp
                      exact ⟨Below.refl _ _, rfl⟩
                    · intro act wx h
                      obtain ⟨v77, e77, f77⟩ := h.val 3 77 (by kernel_rfl)
                      obtain rfl : v77 = .int .i32 (r : Int) := f77
                      have hbel := h.below
                      clear h
                      refine gives_by rfl act.eval rfl ?_
                      generalize act.eval = ρ at *
                      intro hf hc
                      go_simp
                      exact call_gives (HLT.out wx) (fun _ => rfl)
                    · intro act wx h
                      obtain ⟨v78, e78, f78⟩ := h.val 4 78 (by kernel_rfl)
                      obtain rfl : v78 = .bool true := f78
                      have hbel := h.below
                      clear h
                      refine gives_by rfl act.eval rfl ?_
                      generalize act.eval = ρ at *
                      intro hf hc
                      go_simp
                      exact ⟨Below.refl _ _, rfl⟩
                    · intro act wx h
                      obtain ⟨v79, e79, f79⟩ := h.val 5 79 (by kernel_rfl)
                      obtain rfl : v79 = .bool false := f79
                      have hbel := h.below
                      clear h
                      refine gives_by rfl act.eval rfl ?_
                      generalize act.eval = ρ at *
                      intro hf hc
                      go_simp
                      exact ⟨Below.refl _ _, rfl⟩
                    · intro act wx h
                      have e1 : act.eval (.tmp 1) = .pointer (some ⟨w.heap.size, 0, none⟩) := h.old 1 (by kernel_rfl)
                      have hg := h.guard 6 80 (by kernel_rfl) false (fun v hv => hv)
                      have hbel := h.below
                      clear h
                      refine gives_by (by simp only [Region.wanted, hg]; rfl) act.eval rfl ?_
                      generalize act.eval = ρ at *
                      intro hf hc
                      go_simp
                      exact ⟨Below.refl _ _, rfl⟩
                    · intro act wx h
                      obtain ⟨v81, e81, f81⟩ := h.val 7 81 (by kernel_rfl)
                      obtain rfl : v81 = .pointer (some ⟨w.heap.size, 0, none⟩) := f81
                      have hg := h.guard 6 80 (by kernel_rfl) false (fun v hv => hv)
                      have hbel := h.below
                      clear h
                      have cx := (HBX.out.below (HB3.out.trans (hbel.mono HB3.out.size)) HBX.out.lt).cell 0
                      refine gives_by (by simp only [Region.wanted, hg]; rfl) act.eval rfl ?_
                      generalize act.eval = ρ at *
                      intro hf hc
                      go_simp
                      exact ⟨Below.refl _ _, rfl⟩
                    · intro act wx h
                      have e4 : act.eval (.tmp 4) = .slice (some ⟨gl, 0, none⟩) L lc := h.old 4 (by kernel_rfl)
                      have hg := h.guard 6 80 (by kernel_rfl) false (fun v hv => hv)
                      have hbel := h.below
                      clear h
                      refine gives_by (by simp only [Region.wanted, hg]; rfl) act.eval rfl ?_
                      generalize act.eval = ρ at *
                      intro hf hc
                      go_simp
                      exact ⟨Below.refl _ _, rfl⟩
                    · intro act wx h
                      have e5 : act.eval (.tmp 5) = .int .i64 (q : Int) := h.old 5 (by kernel_rfl)
                      have hg := h.guard 6 80 (by kernel_rfl) false (fun v hv => hv)
                      have hbel := h.below
                      clear h
                      refine gives_by (by simp only [Region.wanted, hg]; rfl) act.eval rfl ?_
                      generalize act.eval = ρ at *
                      intro hf hc
                      go_simp
                      exact ⟨Below.refl _ _, rfl⟩
                    · intro act wx h
                      obtain ⟨v83, e83, f83⟩ := h.val 9 83 (by kernel_rfl)
                      obtain rfl : v83 = .slice (some ⟨gl, 0, none⟩) L lc := f83
                      obtain ⟨v84, e84, f84⟩ := h.val 10 84 (by kernel_rfl)
                      obtain rfl : v84 = .int .i64 (q : Int) := f84
                      have hg := h.guard 6 80 (by kernel_rfl) false (fun v hv => hv)
                      have hbel := h.below
                      clear h
                      refine gives_by (by simp only [Region.wanted, hg]; rfl) act.eval rfl ?_
                      generalize act.eval = ρ at *
                      intro hf hc
                      go_simp
                      exact ⟨Below.refl _ _, rfl⟩
                    · intro act wx h
                      obtain ⟨v85, e85, f85⟩ := h.val 11 85 (by kernel_rfl)
                      obtain rfl : v85 = .pointer (some ⟨gl, q, none⟩) := f85
                      have hg := h.guard 6 80 (by kernel_rfl) false (fun v hv => hv)
                      have hbel := h.below
                      clear h
                      have cx := HLX.out wx hbel
                      refine gives_by (by simp only [Region.wanted, hg]; rfl) act.eval rfl ?_
                      generalize act.eval = ρ at *
                      intro hf hc
                      go_simp
                      exact ⟨Below.refl _ _, rfl⟩
                    · intro act wx h
                      obtain ⟨v82, e82, f82⟩ := h.val 8 82 (by kernel_rfl)
                      obtain rfl : v82 = .slice fo fn fc := f82
                      obtain ⟨v86, e86, f86⟩ := h.val 12 86 (by kernel_rfl)
                      obtain rfl : v86 = .int .i32 (r : Int) := f86
                      have hg := h.guard 6 80 (by kernel_rfl) false (fun v hv => hv)
                      have hbel := h.below
                      clear h
                      refine gives_by (by simp only [Region.wanted, hg]; rfl) act.eval rfl ?_
                      generalize act.eval = ρ at *
                      intro hf hc
                      go_simp
                      exact call_gives (HRU.out wx hbel) (fun _ => rfl)
                    · intro act wx h
                      have e4 : act.eval (.tmp 4) = .slice (some ⟨gl, 0, none⟩) L lc := h.old 4 (by kernel_rfl)
                      have hg := h.guard 6 80 (by kernel_rfl) false (fun v hv => hv)
                      have hbel := h.below
                      clear h
                      refine gives_by (by simp only [Region.wanted, hg]; rfl) act.eval rfl ?_
                      generalize act.eval = ρ at *
                      intro hf hc
                      go_simp
                      exact ⟨Below.refl _ _, rfl⟩
                    · intro act wx h
                      have e5 : act.eval (.tmp 5) = .int .i64 (q : Int) := h.old 5 (by kernel_rfl)
                      have hg := h.guard 6 80 (by kernel_rfl) false (fun v hv => hv)
                      have hbel := h.below
                      clear h
                      refine gives_by (by simp only [Region.wanted, hg]; rfl) act.eval rfl ?_
                      generalize act.eval = ρ at *
                      intro hf hc
                      go_simp
                      exact ⟨Below.refl _ _, rfl⟩
                    · intro act wx h
                      obtain ⟨v88, e88, f88⟩ := h.val 14 88 (by kernel_rfl)
                      obtain rfl : v88 = .slice (some ⟨gl, 0, none⟩) L lc := f88
                      obtain ⟨v89, e89, f89⟩ := h.val 15 89 (by kernel_rfl)
                      obtain rfl : v89 = .int .i64 (q : Int) := f89
                      have hg := h.guard 6 80 (by kernel_rfl) false (fun v hv => hv)
                      have hbel := h.below
                      clear h
                      refine gives_by (by simp only [Region.wanted, hg]; rfl) act.eval rfl ?_
                      generalize act.eval = ρ at *
                      intro hf hc
                      go_simp
                      exact ⟨Below.refl _ _, rfl⟩
                    · intro act wx h
                      obtain ⟨v90, e90, f90⟩ := h.val 16 90 (by kernel_rfl)
                      obtain rfl : v90 = .pointer (some ⟨gl, q, none⟩) := f90
                      have hg := h.guard 6 80 (by kernel_rfl) false (fun v hv => hv)
                      have hbel := h.below
                      clear h
                      have cx := HLX.out wx hbel
                      refine gives_by (by simp only [Region.wanted, hg]; rfl) act.eval rfl ?_
                      generalize act.eval = ρ at *
                      intro hf hc
                      go_simp
                      exact ⟨Below.refl _ _, rfl⟩
                    · intro act wx h
                      obtain ⟨v87, e87, f87⟩ := h.val 13 87 (by kernel_rfl)
                      obtain rfl : v87 = .int .i32 (fr : Int) := f87
                      obtain ⟨v91, e91, f91⟩ := h.val 17 91 (by kernel_rfl)
                      obtain rfl : v91 = .int .i32 (r : Int) := f91
                      have hg := h.guard 6 80 (by kernel_rfl) false (fun v hv => hv)
                      have hbel := h.below
                      clear h
                      refine gives_by (by simp only [Region.wanted, hg]; rfl) act.eval rfl ?_
                      generalize act.eval = ρ at *
                      intro hf hc
                      go_simp
                      exact ⟨Below.refl _ _, by first | rfl | (simp [FL, isV]; done) | (simp [FL, isV]; omega)⟩
                    · intro act wx h
                      obtain ⟨v80, e80, f80⟩ := h.val 6 80 (by kernel_rfl)
                      obtain rfl : v80 = .bool false := f80
                      obtain ⟨v92, e92, f92⟩ := h.val 18 92 (by kernel_rfl)
                      obtain rfl : v92 = .bool true := f92
                      have hbel := h.below
                      clear h
                      refine gives_by rfl act.eval rfl ?_
                      generalize act.eval = ρ at *
                      intro hf hc
                      go_simp
                      exact ⟨Below.refl _ _, rfl⟩
                  · intro vals w8 hb8 hv
                    have hv93 : vals 19 = .bool true := hv 19 93 (by kernel_rfl)
                    clear hv
                    generalize hact : putAll _ vals 0 _ = act
                    have HB8 := hide hb8
                    clear hb8
                    subst hact
                    simp only [putAll, Act.put, List.setIfInBounds_toArray, List.set_cons_zero, List.set_cons_succ, hv93, Nat.zero_add, Nat.reduceAdd]
                    clear hv93
                    go_wp2
                    go_ret
                    exact ⟨ret_int HBADr.out.symm, HB1.out.trans ((HB3.out.trans (HB8.out.mono HB3.out.size)).mono HB1.out.size)⟩
        · obtain ⟨i, rfl⟩ : ∃ i, j = i + 1 := ⟨j - 1, by omega⟩
          have hil : i < ss.length := by omega
          obtain ⟨b', off', hso', hy, hoki⟩ := (HS.out w6 HB6.out).at i hil
          obtain ⟨rfl, rfl⟩ : b = b' ∧ off = off' := by simpa using hso'
          have hge := bin_geq hoki hokj
          have HGS : Hid (goS us m none ss = (decide (cmp ss[i] ss[i + 1] < 0) && A && goS us m (prevS ss (i + 1 + 1)) (ss.drop (i + 1 + 1)))) := by
            show _ = _
            rw [← HG.out, hd, ← hA]
            show goS us m (ss[i]?) _ = (_ && goS us m (ss[i + 1]?) _)
            rw [List.getElem?_eq_getElem hjl, List.getElem?_eq_getElem hil]
            rfl
          obtain ⟨s, hs⟩ : ∃ s, strOfNums ss[i + 1] = s := ⟨_, rfl⟩
          obtain ⟨q0, hq0⟩ : ∃ q, strOfNums ss[i] = q := ⟨_, rfl⟩
          rw [hs] at hx hge
          rw [hq0] at hy hge
          have hixe : ((i + 1 : Nat) : Int) = (i : Int) + 1 := by omega
          have hin : (i : Int) < (n : Int) := by omega
          have hi0 : (0 : Int) < ((i + 1 : Nat) : Int) := by omega
          by_cases hlt : cmp ss[i] ss[i + 1] < 0
          · rw [decide_eq_true hlt] at hge
            rw [decide_eq_true hlt, Bool.true_and] at HGS
            have HGO : Hid (A = true → goS us m (prevS ss (i + 1 + 1)) (ss.drop (i + 1 + 1)) = goS us m none ss) := fun e => by
              rw [HGS.out, e, Bool.true_and]
            clear hd hA hzd hs hq0 hlt HGS hso' hoki hokj
            go_quiet (fail)
            go_wp2
            obtain ⟨w7, hw7⟩ : ∃ w7, w6.drewN nq = w7 := ⟨_, rfl⟩
            have HB7 : Hid (Below w1.heap.size w1 w7) := by rw [← hw7]; exact below_drewN HB6.out nq
            have HU7 : Hid (RnO w7 w5.heap.size (.slice al L lc) R) := by rw [← hw7]; exact HU.out.below (below_drewN (Below.refl _ w6) nq)
            rw [hw7]
            clear c1 c2 hx HU HB6 hw7
            go_loopg [5] L (fun k i wr2 => ∃ q : Nat, k + q = L ∧ i = .int .i64 (q : Int) ∧ (∀ r ∈ R.take q, docOk us r = true) ∧ Below w7.heap.size w7 wr2)
            case atStart => exact ⟨0, by omega, rfl, (fun r hr => by simp at hr), Below.refl _ w7⟩
            case round =>
              obtain ⟨q, hkq, rfl, hqs, hbq⟩ := hrel
              have HQS := hide hqs
              have HBQ := hide hbq
              have HB3 : Hid (Below w1.heap.size w1 wr) := HB7.out.trans (hbq.mono HB7.out.size)
              clear hqs hbq
              cases gk with
              | zero =>
                obtain rfl : q = L := by omega
                have hqq : ¬ (q : Int) < (q : Int) := by omega
                have HGT := hide (HGO.out (by
                  rw [HADA.out, List.all_eq_true]
                  have := HQS.out
                  rwa [List.take_of_length_le (by rw [HLL.out]; exact Nat.le_refl _)] at this))
                go_wp2
                go_roundg k
                case measure => omega
                case rel => exact ⟨i + 1 + 1, by omega, by go_num, HGT.out, HB3.out⟩
              | succ GQ =>
                have hqi : (q : Int) < (L : Int) := by omega
                have hqR : q < R.length := by rw [HLL.out]; omega
                obtain ⟨gl, e, _, hgl, hcx⟩ := HU7.out.at q hqR
                subst e
                obtain ⟨r, hr⟩ : ∃ r, R[q] = r := ⟨_, rfl⟩
                rw [hr] at hcx
                have hrm : r ∈ R := by rw [← hr]; exact List.getElem_mem hqR
                have HLX : Hid (∀ W, Below wr.heap.size wr W → W.cell? ⟨gl, q, none⟩ = some (.int .i32 (r : Int))) := fun W hw => by
                  have h1 := HBQ.out.block gl hgl
                  have h2 := hw.block gl (by have := HBQ.out.size; omega)
                  exact (World.cell?_of_block (a := ⟨gl, q, none⟩) (h2.trans h1)).trans hcx
                have HL0 : Hid (∀ wx, Calls Tryd.prog 40 #[.int .i32 (r : Int)] wx fun e w' => e = .returned (.bool (letB (r : Int))) ∧ Below wx.heap.size wx w') := fun wx => (refLetter_any wx _ (HRI.out r hrm)).mono (by rintro e w' ⟨rfl, rfl⟩; exact ⟨rfl, Below.refl _ _⟩)
                have HTK : Hid (∀ x ∈ R.take (q + 1), x ∈ R.take q ∨ x = r) := fun x hx => by
                  rw [List.take_succ_eq_append_getElem hqR, hr] at hx
                  rcases List.mem_append.1 hx with h | h
                  · exact .inl h
                  · exact .inr (List.mem_singleton.1 h)
                have HNO : Hid (docOk us r = false → E = 140) := fun e => HA0.out (by
                  rw [HADA.out, Bool.eq_false_iff]
                  intro e2
                  rw [List.all_eq_true] at e2
                  rw [e2 r hrm] at e
                  cases e)
                have HKQ := hide hkq
                clear hcx hr hqR hkq
                cases hb : letB (r : Int) with
                | false =>
                  have HBADr : Hid (E = 140) := HNO.out (by unfold docOk letN; rw [hb]; rfl)
                  rw [hb] at HL0
                  have HLT := HL0
                  clear HL0 hb
                  go_wp2
                  refine wp_region_facts (FL [isV (.slice (some ⟨gl, 0, none⟩) L lc), isV (.int .i64 (q : Int)), isV (.pointer (some ⟨gl, q, none⟩)), isV (.int .i32 (r : Int)), isV (.bool false), isV (.bool true), isV (.bool true), isV (undef), isV (undef), isV (undef), isV (undef), isV (undef), isV (undef), isV (undef), isV (undef), isV (undef), isV (undef), isV (undef), isV (undef), isV (.bool true)]) 94 (by kernel_rfl) (by kernel_rfl) (by kernel_rfl) rfl (FL_stable _ (by repeat (first | exact trivial | refine ⟨stable_isV _, ?_⟩))) ?_ ?_
                  · refine ⟨?_, ?_, ?_, ?_, ?_, ?_, ?_, ?_, ?_, ?_, ?_, ?_, ?_, ?_, ?_, ?_, ?_, ?_, ?_, ?_, trivial⟩
                    · intro act wx h
                      have e4 : act.eval (.tmp 4) = .slice (some ⟨gl, 0, none⟩) L lc := h.old 4 (by kernel_rfl)
                      have hbel := h.below
                      clear h
                      refine gives_by rfl act.eval rfl ?_
                      generalize act.eval = ρ at *
                      intro hf hc
                      go_simp
                      exact ⟨Below.refl _ _, rfl⟩
                    · intro act wx h
                      have e5 : act.eval (.tmp 5) = .int .i64 (q : Int) := h.old 5 (by kernel_rfl)
                      have hbel := h.below
                      clear h
                      refine gives_by rfl act.eval rfl ?_
                      generalize act.eval = ρ at *
                      intro hf hc
                      go_simp
                      exact ⟨Below.refl _ _, rfl⟩
                    · intro act wx h
                      obtain ⟨v74, e74, f74⟩ := h.val 0 74 (by kernel_rfl)
                      obtain rfl : v74 = .slice (some ⟨gl, 0, none⟩) L lc := f74
                      obtain ⟨v75, e75, f75⟩ := h.val 1 75 (by kernel_rfl)
                      obtain rfl : v75 = .int .i64 (q : Int) := f75
                      have hbel := h.below
                      clear h
                      refine gives_by rfl act.eval rfl ?_
                      generalize act.eval = ρ at *
                      intro hf hc
                      go_simp
                      exact ⟨Below.refl _ _, rfl⟩
                    · intro act wx h
                      obtain ⟨v76, e76, f76⟩ := h.val 2 76 (by kernel_rfl)
                      obtain rfl : v76 = .pointer (some ⟨gl, q, none⟩) := f76
                      have hbel := h.below
                      clear h
                      have cx := HLX.out wx hbel
                      refine gives_by rfl act.eval rfl ?_
                      generalize act.eval = ρ at *
                      intro hf hc
                      go_simp
                      exact ⟨Below.refl _ _, rfl⟩
                    · intro act wx h
                      obtain ⟨v77, e77, f77⟩ := h.val 3 77 (by kernel_rfl)
                      obtain rfl : v77 = .int .i32 (r : Int) := f77
                      have hbel := h.below
                      clear h
                      refine gives_by rfl act.eval rfl ?_
                      generalize act.eval = ρ at *
                      intro hf hc
                      go_simp
                      exact call_gives (HLT.out wx) (fun _ => rfl)
                    · intro act wx h
                      obtain ⟨v78, e78, f78⟩ := h.val 4 78 (by kernel_rfl)
                      obtain rfl : v78 = .bool false := f78
                      have hbel := h.below
                      clear h
                      refine gives_by rfl act.eval rfl ?_
                      generalize act.eval = ρ at *
                      intro hf hc
                      go_simp
                      exact ⟨Below.refl _ _, rfl⟩
                    · intro act wx h
                      obtain ⟨v79, e79, f79⟩ := h.val 5 79 (by kernel_rfl)
                      obtain rfl : v79 = .bool true := f79
                      have hbel := h.below
                      clear h
                      refine gives_by rfl act.eval rfl ?_
                      generalize act.eval = ρ at *
                      intro hf hc
                      go_simp
                      exact ⟨Below.refl _ _, rfl⟩
                    · intro act wx h
                      have hg := h.guard 6 80 (by kernel_rfl) true (fun v hv => hv)
                      clear h
                      exact gives_off (by simp only [Region.wanted, hg]; rfl) ⟨Below.refl _ _, rfl⟩
                    · intro act wx h
                      have hg := h.guard 6 80 (by kernel_rfl) true (fun v hv => hv)
                      clear h
                      exact gives_off (by simp only [Region.wanted, hg]; rfl) ⟨Below.refl _ _, rfl⟩
                    · intro act wx h
                      have hg := h.guard 6 80 (by kernel_rfl) true (fun v hv => hv)
                      clear h
                      exact gives_off (by simp only [Region.wanted, hg]; rfl) ⟨Below.refl _ _, rfl⟩
                    · intro act wx h
                      have hg := h.guard 6 80 (by kernel_rfl) true (fun v hv => hv)
                      clear h
                      exact gives_off (by simp only [Region.wanted, hg]; rfl) ⟨Below.refl _ _, rfl⟩
                    · intro act wx h
                      have hg := h.guard 6 80 (by kernel_rfl) true (fun v hv => hv)
                      clear h
                      exact gives_off (by simp only [Region.wanted, hg]; rfl) ⟨Below.refl _ _, rfl⟩
                    · intro act wx h
                      have hg := h.guard 6 80 (by kernel_rfl) true (fun v hv => hv)
                      clear h
                      exact gives_off (by simp only [Region.wanted, hg]; rfl) ⟨Below.refl _ _, rfl⟩
                    · intro act wx h
                      have hg := h.guard 6 80 (by kernel_rfl) true (fun v hv => hv)
                      clear h
                      exact gives_off (by simp only [Region.wanted, hg]; rfl) ⟨Below.refl _ _, rfl⟩
                    · intro act wx h
                      have hg := h.guard 6 80 (by kernel_rfl) true (fun v hv => hv)
                      clear h
                      exact gives_off (by simp only [Region.wanted, hg]; rfl) ⟨Below.refl _ _, rfl⟩
                    · intro act wx h
                      have hg := h.guard 6 80 (by kernel_rfl) true (fun v hv => hv)
                      clear h
                      exact gives_off (by simp only [Region.wanted, hg]; rfl) ⟨Below.refl _ _, rfl⟩
                    · intro act wx h
                      have hg := h.guard 6 80 (by kernel_rfl) true (fun v hv => hv)
                      clear h
                      exact gives_off (by simp only [Region.wanted, hg]; rfl) ⟨Below.refl _ _, rfl⟩
                    · intro act wx h
                      have hg := h.guard 6 80 (by kernel_rfl) true (fun v hv => hv)
                      clear h
                      exact gives_off (by simp only [Region.wanted, hg]; rfl) ⟨Below.refl _ _, rfl⟩
                    · intro act wx h
                      have hg := h.guard 6 80 (by kernel_rfl) true (fun v hv => hv)
                      clear h
                      exact gives_off (by simp only [Region.wanted, hg]; rfl) ⟨Below.refl _ _, rfl⟩
                    · intro act wx h
                      obtain ⟨v80, e80, f80⟩ := h.val 6 80 (by kernel_rfl)
                      obtain rfl : v80 = .bool true := f80
                      obtain ⟨v92, e92, f92⟩ := h.val 18 92 (by kernel_rfl)
                      obtain rfl : v92 = undef := f92
                      have hbel := h.below
                      clear h
                      refine gives_by rfl act.eval rfl ?_
                      generalize act.eval = ρ at *
                      intro hf hc
                      go_simp
                      exact ⟨Below.refl _ _, rfl⟩
                  · intro vals w8 hb8 hv
                    have hv93 : vals 19 = .bool true := hv 19 93 (by kernel_rfl)
                    clear hv
                    generalize hact : putAll _ vals 0 _ = act
                    have HB8 := hide hb8
                    clear hb8
                    subst hact
                    simp only [putAll, Act.put, List.setIfInBounds_toArray, List.set_cons_zero, List.set_cons_succ, hv93, Nat.zero_add, Nat.reduceAdd]
                    clear hv93
                    go_wp2
                    go_ret
                    exact ⟨ret_int HBADr.out.symm, HB1.out.trans ((HB3.out.trans (HB8.out.mono HB3.out.size)).mono HB1.out.size)⟩
                | true =>
                  rw [hb] at HL0
                  have HLT := HL0
                  have hlr : letN r = true := hb
                  have HRQ : Hid (∀ W, Below wr.heap.size wr W → Calls Tryd.prog 41 #[.slice fo fn fc, .int .i32 (r : Int)] W fun e w' => e = .returned (.int .i32 ((foldN us r : Nat) : Int)) ∧ Below W.heap.size W w') := fun W hw => HRU0.out W r (HB3.out.trans (hw.mono HB3.out.size)) hlr
                  by_cases hfe : foldN us r = r
                  · rw [hfe] at HRQ
                    have HRU := HRQ
                    have HNEXT : Hid (∀ x ∈ R.take (q + 1), docOk us x = true) := fun x hx => by
                      rcases HTK.out x hx with h | rfl
                      · exact HQS.out x h
                      · unfold docOk; rw [hlr, hfe]; simp
                    clear HRQ HL0 hb hlr hfe
                    have hkq := HKQ.out
                    go_wp2
                    refine wp_region_facts (FL [isV (.slice (some ⟨gl, 0, none⟩) L lc), isV (.int .i64 (q : Int)), isV (.pointer (some ⟨gl, q, none⟩)), isV (.int .i32 (r : Int)), isV (.bool true), isV (.bool false), isV (.bool false), isV (.pointer (some ⟨w.heap.size, 0, none⟩)), isV (.slice fo fn fc), isV (.slice (some ⟨gl, 0, none⟩) L lc), isV (.int .i64 (q : Int)), isV (.pointer (some ⟨gl, q, none⟩)), isV (.int .i32 (r : Int)), isV (.int .i32 (r : Int)), isV (.slice (some ⟨gl, 0, none⟩) L lc), isV (.int .i64 (q : Int)), isV (.pointer (some ⟨gl, q, none⟩)), isV (.int .i32 (r : Int)), isV (.bool false), isV (.bool false)]) 94 (by kernel_rfl) (by kernel_rfl) (by kernel_rfl) rfl (FL_stable _ (by repeat (first | exact trivial | refine ⟨stable_isV _, ?_⟩))) ?_ ?_
                    · refine ⟨?_, ?_, ?_, ?_, ?_, ?_, ?_, ?_, ?_, ?_, ?_, ?_, ?_, ?_, ?_, ?_, ?_, ?_, ?_, ?_, trivial⟩
                      · intro act wx h
                        have e4 : act.eval (.tmp 4) = .slice (some ⟨gl, 0, none⟩) L lc := h.old 4 (by kernel_rfl)
                        have hbel := h.below
                        clear h
                        refine gives_by rfl act.eval rfl ?_
                        generalize act.eval = ρ at *
                        intro hf hc
                        go_simp
                        exact ⟨Below.refl _ _, rfl⟩
                      · intro act wx h
                        have e5 : act.eval (.tmp 5) = .int .i64 (q : Int) := h.old 5 (by kernel_rfl)
                        have hbel := h.below
                        clear h
                        refine gives_by rfl act.eval rfl ?_
                        generalize act.eval = ρ at *
                        intro hf hc
                        go_simp
                        exact ⟨Below.refl _ _, rfl⟩
                      · intro act wx h
                        obtain ⟨v74, e74, f74⟩ := h.val 0 74 (by kernel_rfl)
                        obtain rfl : v74 = .slice (some ⟨gl, 0, none⟩) L lc := f74
                        obtain ⟨v75, e75, f75⟩ := h.val 1 75 (by kernel_rfl)
                        obtain rfl : v75 = .int .i64 (q : Int) := f75
                        have hbel := h.below
                        clear h
                        refine gives_by rfl act.eval rfl ?_
                        generalize act.eval = ρ at *
                        intro hf hc
                        go_simp
                        exact ⟨Below.refl _ _, rfl⟩
                      · intro act wx h
                        obtain ⟨v76, e76, f76⟩ := h.val 2 76 (by kernel_rfl)
                        obtain rfl : v76 = .pointer (some ⟨gl, q, none⟩) := f76
                        have hbel := h.below
                        clear h
                        have cx := HLX.out wx hbel
                        refine gives_by rfl act.eval rfl ?_
                        generalize act.eval = ρ at *
                        intro hf hc
                        go_simp
                        exact ⟨Below.refl _ _, rfl⟩
                      · intro act wx h
                        obtain ⟨v77, e77, f77⟩ := h.val 3 77 (by kernel_rfl)
                        obtain rfl : v77 = .int .i32 (r : Int) := f77
                        have hbel := h.below
                        clear h
                        refine gives_by rfl act.eval rfl ?_
                        generalize act.eval = ρ at *
                        intro hf hc
                        go_simp
                        exact call_gives (HLT.out wx) (fun _ => rfl)
                      · intro act wx h
                        obtain ⟨v78, e78, f78⟩ := h.val 4 78 (by kernel_rfl)
                        obtain rfl : v78 = .bool true := f78
                        have hbel := h.below
                        clear h
                        refine gives_by rfl act.eval rfl ?_
                        generalize act.eval = ρ at *
                        intro hf hc
                        go_simp
                        exact ⟨Below.refl _ _, rfl⟩
                      · intro act wx h
                        obtain ⟨v79, e79, f79⟩ := h.val 5 79 (by kernel_rfl)
                        obtain rfl : v79 = .bool false := f79
                        have hbel := h.below
                        clear h
                        refine gives_by rfl act.eval rfl ?_
                        generalize act.eval = ρ at *
                        intro hf hc
                        go_simp
                        exact ⟨Below.refl _ _, rfl⟩
                      · intro act wx h
                        have e1 : act.eval (.tmp 1) = .pointer (some ⟨w.heap.size, 0, none⟩) := h.old 1 (by kernel_rfl)
                        have hg := h.guard 6 80 (by kernel_rfl) false (fun v hv => hv)
                        have hbel := h.below
                        clear h
                        refine gives_by (by simp only [Region.wanted, hg]; rfl) act.eval rfl ?_
                        generalize act.eval = ρ at *
                        intro hf hc
                        go_simp
                        exact ⟨Below.refl _ _, rfl⟩
                      · intro act wx h
                        obtain ⟨v81, e81, f81⟩ := h.val 7 81 (by kernel_rfl)
                        obtain rfl : v81 = .pointer (some ⟨w.heap.size, 0, none⟩) := f81
                        have hg := h.guard 6 80 (by kernel_rfl) false (fun v hv => hv)
                        have hbel := h.below
                        clear h
                        have cx := (HBX.out.below (HB3.out.trans (hbel.mono HB3.out.size)) HBX.out.lt).cell 0
                        refine gives_by (by simp only [Region.wanted, hg]; rfl) act.eval rfl ?_
                        generalize act.eval = ρ at *
                        intro hf hc
                        go_simp
                        exact ⟨Below.refl _ _, rfl⟩
                      · intro act wx h
                        have e4 : act.eval (.tmp 4) = .slice (some ⟨gl, 0, none⟩) L lc := h.old 4 (by kernel_rfl)
                        have hg := h.guard 6 80 (by kernel_rfl) false (fun v hv => hv)
                        have hbel := h.below
                        clear h
                        refine gives_by (by simp only [Region.wanted, hg]; rfl) act.eval rfl ?_
                        generalize act.eval = ρ at *
                        intro hf hc
                        go_simp
                        exact ⟨Below.refl _ _, rfl⟩
                      · intro act wx h
                        have e5 : act.eval (.tmp 5) = .int .i64 (q : Int) := h.old 5 (by kernel_rfl)
                        have hg := h.guard 6 80 (by kernel_rfl) false (fun v hv => hv)
                        have hbel := h.below
                        clear h
                        refine gives_by (by simp only [Region.wanted, hg]; rfl) act.eval rfl ?_
                        generalize act.eval = ρ at *
                        intro hf hc
                        go_simp
                        exact ⟨Below.refl _ _, rfl⟩
                      · intro act wx h
                        obtain ⟨v83, e83, f83⟩ := h.val 9 83 (by kernel_rfl)
                        obtain rfl : v83 = .slice (some ⟨gl, 0, none⟩) L lc := f83
                        obtain ⟨v84, e84, f84⟩ := h.val 10 84 (by kernel_rfl)
                        obtain rfl : v84 = .int .i64 (q : Int) := f84
                        have hg := h.guard 6 80 (by kernel_rfl) false (fun v hv => hv)
                        have hbel := h.below
                        clear h
                        refine gives_by (by simp only [Region.wanted, hg]; rfl) act.eval rfl ?_
                        generalize act.eval = ρ at *
                        intro hf hc
                        go_simp
                        exact ⟨Below.refl _ _, rfl⟩
                      · intro act wx h
                        obtain ⟨v85, e85, f85⟩ := h.val 11 85 (by kernel_rfl)
                        obtain rfl : v85 = .pointer (some ⟨gl, q, none⟩) := f85
                        have hg := h.guard 6 80 (by kernel_rfl) false (fun v hv => hv)
                        have hbel := h.below
                        clear h
                        have cx := HLX.out wx hbel
                        refine gives_by (by simp only [Region.wanted, hg]; rfl) act.eval rfl ?_
                        generalize act.eval = ρ at *
                        intro hf hc
                        go_simp
                        exact ⟨Below.refl _ _, rfl⟩
                      · intro act wx h
                        obtain ⟨v82, e82, f82⟩ := h.val 8 82 (by kernel_rfl)
                        obtain rfl : v82 = .slice fo fn fc := f82
                        obtain ⟨v86, e86, f86⟩ := h.val 12 86 (by kernel_rfl)
                        obtain rfl : v86 = .int .i32 (r : Int) := f86
                        have hg := h.guard 6 80 (by kernel_rfl) false (fun v hv => hv)
                        have hbel := h.below
                        clear h
                        refine gives_by (by simp only [Region.wanted, hg]; rfl) act.eval rfl ?_
                        generalize act.eval = ρ at *
                        intro hf hc
                        go_simp
                        exact call_gives (HRU.out wx hbel) (fun _ => rfl)
                      · intro act wx h
                        have e4 : act.eval (.tmp 4) = .slice (some ⟨gl, 0, none⟩) L lc := h.old 4 (by kernel_rfl)
                        have hg := h.guard 6 80 (by kernel_rfl) false (fun v hv => hv)
                        have hbel := h.below
                        clear h
                        refine gives_by (by simp only [Region.wanted, hg]; rfl) act.eval rfl ?_
                        generalize act.eval = ρ at *
                        intro hf hc
                        go_simp
                        exact ⟨Below.refl _ _, rfl⟩
                      · intro act wx h
                        have e5 : act.eval (.tmp 5) = .int .i64 (q : Int) := h.old 5 (by kernel_rfl)
                        have hg := h.guard 6 80 (by kernel_rfl) false (fun v hv => hv)
                        have hbel := h.below
                        clear h
                        refine gives_by (by simp only [Region.wanted, hg]; rfl) act.eval rfl ?_
                        generalize act.eval = ρ at *
                        intro hf hc
                        go_simp
                        exact ⟨Below.refl _ _, rfl⟩
                      · intro act wx h
                        obtain ⟨v88, e88, f88⟩ := h.val 14 88 (by kernel_rfl)
                        obtain rfl : v88 = .slice (some ⟨gl, 0, none⟩) L lc := f88
                        obtain ⟨v89, e89, f89⟩ := h.val 15 89 (by kernel_rfl)
                        obtain rfl : v89 = .int .i64 (q : Int) := f89
                        have hg := h.guard 6 80 (by kernel_rfl) false (fun v hv => hv)
                        have hbel := h.below
                        clear h
                        refine gives_by (by simp only [Region.wanted, hg]; rfl) act.eval rfl ?_
                        generalize act.eval = ρ at *
                        intro hf hc
                        go_simp
                        exact ⟨Below.refl _ _, rfl⟩
                      · intro act wx h
                        obtain ⟨v90, e90, f90⟩ := h.val 16 90 (by kernel_rfl)
                        obtain rfl : v90 = .pointer (some ⟨gl, q, none⟩) := f90
                        have hg := h.guard 6 80 (by kernel_rfl) false (fun v hv => hv)
                        have hbel := h.below
                        clear h
                        have cx := HLX.out wx hbel
                        refine gives_by (by simp only [Region.wanted, hg]; rfl) act.eval rfl ?_
                        generalize act.eval = ρ at *
                        intro hf hc
                        go_simp
                        exact ⟨Below.refl _ _, rfl⟩
                      · intro act wx h
                        obtain ⟨v87, e87, f87⟩ := h.val 13 87 (by kernel_rfl)
                        obtain rfl : v87 = .int .i32 (r : Int) := f87
                        obtain ⟨v91, e91, f91⟩ := h.val 17 91 (by kernel_rfl)
                        obtain rfl : v91 = .int .i32 (r : Int) := f91
                        have hg := h.guard 6 80 (by kernel_rfl) false (fun v hv => hv)
                        have hbel := h.below
                        clear h
                        refine gives_by (by simp only [Region.wanted, hg]; rfl) act.eval rfl ?_
                        generalize act.eval = ρ at *
                        intro hf hc
                        go_simp
                        exact ⟨Below.refl _ _, by first | rfl | (simp [FL, isV]; done) | (simp [FL, isV]; omega)⟩
                      · intro act wx h
                        obtain ⟨v80, e80, f80⟩ := h.val 6 80 (by kernel_rfl)
                        obtain rfl : v80 = .bool false := f80
                        obtain ⟨v92, e92, f92⟩ := h.val 18 92 (by kernel_rfl)
                        obtain rfl : v92 = .bool false := f92
                        have hbel := h.below
                        clear h
                        refine gives_by rfl act.eval rfl ?_
                        generalize act.eval = ρ at *
                        intro hf hc
                        go_simp
                        exact ⟨Below.refl _ _, rfl⟩
                    · intro vals w8 hb8 hv
                      have hv93 : vals 19 = .bool false := hv 19 93 (by kernel_rfl)
                      clear hv
                      generalize hact : putAll _ vals 0 _ = act
                      have HB8 := hide hb8
                      clear hb8
                      subst hact
                      simp only [putAll, Act.put, List.setIfInBounds_toArray, List.set_cons_zero, List.set_cons_succ, hv93, Nat.zero_add, Nat.reduceAdd]
                      clear hv93
                      go_wp2
                      go_roundg GQ
                      case measure => omega
                      case rel => exact ⟨q + 1, by omega, by go_num, HNEXT.out, HBQ.out.trans (HB8.out.mono HBQ.out.size)⟩
                  · have hne : ¬ ((foldN us r : Nat) : Int) = (r : Int) := by omega
                    have HBADr : Hid (E = 140) := HNO.out (by unfold docOk; rw [decide_eq_false hfe, Bool.and_false])
                    obtain ⟨fr, hfr⟩ : ∃ fr, foldN us r = fr := ⟨_, rfl⟩
                    rw [hfr] at hne HRQ
                    have HRU := HRQ
                    clear HRQ HL0 hb hlr hfe hfr
                    go_wp2
                    refine wp_region_facts (FL [isV (.slice (some ⟨gl, 0, none⟩) L lc), isV (.int .i64 (q : Int)), isV (.pointer (some ⟨gl, q, none⟩)), isV (.int .i32 (r : Int)), isV (.bool true), isV (.bool false), isV (.bool false), isV (.pointer (some ⟨w.heap.size, 0, none⟩)), isV (.slice fo fn fc), isV (.slice (some ⟨gl, 0, none⟩) L lc), isV (.int .i64 (q : Int)), isV (.pointer (some ⟨gl, q, none⟩)), isV (.int .i32 (r : Int)), isV (.int .i32 (fr : Int)), isV (.slice (some ⟨gl, 0, none⟩) L lc), isV (.int .i64 (q : Int)), isV (.pointer (some ⟨gl, q, none⟩)), isV (.int .i32 (r : Int)), isV (.bool true), isV (.bool true)]) 94 (by kernel_rfl) (by kernel_rfl) (by kernel_rfl) rfl (FL_stable _ (by repeat (first | exact trivial | refine ⟨stable_isV _, ?_⟩))) ?_ ?_
                    · refine ⟨?_, ?_, ?_, ?_, ?_, ?_, ?_, ?_, ?_, ?_, ?_, ?_, ?_, ?_, ?_, ?_, ?_, ?_, ?_, ?_, trivial⟩
                      · intro act wx h
                        have e4 : act.eval (.tmp 4) = .slice (some ⟨gl, 0, none⟩) L lc := h.old 4 (by kernel_rfl)
                        have hbel := h.below
                        clear h
                        refine gives_by rfl act.eval rfl ?_
                        generalize act.eval = ρ at *
                        intro hf hc
                        go_simp
                        exact ⟨Below.refl _ _, rfl⟩
                      · intro act wx h
                        have e5 : act.eval (.tmp 5) = .int .i64 (q : Int) := h.old 5 (by kernel_rfl)
                        have hbel := h.below
                        clear h
                        refine gives_by rfl act.eval rfl ?_
                        generalize act.eval = ρ at *
                        intro hf hc
                        go_simp
                        exact ⟨Below.refl _ _, rfl⟩
                      · intro act wx h
                        obtain ⟨v74, e74, f74⟩ := h.val 0 74 (by kernel_rfl)
                        obtain rfl : v74 = .slice (some ⟨gl, 0, none⟩) L lc := f74
                        obtain ⟨v75, e75, f75⟩ := h.val 1 75 (by kernel_rfl)
                        obtain rfl : v75 = .int .i64 (q : Int) := f75
                        have hbel := h.below
                        clear h
                        refine gives_by rfl act.eval rfl ?_
                        generalize act.eval = ρ at *
                        intro hf hc
                        go_simp
                        exact ⟨Below.refl _ _, rfl⟩
                      · intro act wx h
                        obtain ⟨v76, e76, f76⟩ := h.val 2 76 (by kernel_rfl)
                        obtain rfl : v76 = .pointer (some ⟨gl, q, none⟩) := f76
                        have hbel := h.below
                        clear h
                        have cx := HLX.out wx hbel
                        refine gives_by rfl act.eval rfl ?_
                        generalize act.eval = ρ at *
                        intro hf hc
                        go_simp
                        exact ⟨Below.refl _ _, rfl⟩
                      · intro act wx h
                        obtain ⟨v77, e77, f77⟩ := h.val 3 77 (by kernel_rfl)
                        obtain rfl : v77 = .int .i32 (r : Int) := f77
                        have hbel := h.below
                        clear h
                        refine gives_by rfl act.eval rfl ?_
                        generalize act.eval = ρ at *
                        intro hf hc
                        go_simp
                        exact call_gives (HLT.out wx) (fun _ => rfl)
                      · intro act wx h
                        obtain ⟨v78, e78, f78⟩ := h.val 4 78 (by kernel_rfl)
                        obtain rfl : v78 = .bool true := f78
                        have hbel := h.below
                        clear h
                        refine gives_by rfl act.eval rfl ?_
                        generalize act.eval = ρ at *
                        intro hf hc
                        go_simp
                        exact ⟨Below.refl _ _, rfl⟩
                      · intro act wx h
                        obtain ⟨v79, e79, f79⟩ := h.val 5 79 (by kernel_rfl)
                        obtain rfl : v79 = .bool false := f79
                        have hbel := h.below
                        clear h
                        refine gives_by rfl act.eval rfl ?_
                        generalize act.eval = ρ at *
                        intro hf hc
                        go_simp
                        exact ⟨Below.refl _ _, rfl⟩
                      · intro act wx h
                        have e1 : act.eval (.tmp 1) = .pointer (some ⟨w.heap.size, 0, none⟩) := h.old 1 (by kernel_rfl)
                        have hg := h.guard 6 80 (by kernel_rfl) false (fun v hv => hv)
                        have hbel := h.below
                        clear h
                        refine gives_by (by simp only [Region.wanted, hg]; rfl) act.eval rfl ?_
                        generalize act.eval = ρ at *
                        intro hf hc
                        go_simp
                        exact ⟨Below.refl _ _, rfl⟩
                      · intro act wx h
                        obtain ⟨v81, e81, f81⟩ := h.val 7 81 (by kernel_rfl)
                        obtain rfl : v81 = .pointer (some ⟨w.heap.size, 0, none⟩) := f81
                        have hg := h.guard 6 80 (by kernel_rfl) false (fun v hv => hv)
                        have hbel := h.below
                        clear h
                        have cx := (HBX.out.below (HB3.out.trans (hbel.mono HB3.out.size)) HBX.out.lt).cell 0
                        refine gives_by (by simp only [Region.wanted, hg]; rfl) act.eval rfl ?_
                        generalize act.eval = ρ at *
                        intro hf hc
                        go_simp
                        exact ⟨Below.refl _ _, rfl⟩
                      · intro act wx h
                        have e4 : act.eval (.tmp 4) = .slice (some ⟨gl, 0, none⟩) L lc := h.old 4 (by kernel_rfl)
                        have hg := h.guard 6 80 (by kernel_rfl) false (fun v hv => hv)
                        have hbel := h.below
                        clear h
                        refine gives_by (by simp only [Region.wanted, hg]; rfl) act.eval rfl ?_
                        generalize act.eval = ρ at *
                        intro hf hc
                        go_simp
                        exact ⟨Below.refl _ _, rfl⟩
                      · intro act wx h
                        have e5 : act.eval (.tmp 5) = .int .i64 (q : Int) := h.old 5 (by kernel_rfl)
                        have hg := h.guard 6 80 (by kernel_rfl) false (fun v hv => hv)
                        have hbel := h.below
                        clear h
                        refine gives_by (by simp only [Region.wanted, hg]; rfl) act.eval rfl ?_
                        generalize act.eval = ρ at *
                        intro hf hc
                        go_simp
                        exact ⟨Below.refl _ _, rfl⟩
                      · intro act wx h
                        obtain ⟨v83, e83, f83⟩ := h.val 9 83 (by kernel_rfl)
                        obtain rfl : v83 = .slice (some ⟨gl, 0, none⟩) L lc := f83
                        obtain ⟨v84, e84, f84⟩ := h.val 10 84 (by kernel_rfl)
                        obtain rfl : v84 = .int .i64 (q : Int) := f84
                        have hg := h.guard 6 80 (by kernel_rfl) false (fun v hv => hv)
                        have hbel := h.below
                        clear h
                        refine gives_by (by simp only [Region.wanted, hg]; rfl) act.eval rfl ?_
                        generalize act.eval = ρ at *
                        intro hf hc
                        go_simp
                        exact ⟨Below.refl _ _, rfl⟩
                      · intro act wx h
                        obtain ⟨v85, e85, f85⟩ := h.val 11 85 (by kernel_rfl)
                        obtain rfl : v85 = .pointer (some ⟨gl, q, none⟩) := f85
                        have hg := h.guard 6 80 (by kernel_rfl) false (fun v hv => hv)
                        have hbel := h.below
                        clear h
                        have cx := HLX.out wx hbel
                        refine gives_by (by simp only [Region.wanted, hg]; rfl) act.eval rfl ?_
                        generalize act.eval = ρ at *
                        intro hf hc
                        go_simp
                        exact ⟨Below.refl _ _, rfl⟩
                      · intro act wx h
                        obtain ⟨v82, e82, f82⟩ := h.val 8 82 (by kernel_rfl)
                        obtain rfl : v82 = .slice fo fn fc := f82
                        obtain ⟨v86, e86, f86⟩ := h.val 12 86 (by kernel_rfl)
                        obtain rfl : v86 = .int .i32 (r : Int) := f86
                        have hg := h.guard 6 80 (by kernel_rfl) false (fun v hv => hv)
                        have hbel := h.below
                        clear h
                        refine gives_by (by simp only [Region.wanted, hg]; rfl) act.eval rfl ?_
                        generalize act.eval = ρ at *
                        intro hf hc
                        go_simp
                        exact call_gives (HRU.out wx hbel) (fun _ => rfl)
                      · intro act wx h
                        have e4 : act.eval (.tmp 4) = .slice (some ⟨gl, 0, none⟩) L lc := h.old 4 (by kernel_rfl)
                        have hg := h.guard 6 80 (by kernel_rfl) false (fun v hv => hv)
                        have hbel := h.below
                        clear h
                        refine gives_by (by simp only [Region.wanted, hg]; rfl) act.eval rfl ?_
                        generalize act.eval = ρ at *
                        intro hf hc
                        go_simp
                        exact ⟨Below.refl _ _, rfl⟩
                      · intro act wx h
                        have e5 : act.eval (.tmp 5) = .int .i64 (q : Int) := h.old 5 (by kernel_rfl)
                        have hg := h.guard 6 80 (by kernel_rfl) false (fun v hv => hv)
                        have hbel := h.below
                        clear h
                        refine gives_by (by simp only [Region.wanted, hg]; rfl) act.eval rfl ?_
                        generalize act.eval = ρ at *
                        intro hf hc
                        go_simp
                        exact ⟨Below.refl _ _, rfl⟩
                      · intro act wx h
                        obtain ⟨v88, e88, f88⟩ := h.val 14 88 (by kernel_rfl)
                        obtain rfl : v88 = .slice (some ⟨gl, 0, none⟩) L lc := f88
                        obtain ⟨v89, e89, f89⟩ := h.val 15 89 (by kernel_rfl)
                        obtain rfl : v89 = .int .i64 (q : Int) := f89
                        have hg := h.guard 6 80 (by kernel_rfl) false (fun v hv => hv)
                        have hbel := h.below
                        clear h
                        refine gives_by (by simp only [Region.wanted, hg]; rfl) act.eval rfl ?_
                        generalize act.eval = ρ at *
                        intro hf hc
                        go_simp
                        exact ⟨Below.refl _ _, rfl⟩
                      · intro act wx h
                        obtain ⟨v90, e90, f90⟩ := h.val 16 90 (by kernel_rfl)
                        obtain rfl : v90 = .pointer (some ⟨gl, q, none⟩) := f90
                        have hg := h.guard 6 80 (by kernel_rfl) false (fun v hv => hv)
                        have hbel := h.below
                        clear h
                        have cx := HLX.out wx hbel
                        refine gives_by (by simp only [Region.wanted, hg]; rfl) act.eval rfl ?_
                        generalize act.eval = ρ at *
                        intro hf hc
                        go_simp
                        exact ⟨Below.refl _ _, rfl⟩
                      · intro act wx h
                        obtain ⟨v87, e87, f87⟩ := h.val 13 87 (by kernel_rfl)
                        obtain rfl : v87 = .int .i32 (fr : Int) := f87
                        obtain ⟨v91, e91, f91⟩ := h.val 17 91 (by kernel_rfl)
                        obtain rfl : v91 = .int .i32 (r : Int) := f91
                        have hg := h.guard 6 80 (by kernel_rfl) false (fun v hv => hv)
                        have hbel := h.below
                        clear h
                        refine gives_by (by simp only [Region.wanted, hg]; rfl) act.eval rfl ?_
                        generalize act.eval = ρ at *
                        intro hf hc
                        go_simp
                        exact ⟨Below.refl _ _, by first | rfl | (simp [FL, isV]; done) | (simp [FL, isV]; omega)⟩
                      · intro act wx h
                        obtain ⟨v80, e80, f80⟩ := h.val 6 80 (by kernel_rfl)
                        obtain rfl : v80 = .bool false := f80
                        obtain ⟨v92, e92, f92⟩ := h.val 18 92 (by kernel_rfl)
                        obtain rfl : v92 = .bool true := f92
                        have hbel := h.below
                        clear h
                        refine gives_by rfl act.eval rfl ?_
                        generalize act.eval = ρ at *
                        intro hf hc
                        go_simp
                        exact ⟨Below.refl _ _, rfl⟩
                    · intro vals w8 hb8 hv
                      have hv93 : vals 19 = .bool true := hv 19 93 (by kernel_rfl)
                      clear hv
                      generalize hact : putAll _ vals 0 _ = act
                      have HB8 := hide hb8
                      clear hb8
                      subst hact
                      simp only [putAll, Act.put, List.setIfInBounds_toArray, List.set_cons_zero, List.set_cons_succ, hv93, Nat.zero_add, Nat.reduceAdd]
                      clear hv93
                      go_wp2
                      go_ret
                      exact ⟨ret_int HBADr.out.symm, HB1.out.trans ((HB3.out.trans (HB8.out.mono HB3.out.size)).mono HB1.out.size)⟩
          · rw [decide_eq_false hlt] at hge
            rw [decide_eq_false hlt, Bool.false_and, Bool.false_and] at HGS
            have HBADr : Hid (E = 140) := by show _ = _; rw [HE2.out, HGS.out]; rfl
            clear hd hA hzd hs hq0 hlt HGS hso' hoki hokj
            go_quiet (fail)
            go_wp2
            go_ret
            exact ⟨ret_int HBADr.out.symm, HB1.out.trans ((below_drewN HB6.out nq).mono HB1.out.size)⟩

end Go.Proofs.YtimmfnjkknbofaaDoor
/- Contracts: the document's Stop, Count, Tokens (incipitref14). -/
namespace Go.Proofs.YtimmfnjkknbofaaDoor
set_option maxRecDepth 20000
open Go.RowKit
set_option linter.unusedVariables false
set_option linter.unusedSimpArgs false
set_option maxRecDepth 100000

theorem TkO.base {w : World} {base base' : Nat} {v : Value} {xs : List Tk} (h : TkO w base v xs) (hb : base' ≤ base) : TkO w base' v xs := by
  refine ⟨h.1, ?_⟩
  rcases h.2 with h' | ⟨g, cap, cur, e, h1, r⟩
  · exact .inl h'
  · exact .inr ⟨g, cap, cur, e, Nat.le_trans hb h1, r⟩

set_option maxHeartbeats 1000000 in
theorem stopD_any (w : World) (v : Value) (C : Cn) (h : CnfV w v C) (hok : CnOk C) (z : List Int) (hz : ByteOk z) :
    Calls Tryd.prog 23 #[v, .string (strOfNums z)] w fun e w' => e = .returned (.bool (mayC C && decide (z ∈ C.ss))) ∧ Below w.heap.size w w' := by
  obtain ⟨fo, fc, so, sc, w1, rfl, hw1, hb1, hB, hT, hS⟩ := box_cnf w v C h
  have HCK : Hid (∀ W, Below w1.heap.size w1 W → Calls Tryd.prog 13 #[.agg #[.slice fo C.fs.length fc, .slice so C.ss.length sc, .int .i64 C.cap]] W fun e w' => e = .returned (.int .i64 (mayE C)) ∧ Below W.heap.size W w') := fun W hb => checkD_any W _ C (h.below (hb1.trans (hb.mono hb1.size))) hok
  have HS : Hid (∀ W, Below w1.heap.size w1 W → Strs W (.slice so C.ss.length sc) C.ss) := fun W hb => (hS.below hb1).below hb
  have HE : Hid (mayE C = if mayC C = true then 0 else 140) := rfl
  have HB1 := hide hb1
  have HBX := hide hB
  have hsl := hok.ss
  generalize mayE C = E at *
  generalize mayC C = M at *
  generalize hn : C.ss.length = n at *
  generalize hss : C.ss = ss at *
  have HN := hide hn
  have HZ := hide hz
  generalize C.cap = K at *
  generalize C.fs.length = fn at *
  obtain ⟨s, hs⟩ : ∃ s, strOfNums z = s := ⟨_, rfl⟩
  have HSZ := hide hs
  rw [hs]
  clear h hT hS hB hb1 hok hn hz hs hss
  go_enter Tryd.func23, Tryd.ntmps23
  go_wp2
  try rw [hw1]
  clear hw1
  go_loopg [5] n (fun k i wr => ∃ j : Nat, k + j = n ∧ i = .int .i64 (j : Int) ∧ z ∉ ss.take j ∧ Below w1.heap.size w1 wr)
  case atStart => exact ⟨0, by omega, rfl, by simp, Below.refl _ _⟩
  case round =>
    obtain ⟨j, hk, rfl, hno, hbw⟩ := hrel
    have HNO := hide hno
    have HB := hide hbw
    have c0 : wr.cell? ⟨w.heap.size, 0, none⟩ = some (.slice fo fn fc) := (HBX.out.below hbw HBX.out.lt).cell 0
    have c1 : wr.cell? ⟨w.heap.size, 1, none⟩ = some (.slice so n sc) := (HBX.out.below hbw HBX.out.lt).cell 1
    have c2 : wr.cell? ⟨w.heap.size, 2, none⟩ = some (.int .i64 K) := (HBX.out.below hbw HBX.out.lt).cell 2
    clear hno hbw
    cases gk with
    | zero =>
      obtain rfl : j = n := by omega
      have hlt : ¬ (j : Int) < (j : Int) := by omega
      have HR : Hid ((M && decide (z ∈ ss)) = false) := by
        have h1 := HNO.out
        rw [List.take_of_length_le (by rw [HN.out]; exact Nat.le_refl _)] at h1
        show _ = _
        rw [decide_eq_false h1, Bool.and_false]
      go_wp2
      go_ret
      exact ⟨ret_bool HR.out.symm, HB1.out.trans (HB.out.mono HB1.out.size)⟩
    | succ k =>
      have hj : (j : Int) < (n : Int) := by omega
      have hjl : j < ss.length := by rw [HN.out]; omega
      obtain ⟨b, off, hso, hx, hokj⟩ := (HS.out wr HB.out).at j hjl
      have hq := str_same hokj HZ.out
      rw [HSZ.out] at hq
      have HTK : Hid (ss.take (j + 1) = ss.take j ++ [ss[j]]) := List.take_succ_eq_append_getElem hjl
      by_cases he : ss[j] = z
      · rw [decide_eq_true he, beq_iff_eq] at hq
        have HR : Hid (decide (z ∈ ss) = true) := decide_eq_true (by rw [← he]; exact List.getElem_mem hjl)
        obtain ⟨q, hqd⟩ : ∃ q, strOfNums ss[j] = q := ⟨_, rfl⟩
        rw [hqd] at hx hq
        subst hso
        have HCK2 := hide (HCK.out wr HB.out)
        clear hokj he hqd HCK
        cases M with
        | true =>
          have hE := HE.out
          rw [if_pos rfl] at hE
          subst hE
          clear HE
          go_wp2_with (go_at_call 13; refine HCK2.out.mono ?_; rintro e w2 ⟨rfl, hb⟩; have HB2 := hide (HB.out.trans (hb.mono HB.out.size)); clear HCK2 hb)
          go_ret
          exact ⟨ret_bool (by rw [HR.out]; rfl), HB1.out.trans (HB2.out.mono HB1.out.size)⟩
        | false =>
          have hE := HE.out
          rw [if_neg (by simp)] at hE
          subst hE
          clear HE
          go_wp2_with (go_at_call 13; refine HCK2.out.mono ?_; rintro e w2 ⟨rfl, hb⟩; have HB2 := hide (HB.out.trans (hb.mono HB.out.size)); clear HCK2 hb)
          go_ret
          exact ⟨ret_bool (by rw [HR.out]; rfl), HB1.out.trans (HB2.out.mono HB1.out.size)⟩
      · rw [decide_eq_false he] at hq
        have hq2 : ¬ (strOfNums ss[j]).toList = s.toList := fun e => by rw [← beq_iff_eq, hq] at e; cases e
        have HNX : Hid (z ∉ ss.take (j + 1)) := by
          rw [HTK.out]
          intro h
          rcases List.mem_append.1 h with h | h
          · exact HNO.out h
          · exact he (List.mem_singleton.1 h).symm
        obtain ⟨q, hqd⟩ : ∃ q, strOfNums ss[j] = q := ⟨_, rfl⟩
        rw [hqd] at hx hq hq2
        subst hso
        clear hokj he hqd
        go_wp2
        go_roundg k
        case measure => omega
        case rel => exact ⟨j + 1, by omega, by go_num, HNX.out, HB.out⟩


set_option maxHeartbeats 2000000 in
theorem tokensD_any (w : World) (v : Value) (C : Cn) (h : CnfV w v C) (hok : CnOk C) (vt : Value) (zs : List Int) (hz : Sl w vt zs) (hl : zs.length ≤ 100000) :
    Calls Tryd.prog 50 #[v, vt] w fun e w' => ∃ u, e = .returned u ∧ TkO w' w.heap.size u (tokC C (rs zs)) ∧ Below w.heap.size w w' := by
  obtain ⟨fo, fc, so, sc, w1, rfl, hw1, hb1, hB, hT, hS⟩ := box_cnf w v C h
  have HCK := hide (checkD_any w1 _ C (h.below hb1) hok)
  have HST : Hid (∀ W z, Below w1.heap.size w1 W → ByteOk z → Calls Tryd.prog 23 #[.agg #[.slice fo C.fs.length fc, .slice so C.ss.length sc, .int .i64 C.cap], .string (strOfNums z)] W fun e w' => e = .returned (.bool (mayC C && decide (z ∈ C.ss))) ∧ Below W.heap.size W w') := fun W z hb hzo => stopD_any W _ C (h.below (hb1.trans (hb.mono hb1.size))) hok z hzo
  have HTM0 : Hid (∀ W B vr l, Below w1.heap.size w1 W → RnO W B vr l → l.length ≤ 100000 → (∀ r ∈ l, letN r = true) → Calls Tryd.prog 46 #[.agg #[.slice fo C.fs.length fc, .slice so C.ss.length sc, .int .i64 C.cap], vr] W fun e w' => e = .returned (.string (strOfNums (termZ (useL C.fs) C.cap.toNat l))) ∧ Below W.heap.size W w') := fun W B vr l hb hR hll hlet => termD_any W _ C (h.below (hb1.trans (hb.mono hb1.size))) B vr l hR hll hlet
  have HWD : Hid (∀ W, Below w1.heap.size w1 W → Calls Tryd.prog 45 #[vt] W fun e w' => ∃ u vs, e = .returned u ∧ WsO w' W.heap.size u (wds (rs zs)) vs ∧ Below W.heap.size W w') := fun W hb => wordsD_any W vt zs (hz.below (hb1.trans (hb.mono hb1.size))) hl
  have HE : Hid (mayE C = if mayC C = true then 0 else 140) := rfl
  have HIN := hide (wds_in (rs zs))
  have HEA : Hid (∀ x ∈ wds (rs zs), x.length ≤ 100000) := fun x hx => by have := wds_each (rs zs) x hx; have := rs_len zs; omega
  have hrl := rs_len zs
  have hwl := wds_len (rs zs)
  have HWN : Hid (∀ k l, (wds (rs zs))[k]? = some l → (wdsN (rs zs))[k]? = some (l, k)) := fun k l h => by
    obtain ⟨hk, e⟩ := List.getElem?_eq_some_iff.1 h
    have hk2 : k < (wdsN (rs zs)).length := by rw [wdsN_len]; exact hk
    rw [List.getElem?_eq_getElem hk2, wdsN_at (rs zs) k hk2, e]
  have HWL := hide (wdsN_len (rs zs))
  unfold tokC tokL
  have HB1 := hide hb1
  have HBX := hide hB
  have HCELL : Hid (∀ W, Below w1.heap.size w1 W → W.cell? ⟨w.heap.size, 0, none⟩ = some (.slice fo C.fs.length fc) ∧ W.cell? ⟨w.heap.size, 1, none⟩ = some (.slice so C.ss.length sc) ∧ W.cell? ⟨w.heap.size, 2, none⟩ = some (.int .i64 C.cap)) := fun W hb => by
    have hx := HBX.out.below hb HBX.out.lt
    exact ⟨hx.cell 0, hx.cell 1, hx.cell 2⟩
  have HTB : Hid (∀ p : List Nat × Nat, toldB (useL C.fs) C.cap.toNat C.ss p = !decide (termZ (useL C.fs) C.cap.toNat p.1 ∈ C.ss)) := fun p => rfl
  have HTO : Hid (∀ p : List Nat × Nat, tkOf (useL C.fs) C.cap.toNat p = (termZ (useL C.fs) C.cap.toNat p.1, p.2)) := fun p => rfl
  have HTZ : Hid (∀ l, ByteOk (termZ (useL C.fs) C.cap.toNat l)) := fun l => fmL_ok _
  generalize toldB (useL C.fs) C.cap.toNat C.ss = f at *
  generalize tkOf (useL C.fs) C.cap.toNat = g at *
  generalize termZ (useL C.fs) C.cap.toNat = tz at *
  generalize wdsN (rs zs) = WN at *
  generalize wds (rs zs) = WD at *
  generalize mayE C = E at *
  generalize mayC C = M at *
  obtain ⟨to, tn, tc, rfl⟩ := sl_form hz
  obtain ⟨fn, hfn⟩ : ∃ n, C.fs.length = n := ⟨_, rfl⟩
  obtain ⟨sn, hsn⟩ : ∃ n, C.ss.length = n := ⟨_, rfl⟩
  obtain ⟨K, hK⟩ : ∃ n, C.cap = n := ⟨_, rfl⟩
  rw [hfn] at hw1 HBX HCK HST HTM0 HCELL ⊢
  rw [hsn] at hw1 HBX HCK HST HTM0 HCELL ⊢
  rw [hK] at hw1 HBX HCK HST HTM0 HCELL ⊢
  obtain ⟨c0, c1, c2⟩ := HCELL.out w1 (Below.refl _ _)
  clear h hT hS hB hb1 hok hz hfn hsn hK
  cases M with
  | false =>
    have hE := HE.out
    rw [if_neg (by simp)] at hE
    subst hE
    clear HE HST HTM0 HWD
    go_enter Tryd.func50, Tryd.ntmps50
    go_wp2_with (go_at_call 13; refine HCK.out.mono ?_; rintro e w2 ⟨rfl, hb⟩; have HB2 := hide (HB1.out.trans (hb.mono HB1.out.size)); clear HCK hb)
    go_ret
    exact ⟨_, rfl, TkO.nil _ _, HB2.out⟩
  | true =>
    have hE := HE.out
    rw [if_pos rfl] at hE
    subst hE
    clear HE
    rw [if_pos rfl]
    go_enter Tryd.func50, Tryd.ntmps50
    go_wp2_with (first
      | (go_at_call 13; refine HCK.out.mono ?_; rintro e w2 ⟨rfl, hb⟩; have HB2 := hide hb; clear HCK hb)
      | (go_at_call 45; refine (HWD.out w2 HB2.out).mono ?_; rintro e w3 ⟨u, vs, rfl, hu, hb⟩; obtain ⟨al, lc, rfl⟩ := hu.shape; have HU := hide hu; have HB3 := hide (HB2.out.trans (hb.mono HB2.out.size)); clear HWD hu hb))
    clear c0 c1 c2 hw1
    obtain ⟨n, hn⟩ : ∃ n, WD.length = n := ⟨_, rfl⟩
    rw [hn] at HU ⊢
    have HN := hide hn
    have hnl : n ≤ 100000 := by omega
    have hnw := HWL.out
    rw [hn] at hnw
    have HNW := hide hnw
    clear hn hwl hrl hnw
    go_loopg [5, 7] n (fun k o i wr => ∃ (j : Nat) (oa : Option Addr) (oc x : Nat), k + j = n ∧ i = .int .i64 (j : Int) ∧ o = .slice oa x oc ∧ x = (((WN.take j).filter f).map g).length ∧ TkO wr w3.heap.size (.slice oa x oc) (((WN.take j).filter f).map g) ∧ Below w3.heap.size w3 wr)
    case atStart => exact ⟨0, none, 0, 0, by omega, rfl, rfl, rfl, TkO.nil _ _, Below.refl _ _⟩
    case round =>
      obtain ⟨j, oa, oc, x, hk, rfl, rfl, hx, ho, hbw⟩ := hrel
      have HX := hide hx
      have HO := hide ho
      have HBW := hide hbw
      have HB1R : Hid (Below w1.heap.size w1 wr) := HB3.out.trans (hbw.mono HB3.out.size)
      clear hx ho hbw
      cases gk with
      | zero =>
        obtain rfl : j = n := by omega
        have hlt : ¬ (j : Int) < (j : Int) := by omega
        go_wp2
        go_ret
        refine ⟨_, rfl, ?_, HB1.out.trans (HB1R.out.mono HB1.out.size)⟩
        have h1 := HO.out
        rw [List.take_of_length_le (by rw [HNW.out]; exact Nat.le_refl _)] at h1
        exact h1.base (by have := HB1.out.size; have := HB3.out.size; omega)
      | succ k =>
        have hj : (j : Int) < (n : Int) := by omega
        have hjW : j < WD.length := by rw [HN.out]; omega
        have hjN : j < WN.length := by rw [HNW.out]; omega
        obtain ⟨go, u, e, _, hcx, hur, hgl, _⟩ := HU.out.at j hjW
        subst e
        obtain ⟨l, hld⟩ : ∃ l, WD[j] = l := ⟨_, rfl⟩
        have hlm : l ∈ WD := by rw [← hld]; exact List.getElem_mem hjW
        have hwn : WN[j] = (l, j) := by
          have := HWN.out j l (by rw [List.getElem?_eq_getElem hjW, hld])
          rw [List.getElem?_eq_getElem hjN] at this
          exact Option.some.inj this
        rw [hld] at hur
        obtain ⟨ua, uc, hus⟩ := hur.shape
        obtain ⟨ul, hul⟩ : ∃ n, l.length = n := ⟨_, rfl⟩
        rw [hul] at hus
        have HGX : Hid (∀ W, Below wr.heap.size wr W → W.cell? ⟨go, j, none⟩ = some u) := fun W hw => by
          have h1 := HBW.out.block go hgl
          have h2 := hw.block go (by have := HBW.out.size; omega)
          exact (World.cell?_of_block (a := ⟨go, j, none⟩) (h2.trans h1)).trans hcx
        have HTM1 : Hid (∀ W, Below wr.heap.size wr W → Calls Tryd.prog 46 #[.agg #[.slice fo fn fc, .slice so sn sc, .int .i64 K], u] W fun e w' => e = .returned (.string (strOfNums (tz l))) ∧ Below W.heap.size W w') := fun W hw => HTM0.out W _ u l (HB1R.out.trans (hw.mono HB1R.out.size)) ((hur.below HBW.out).below hw) (HEA.out l hlm) (HIN.out l hlm).2
        have HZO := hide (HTZ.out l)
        have HSTT : Hid (∀ W, Below w1.heap.size w1 W → Calls Tryd.prog 23 #[.agg #[.slice fo fn fc, .slice so sn sc, .int .i64 K], .string (strOfNums (tz l))] W fun e w' => e = .returned (.bool (decide (tz l ∈ C.ss))) ∧ Below W.heap.size W w') := fun W hw => by
          have := HST.out W (tz l) hw HZO.out
          rwa [Bool.true_and] at this
        have hfl := HTB.out (l, j)
        have hgt := HTO.out (l, j)
        simp only at hfl hgt
        have hfs := filtK_step WN f j hjN
        rw [hwn, hfl] at hfs
        obtain ⟨t, ht⟩ : ∃ t, tz l = t := ⟨_, rfl⟩
        rw [ht] at HTM1 HSTT hgt hfs
        obtain ⟨s, hs⟩ : ∃ s, strOfNums t = s := ⟨_, rfl⟩
        have HS := hide hs
        rw [hs] at HTM1 HSTT
        have HTM := HTM1
        obtain ⟨A, hA⟩ : ∃ A, decide (t ∈ C.ss) = A := ⟨_, rfl⟩
        rw [hA] at HSTT hfs
        have HFS := hide hfs
        have HGT := hide hgt
        subst hus
        clear hcx hur hld hul hlm hwn hfl hgt hfs ht hs hA HZO HTM1
        go_wp2
        refine wp_region_facts (FL [isV (.agg #[.slice fo fn fc, .slice so sn sc, .int .i64 K]), isV (.slice (some ⟨go, 0, none⟩) n lc), isV (.int .i64 (j : Int)), isV (.pointer (some ⟨go, j, none⟩)), isV (.slice ua ul uc), isV (.string s), isV (.string s)]) 37 (by kernel_rfl) (by kernel_rfl) (by kernel_rfl) rfl (FL_stable _ (by repeat (first | exact trivial | refine ⟨stable_isV _, ?_⟩))) ?_ ?_
        · refine ⟨?_, ?_, ?_, ?_, ?_, ?_, ?_, trivial⟩
          · intro act wx h
            have e2 : act.eval (.tmp 2) = .pointer (some ⟨w.heap.size, 0, none⟩) := h.old 2 (by kernel_rfl)
            have hbel := h.below
            clear h
            obtain ⟨c0, c1, c2⟩ := HCELL.out wx (HB1R.out.trans (hbel.mono HB1R.out.size))
            refine gives_by rfl act.eval rfl ?_
            generalize act.eval = ρ at *
            intro hf hc
            go_simp
            exact ⟨Below.refl _ _, rfl⟩
          · intro act wx h
            have e6 : act.eval (.tmp 6) = .slice (some ⟨go, 0, none⟩) n lc := h.old 6 (by kernel_rfl)
            have hbel := h.below
            clear h
            refine gives_by rfl act.eval rfl ?_
            generalize act.eval = ρ at *
            intro hf hc
            go_simp
            exact ⟨Below.refl _ _, rfl⟩
          · intro act wx h
            have e7 : act.eval (.tmp 7) = .int .i64 (j : Int) := h.old 7 (by kernel_rfl)
            have hbel := h.below
            clear h
            refine gives_by rfl act.eval rfl ?_
            generalize act.eval = ρ at *
            intro hf hc
            go_simp
            exact ⟨Below.refl _ _, rfl⟩
          · intro act wx h
            obtain ⟨v21, e21, f21⟩ := h.val 1 21 (by kernel_rfl)
            obtain rfl : v21 = .slice (some ⟨go, 0, none⟩) n lc := f21
            obtain ⟨v22, e22, f22⟩ := h.val 2 22 (by kernel_rfl)
            obtain rfl : v22 = .int .i64 (j : Int) := f22
            have hbel := h.below
            clear h
            refine gives_by rfl act.eval rfl ?_
            generalize act.eval = ρ at *
            intro hf hc
            go_simp
            exact ⟨Below.refl _ _, rfl⟩
          · intro act wx h
            obtain ⟨v23, e23, f23⟩ := h.val 3 23 (by kernel_rfl)
            obtain rfl : v23 = .pointer (some ⟨go, j, none⟩) := f23
            have hbel := h.below
            clear h
            have cx := HGX.out wx hbel
            refine gives_by rfl act.eval rfl ?_
            generalize act.eval = ρ at *
            intro hf hc
            go_simp
            exact ⟨Below.refl _ _, rfl⟩
          · intro act wx h
            obtain ⟨v20, e20, f20⟩ := h.val 0 20 (by kernel_rfl)
            obtain rfl : v20 = .agg #[.slice fo fn fc, .slice so sn sc, .int .i64 K] := f20
            obtain ⟨v24, e24, f24⟩ := h.val 4 24 (by kernel_rfl)
            obtain rfl : v24 = .slice ua ul uc := f24
            have hbel := h.below
            clear h
            refine gives_by rfl act.eval rfl ?_
            generalize act.eval = ρ at *
            intro hf hc
            go_simp
            exact call_gives (HTM.out wx hbel) (fun _ => rfl)
          · intro act wx h
            obtain ⟨v25, e25, f25⟩ := h.val 5 25 (by kernel_rfl)
            obtain rfl : v25 = .string s := f25
            have hbel := h.below
            clear h
            refine gives_by rfl act.eval rfl ?_
            generalize act.eval = ρ at *
            intro hf hc
            go_simp
            exact ⟨Below.refl _ _, rfl⟩
        · intro vals w8 hb8 hv
          have hv8 : vals 6 = .string s := hv 6 8 (by kernel_rfl)
          clear hv
          generalize hact : putAll _ vals 0 _ = act
          have HB8 : Hid (Below w1.heap.size w1 w8) := HB1R.out.trans (hb8.mono HB1R.out.size)
          have HBW8 : Hid (Below w3.heap.size w3 w8) := HBW.out.trans (hb8.mono HBW.out.size)
          have HO8 : Hid (TkO w8 w3.heap.size (.slice oa x oc) (((WN.take j).filter f).map g)) := HO.out.only (Only.of_below (fun _ => False) hb8) (fun _ _ h => h)
          clear hb8
          subst hact
          simp only [putAll, Act.put, List.setIfInBounds_toArray, List.set_cons_zero, List.set_cons_succ, hv8, Nat.zero_add, Nat.reduceAdd]
          clear hv8
          obtain ⟨c0, c1, c2⟩ := HCELL.out w8 HB8.out
          cases A with
          | true =>
            go_wp2_with (go_at_call 23; refine (HSTT.out w8 HB8.out).mono ?_; rintro e w9 ⟨rfl, hb⟩; have HB9 := hide hb; clear HSTT hb)
            have HFX : Hid ((WN.take (j + 1)).filter f = (WN.take j).filter f) := by
              have := HFS.out
              show _ = _
              simpa using this
            go_roundg k
            case measure => omega
            case rel => exact ⟨j + 1, oa, oc, x, by omega, by go_num, rfl, by rw [HFX.out]; exact HX.out, by rw [HFX.out]; exact HO8.out.only (Only.of_below (fun _ => False) HB9.out) (fun _ _ h => h), HBW8.out.trans (HB9.out.mono HBW8.out.size)⟩
          | false =>
            have HFX : Hid (((WN.take (j + 1)).filter f).map g = ((WN.take j).filter f).map g ++ [(t, j)]) := by
              have := HFS.out
              simp only [Bool.not_false, if_true] at this
              show _ = _
              rw [this, List.map_append, List.map_cons, List.map_nil, HGT.out]
            have HXL : Hid (x ≤ 100000) := by
              show _ ≤ _
              rw [HX.out, List.length_map]
              have h1 := List.length_filter_le f (WN.take j)
              simp only [List.length_take] at h1
              omega
            have HPU : Hid (∀ W, Below w8.heap.size w8 W → ∃ a2 c2 W3, (Builtin.append_ #[46, 46] 46 #[.slice oa x oc, .slice (some ⟨W.heap.size, 0, none⟩) 1 1]).run Tryd.prog (W.alloc (.cells #[.string s, .int .i64 (j : Int)] 48)) = .ok (.slice a2 (x + 1) c2) W3 ∧ TkO W3 w3.heap.size (.slice a2 (x + 1) c2) (((WN.take (j + 1)).filter f).map g) ∧ Below w3.heap.size w3 W3) := fun W hW => by
              have hoW := HO8.out.only (Only.of_below (fun _ => False) hW) (fun _ _ h => h)
              have hs3 : w3.heap.size ≤ W.heap.size := by have := HBW8.out.size; have := hW.size; omega
              have hxl := HXL.out
              obtain ⟨v2, W3, hr, h1, h2, _, a2, c2, rfl⟩ := push_tok W w3.heap.size _ _ hoW (t, j) (by rw [← HX.out]; omega) hs3
              simp only at hr h2
              rw [HS.out] at hr h2
              rw [← HX.out] at hr h1
              refine ⟨a2, c2, W3, hr, by rw [HFX.out]; exact h1, ?_⟩
              have hoA : Only (fun q => (Value.slice oa x oc).ownBlock = some q) W W3 := ((Only.refl _ W).alloc _).grown h2 (fun q e _ => e)
              exact (HBW8.out.trans (hW.mono HBW8.out.size)).trans (hoA.below hs3 (fun q hq e => by have := (hoW.lt q e).1; omega))
            go_wp2_with (first
              | (go_at_call 23; refine (HSTT.out w8 HB8.out).mono ?_; rintro e w9 ⟨rfl, hb⟩; obtain ⟨a2, c2', W3, hr, hi, hb3⟩ := HPU.out w9 hb; have HR := hide hr; have HI := hide hi; have HB10 := hide hb3; clear HSTT HPU hb hr hi hb3)
              | (at_builtin; (with_reducible refine wpList_append_run _ rfl (.tmp 30) (.tmp 34) 46 rfl _ _ ?_ ?_ _ _ HR.out ?_); exact rfl; exact rfl; clear HR))
            go_roundg k
            case measure => omega
            case rel => exact ⟨j + 1, a2, c2', x + 1, by omega, by go_num, rfl, by rw [HFX.out, List.length_append, ← HX.out]; rfl, HI.out, HB10.out⟩

end Go.Proofs.YtimmfnjkknbofaaDoor
