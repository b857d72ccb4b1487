/- Contract: the document's Check of a way (incipitref14.Check). -/
import Derived.Test.YtimmfnjkknbofaaDoorJWdRt
import Derived.Test.YtimmfnjkknbofaaDoorJWdTerm
import Derived.BigQuiet
namespace Go.Proofs.YtimmfnjkknbofaaDoor
set_option maxRecDepth 20000
open Go.RowKit
set_option linter.unusedVariables false
set_option linter.unusedSimpArgs false
set_option maxRecDepth 100000

/-- a stop word, by the document -/
def docOk (us : List Fd) (r : Nat) : Bool := letN r && decide (foldN us r = r)
def docB (us : List Fd) (m : Nat) (z : List Int) : Bool := decide (1 ≤ (rs z).length) && decide ((rs z).length ≤ m) && (rs z).all (docOk us)
theorem fm_all : ∀ (n : Nat) (b : List Int), ByteOk b → b.length ≤ n → (∀ r ∈ rs b, letN r = true) → fmL (rs b) = b
  | 0, b, _, hl, _ => by
    obtain rfl : b = [] := List.eq_nil_of_length_eq_zero (by omega)
    rfl
  | n + 1, b, hb, hl, h => by
    by_cases hne : b = []
    · subst hne; rfl
    · rw [rs_on hne] at h ⊢
      obtain ⟨⟨t, ht⟩, h2⟩ := led_on hb hne (h _ (List.mem_cons_self ..))
      have hpos := (letN_len (h _ (List.mem_cons_self ..))).1
      rw [h2] at h ⊢
      rw [fmL_cons]
      obtain ⟨F, hF⟩ : ∃ F, formL ((decN b).1 : Int) = F := ⟨_, rfl⟩
      rw [hF] at ht hpos h ⊢
      have hd : b.drop F.length = t := by rw [← ht]; simp
      rw [hd] at h ⊢
      rw [fm_all n t (fun z hz => hb z (by rw [← ht]; exact List.mem_append_right _ hz)) (by
        have h3 := congrArg List.length ht
        simp only [List.length_append] at h3
        omega) (fun r hr => h r (List.mem_cons_of_mem _ hr)), ht]
theorem own_doc (xs : List Fd) (m : Nat) (z : List Int) (hz : ByteOk z) : ownB (useL xs) m z = docB (useL xs) m z := by
  rw [Bool.eq_iff_iff]
  unfold ownB docB
  simp only [Bool.and_eq_true, decide_eq_true_iff, List.all_eq_true, docOk]
  constructor
  · rintro ⟨⟨h0, h1⟩, h2⟩
    obtain ⟨hal, hfm⟩ := led_all h1
    have hne : rs z ≠ [] := fun e => by rw [e] at hfm; exact h0 hfm.symm
    have ht : termR (useL xs) m (rs z) = rs z := by
      refine fmL_inj (fun r hr => letN_rune (termR_let xs m hal r hr)) (fun r hr => letN_rune (hal r hr)) ?_
      rw [hfm]
      exact h2
    have hlen := congrArg List.length ht
    unfold termR at hlen ht
    rw [List.length_map, List.length_take] at hlen
    refine ⟨⟨List.length_pos_iff.2 hne, by omega⟩, fun r hr => ⟨hal r hr, ?_⟩⟩
    rw [List.take_of_length_le (by omega)] at ht
    obtain ⟨i, hi, rfl⟩ := List.mem_iff_getElem.1 hr
    have := List.getElem_map (foldN (useL xs)) (l := rs z) (i := i) (h := by simpa using hi)
    rw [← this]
    simp only [ht]
  · rintro ⟨⟨h0, h1⟩, h2⟩
    have hal : ∀ r ∈ rs z, letN r = true := fun r hr => (h2 r hr).1
    have hfm := fm_all _ z hz (Nat.le_refl _) hal
    have hled : ledR z = rs z := by
      unfold ledR
      exact (takeWhile_eq (rs z) hal).1
    refine ⟨⟨fun e => ?_, by rw [hled]; exact hfm⟩, ?_⟩
    · rw [e, rs_nil] at h0
      simp at h0
    · unfold termZ termR
      rw [List.take_of_length_le h1, List.map_congr_left (g := id) (fun r hr => (h2 r hr).2), List.map_id]
      exact hfm

set_option maxHeartbeats 4000000 in
theorem checkD_any (w : World) (v : Value) (C : Cn) (h : CnfV w v C) (hok : CnOk C) :
    Calls Tryd.prog 13 #[v] w fun e w' => e = .returned (.int .i64 (mayE C)) ∧ Below w.heap.size w w' := by
  obtain ⟨fo, fc, so, sc, w1, rfl, hw1, hb1, hB, hT, hS⟩ := box_cnf w v C h
  have HCK := hide (refCheck_any w1 _ C.fs (hT.below hb1))
  have HRU0 : Hid (∀ W r, Below w1.heap.size w1 W → letN r = true → Calls Tryd.prog 41 #[.slice fo C.fs.length fc, .int .i32 (r : Int)] W fun e w' => e = .returned (.int .i32 ((foldN (useL C.fs) r : Nat) : Int)) ∧ Below W.heap.size W w') := fun W r hb hr => by
    rw [foldN_at C.fs (letN_rune hr)]
    exact refRune_any W _ C.fs r (hT.below (hb1.trans (hb.mono hb1.size))) (by have := letN_lt hr; constructor <;> omega)
  have HS : Hid (∀ W, Below w1.heap.size w1 W → Strs W (.slice so C.ss.length sc) C.ss) := fun W hb => (hS.below hb1).below hb
  have HE : Hid (mayE C = if (tblB C.fs && decide (1 ≤ C.cap) && decide (C.cap ≤ 12) && stopsB (useL C.fs) C.cap.toNat C.ss) = true then 0 else 140) := rfl
  have HT : Hid (tblE C.fs = if tblB C.fs = true then 0 else 130) := rfl
  have HOD : Hid (∀ m z, ByteOk z → ownB (useL C.fs) m z = docB (useL C.fs) m z) := fun m z hz => own_doc C.fs m z hz
  have HSB : Hid (∀ m, stopsB (useL C.fs) m C.ss = (decide (C.ss.length ≤ 32) && goS (useL C.fs) m none C.ss)) := fun m => rfl
  have HB1 := hide hb1
  have HBX := hide hB
  have hlo := hok.lo
  have hhi := hok.hi
  have hsl := hok.ss
  have HEACH := hide hok.each
  generalize tblE C.fs = TE at *
  generalize tblB C.fs = T at *
  generalize mayE C = E at *
  generalize useL C.fs = us at *
  generalize C.fs.length = fn at *
  generalize hn : C.ss.length = n at *
  generalize hss : C.ss = ss at *
  have HN := hide hn
  generalize C.cap = K at *
  have c0 : w1.cell? ⟨w.heap.size, 0, none⟩ = some (.slice fo fn fc) := hB.cell 0
  clear h hT hS hB hb1 hok hn
  cases T with
  | false =>
    have ht := HT.out
    rw [if_neg (by simp)] at ht
    subst ht
    have HE2 : Hid (E = 140) := by show _ = _; rw [HE.out]; simp
    clear HS HE HT HRU0
    go_enter Tryd.func13, Tryd.ntmps13
    go_wp2_with (go_at_call 38; refine HCK.out.mono ?_; rintro e w2 ⟨rfl, hb⟩; have HB2 := hide (HB1.out.trans (hb.mono HB1.out.size)); clear HCK hb)
    go_ret
    exact ⟨ret_int HE2.out.symm, HB2.out⟩
  | true =>
    have ht := HT.out
    rw [if_pos rfl] at ht
    subst ht
    by_cases h1 : K < 1
    · have HE2 : Hid (E = 140) := by show _ = _; rw [HE.out, decide_eq_false (show ¬ 1 ≤ K by omega)]; simp
      clear HS HE HT HRU0
      go_enter Tryd.func13, Tryd.ntmps13
      go_wp2_with (go_at_call 38; refine HCK.out.mono ?_; rintro e w2 ⟨rfl, hb⟩; have HB2 := hide (HB1.out.trans (hb.mono HB1.out.size)); have c2 : w2.cell? ⟨w.heap.size, 2, none⟩ = some (.int .i64 K) := (HBX.out.below hb HBX.out.lt).cell 2; clear HCK hb)
      go_ret
      exact ⟨ret_int HE2.out.symm, HB2.out⟩
    by_cases h2 : 12 < K
    · have HE2 : Hid (E = 140) := by show _ = _; rw [HE.out, decide_eq_false (show ¬ K ≤ 12 by omega)]; simp
      clear HS HE HT HRU0
      go_enter Tryd.func13, Tryd.ntmps13
      go_wp2_with (go_at_call 38; refine HCK.out.mono ?_; rintro e w2 ⟨rfl, hb⟩; have HB2 := hide (HB1.out.trans (hb.mono HB1.out.size)); have c2 : w2.cell? ⟨w.heap.size, 2, none⟩ = some (.int .i64 K) := (HBX.out.below hb HBX.out.lt).cell 2; clear HCK hb)
      go_ret
      exact ⟨ret_int HE2.out.symm, HB2.out⟩
    by_cases h3 : 32 < n
    · have h3i : (32 : Int) < (n : Int) := by omega
      have HE2 : Hid (E = 140) := by show _ = _; rw [HE.out, HSB.out, decide_eq_false (show ¬ n ≤ 32 by omega)]; simp
      clear HS HE HT HRU0 HSB
      go_enter Tryd.func13, Tryd.ntmps13
      go_wp2_with (go_at_call 38; refine HCK.out.mono ?_; rintro e w2 ⟨rfl, hb⟩; have HB2 := hide (HB1.out.trans (hb.mono HB1.out.size)); have c2 : w2.cell? ⟨w.heap.size, 2, none⟩ = some (.int .i64 K) := (HBX.out.below hb HBX.out.lt).cell 2; have c1 : w2.cell? ⟨w.heap.size, 1, none⟩ = some (.slice so n sc) := (HBX.out.below hb HBX.out.lt).cell 1; clear HCK hb)
      go_ret
      exact ⟨ret_int HE2.out.symm, HB2.out⟩
    obtain ⟨m, rfl⟩ : ∃ m : Nat, K = (m : Int) := ⟨K.toNat, by omega⟩
    have h3i : ¬ (32 : Int) < (n : Int) := by omega
    have HE2 : Hid (E = if goS us m none ss = true then 0 else 140) := by
      show _ = _
      rw [HE.out, HSB.out, decide_eq_true (show n ≤ 32 by omega), decide_eq_true (show 1 ≤ (m : Int) by omega), decide_eq_true (show (m : Int) ≤ 12 by omega)]
      simp
    clear HE HT HSB
    go_enter Tryd.func13, Tryd.ntmps13
    go_wp2_with (go_at_call 38; refine HCK.out.mono ?_; rintro e w2 ⟨rfl, hb⟩; have HB2 := hide hb; have c2 : w2.cell? ⟨w.heap.size, 2, none⟩ = some (.int .i64 (m : Int)) := (HBX.out.below hb HBX.out.lt).cell 2; have c1 : w2.cell? ⟨w.heap.size, 1, none⟩ = some (.slice so n sc) := (HBX.out.below hb HBX.out.lt).cell 1; clear HCK hb)
    clear c0 c1 c2
    go_loopg [3] n (fun k i wr => ∃ j : Nat, k + j = n ∧ i = .int .i64 (j : Int) ∧ goS us m (prevS ss j) (ss.drop j) = goS us m none ss ∧ Below w1.heap.size w1 wr)
    case atStart => exact ⟨0, rfl, rfl, rfl, HB2.out⟩
    case round =>
      clear HB2
      obtain ⟨j, hk, rfl, hg, hbw⟩ := hrel
      have HG := hide hg
      have HB := hide hbw
      have c0 : wr.cell? ⟨w.heap.size, 0, none⟩ = some (.slice fo fn fc) := (HBX.out.below hbw HBX.out.lt).cell 0
      have c1 : wr.cell? ⟨w.heap.size, 1, none⟩ = some (.slice so n sc) := (HBX.out.below hbw HBX.out.lt).cell 1
      clear hg hbw
      cases gk with
      | zero =>
        obtain rfl : j = n := by omega
        have hlt : ¬ (j : Int) < (j : Int) := by omega
        have HE3 : Hid (E = 0) := by
          show _ = _
          rw [HE2.out, if_pos]
          rw [← HG.out, List.drop_eq_nil_of_le (by rw [HN.out]; exact Nat.le_refl _)]
          cases prevS ss j <;> rfl
        clear c0
        go_wp2
        go_ret
        exact ⟨ret_int HE3.out.symm, HB1.out.trans (HB.out.mono HB1.out.size)⟩
      | succ k =>
        have hj : (j : Int) < (n : Int) := by omega
        have hjl : j < ss.length := by rw [HN.out]; omega
        obtain ⟨b, off, hso, hx, hokj⟩ := (HS.out wr HB.out).at j hjl
        have hd := dropS_at hjl
        have hzl := HEACH.out ss[j] (List.getElem_mem hjl)
        obtain ⟨A, hA⟩ : ∃ A, ownB us m ss[j] = A := ⟨_, rfl⟩
        have hAD : A = docB us m ss[j] := by rw [← hA, HOD.out m _ hokj]
        obtain ⟨z, hzd⟩ : ∃ z, ss[j] = z := ⟨_, rfl⟩
        obtain ⟨c5, w5, hcv, hsl5, hb5⟩ := conv_sl wr ss[j] hokj (by omega)
        rw [hzd] at hx hAD hcv hsl5 hzl
        have HRN := hide (runesD_any w5 _ z hsl5 (by omega))
        have HB5 : Hid (Below w1.heap.size w1 w5) := HB.out.trans (hb5.mono HB.out.size)
        have HADD : Hid (A = (decide (1 ≤ (rs z).length) && decide ((rs z).length ≤ m) && (rs z).all (docOk us))) := hAD
        have hrl := rs_len z
        have HRI : Hid (∀ r ∈ rs z, I32 (r : Int)) := fun r hr => by
          obtain ⟨q, hq, rfl⟩ := List.mem_map.1 hr
          have := runesN_i32 z _ hq
          constructor <;> omega
        generalize rs z = R at *
        have HA0 : Hid (A = false → E = 140) := fun e => by
          rw [HE2.out, if_neg]
          rw [← HG.out, hd]
          cases prevS ss j <;> simp [goS, hA, e]
        obtain ⟨L, hL⟩ : ∃ L, R.length = L := ⟨_, rfl⟩
        have HLL := hide hL
        have hLl : (L : Int) ≤ 1000 := by omega
        rw [hL] at HADD
        clear c0 hsl5 hb5 hAD hrl
        subst hso
        go_wp2_with (go_at_call 39; refine HRN.out.mono ?_; rintro e w6 ⟨u, rfl, hu, hb⟩; obtain ⟨al, lc, rfl⟩ := hu.shape; rw [HLL.out] at hu ⊢; have HU := hide hu; have HB6 := hide (HB5.out.trans (hb.mono HB5.out.size)); clear HRN hu hb)
        clear c1 hx hcv hL
        have c1 : w6.cell? ⟨w.heap.size, 1, none⟩ = some (.slice (some ⟨b, off, none⟩) n sc) := (HBX.out.below HB6.out HBX.out.lt).cell 1
        have c2 : w6.cell? ⟨w.heap.size, 2, none⟩ = some (.int .i64 (m : Int)) := (HBX.out.below HB6.out HBX.out.lt).cell 2
        obtain ⟨b', off', hso', hx, _⟩ := (HS.out w6 HB6.out).at j hjl
        obtain ⟨rfl, rfl⟩ : b = b' ∧ off = off' := by simpa using hso'
        by_cases hL1 : L < 1
        · have hL1i : (L : Int) < 1 := by omega
          have HBADr : Hid (E = 140) := HA0.out (by rw [HADD.out, decide_eq_false (show ¬ 1 ≤ L by omega)]; simp)
          go_quiet (fail)
          go_wp2
          go_ret
          exact ⟨ret_int HBADr.out.symm, HB1.out.trans ((below_drewN HB6.out nq).mono HB1.out.size)⟩
        have hL1i : ¬ (L : Int) < 1 := by omega
        by_cases hLm : m < L
        · have hLmi : (m : Int) < (L : Int) := by omega
          have HBADr : Hid (E = 140) := HA0.out (by rw [HADD.out, decide_eq_false (show ¬ L ≤ m by omega)]; simp)
          go_quiet (fail)
          go_wp2
          go_ret
          exact ⟨ret_int HBADr.out.symm, HB1.out.trans ((below_drewN HB6.out nq).mono HB1.out.size)⟩
        have hLmi : ¬ (m : Int) < (L : Int) := by omega
        have HADA : Hid (A = R.all (docOk us)) := by show _ = _; rw [HADD.out, decide_eq_true (show 1 ≤ L by omega), decide_eq_true (show L ≤ m by omega)]; simp
        clear HADD hso'
        by_cases h0 : j = 0
        · have hi0 : ¬ (0 : Int) < (j : Int) := by omega
          have hi0d : decide ((0 : Int) < (j : Int)) = false := decide_eq_false hi0
          have HGS : Hid (goS us m none ss = (A && goS us m (prevS ss (j + 1)) (ss.drop (j + 1)))) := by
            show _ = _
            rw [← HG.out, hd, ← hA]
            subst h0
            show (_ && _) = (_ && goS us m (ss[0]?) _)
            rw [List.getElem?_eq_getElem hjl]
          have HGO : Hid (A = true → goS us m (prevS ss (j + 1)) (ss.drop (j + 1)) = goS us m none ss) := fun e => by
            rw [HGS.out, e, Bool.true_and]
          clear hd hA hzd hi0 hi0d
          subst h0
          go_quiet (fail)
          go_wp2
          obtain ⟨w7, hw7⟩ : ∃ w7, w6.drewN nq = w7 := ⟨_, rfl⟩
          have HB7 : Hid (Below w1.heap.size w1 w7) := by rw [← hw7]; exact below_drewN HB6.out nq
          have HU7 : Hid (RnO w7 w5.heap.size (.slice al L lc) R) := by rw [← hw7]; exact HU.out.below (below_drewN (Below.refl _ w6) nq)
          rw [hw7]
          clear c1 c2 hx HU HB6 hw7
          go_loopg [5] L (fun k i wr2 => ∃ q : Nat, k + q = L ∧ i = .int .i64 (q : Int) ∧ (∀ r ∈ R.take q, docOk us r = true) ∧ Below w7.heap.size w7 wr2)
          case atStart => exact ⟨0, by omega, rfl, (fun r hr => by simp at hr), Below.refl _ w7⟩
          case round =>
            obtain ⟨q, hkq, rfl, hqs, hbq⟩ := hrel
            have HQS := hide hqs
            have HBQ := hide hbq
            have HB3 : Hid (Below w1.heap.size w1 wr) := HB7.out.trans (hbq.mono HB7.out.size)
            clear hqs hbq
            cases gk with
            | zero =>
              obtain rfl : q = L := by omega
              have hqq : ¬ (q : Int) < (q : Int) := by omega
              have HGT := hide (HGO.out (by
                rw [HADA.out, List.all_eq_true]
                have := HQS.out
                rwa [List.take_of_length_le (by rw [HLL.out]; exact Nat.le_refl _)] at this))
              go_wp2
              go_roundg k
              case measure => omega
              case rel => exact ⟨0 + 1, by omega, by go_num, HGT.out, HB3.out⟩
            | succ GQ =>
              have hqi : (q : Int) < (L : Int) := by omega
              have hqR : q < R.length := by rw [HLL.out]; omega
              obtain ⟨gl, e, _, hgl, hcx⟩ := HU7.out.at q hqR
              subst e
              obtain ⟨r, hr⟩ : ∃ r, R[q] = r := ⟨_, rfl⟩
              rw [hr] at hcx
              have hrm : r ∈ R := by rw [← hr]; exact List.getElem_mem hqR
              have HLX : Hid (∀ W, Below wr.heap.size wr W → W.cell? ⟨gl, q, none⟩ = some (.int .i32 (r : Int))) := fun W hw => by
                have h1 := HBQ.out.block gl hgl
                have h2 := hw.block gl (by have := HBQ.out.size; omega)
                exact (World.cell?_of_block (a := ⟨gl, q, none⟩) (h2.trans h1)).trans hcx
              have HL0 : Hid (∀ wx, Calls Tryd.prog 40 #[.int .i32 (r : Int)] wx fun e w' => e = .returned (.bool (letB (r : Int))) ∧ Below wx.heap.size wx w') := fun wx => (refLetter_any wx _ (HRI.out r hrm)).mono (by rintro e w' ⟨rfl, rfl⟩; exact ⟨rfl, Below.refl _ _⟩)
              have HTK : Hid (∀ x ∈ R.take (q + 1), x ∈ R.take q ∨ x = r) := fun x hx => by
                rw [List.take_succ_eq_append_getElem hqR, hr] at hx
                rcases List.mem_append.1 hx with h | h
                · exact .inl h
                · exact .inr (List.mem_singleton.1 h)
              have HNO : Hid (docOk us r = false → E = 140) := fun e => HA0.out (by
                rw [HADA.out, Bool.eq_false_iff]
                intro e2
                rw [List.all_eq_true] at e2
                rw [e2 r hrm] at e
                cases e)
              have HKQ := hide hkq
              clear hcx hr hqR hkq
              cases hb : letB (r : Int) with
              | false =>
                have HBADr : Hid (E = 140) := HNO.out (by unfold docOk letN; rw [hb]; rfl)
                rw [hb] at HL0
                have HLT := HL0
                clear HL0 hb
                go_wp2
                refine wp_region_facts (FL [isV (.slice (some ⟨gl, 0, none⟩) L lc), isV (.int .i64 (q : Int)), isV (.pointer (some ⟨gl, q, none⟩)), isV (.int .i32 (r : Int)), isV (.bool false), isV (.bool true), isV (.bool true), isV (undef), isV (undef), isV (undef), isV (undef), isV (undef), isV (undef), isV (undef), isV (undef), isV (undef), isV (undef), isV (undef), isV (undef), isV (.bool true)]) 94 (by kernel_rfl) (by kernel_rfl) (by kernel_rfl) rfl (FL_stable _ (by repeat (first | exact trivial | refine ⟨stable_isV _, ?_⟩))) ?_ ?_
                · refine ⟨?_, ?_, ?_, ?_, ?_, ?_, ?_, ?_, ?_, ?_, ?_, ?_, ?_, ?_, ?_, ?_, ?_, ?_, ?_, ?_, trivial⟩
                  · intro act wx h
                    have e4 : act.eval (.tmp 4) = .slice (some ⟨gl, 0, none⟩) L lc := h.old 4 (by kernel_rfl)
                    have hbel := h.below
                    clear h
                    refine gives_by rfl act.eval rfl ?_
                    generalize act.eval = ρ at *
                    intro hf hc
                    go_simp
                    exact ⟨Below.refl _ _, rfl⟩
                  · intro act wx h
                    have e5 : act.eval (.tmp 5) = .int .i64 (q : Int) := h.old 5 (by kernel_rfl)
                    have hbel := h.below
                    clear h
                    refine gives_by rfl act.eval rfl ?_
                    generalize act.eval = ρ at *
                    intro hf hc
                    go_simp
                    exact ⟨Below.refl _ _, rfl⟩
                  · intro act wx h
                    obtain ⟨v74, e74, f74⟩ := h.val 0 74 (by kernel_rfl)
                    obtain rfl : v74 = .slice (some ⟨gl, 0, none⟩) L lc := f74
                    obtain ⟨v75, e75, f75⟩ := h.val 1 75 (by kernel_rfl)
                    obtain rfl : v75 = .int .i64 (q : Int) := f75
                    have hbel := h.below
                    clear h
                    refine gives_by rfl act.eval rfl ?_
                    generalize act.eval = ρ at *
                    intro hf hc
                    go_simp
                    exact ⟨Below.refl _ _, rfl⟩
                  · intro act wx h
                    obtain ⟨v76, e76, f76⟩ := h.val 2 76 (by kernel_rfl)
                    obtain rfl : v76 = .pointer (some ⟨gl, q, none⟩) := f76
                    have hbel := h.below
                    clear h
                    have cx := HLX.out wx hbel
                    refine gives_by rfl act.eval rfl ?_
                    generalize act.eval = ρ at *
                    intro hf hc
                    go_simp
                    exact ⟨Below.refl _ _, rfl⟩
                  · intro act wx h
                    obtain ⟨v77, e77, f77⟩ := h.val 3 77 (by kernel_rfl)
                    obtain rfl : v77 = .int .i32 (r : Int) := f77
                    have hbel := h.below
                    clear h
                    refine gives_by rfl act.eval rfl ?_
                    generalize act.eval = ρ at *
                    intro hf hc
                    go_simp
                    exact call_gives (HLT.out wx) (fun _ => rfl)
                  · intro act wx h
                    obtain ⟨v78, e78, f78⟩ := h.val 4 78 (by kernel_rfl)
                    obtain rfl : v78 = .bool false := f78
                    have hbel := h.below
                    clear h
                    refine gives_by rfl act.eval rfl ?_
                    generalize act.eval = ρ at *
                    intro hf hc
                    go_simp
                    exact ⟨Below.refl _ _, rfl⟩
                  · intro act wx h
                    obtain ⟨v79, e79, f79⟩ := h.val 5 79 (by kernel_rfl)
                    obtain rfl : v79 = .bool true := f79
                    have hbel := h.below
                    clear h
                    refine gives_by rfl act.eval rfl ?_
                    generalize act.eval = ρ at *
                    intro hf hc
                    go_simp
                    exact ⟨Below.refl _ _, rfl⟩
                  · intro act wx h
                    have hg := h.guard 6 80 (by kernel_rfl) true (fun v hv => hv)
                    clear h
                    exact gives_off (by simp only [Region.wanted, hg]; rfl) ⟨Below.refl _ _, rfl⟩
                  · intro act wx h
                    have hg := h.guard 6 80 (by kernel_rfl) true (fun v hv => hv)
                    clear h
                    exact gives_off (by simp only [Region.wanted, hg]; rfl) ⟨Below.refl _ _, rfl⟩
                  · intro act wx h
                    have hg := h.guard 6 80 (by kernel_rfl) true (fun v hv => hv)
                    clear h
                    exact gives_off (by simp only [Region.wanted, hg]; rfl) ⟨Below.refl _ _, rfl⟩
                  · intro act wx h
                    have hg := h.guard 6 80 (by kernel_rfl) true (fun v hv => hv)
                    clear h
                    exact gives_off (by simp only [Region.wanted, hg]; rfl) ⟨Below.refl _ _, rfl⟩
                  · intro act wx h
                    have hg := h.guard 6 80 (by kernel_rfl) true (fun v hv => hv)
                    clear h
                    exact gives_off (by simp only [Region.wanted, hg]; rfl) ⟨Below.refl _ _, rfl⟩
                  · intro act wx h
                    have hg := h.guard 6 80 (by kernel_rfl) true (fun v hv => hv)
                    clear h
                    exact gives_off (by simp only [Region.wanted, hg]; rfl) ⟨Below.refl _ _, rfl⟩
                  · intro act wx h
                    have hg := h.guard 6 80 (by kernel_rfl) true (fun v hv => hv)
                    clear h
                    exact gives_off (by simp only [Region.wanted, hg]; rfl) ⟨Below.refl _ _, rfl⟩
                  · intro act wx h
                    have hg := h.guard 6 80 (by kernel_rfl) true (fun v hv => hv)
                    clear h
                    exact gives_off (by simp only [Region.wanted, hg]; rfl) ⟨Below.refl _ _, rfl⟩
                  · intro act wx h
                    have hg := h.guard 6 80 (by kernel_rfl) true (fun v hv => hv)
                    clear h
                    exact gives_off (by simp only [Region.wanted, hg]; rfl) ⟨Below.refl _ _, rfl⟩
                  · intro act wx h
                    have hg := h.guard 6 80 (by kernel_rfl) true (fun v hv => hv)
                    clear h
                    exact gives_off (by simp only [Region.wanted, hg]; rfl) ⟨Below.refl _ _, rfl⟩
                  · intro act wx h
                    have hg := h.guard 6 80 (by kernel_rfl) true (fun v hv => hv)
                    clear h
                    exact gives_off (by simp only [Region.wanted, hg]; rfl) ⟨Below.refl _ _, rfl⟩
                  · intro act wx h
                    have hg := h.guard 6 80 (by kernel_rfl) true (fun v hv => hv)
                    clear h
                    exact gives_off (by simp only [Region.wanted, hg]; rfl) ⟨Below.refl _ _, rfl⟩
                  · intro act wx h
                    obtain ⟨v80, e80, f80⟩ := h.val 6 80 (by kernel_rfl)
                    obtain rfl : v80 = .bool true := f80
                    obtain ⟨v92, e92, f92⟩ := h.val 18 92 (by kernel_rfl)
                    obtain rfl : v92 = undef := f92
                    have hbel := h.below
                    clear h
                    refine gives_by rfl act.eval rfl ?_
                    generalize act.eval = ρ at *
                    intro hf hc
                    go_simp
                    exact ⟨Below.refl _ _, rfl⟩
                · intro vals w8 hb8 hv
                  have hv93 : vals 19 = .bool true := hv 19 93 (by kernel_rfl)
                  clear hv
                  generalize hact : putAll _ vals 0 _ = act
                  have HB8 := hide hb8
                  clear hb8
                  subst hact
                  simp only [putAll, Act.put, List.setIfInBounds_toArray, List.set_cons_zero, List.set_cons_succ, hv93, Nat.zero_add, Nat.reduceAdd]
                  clear hv93
                  go_wp2
                  go_ret
                  exact ⟨ret_int HBADr.out.symm, HB1.out.trans ((HB3.out.trans (HB8.out.mono HB3.out.size)).mono HB1.out.size)⟩
              | true =>
                rw [hb] at HL0
                have HLT := HL0
                have hlr : letN r = true := hb
                have HRQ : Hid (∀ W, Below wr.heap.size wr W → Calls Tryd.prog 41 #[.slice fo fn fc, .int .i32 (r : Int)] W fun e w' => e = .returned (.int .i32 ((foldN us r : Nat) : Int)) ∧ Below W.heap.size W w') := fun W hw => HRU0.out W r (HB3.out.trans (hw.mono HB3.out.size)) hlr
                by_cases hfe : foldN us r = r
                · rw [hfe] at HRQ
                  have HRU := HRQ
                  have HNEXT : Hid (∀ x ∈ R.take (q + 1), docOk us x = true) := fun x hx => by
                    rcases HTK.out x hx with h | rfl
                    · exact HQS.out x h
                    · unfold docOk; rw [hlr, hfe]; simp
                  clear HRQ HL0 hb hlr hfe
                  have hkq := HKQ.out
                  go_wp2
                  refine wp_region_facts (FL [isV (.slice (some ⟨gl, 0, none⟩) L lc), isV (.int .i64 (q : Int)), isV (.pointer (some ⟨gl, q, none⟩)), isV (.int .i32 (r : Int)), isV (.bool true), isV (.bool false), isV (.bool false), isV (.pointer (some ⟨w.heap.size, 0, none⟩)), isV (.slice fo fn fc), isV (.slice (some ⟨gl, 0, none⟩) L lc), isV (.int .i64 (q : Int)), isV (.pointer (some ⟨gl, q, none⟩)), isV (.int .i32 (r : Int)), isV (.int .i32 (r : Int)), isV (.slice (some ⟨gl, 0, none⟩) L lc), isV (.int .i64 (q : Int)), isV (.pointer (some ⟨gl, q, none⟩)), isV (.int .i32 (r : Int)), isV (.bool false), isV (.bool false)]) 94 (by kernel_rfl) (by kernel_rfl) (by kernel_rfl) rfl (FL_stable _ (by repeat (first | exact trivial | refine ⟨stable_isV _, ?_⟩))) ?_ ?_
                  · refine ⟨?_, ?_, ?_, ?_, ?_, ?_, ?_, ?_, ?_, ?_, ?_, ?_, ?_, ?_, ?_, ?_, ?_, ?_, ?_, ?_, trivial⟩
                    · intro act wx h
                      have e4 : act.eval (.tmp 4) = .slice (some ⟨gl, 0, none⟩) L lc := h.old 4 (by kernel_rfl)
                      have hbel := h.below
                      clear h
                      refine gives_by rfl act.eval rfl ?_
                      generalize act.eval = ρ at *
                      intro hf hc
                      go_simp
                      exact ⟨Below.refl _ _, rfl⟩
                    · intro act wx h
                      have e5 : act.eval (.tmp 5) = .int .i64 (q : Int) := h.old 5 (by kernel_rfl)
                      have hbel := h.below
                      clear h
                      refine gives_by rfl act.eval rfl ?_
                      generalize act.eval = ρ at *
                      intro hf hc
                      go_simp
                      exact ⟨Below.refl _ _, rfl⟩
                    · intro act wx h
                      obtain ⟨v74, e74, f74⟩ := h.val 0 74 (by kernel_rfl)
                      obtain rfl : v74 = .slice (some ⟨gl, 0, none⟩) L lc := f74
                      obtain ⟨v75, e75, f75⟩ := h.val 1 75 (by kernel_rfl)
                      obtain rfl : v75 = .int .i64 (q : Int) := f75
                      have hbel := h.below
                      clear h
                      refine gives_by rfl act.eval rfl ?_
                      generalize act.eval = ρ at *
                      intro hf hc
                      go_simp
                      exact ⟨Below.refl _ _, rfl⟩
                    · intro act wx h
                      obtain ⟨v76, e76, f76⟩ := h.val 2 76 (by kernel_rfl)
                      obtain rfl : v76 = .pointer (some ⟨gl, q, none⟩) := f76
                      have hbel := h.below
                      clear h
                      have cx := HLX.out wx hbel
                      refine gives_by rfl act.eval rfl ?_
                      generalize act.eval = ρ at *
                      intro hf hc
                      go_simp
                      exact ⟨Below.refl _ _, rfl⟩
                    · intro act wx h
                      obtain ⟨v77, e77, f77⟩ := h.val 3 77 (by kernel_rfl)
                      obtain rfl : v77 = .int .i32 (r : Int) := f77
                      have hbel := h.below
                      clear h
                      refine gives_by rfl act.eval rfl ?_
                      generalize act.eval = ρ at *
                      intro hf hc
                      go_simp
                      exact call_gives (HLT.out wx) (fun _ => rfl)
                    · intro act wx h
                      obtain ⟨v78, e78, f78⟩ := h.val 4 78 (by kernel_rfl)
                      obtain rfl : v78 = .bool true := f78
                      have hbel := h.below
                      clear h
                      refine gives_by rfl act.eval rfl ?_
                      generalize act.eval = ρ at *
                      intro hf hc
                      go_simp
                      exact ⟨Below.refl _ _, rfl⟩
                    · intro act wx h
                      obtain ⟨v79, e79, f79⟩ := h.val 5 79 (by kernel_rfl)
                      obtain rfl : v79 = .bool false := f79
                      have hbel := h.below
                      clear h
                      refine gives_by rfl act.eval rfl ?_
                      generalize act.eval = ρ at *
                      intro hf hc
                      go_simp
                      exact ⟨Below.refl _ _, rfl⟩
                    · intro act wx h
                      have e1 : act.eval (.tmp 1) = .pointer (some ⟨w.heap.size, 0, none⟩) := h.old 1 (by kernel_rfl)
                      have hg := h.guard 6 80 (by kernel_rfl) false (fun v hv => hv)
                      have hbel := h.below
                      clear h
                      refine gives_by (by simp only [Region.wanted, hg]; rfl) act.eval rfl ?_
                      generalize act.eval = ρ at *
                      intro hf hc
                      go_simp
                      exact ⟨Below.refl _ _, rfl⟩
                    · intro act wx h
                      obtain ⟨v81, e81, f81⟩ := h.val 7 81 (by kernel_rfl)
                      obtain rfl : v81 = .pointer (some ⟨w.heap.size, 0, none⟩) := f81
                      have hg := h.guard 6 80 (by kernel_rfl) false (fun v hv => hv)
                      have hbel := h.below
                      clear h
                      have cx := (HBX.out.below (HB3.out.trans (hbel.mono HB3.out.size)) HBX.out.lt).cell 0
                      refine gives_by (by simp only [Region.wanted, hg]; rfl) act.eval rfl ?_
                      generalize act.eval = ρ at *
                      intro hf hc
                      go_simp
                      exact ⟨Below.refl _ _, rfl⟩
                    · intro act wx h
                      have e4 : act.eval (.tmp 4) = .slice (some ⟨gl, 0, none⟩) L lc := h.old 4 (by kernel_rfl)
                      have hg := h.guard 6 80 (by kernel_rfl) false (fun v hv => hv)
                      have hbel := h.below
                      clear h
                      refine gives_by (by simp only [Region.wanted, hg]; rfl) act.eval rfl ?_
                      generalize act.eval = ρ at *
                      intro hf hc
                      go_simp
                      exact ⟨Below.refl _ _, rfl⟩
                    · intro act wx h
                      have e5 : act.eval (.tmp 5) = .int .i64 (q : Int) := h.old 5 (by kernel_rfl)
                      have hg := h.guard 6 80 (by kernel_rfl) false (fun v hv => hv)
                      have hbel := h.below
                      clear h
                      refine gives_by (by simp only [Region.wanted, hg]; rfl) act.eval rfl ?_
                      generalize act.eval = ρ at *
                      intro hf hc
                      go_simp
                      exact ⟨Below.refl _ _, rfl⟩
                    · intro act wx h
                      obtain ⟨v83, e83, f83⟩ := h.val 9 83 (by kernel_rfl)
                      obtain rfl : v83 = .slice (some ⟨gl, 0, none⟩) L lc := f83
                      obtain ⟨v84, e84, f84⟩ := h.val 10 84 (by kernel_rfl)
                      obtain rfl : v84 = .int .i64 (q : Int) := f84
                      have hg := h.guard 6 80 (by kernel_rfl) false (fun v hv => hv)
                      have hbel := h.below
                      clear h
                      refine gives_by (by simp only [Region.wanted, hg]; rfl) act.eval rfl ?_
                      generalize act.eval = ρ at *
                      intro hf hc
                      go_simp
                      exact ⟨Below.refl _ _, rfl⟩
                    · intro act wx h
                      obtain ⟨v85, e85, f85⟩ := h.val 11 85 (by kernel_rfl)
                      obtain rfl : v85 = .pointer (some ⟨gl, q, none⟩) := f85
                      have hg := h.guard 6 80 (by kernel_rfl) false (fun v hv => hv)
                      have hbel := h.below
                      clear h
                      have cx := HLX.out wx hbel
                      refine gives_by (by simp only [Region.wanted, hg]; rfl) act.eval rfl ?_
                      generalize act.eval = ρ at *
                      intro hf hc
                      go_simp
                      exact ⟨Below.refl _ _, rfl⟩
                    · intro act wx h
                      obtain ⟨v82, e82, f82⟩ := h.val 8 82 (by kernel_rfl)
                      obtain rfl : v82 = .slice fo fn fc := f82
                      obtain ⟨v86, e86, f86⟩ := h.val 12 86 (by kernel_rfl)
                      obtain rfl : v86 = .int .i32 (r : Int) := f86
                      have hg := h.guard 6 80 (by kernel_rfl) false (fun v hv => hv)
                      have hbel := h.below
                      clear h
                      refine gives_by (by simp only [Region.wanted, hg]; rfl) act.eval rfl ?_
                      generalize act.eval = ρ at *
                      intro hf hc
                      go_simp
                      exact call_gives (HRU.out wx hbel) (fun _ => rfl)
                    · intro act wx h
                      have e4 : act.eval (.tmp 4) = .slice (some ⟨gl, 0, none⟩) L lc := h.old 4 (by kernel_rfl)
                      have hg := h.guard 6 80 (by kernel_rfl) false (fun v hv => hv)
                      have hbel := h.below
                      clear h
                      refine gives_by (by simp only [Region.wanted, hg]; rfl) act.eval rfl ?_
                      generalize act.eval = ρ at *
                      intro hf hc
                      go_simp
                      exact ⟨Below.refl _ _, rfl⟩
                    · intro act wx h
                      have e5 : act.eval (.tmp 5) = .int .i64 (q : Int) := h.old 5 (by kernel_rfl)
                      have hg := h.guard 6 80 (by kernel_rfl) false (fun v hv => hv)
                      have hbel := h.below
                      clear h
                      refine gives_by (by simp only [Region.wanted, hg]; rfl) act.eval rfl ?_
                      generalize act.eval = ρ at *
                      intro hf hc
                      go_simp
                      exact ⟨Below.refl _ _, rfl⟩
                    · intro act wx h
                      obtain ⟨v88, e88, f88⟩ := h.val 14 88 (by kernel_rfl)
                      obtain rfl : v88 = .slice (some ⟨gl, 0, none⟩) L lc := f88
                      obtain ⟨v89, e89, f89⟩ := h.val 15 89 (by kernel_rfl)
                      obtain rfl : v89 = .int .i64 (q : Int) := f89
                      have hg := h.guard 6 80 (by kernel_rfl) false (fun v hv => hv)
                      have hbel := h.below
                      clear h
                      refine gives_by (by simp only [Region.wanted, hg]; rfl) act.eval rfl ?_
                      generalize act.eval = ρ at *
                      intro hf hc
                      go_simp
                      exact ⟨Below.refl _ _, rfl⟩
                    · intro act wx h
                      obtain ⟨v90, e90, f90⟩ := h.val 16 90 (by kernel_rfl)
                      obtain rfl : v90 = .pointer (some ⟨gl, q, none⟩) := f90
                      have hg := h.guard 6 80 (by kernel_rfl) false (fun v hv => hv)
                      have hbel := h.below
                      clear h
                      have cx := HLX.out wx hbel
                      refine gives_by (by simp only [Region.wanted, hg]; rfl) act.eval rfl ?_
                      generalize act.eval = ρ at *
                      intro hf hc
                      go_simp
                      exact ⟨Below.refl _ _, rfl⟩
                    · intro act wx h
                      obtain ⟨v87, e87, f87⟩ := h.val 13 87 (by kernel_rfl)
                      obtain rfl : v87 = .int .i32 (r : Int) := f87
                      obtain ⟨v91, e91, f91⟩ := h.val 17 91 (by kernel_rfl)
                      obtain rfl : v91 = .int .i32 (r : Int) := f91
                      have hg := h.guard 6 80 (by kernel_rfl) false (fun v hv => hv)
                      have hbel := h.below
                      clear h
                      refine gives_by (by simp only [Region.wanted, hg]; rfl) act.eval rfl ?_
                      generalize act.eval = ρ at *
                      intro hf hc
                      go_simp
                      exact ⟨Below.refl _ _, by first | rfl | (simp [FL, isV]; done) | (simp [FL, isV]; omega)⟩
                    · intro act wx h
                      obtain ⟨v80, e80, f80⟩ := h.val 6 80 (by kernel_rfl)
                      obtain rfl : v80 = .bool false := f80
                      obtain ⟨v92, e92, f92⟩ := h.val 18 92 (by kernel_rfl)
                      obtain rfl : v92 = .bool false := f92
                      have hbel := h.below
                      clear h
                      refine gives_by rfl act.eval rfl ?_
                      generalize act.eval = ρ at *
                      intro hf hc
                      go_simp
                      exact ⟨Below.refl _ _, rfl⟩
                  · intro vals w8 hb8 hv
                    have hv93 : vals 19 = .bool false := hv 19 93 (by kernel_rfl)
                    clear hv
                    generalize hact : putAll _ vals 0 _ = act
                    have HB8 := hide hb8
                    clear hb8
                    subst hact
                    simp only [putAll, Act.put, List.setIfInBounds_toArray, List.set_cons_zero, List.set_cons_succ, hv93, Nat.zero_add, Nat.reduceAdd]
                    clear hv93
                    go_wp2
                    go_roundg GQ
                    case measure => omega
                    case rel => exact ⟨q + 1, by omega, by go_num, HNEXT.out, HBQ.out.trans (HB8.out.mono HBQ.out.size)⟩
                · have hne : ¬ ((foldN us r : Nat) : Int) = (r : Int) := by omega
                  have HBADr : Hid (E = 140) := HNO.out (by unfold docOk; rw [decide_eq_false hfe, Bool.and_false])
                  obtain ⟨fr, hfr⟩ : ∃ fr, foldN us r = fr := ⟨_, rfl⟩
                  rw [hfr] at hne HRQ
                  have HRU := HRQ
                  clear HRQ HL0 hb hlr hfe hfr
                  go_wp2
                  refine wp_region_facts (FL [isV (.slice (some ⟨gl, 0, none⟩) L lc), isV (.int .i64 (q : Int)), isV (.pointer (some ⟨gl, q, none⟩)), isV (.int .i32 (r : Int)), isV (.bool true), isV (.bool false), isV (.bool false), isV (.pointer (some ⟨w.heap.size, 0, none⟩)), isV (.slice fo fn fc), isV (.slice (some ⟨gl, 0, none⟩) L lc), isV (.int .i64 (q : Int)), isV (.pointer (some ⟨gl, q, none⟩)), isV (.int .i32 (r : Int)), isV (.int .i32 (fr : Int)), isV (.slice (some ⟨gl, 0, none⟩) L lc), isV (.int .i64 (q : Int)), isV (.pointer (some ⟨gl, q, none⟩)), isV (.int .i32 (r : Int)), isV (.bool true), isV (.bool true)]) 94 (by kernel_rfl) (by kernel_rfl) (by kernel_rfl) rfl (FL_stable _ (by repeat (first | exact trivial | refine ⟨stable_isV _, ?_⟩))) ?_ ?_
                  · refine ⟨?_, ?_, ?_, ?_, ?_, ?_, ?_, ?_, ?_, ?_, ?_, ?_, ?_, ?_, ?_, ?_, ?_, ?_, ?_, ?_, trivial⟩
                    · intro act wx h
                      have e4 : act.eval (.tmp 4) = .slice (some ⟨gl, 0, none⟩) L lc := h.old 4 (by kernel_rfl)
                      have hbel := h.below
                      clear h
                      refine gives_by rfl act.eval rfl ?_
                      generalize act.eval = ρ at *
                      intro hf hc
                      go_simp
                      exact ⟨Below.refl _ _, rfl⟩
                    · intro act wx h
                      have e5 : act.eval (.tmp 5) = .int .i64 (q : Int) := h.old 5 (by kernel_rfl)
                      have hbel := h.below
                      clear h
                      refine gives_by rfl act.eval rfl ?_
                      generalize act.eval = ρ at *
                      intro hf hc
                      go_simp
                      exact ⟨Below.refl _ _, rfl⟩
                    · intro act wx h
                      obtain ⟨v74, e74, f74⟩ := h.val 0 74 (by kernel_rfl)
                      obtain rfl : v74 = .slice (some ⟨gl, 0, none⟩) L lc := f74
                      obtain ⟨v75, e75, f75⟩ := h.val 1 75 (by kernel_rfl)
                      obtain rfl : v75 = .int .i64 (q : Int) := f75
                      have hbel := h.below
                      clear h
                      refine gives_by rfl act.eval rfl ?_
                      generalize act.eval = ρ at *
                      intro hf hc
                      go_simp
                      exact ⟨Below.refl _ _, rfl⟩
                    · intro act wx h
                      obtain ⟨v76, e76, f76⟩ := h.val 2 76 (by kernel_rfl)
                      obtain rfl : v76 = .pointer (some ⟨gl, q, none⟩) := f76
                      have hbel := h.below
                      clear h
                      have cx := HLX.out wx hbel
                      refine gives_by rfl act.eval rfl ?_
                      generalize act.eval = ρ at *
                      intro hf hc
                      go_simp
                      exact ⟨Below.refl _ _, rfl⟩
                    · intro act wx h
                      obtain ⟨v77, e77, f77⟩ := h.val 3 77 (by kernel_rfl)
                      obtain rfl : v77 = .int .i32 (r : Int) := f77
                      have hbel := h.below
                      clear h
                      refine gives_by rfl act.eval rfl ?_
                      generalize act.eval = ρ at *
                      intro hf hc
                      go_simp
                      exact call_gives (HLT.out wx) (fun _ => rfl)
                    · intro act wx h
                      obtain ⟨v78, e78, f78⟩ := h.val 4 78 (by kernel_rfl)
                      obtain rfl : v78 = .bool true := f78
                      have hbel := h.below
                      clear h
                      refine gives_by rfl act.eval rfl ?_
                      generalize act.eval = ρ at *
                      intro hf hc
                      go_simp
                      exact ⟨Below.refl _ _, rfl⟩
                    · intro act wx h
                      obtain ⟨v79, e79, f79⟩ := h.val 5 79 (by kernel_rfl)
                      obtain rfl : v79 = .bool false := f79
                      have hbel := h.below
                      clear h
                      refine gives_by rfl act.eval rfl ?_
                      generalize act.eval = ρ at *
                      intro hf hc
                      go_simp
                      exact ⟨Below.refl _ _, rfl⟩
                    · intro act wx h
                      have e1 : act.eval (.tmp 1) = .pointer (some ⟨w.heap.size, 0, none⟩) := h.old 1 (by kernel_rfl)
                      have hg := h.guard 6 80 (by kernel_rfl) false (fun v hv => hv)
                      have hbel := h.below
                      clear h
                      refine gives_by (by simp only [Region.wanted, hg]; rfl) act.eval rfl ?_
                      generalize act.eval = ρ at *
                      intro hf hc
                      go_simp
                      exact ⟨Below.refl _ _, rfl⟩
                    · intro act wx h
                      obtain ⟨v81, e81, f81⟩ := h.val 7 81 (by kernel_rfl)
                      obtain rfl : v81 = .pointer (some ⟨w.heap.size, 0, none⟩) := f81
                      have hg := h.guard 6 80 (by kernel_rfl) false (fun v hv => hv)
                      have hbel := h.below
                      clear h
                      have cx := (HBX.out.below (HB3.out.trans (hbel.mono HB3.out.size)) HBX.out.lt).cell 0
                      refine gives_by (by simp only [Region.wanted, hg]; rfl) act.eval rfl ?_
                      generalize act.eval = ρ at *
                      intro hf hc
                      go_simp
                      exact ⟨Below.refl _ _, rfl⟩
                    · intro act wx h
                      have e4 : act.eval (.tmp 4) = .slice (some ⟨gl, 0, none⟩) L lc := h.old 4 (by kernel_rfl)
                      have hg := h.guard 6 80 (by kernel_rfl) false (fun v hv => hv)
                      have hbel := h.below
                      clear h
                      refine gives_by (by simp only [Region.wanted, hg]; rfl) act.eval rfl ?_
                      generalize act.eval = ρ at *
                      intro hf hc
                      go_simp
                      exact ⟨Below.refl _ _, rfl⟩
                    · intro act wx h
                      have e5 : act.eval (.tmp 5) = .int .i64 (q : Int) := h.old 5 (by kernel_rfl)
                      have hg := h.guard 6 80 (by kernel_rfl) false (fun v hv => hv)
                      have hbel := h.below
                      clear h
                      refine gives_by (by simp only [Region.wanted, hg]; rfl) act.eval rfl ?_
                      generalize act.eval = ρ at *
                      intro hf hc
                      go_simp
                      exact ⟨Below.refl _ _, rfl⟩
                    · intro act wx h
                      obtain ⟨v83, e83, f83⟩ := h.val 9 83 (by kernel_rfl)
                      obtain rfl : v83 = .slice (some ⟨gl, 0, none⟩) L lc := f83
                      obtain ⟨v84, e84, f84⟩ := h.val 10 84 (by kernel_rfl)
                      obtain rfl : v84 = .int .i64 (q : Int) := f84
                      have hg := h.guard 6 80 (by kernel_rfl) false (fun v hv => hv)
                      have hbel := h.below
                      clear h
                      refine gives_by (by simp only [Region.wanted, hg]; rfl) act.eval rfl ?_
                      generalize act.eval = ρ at *
                      intro hf hc
                      go_simp
                      exact ⟨Below.refl _ _, rfl⟩
                    · intro act wx h
                      obtain ⟨v85, e85, f85⟩ := h.val 11 85 (by kernel_rfl)
                      obtain rfl : v85 = .pointer (some ⟨gl, q, none⟩) := f85
                      have hg := h.guard 6 80 (by kernel_rfl) false (fun v hv => hv)
                      have hbel := h.below
                      clear h
                      have cx := HLX.out wx hbel
                      refine gives_by (by simp only [Region.wanted, hg]; rfl) act.eval rfl ?_
                      generalize act.eval = ρ at *
                      intro hf hc
                      go_simp
                      exact ⟨Below.refl _ _, rfl⟩
                    · intro act wx h
                      obtain ⟨v82, e82, f82⟩ := h.val 8 82 (by kernel_rfl)
                      obtain rfl : v82 = .slice fo fn fc := f82
                      obtain ⟨v86, e86, f86⟩ := h.val 12 86 (by kernel_rfl)
                      obtain rfl : v86 = .int .i32 (r : Int) := f86
                      have hg := h.guard 6 80 (by kernel_rfl) false (fun v hv => hv)
                      have hbel := h.below
                      clear h
                      refine gives_by (by simp only [Region.wanted, hg]; rfl) act.eval rfl ?_
                      generalize act.eval = ρ at *
                      intro hf hc
                      go_simp
                      exact call_gives (HRU.out wx hbel) (fun _ => rfl)
                    · intro act wx h
                      have e4 : act.eval (.tmp 4) = .slice (some ⟨gl, 0, none⟩) L lc := h.old 4 (by kernel_rfl)
                      have hg := h.guard 6 80 (by kernel_rfl) false (fun v hv => hv)
                      have hbel := h.below
                      clear h
                      refine gives_by (by simp only [Region.wanted, hg]; rfl) act.eval rfl ?_
                      generalize act.eval = ρ at *
                      intro hf hc
                      go_simp
                      exact ⟨Below.refl _ _, rfl⟩
                    · intro act wx h
                      have e5 : act.eval (.tmp 5) = .int .i64 (q : Int) := h.old 5 (by kernel_rfl)
                      have hg := h.guard 6 80 (by kernel_rfl) false (fun v hv => hv)
                      have hbel := h.below
                      clear h
                      refine gives_by (by simp only [Region.wanted, hg]; rfl) act.eval rfl ?_
                      generalize act.eval = ρ at *
                      intro hf hc
                      go_simp
                      exact ⟨Below.refl _ _, rfl⟩
                    · intro act wx h
                      obtain ⟨v88, e88, f88⟩ := h.val 14 88 (by kernel_rfl)
                      obtain rfl : v88 = .slice (some ⟨gl, 0, none⟩) L lc := f88
                      obtain ⟨v89, e89, f89⟩ := h.val 15 89 (by kernel_rfl)
                      obtain rfl : v89 = .int .i64 (q : Int) := f89
                      have hg := h.guard 6 80 (by kernel_rfl) false (fun v hv => hv)
                      have hbel := h.below
                      clear h
                      refine gives_by (by simp only [Region.wanted, hg]; rfl) act.eval rfl ?_
                      generalize act.eval = ρ at *
                      intro hf hc
                      go_simp
                      exact ⟨Below.refl _ _, rfl⟩
                    · intro act wx h
                      obtain ⟨v90, e90, f90⟩ := h.val 16 90 (by kernel_rfl)
                      obtain rfl : v90 = .pointer (some ⟨gl, q, none⟩) := f90
                      have hg := h.guard 6 80 (by kernel_rfl) false (fun v hv => hv)
                      have hbel := h.below
                      clear h
                      have cx := HLX.out wx hbel
                      refine gives_by (by simp only [Region.wanted, hg]; rfl) act.eval rfl ?_
                      generalize act.eval = ρ at *
                      intro hf hc
                      go_simp
                      exact ⟨Below.refl _ _, rfl⟩
                    · intro act wx h
                      obtain ⟨v87, e87, f87⟩ := h.val 13 87 (by kernel_rfl)
                      obtain rfl : v87 = .int .i32 (fr : Int) := f87
                      obtain ⟨v91, e91, f91⟩ := h.val 17 91 (by kernel_rfl)
                      obtain rfl : v91 = .int .i32 (r : Int) := f91
                      have hg := h.guard 6 80 (by kernel_rfl) false (fun v hv => hv)
                      have hbel := h.below
                      clear h
                      refine gives_by (by simp only [Region.wanted, hg]; rfl) act.eval rfl ?_
                      generalize act.eval = ρ at *
                      intro hf hc
                      go_simp
                      exact ⟨Below.refl _ _, by first | rfl | (simp [FL, isV]; done) | (simp [FL, isV]; omega)⟩
                    · intro act wx h
                      obtain ⟨v80, e80, f80⟩ := h.val 6 80 (by kernel_rfl)
                      obtain rfl : v80 = .bool false := f80
                      obtain ⟨v92, e92, f92⟩ := h.val 18 92 (by kernel_rfl)
                      obtain rfl : v92 = .bool true := f92
                      have hbel := h.below
                      clear h
                      refine gives_by rfl act.eval rfl ?_
                      generalize act.eval = ρ at *
                      intro hf hc
                      go_simp
                      exact ⟨Below.refl _ _, rfl⟩
                  · intro vals w8 hb8 hv
                    have hv93 : vals 19 = .bool true := hv 19 93 (by kernel_rfl)
                    clear hv
                    generalize hact : putAll _ vals 0 _ = act
                    have HB8 := hide hb8
                    clear hb8
                    subst hact
                    simp only [putAll, Act.put, List.setIfInBounds_toArray, List.set_cons_zero, List.set_cons_succ, hv93, Nat.zero_add, Nat.reduceAdd]
                    clear hv93
                    go_wp2
                    go_ret
                    exact ⟨ret_int HBADr.out.symm, HB1.out.trans ((HB3.out.trans (HB8.out.mono HB3.out.size)).mono HB1.out.size)⟩
        · obtain ⟨i, rfl⟩ : ∃ i, j = i + 1 := ⟨j - 1, by omega⟩
          have hil : i < ss.length := by omega
          obtain ⟨b', off', hso', hy, hoki⟩ := (HS.out w6 HB6.out).at i hil
          obtain ⟨rfl, rfl⟩ : b = b' ∧ off = off' := by simpa using hso'
          have hge := bin_geq hoki hokj
          have HGS : Hid (goS us m none ss = (decide (cmp ss[i] ss[i + 1] < 0) && A && goS us m (prevS ss (i + 1 + 1)) (ss.drop (i + 1 + 1)))) := by
            show _ = _
            rw [← HG.out, hd, ← hA]
            show goS us m (ss[i]?) _ = (_ && goS us m (ss[i + 1]?) _)
            rw [List.getElem?_eq_getElem hjl, List.getElem?_eq_getElem hil]
            rfl
          obtain ⟨s, hs⟩ : ∃ s, strOfNums ss[i + 1] = s := ⟨_, rfl⟩
          obtain ⟨q0, hq0⟩ : ∃ q, strOfNums ss[i] = q := ⟨_, rfl⟩
          rw [hs] at hx hge
          rw [hq0] at hy hge
          have hixe : ((i + 1 : Nat) : Int) = (i : Int) + 1 := by omega
          have hin : (i : Int) < (n : Int) := by omega
          have hi0 : (0 : Int) < ((i + 1 : Nat) : Int) := by omega
          by_cases hlt : cmp ss[i] ss[i + 1] < 0
          · rw [decide_eq_true hlt] at hge
            rw [decide_eq_true hlt, Bool.true_and] at HGS
            have HGO : Hid (A = true → goS us m (prevS ss (i + 1 + 1)) (ss.drop (i + 1 + 1)) = goS us m none ss) := fun e => by
              rw [HGS.out, e, Bool.true_and]
            clear hd hA hzd hs hq0 hlt HGS hso' hoki hokj
            go_quiet (fail)
            go_wp2
            obtain ⟨w7, hw7⟩ : ∃ w7, w6.drewN nq = w7 := ⟨_, rfl⟩
            have HB7 : Hid (Below w1.heap.size w1 w7) := by rw [← hw7]; exact below_drewN HB6.out nq
            have HU7 : Hid (RnO w7 w5.heap.size (.slice al L lc) R) := by rw [← hw7]; exact HU.out.below (below_drewN (Below.refl _ w6) nq)
            rw [hw7]
            clear c1 c2 hx HU HB6 hw7
            go_loopg [5] L (fun k i wr2 => ∃ q : Nat, k + q = L ∧ i = .int .i64 (q : Int) ∧ (∀ r ∈ R.take q, docOk us r = true) ∧ Below w7.heap.size w7 wr2)
            case atStart => exact ⟨0, by omega, rfl, (fun r hr => by simp at hr), Below.refl _ w7⟩
            case round =>
              obtain ⟨q, hkq, rfl, hqs, hbq⟩ := hrel
              have HQS := hide hqs
              have HBQ := hide hbq
              have HB3 : Hid (Below w1.heap.size w1 wr) := HB7.out.trans (hbq.mono HB7.out.size)
              clear hqs hbq
              cases gk with
              | zero =>
                obtain rfl : q = L := by omega
                have hqq : ¬ (q : Int) < (q : Int) := by omega
                have HGT := hide (HGO.out (by
                  rw [HADA.out, List.all_eq_true]
                  have := HQS.out
                  rwa [List.take_of_length_le (by rw [HLL.out]; exact Nat.le_refl _)] at this))
                go_wp2
                go_roundg k
                case measure => omega
                case rel => exact ⟨i + 1 + 1, by omega, by go_num, HGT.out, HB3.out⟩
              | succ GQ =>
                have hqi : (q : Int) < (L : Int) := by omega
                have hqR : q < R.length := by rw [HLL.out]; omega
                obtain ⟨gl, e, _, hgl, hcx⟩ := HU7.out.at q hqR
                subst e
                obtain ⟨r, hr⟩ : ∃ r, R[q] = r := ⟨_, rfl⟩
                rw [hr] at hcx
                have hrm : r ∈ R := by rw [← hr]; exact List.getElem_mem hqR
                have HLX : Hid (∀ W, Below wr.heap.size wr W → W.cell? ⟨gl, q, none⟩ = some (.int .i32 (r : Int))) := fun W hw => by
                  have h1 := HBQ.out.block gl hgl
                  have h2 := hw.block gl (by have := HBQ.out.size; omega)
                  exact (World.cell?_of_block (a := ⟨gl, q, none⟩) (h2.trans h1)).trans hcx
                have HL0 : Hid (∀ wx, Calls Tryd.prog 40 #[.int .i32 (r : Int)] wx fun e w' => e = .returned (.bool (letB (r : Int))) ∧ Below wx.heap.size wx w') := fun wx => (refLetter_any wx _ (HRI.out r hrm)).mono (by rintro e w' ⟨rfl, rfl⟩; exact ⟨rfl, Below.refl _ _⟩)
                have HTK : Hid (∀ x ∈ R.take (q + 1), x ∈ R.take q ∨ x = r) := fun x hx => by
                  rw [List.take_succ_eq_append_getElem hqR, hr] at hx
                  rcases List.mem_append.1 hx with h | h
                  · exact .inl h
                  · exact .inr (List.mem_singleton.1 h)
                have HNO : Hid (docOk us r = false → E = 140) := fun e => HA0.out (by
                  rw [HADA.out, Bool.eq_false_iff]
                  intro e2
                  rw [List.all_eq_true] at e2
                  rw [e2 r hrm] at e
                  cases e)
                have HKQ := hide hkq
                clear hcx hr hqR hkq
                cases hb : letB (r : Int) with
                | false =>
                  have HBADr : Hid (E = 140) := HNO.out (by unfold docOk letN; rw [hb]; rfl)
                  rw [hb] at HL0
                  have HLT := HL0
                  clear HL0 hb
                  go_wp2
                  refine wp_region_facts (FL [isV (.slice (some ⟨gl, 0, none⟩) L lc), isV (.int .i64 (q : Int)), isV (.pointer (some ⟨gl, q, none⟩)), isV (.int .i32 (r : Int)), isV (.bool false), isV (.bool true), isV (.bool true), isV (undef), isV (undef), isV (undef), isV (undef), isV (undef), isV (undef), isV (undef), isV (undef), isV (undef), isV (undef), isV (undef), isV (undef), isV (.bool true)]) 94 (by kernel_rfl) (by kernel_rfl) (by kernel_rfl) rfl (FL_stable _ (by repeat (first | exact trivial | refine ⟨stable_isV _, ?_⟩))) ?_ ?_
                  · refine ⟨?_, ?_, ?_, ?_, ?_, ?_, ?_, ?_, ?_, ?_, ?_, ?_, ?_, ?_, ?_, ?_, ?_, ?_, ?_, ?_, trivial⟩
                    · intro act wx h
                      have e4 : act.eval (.tmp 4) = .slice (some ⟨gl, 0, none⟩) L lc := h.old 4 (by kernel_rfl)
                      have hbel := h.below
                      clear h
                      refine gives_by rfl act.eval rfl ?_
                      generalize act.eval = ρ at *
                      intro hf hc
                      go_simp
                      exact ⟨Below.refl _ _, rfl⟩
                    · intro act wx h
                      have e5 : act.eval (.tmp 5) = .int .i64 (q : Int) := h.old 5 (by kernel_rfl)
                      have hbel := h.below
                      clear h
                      refine gives_by rfl act.eval rfl ?_
                      generalize act.eval = ρ at *
                      intro hf hc
                      go_simp
                      exact ⟨Below.refl _ _, rfl⟩
                    · intro act wx h
                      obtain ⟨v74, e74, f74⟩ := h.val 0 74 (by kernel_rfl)
                      obtain rfl : v74 = .slice (some ⟨gl, 0, none⟩) L lc := f74
                      obtain ⟨v75, e75, f75⟩ := h.val 1 75 (by kernel_rfl)
                      obtain rfl : v75 = .int .i64 (q : Int) := f75
                      have hbel := h.below
                      clear h
                      refine gives_by rfl act.eval rfl ?_
                      generalize act.eval = ρ at *
                      intro hf hc
                      go_simp
                      exact ⟨Below.refl _ _, rfl⟩
                    · intro act wx h
                      obtain ⟨v76, e76, f76⟩ := h.val 2 76 (by kernel_rfl)
                      obtain rfl : v76 = .pointer (some ⟨gl, q, none⟩) := f76
                      have hbel := h.below
                      clear h
                      have cx := HLX.out wx hbel
                      refine gives_by rfl act.eval rfl ?_
                      generalize act.eval = ρ at *
                      intro hf hc
                      go_simp
                      exact ⟨Below.refl _ _, rfl⟩
                    · intro act wx h
                      obtain ⟨v77, e77, f77⟩ := h.val 3 77 (by kernel_rfl)
                      obtain rfl : v77 = .int .i32 (r : Int) := f77
                      have hbel := h.below
                      clear h
                      refine gives_by rfl act.eval rfl ?_
                      generalize act.eval = ρ at *
                      intro hf hc
                      go_simp
                      exact call_gives (HLT.out wx) (fun _ => rfl)
                    · intro act wx h
                      obtain ⟨v78, e78, f78⟩ := h.val 4 78 (by kernel_rfl)
                      obtain rfl : v78 = .bool false := f78
                      have hbel := h.below
                      clear h
                      refine gives_by rfl act.eval rfl ?_
                      generalize act.eval = ρ at *
                      intro hf hc
                      go_simp
                      exact ⟨Below.refl _ _, rfl⟩
                    · intro act wx h
                      obtain ⟨v79, e79, f79⟩ := h.val 5 79 (by kernel_rfl)
                      obtain rfl : v79 = .bool true := f79
                      have hbel := h.below
                      clear h
                      refine gives_by rfl act.eval rfl ?_
                      generalize act.eval = ρ at *
                      intro hf hc
                      go_simp
                      exact ⟨Below.refl _ _, rfl⟩
                    · intro act wx h
                      have hg := h.guard 6 80 (by kernel_rfl) true (fun v hv => hv)
                      clear h
                      exact gives_off (by simp only [Region.wanted, hg]; rfl) ⟨Below.refl _ _, rfl⟩
                    · intro act wx h
                      have hg := h.guard 6 80 (by kernel_rfl) true (fun v hv => hv)
                      clear h
                      exact gives_off (by simp only [Region.wanted, hg]; rfl) ⟨Below.refl _ _, rfl⟩
                    · intro act wx h
                      have hg := h.guard 6 80 (by kernel_rfl) true (fun v hv => hv)
                      clear h
                      exact gives_off (by simp only [Region.wanted, hg]; rfl) ⟨Below.refl _ _, rfl⟩
                    · intro act wx h
                      have hg := h.guard 6 80 (by kernel_rfl) true (fun v hv => hv)
                      clear h
                      exact gives_off (by simp only [Region.wanted, hg]; rfl) ⟨Below.refl _ _, rfl⟩
                    · intro act wx h
                      have hg := h.guard 6 80 (by kernel_rfl) true (fun v hv => hv)
                      clear h
                      exact gives_off (by simp only [Region.wanted, hg]; rfl) ⟨Below.refl _ _, rfl⟩
                    · intro act wx h
                      have hg := h.guard 6 80 (by kernel_rfl) true (fun v hv => hv)
                      clear h
                      exact gives_off (by simp only [Region.wanted, hg]; rfl) ⟨Below.refl _ _, rfl⟩
                    · intro act wx h
                      have hg := h.guard 6 80 (by kernel_rfl) true (fun v hv => hv)
                      clear h
                      exact gives_off (by simp only [Region.wanted, hg]; rfl) ⟨Below.refl _ _, rfl⟩
                    · intro act wx h
                      have hg := h.guard 6 80 (by kernel_rfl) true (fun v hv => hv)
                      clear h
                      exact gives_off (by simp only [Region.wanted, hg]; rfl) ⟨Below.refl _ _, rfl⟩
                    · intro act wx h
                      have hg := h.guard 6 80 (by kernel_rfl) true (fun v hv => hv)
                      clear h
                      exact gives_off (by simp only [Region.wanted, hg]; rfl) ⟨Below.refl _ _, rfl⟩
                    · intro act wx h
                      have hg := h.guard 6 80 (by kernel_rfl) true (fun v hv => hv)
                      clear h
                      exact gives_off (by simp only [Region.wanted, hg]; rfl) ⟨Below.refl _ _, rfl⟩
                    · intro act wx h
                      have hg := h.guard 6 80 (by kernel_rfl) true (fun v hv => hv)
                      clear h
                      exact gives_off (by simp only [Region.wanted, hg]; rfl) ⟨Below.refl _ _, rfl⟩
                    · intro act wx h
                      have hg := h.guard 6 80 (by kernel_rfl) true (fun v hv => hv)
                      clear h
                      exact gives_off (by simp only [Region.wanted, hg]; rfl) ⟨Below.refl _ _, rfl⟩
                    · intro act wx h
                      obtain ⟨v80, e80, f80⟩ := h.val 6 80 (by kernel_rfl)
                      obtain rfl : v80 = .bool true := f80
                      obtain ⟨v92, e92, f92⟩ := h.val 18 92 (by kernel_rfl)
                      obtain rfl : v92 = undef := f92
                      have hbel := h.below
                      clear h
                      refine gives_by rfl act.eval rfl ?_
                      generalize act.eval = ρ at *
                      intro hf hc
                      go_simp
                      exact ⟨Below.refl _ _, rfl⟩
                  · intro vals w8 hb8 hv
                    have hv93 : vals 19 = .bool true := hv 19 93 (by kernel_rfl)
                    clear hv
                    generalize hact : putAll _ vals 0 _ = act
                    have HB8 := hide hb8
                    clear hb8
                    subst hact
                    simp only [putAll, Act.put, List.setIfInBounds_toArray, List.set_cons_zero, List.set_cons_succ, hv93, Nat.zero_add, Nat.reduceAdd]
                    clear hv93
                    go_wp2
                    go_ret
                    exact ⟨ret_int HBADr.out.symm, HB1.out.trans ((HB3.out.trans (HB8.out.mono HB3.out.size)).mono HB1.out.size)⟩
                | true =>
                  rw [hb] at HL0
                  have HLT := HL0
                  have hlr : letN r = true := hb
                  have HRQ : Hid (∀ W, Below wr.heap.size wr W → Calls Tryd.prog 41 #[.slice fo fn fc, .int .i32 (r : Int)] W fun e w' => e = .returned (.int .i32 ((foldN us r : Nat) : Int)) ∧ Below W.heap.size W w') := fun W hw => HRU0.out W r (HB3.out.trans (hw.mono HB3.out.size)) hlr
                  by_cases hfe : foldN us r = r
                  · rw [hfe] at HRQ
                    have HRU := HRQ
                    have HNEXT : Hid (∀ x ∈ R.take (q + 1), docOk us x = true) := fun x hx => by
                      rcases HTK.out x hx with h | rfl
                      · exact HQS.out x h
                      · unfold docOk; rw [hlr, hfe]; simp
                    clear HRQ HL0 hb hlr hfe
                    have hkq := HKQ.out
                    go_wp2
                    refine wp_region_facts (FL [isV (.slice (some ⟨gl, 0, none⟩) L lc), isV (.int .i64 (q : Int)), isV (.pointer (some ⟨gl, q, none⟩)), isV (.int .i32 (r : Int)), isV (.bool true), isV (.bool false), isV (.bool false), isV (.pointer (some ⟨w.heap.size, 0, none⟩)), isV (.slice fo fn fc), isV (.slice (some ⟨gl, 0, none⟩) L lc), isV (.int .i64 (q : Int)), isV (.pointer (some ⟨gl, q, none⟩)), isV (.int .i32 (r : Int)), isV (.int .i32 (r : Int)), isV (.slice (some ⟨gl, 0, none⟩) L lc), isV (.int .i64 (q : Int)), isV (.pointer (some ⟨gl, q, none⟩)), isV (.int .i32 (r : Int)), isV (.bool false), isV (.bool false)]) 94 (by kernel_rfl) (by kernel_rfl) (by kernel_rfl) rfl (FL_stable _ (by repeat (first | exact trivial | refine ⟨stable_isV _, ?_⟩))) ?_ ?_
                    · refine ⟨?_, ?_, ?_, ?_, ?_, ?_, ?_, ?_, ?_, ?_, ?_, ?_, ?_, ?_, ?_, ?_, ?_, ?_, ?_, ?_, trivial⟩
                      · intro act wx h
                        have e4 : act.eval (.tmp 4) = .slice (some ⟨gl, 0, none⟩) L lc := h.old 4 (by kernel_rfl)
                        have hbel := h.below
                        clear h
                        refine gives_by rfl act.eval rfl ?_
                        generalize act.eval = ρ at *
                        intro hf hc
                        go_simp
                        exact ⟨Below.refl _ _, rfl⟩
                      · intro act wx h
                        have e5 : act.eval (.tmp 5) = .int .i64 (q : Int) := h.old 5 (by kernel_rfl)
                        have hbel := h.below
                        clear h
                        refine gives_by rfl act.eval rfl ?_
                        generalize act.eval = ρ at *
                        intro hf hc
                        go_simp
                        exact ⟨Below.refl _ _, rfl⟩
                      · intro act wx h
                        obtain ⟨v74, e74, f74⟩ := h.val 0 74 (by kernel_rfl)
                        obtain rfl : v74 = .slice (some ⟨gl, 0, none⟩) L lc := f74
                        obtain ⟨v75, e75, f75⟩ := h.val 1 75 (by kernel_rfl)
                        obtain rfl : v75 = .int .i64 (q : Int) := f75
                        have hbel := h.below
                        clear h
                        refine gives_by rfl act.eval rfl ?_
                        generalize act.eval = ρ at *
                        intro hf hc
                        go_simp
                        exact ⟨Below.refl _ _, rfl⟩
                      · intro act wx h
                        obtain ⟨v76, e76, f76⟩ := h.val 2 76 (by kernel_rfl)
                        obtain rfl : v76 = .pointer (some ⟨gl, q, none⟩) := f76
                        have hbel := h.below
                        clear h
                        have cx := HLX.out wx hbel
                        refine gives_by rfl act.eval rfl ?_
                        generalize act.eval = ρ at *
                        intro hf hc
                        go_simp
                        exact ⟨Below.refl _ _, rfl⟩
                      · intro act wx h
                        obtain ⟨v77, e77, f77⟩ := h.val 3 77 (by kernel_rfl)
                        obtain rfl : v77 = .int .i32 (r : Int) := f77
                        have hbel := h.below
                        clear h
                        refine gives_by rfl act.eval rfl ?_
                        generalize act.eval = ρ at *
                        intro hf hc
                        go_simp
                        exact call_gives (HLT.out wx) (fun _ => rfl)
                      · intro act wx h
                        obtain ⟨v78, e78, f78⟩ := h.val 4 78 (by kernel_rfl)
                        obtain rfl : v78 = .bool true := f78
                        have hbel := h.below
                        clear h
                        refine gives_by rfl act.eval rfl ?_
                        generalize act.eval = ρ at *
                        intro hf hc
                        go_simp
                        exact ⟨Below.refl _ _, rfl⟩
                      · intro act wx h
                        obtain ⟨v79, e79, f79⟩ := h.val 5 79 (by kernel_rfl)
                        obtain rfl : v79 = .bool false := f79
                        have hbel := h.below
                        clear h
                        refine gives_by rfl act.eval rfl ?_
                        generalize act.eval = ρ at *
                        intro hf hc
                        go_simp
                        exact ⟨Below.refl _ _, rfl⟩
                      · intro act wx h
                        have e1 : act.eval (.tmp 1) = .pointer (some ⟨w.heap.size, 0, none⟩) := h.old 1 (by kernel_rfl)
                        have hg := h.guard 6 80 (by kernel_rfl) false (fun v hv => hv)
                        have hbel := h.below
                        clear h
                        refine gives_by (by simp only [Region.wanted, hg]; rfl) act.eval rfl ?_
                        generalize act.eval = ρ at *
                        intro hf hc
                        go_simp
                        exact ⟨Below.refl _ _, rfl⟩
                      · intro act wx h
                        obtain ⟨v81, e81, f81⟩ := h.val 7 81 (by kernel_rfl)
                        obtain rfl : v81 = .pointer (some ⟨w.heap.size, 0, none⟩) := f81
                        have hg := h.guard 6 80 (by kernel_rfl) false (fun v hv => hv)
                        have hbel := h.below
                        clear h
                        have cx := (HBX.out.below (HB3.out.trans (hbel.mono HB3.out.size)) HBX.out.lt).cell 0
                        refine gives_by (by simp only [Region.wanted, hg]; rfl) act.eval rfl ?_
                        generalize act.eval = ρ at *
                        intro hf hc
                        go_simp
                        exact ⟨Below.refl _ _, rfl⟩
                      · intro act wx h
                        have e4 : act.eval (.tmp 4) = .slice (some ⟨gl, 0, none⟩) L lc := h.old 4 (by kernel_rfl)
                        have hg := h.guard 6 80 (by kernel_rfl) false (fun v hv => hv)
                        have hbel := h.below
                        clear h
                        refine gives_by (by simp only [Region.wanted, hg]; rfl) act.eval rfl ?_
                        generalize act.eval = ρ at *
                        intro hf hc
                        go_simp
                        exact ⟨Below.refl _ _, rfl⟩
                      · intro act wx h
                        have e5 : act.eval (.tmp 5) = .int .i64 (q : Int) := h.old 5 (by kernel_rfl)
                        have hg := h.guard 6 80 (by kernel_rfl) false (fun v hv => hv)
                        have hbel := h.below
                        clear h
                        refine gives_by (by simp only [Region.wanted, hg]; rfl) act.eval rfl ?_
                        generalize act.eval = ρ at *
                        intro hf hc
                        go_simp
                        exact ⟨Below.refl _ _, rfl⟩
                      · intro act wx h
                        obtain ⟨v83, e83, f83⟩ := h.val 9 83 (by kernel_rfl)
                        obtain rfl : v83 = .slice (some ⟨gl, 0, none⟩) L lc := f83
                        obtain ⟨v84, e84, f84⟩ := h.val 10 84 (by kernel_rfl)
                        obtain rfl : v84 = .int .i64 (q : Int) := f84
                        have hg := h.guard 6 80 (by kernel_rfl) false (fun v hv => hv)
                        have hbel := h.below
                        clear h
                        refine gives_by (by simp only [Region.wanted, hg]; rfl) act.eval rfl ?_
                        generalize act.eval = ρ at *
                        intro hf hc
                        go_simp
                        exact ⟨Below.refl _ _, rfl⟩
                      · intro act wx h
                        obtain ⟨v85, e85, f85⟩ := h.val 11 85 (by kernel_rfl)
                        obtain rfl : v85 = .pointer (some ⟨gl, q, none⟩) := f85
                        have hg := h.guard 6 80 (by kernel_rfl) false (fun v hv => hv)
                        have hbel := h.below
                        clear h
                        have cx := HLX.out wx hbel
                        refine gives_by (by simp only [Region.wanted, hg]; rfl) act.eval rfl ?_
                        generalize act.eval = ρ at *
                        intro hf hc
                        go_simp
                        exact ⟨Below.refl _ _, rfl⟩
                      · intro act wx h
                        obtain ⟨v82, e82, f82⟩ := h.val 8 82 (by kernel_rfl)
                        obtain rfl : v82 = .slice fo fn fc := f82
                        obtain ⟨v86, e86, f86⟩ := h.val 12 86 (by kernel_rfl)
                        obtain rfl : v86 = .int .i32 (r : Int) := f86
                        have hg := h.guard 6 80 (by kernel_rfl) false (fun v hv => hv)
                        have hbel := h.below
                        clear h
                        refine gives_by (by simp only [Region.wanted, hg]; rfl) act.eval rfl ?_
                        generalize act.eval = ρ at *
                        intro hf hc
                        go_simp
                        exact call_gives (HRU.out wx hbel) (fun _ => rfl)
                      · intro act wx h
                        have e4 : act.eval (.tmp 4) = .slice (some ⟨gl, 0, none⟩) L lc := h.old 4 (by kernel_rfl)
                        have hg := h.guard 6 80 (by kernel_rfl) false (fun v hv => hv)
                        have hbel := h.below
                        clear h
                        refine gives_by (by simp only [Region.wanted, hg]; rfl) act.eval rfl ?_
                        generalize act.eval = ρ at *
                        intro hf hc
                        go_simp
                        exact ⟨Below.refl _ _, rfl⟩
                      · intro act wx h
                        have e5 : act.eval (.tmp 5) = .int .i64 (q : Int) := h.old 5 (by kernel_rfl)
                        have hg := h.guard 6 80 (by kernel_rfl) false (fun v hv => hv)
                        have hbel := h.below
                        clear h
                        refine gives_by (by simp only [Region.wanted, hg]; rfl) act.eval rfl ?_
                        generalize act.eval = ρ at *
                        intro hf hc
                        go_simp
                        exact ⟨Below.refl _ _, rfl⟩
                      · intro act wx h
                        obtain ⟨v88, e88, f88⟩ := h.val 14 88 (by kernel_rfl)
                        obtain rfl : v88 = .slice (some ⟨gl, 0, none⟩) L lc := f88
                        obtain ⟨v89, e89, f89⟩ := h.val 15 89 (by kernel_rfl)
                        obtain rfl : v89 = .int .i64 (q : Int) := f89
                        have hg := h.guard 6 80 (by kernel_rfl) false (fun v hv => hv)
                        have hbel := h.below
                        clear h
                        refine gives_by (by simp only [Region.wanted, hg]; rfl) act.eval rfl ?_
                        generalize act.eval = ρ at *
                        intro hf hc
                        go_simp
                        exact ⟨Below.refl _ _, rfl⟩
                      · intro act wx h
                        obtain ⟨v90, e90, f90⟩ := h.val 16 90 (by kernel_rfl)
                        obtain rfl : v90 = .pointer (some ⟨gl, q, none⟩) := f90
                        have hg := h.guard 6 80 (by kernel_rfl) false (fun v hv => hv)
                        have hbel := h.below
                        clear h
                        have cx := HLX.out wx hbel
                        refine gives_by (by simp only [Region.wanted, hg]; rfl) act.eval rfl ?_
                        generalize act.eval = ρ at *
                        intro hf hc
                        go_simp
                        exact ⟨Below.refl _ _, rfl⟩
                      · intro act wx h
                        obtain ⟨v87, e87, f87⟩ := h.val 13 87 (by kernel_rfl)
                        obtain rfl : v87 = .int .i32 (r : Int) := f87
                        obtain ⟨v91, e91, f91⟩ := h.val 17 91 (by kernel_rfl)
                        obtain rfl : v91 = .int .i32 (r : Int) := f91
                        have hg := h.guard 6 80 (by kernel_rfl) false (fun v hv => hv)
                        have hbel := h.below
                        clear h
                        refine gives_by (by simp only [Region.wanted, hg]; rfl) act.eval rfl ?_
                        generalize act.eval = ρ at *
                        intro hf hc
                        go_simp
                        exact ⟨Below.refl _ _, by first | rfl | (simp [FL, isV]; done) | (simp [FL, isV]; omega)⟩
                      · intro act wx h
                        obtain ⟨v80, e80, f80⟩ := h.val 6 80 (by kernel_rfl)
                        obtain rfl : v80 = .bool false := f80
                        obtain ⟨v92, e92, f92⟩ := h.val 18 92 (by kernel_rfl)
                        obtain rfl : v92 = .bool false := f92
                        have hbel := h.below
                        clear h
                        refine gives_by rfl act.eval rfl ?_
                        generalize act.eval = ρ at *
                        intro hf hc
                        go_simp
                        exact ⟨Below.refl _ _, rfl⟩
                    · intro vals w8 hb8 hv
                      have hv93 : vals 19 = .bool false := hv 19 93 (by kernel_rfl)
                      clear hv
                      generalize hact : putAll _ vals 0 _ = act
                      have HB8 := hide hb8
                      clear hb8
                      subst hact
                      simp only [putAll, Act.put, List.setIfInBounds_toArray, List.set_cons_zero, List.set_cons_succ, hv93, Nat.zero_add, Nat.reduceAdd]
                      clear hv93
                      go_wp2
                      go_roundg GQ
                      case measure => omega
                      case rel => exact ⟨q + 1, by omega, by go_num, HNEXT.out, HBQ.out.trans (HB8.out.mono HBQ.out.size)⟩
                  · have hne : ¬ ((foldN us r : Nat) : Int) = (r : Int) := by omega
                    have HBADr : Hid (E = 140) := HNO.out (by unfold docOk; rw [decide_eq_false hfe, Bool.and_false])
                    obtain ⟨fr, hfr⟩ : ∃ fr, foldN us r = fr := ⟨_, rfl⟩
                    rw [hfr] at hne HRQ
                    have HRU := HRQ
                    clear HRQ HL0 hb hlr hfe hfr
                    go_wp2
                    refine wp_region_facts (FL [isV (.slice (some ⟨gl, 0, none⟩) L lc), isV (.int .i64 (q : Int)), isV (.pointer (some ⟨gl, q, none⟩)), isV (.int .i32 (r : Int)), isV (.bool true), isV (.bool false), isV (.bool false), isV (.pointer (some ⟨w.heap.size, 0, none⟩)), isV (.slice fo fn fc), isV (.slice (some ⟨gl, 0, none⟩) L lc), isV (.int .i64 (q : Int)), isV (.pointer (some ⟨gl, q, none⟩)), isV (.int .i32 (r : Int)), isV (.int .i32 (fr : Int)), isV (.slice (some ⟨gl, 0, none⟩) L lc), isV (.int .i64 (q : Int)), isV (.pointer (some ⟨gl, q, none⟩)), isV (.int .i32 (r : Int)), isV (.bool true), isV (.bool true)]) 94 (by kernel_rfl) (by kernel_rfl) (by kernel_rfl) rfl (FL_stable _ (by repeat (first | exact trivial | refine ⟨stable_isV _, ?_⟩))) ?_ ?_
                    · refine ⟨?_, ?_, ?_, ?_, ?_, ?_, ?_, ?_, ?_, ?_, ?_, ?_, ?_, ?_, ?_, ?_, ?_, ?_, ?_, ?_, trivial⟩
                      · intro act wx h
                        have e4 : act.eval (.tmp 4) = .slice (some ⟨gl, 0, none⟩) L lc := h.old 4 (by kernel_rfl)
                        have hbel := h.below
                        clear h
                        refine gives_by rfl act.eval rfl ?_
                        generalize act.eval = ρ at *
                        intro hf hc
                        go_simp
                        exact ⟨Below.refl _ _, rfl⟩
                      · intro act wx h
                        have e5 : act.eval (.tmp 5) = .int .i64 (q : Int) := h.old 5 (by kernel_rfl)
                        have hbel := h.below
                        clear h
                        refine gives_by rfl act.eval rfl ?_
                        generalize act.eval = ρ at *
                        intro hf hc
                        go_simp
                        exact ⟨Below.refl _ _, rfl⟩
                      · intro act wx h
                        obtain ⟨v74, e74, f74⟩ := h.val 0 74 (by kernel_rfl)
                        obtain rfl : v74 = .slice (some ⟨gl, 0, none⟩) L lc := f74
                        obtain ⟨v75, e75, f75⟩ := h.val 1 75 (by kernel_rfl)
                        obtain rfl : v75 = .int .i64 (q : Int) := f75
                        have hbel := h.below
                        clear h
                        refine gives_by rfl act.eval rfl ?_
                        generalize act.eval = ρ at *
                        intro hf hc
                        go_simp
                        exact ⟨Below.refl _ _, rfl⟩
                      · intro act wx h
                        obtain ⟨v76, e76, f76⟩ := h.val 2 76 (by kernel_rfl)
                        obtain rfl : v76 = .pointer (some ⟨gl, q, none⟩) := f76
                        have hbel := h.below
                        clear h
                        have cx := HLX.out wx hbel
                        refine gives_by rfl act.eval rfl ?_
                        generalize act.eval = ρ at *
                        intro hf hc
                        go_simp
                        exact ⟨Below.refl _ _, rfl⟩
                      · intro act wx h
                        obtain ⟨v77, e77, f77⟩ := h.val 3 77 (by kernel_rfl)
                        obtain rfl : v77 = .int .i32 (r : Int) := f77
                        have hbel := h.below
                        clear h
                        refine gives_by rfl act.eval rfl ?_
                        generalize act.eval = ρ at *
                        intro hf hc
                        go_simp
                        exact call_gives (HLT.out wx) (fun _ => rfl)
                      · intro act wx h
                        obtain ⟨v78, e78, f78⟩ := h.val 4 78 (by kernel_rfl)
                        obtain rfl : v78 = .bool true := f78
                        have hbel := h.below
                        clear h
                        refine gives_by rfl act.eval rfl ?_
                        generalize act.eval = ρ at *
                        intro hf hc
                        go_simp
                        exact ⟨Below.refl _ _, rfl⟩
                      · intro act wx h
                        obtain ⟨v79, e79, f79⟩ := h.val 5 79 (by kernel_rfl)
                        obtain rfl : v79 = .bool false := f79
                        have hbel := h.below
                        clear h
                        refine gives_by rfl act.eval rfl ?_
                        generalize act.eval = ρ at *
                        intro hf hc
                        go_simp
                        exact ⟨Below.refl _ _, rfl⟩
                      · intro act wx h
                        have e1 : act.eval (.tmp 1) = .pointer (some ⟨w.heap.size, 0, none⟩) := h.old 1 (by kernel_rfl)
                        have hg := h.guard 6 80 (by kernel_rfl) false (fun v hv => hv)
                        have hbel := h.below
                        clear h
                        refine gives_by (by simp only [Region.wanted, hg]; rfl) act.eval rfl ?_
                        generalize act.eval = ρ at *
                        intro hf hc
                        go_simp
                        exact ⟨Below.refl _ _, rfl⟩
                      · intro act wx h
                        obtain ⟨v81, e81, f81⟩ := h.val 7 81 (by kernel_rfl)
                        obtain rfl : v81 = .pointer (some ⟨w.heap.size, 0, none⟩) := f81
                        have hg := h.guard 6 80 (by kernel_rfl) false (fun v hv => hv)
                        have hbel := h.below
                        clear h
                        have cx := (HBX.out.below (HB3.out.trans (hbel.mono HB3.out.size)) HBX.out.lt).cell 0
                        refine gives_by (by simp only [Region.wanted, hg]; rfl) act.eval rfl ?_
                        generalize act.eval = ρ at *
                        intro hf hc
                        go_simp
                        exact ⟨Below.refl _ _, rfl⟩
                      · intro act wx h
                        have e4 : act.eval (.tmp 4) = .slice (some ⟨gl, 0, none⟩) L lc := h.old 4 (by kernel_rfl)
                        have hg := h.guard 6 80 (by kernel_rfl) false (fun v hv => hv)
                        have hbel := h.below
                        clear h
                        refine gives_by (by simp only [Region.wanted, hg]; rfl) act.eval rfl ?_
                        generalize act.eval = ρ at *
                        intro hf hc
                        go_simp
                        exact ⟨Below.refl _ _, rfl⟩
                      · intro act wx h
                        have e5 : act.eval (.tmp 5) = .int .i64 (q : Int) := h.old 5 (by kernel_rfl)
                        have hg := h.guard 6 80 (by kernel_rfl) false (fun v hv => hv)
                        have hbel := h.below
                        clear h
                        refine gives_by (by simp only [Region.wanted, hg]; rfl) act.eval rfl ?_
                        generalize act.eval = ρ at *
                        intro hf hc
                        go_simp
                        exact ⟨Below.refl _ _, rfl⟩
                      · intro act wx h
                        obtain ⟨v83, e83, f83⟩ := h.val 9 83 (by kernel_rfl)
                        obtain rfl : v83 = .slice (some ⟨gl, 0, none⟩) L lc := f83
                        obtain ⟨v84, e84, f84⟩ := h.val 10 84 (by kernel_rfl)
                        obtain rfl : v84 = .int .i64 (q : Int) := f84
                        have hg := h.guard 6 80 (by kernel_rfl) false (fun v hv => hv)
                        have hbel := h.below
                        clear h
                        refine gives_by (by simp only [Region.wanted, hg]; rfl) act.eval rfl ?_
                        generalize act.eval = ρ at *
                        intro hf hc
                        go_simp
                        exact ⟨Below.refl _ _, rfl⟩
                      · intro act wx h
                        obtain ⟨v85, e85, f85⟩ := h.val 11 85 (by kernel_rfl)
                        obtain rfl : v85 = .pointer (some ⟨gl, q, none⟩) := f85
                        have hg := h.guard 6 80 (by kernel_rfl) false (fun v hv => hv)
                        have hbel := h.below
                        clear h
                        have cx := HLX.out wx hbel
                        refine gives_by (by simp only [Region.wanted, hg]; rfl) act.eval rfl ?_
                        generalize act.eval = ρ at *
                        intro hf hc
                        go_simp
                        exact ⟨Below.refl _ _, rfl⟩
                      · intro act wx h
                        obtain ⟨v82, e82, f82⟩ := h.val 8 82 (by kernel_rfl)
                        obtain rfl : v82 = .slice fo fn fc := f82
                        obtain ⟨v86, e86, f86⟩ := h.val 12 86 (by kernel_rfl)
                        obtain rfl : v86 = .int .i32 (r : Int) := f86
                        have hg := h.guard 6 80 (by kernel_rfl) false (fun v hv => hv)
                        have hbel := h.below
                        clear h
                        refine gives_by (by simp only [Region.wanted, hg]; rfl) act.eval rfl ?_
                        generalize act.eval = ρ at *
                        intro hf hc
                        go_simp
                        exact call_gives (HRU.out wx hbel) (fun _ => rfl)
                      · intro act wx h
                        have e4 : act.eval (.tmp 4) = .slice (some ⟨gl, 0, none⟩) L lc := h.old 4 (by kernel_rfl)
                        have hg := h.guard 6 80 (by kernel_rfl) false (fun v hv => hv)
                        have hbel := h.below
                        clear h
                        refine gives_by (by simp only [Region.wanted, hg]; rfl) act.eval rfl ?_
                        generalize act.eval = ρ at *
                        intro hf hc
                        go_simp
                        exact ⟨Below.refl _ _, rfl⟩
                      · intro act wx h
                        have e5 : act.eval (.tmp 5) = .int .i64 (q : Int) := h.old 5 (by kernel_rfl)
                        have hg := h.guard 6 80 (by kernel_rfl) false (fun v hv => hv)
                        have hbel := h.below
                        clear h
                        refine gives_by (by simp only [Region.wanted, hg]; rfl) act.eval rfl ?_
                        generalize act.eval = ρ at *
                        intro hf hc
                        go_simp
                        exact ⟨Below.refl _ _, rfl⟩
                      · intro act wx h
                        obtain ⟨v88, e88, f88⟩ := h.val 14 88 (by kernel_rfl)
                        obtain rfl : v88 = .slice (some ⟨gl, 0, none⟩) L lc := f88
                        obtain ⟨v89, e89, f89⟩ := h.val 15 89 (by kernel_rfl)
                        obtain rfl : v89 = .int .i64 (q : Int) := f89
                        have hg := h.guard 6 80 (by kernel_rfl) false (fun v hv => hv)
                        have hbel := h.below
                        clear h
                        refine gives_by (by simp only [Region.wanted, hg]; rfl) act.eval rfl ?_
                        generalize act.eval = ρ at *
                        intro hf hc
                        go_simp
                        exact ⟨Below.refl _ _, rfl⟩
                      · intro act wx h
                        obtain ⟨v90, e90, f90⟩ := h.val 16 90 (by kernel_rfl)
                        obtain rfl : v90 = .pointer (some ⟨gl, q, none⟩) := f90
                        have hg := h.guard 6 80 (by kernel_rfl) false (fun v hv => hv)
                        have hbel := h.below
                        clear h
                        have cx := HLX.out wx hbel
                        refine gives_by (by simp only [Region.wanted, hg]; rfl) act.eval rfl ?_
                        generalize act.eval = ρ at *
                        intro hf hc
                        go_simp
                        exact ⟨Below.refl _ _, rfl⟩
                      · intro act wx h
                        obtain ⟨v87, e87, f87⟩ := h.val 13 87 (by kernel_rfl)
                        obtain rfl : v87 = .int .i32 (fr : Int) := f87
                        obtain ⟨v91, e91, f91⟩ := h.val 17 91 (by kernel_rfl)
                        obtain rfl : v91 = .int .i32 (r : Int) := f91
                        have hg := h.guard 6 80 (by kernel_rfl) false (fun v hv => hv)
                        have hbel := h.below
                        clear h
                        refine gives_by (by simp only [Region.wanted, hg]; rfl) act.eval rfl ?_
                        generalize act.eval = ρ at *
                        intro hf hc
                        go_simp
                        exact ⟨Below.refl _ _, by first | rfl | (simp [FL, isV]; done) | (simp [FL, isV]; omega)⟩
                      · intro act wx h
                        obtain ⟨v80, e80, f80⟩ := h.val 6 80 (by kernel_rfl)
                        obtain rfl : v80 = .bool false := f80
                        obtain ⟨v92, e92, f92⟩ := h.val 18 92 (by kernel_rfl)
                        obtain rfl : v92 = .bool true := f92
                        have hbel := h.below
                        clear h
                        refine gives_by rfl act.eval rfl ?_
                        generalize act.eval = ρ at *
                        intro hf hc
                        go_simp
                        exact ⟨Below.refl _ _, rfl⟩
                    · intro vals w8 hb8 hv
                      have hv93 : vals 19 = .bool true := hv 19 93 (by kernel_rfl)
                      clear hv
                      generalize hact : putAll _ vals 0 _ = act
                      have HB8 := hide hb8
                      clear hb8
                      subst hact
                      simp only [putAll, Act.put, List.setIfInBounds_toArray, List.set_cons_zero, List.set_cons_succ, hv93, Nat.zero_add, Nat.reduceAdd]
                      clear hv93
                      go_wp2
                      go_ret
                      exact ⟨ret_int HBADr.out.symm, HB1.out.trans ((HB3.out.trans (HB8.out.mono HB3.out.size)).mono HB1.out.size)⟩
          · rw [decide_eq_false hlt] at hge
            rw [decide_eq_false hlt, Bool.false_and, Bool.false_and] at HGS
            have HBADr : Hid (E = 140) := by show _ = _; rw [HE2.out, HGS.out]; rfl
            clear hd hA hzd hs hq0 hlt HGS hso' hoki hokj
            go_quiet (fail)
            go_wp2
            go_ret
            exact ⟨ret_int HBADr.out.symm, HB1.out.trans ((below_drewN HB6.out nq).mono HB1.out.size)⟩

end Go.Proofs.YtimmfnjkknbofaaDoor
