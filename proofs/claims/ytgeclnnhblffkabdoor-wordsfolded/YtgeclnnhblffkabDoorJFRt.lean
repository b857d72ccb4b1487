/- Contracts: the document's Rune and Text (incipitref13). -/
import Derived.Test.YtgeclnnhblffkabDoorJFRf
import Derived.Test.YtgeclnnhblffkabDoorJCut
import Derived.Test.YtgeclnnhblffkabDoorJFMarks
namespace Go.Proofs.YtgeclnnhblffkabDoor
set_option maxRecDepth 20000
open Go.RowKit
set_option linter.unusedVariables false
set_option linter.unusedSimpArgs false
set_option maxRecDepth 100000

theorem atL_fold : ∀ (xs : List Fd) (r : Int) (j : Nat), (atL xs r j < 0 ∧ foldL xs r = r) ∨ ∃ (i : Nat) (x : Fd), atL xs r j = ((j + i : Nat) : Int) ∧ xs[i]? = some x ∧ foldL xs r = x.2.1 + (r - x.1) ∧ x.1 ≤ r ∧ r - x.1 < x.2.2
  | [], r, j => .inl ⟨by unfold atL; omega, rfl⟩
  | x :: xs, r, j => by
    unfold atL foldL
    by_cases h : x.1 ≤ r ∧ r - x.1 < x.2.2
    · rw [if_pos h, if_pos ⟨h.1, by omega⟩]
      exact .inr ⟨0, x, rfl, rfl, rfl, h⟩
    · rw [if_neg h, if_neg (by omega)]
      rcases atL_fold xs r (j + 1) with h1 | ⟨i, y, h1, h2, h3⟩
      · exact .inl h1
      · exact .inr ⟨i + 1, y, by rw [h1]; congr 1; omega, by simpa using h2, h3⟩

set_option maxHeartbeats 1000000 in
theorem refRune_any (w : World) (v : Value) (xs : List Fd) (r : Int) (hT : Tbl w v xs) (hr : I32 r) :
    Calls Tryd.prog 13 #[v, .int .i32 r] w fun e w' => e = .returned (.int .i32 (foldL (useL xs) r)) ∧ Below w.heap.size w w' := by
  have HC := hide (refCheck_any w v xs hT)
  have HF : Hid (∀ W, Below w.heap.size w W → Calls Tryd.prog 19 #[v, .int .i32 r] W fun e w' => e = .returned (.int .i64 (atL xs r 0)) ∧ Below W.heap.size W w') := fun W h => refFolds_any W v xs r (hT.below h) hr
  have hus := useL_ok xs
  obtain ⟨ao, cap, rfl⟩ := hT.len
  have HT := hide hT
  have hmx := hT.max
  obtain ⟨n, hn⟩ : ∃ n, xs.length = n := ⟨_, rfl⟩
  have HN := hide hn
  rw [hn] at HC HF HT hmx ⊢
  obtain ⟨hr1, hr2⟩ := hr
  clear hT hn
  cases hB : tblB xs with
  | false =>
    have HU : Hid (foldL (useL xs) r = r) := by show _ = _; rw [show useL xs = [] from if_neg (by rw [hB]; simp)]; rfl
    rw [show tblE xs = 130 from if_neg (by rw [hB]; simp)] at HC
    clear hB hus
    go_enter Tryd.func13, Tryd.ntmps13
    go_wp2_with (go_at_call 18; refine HC.out.mono ?_; rintro e w1 ⟨rfl, hb⟩; have HB := hide hb; clear HC hb)
    go_ret
    exact ⟨ret_int HU.out.symm, HB.out⟩
  | true =>
    have huse : useL xs = xs := if_pos hB
    rw [show tblE xs = 0 from if_pos hB] at HC
    rw [huse] at hus ⊢
    rcases atL_fold xs r 0 with ⟨h1, h2⟩ | ⟨i, ⟨f, t, m⟩, h1, h2, h3, h4, h5⟩
    · have HU := hide h2
      generalize atL xs r 0 = A at *
      clear hB hus h2 huse
      go_enter Tryd.func13, Tryd.ntmps13
      go_wp2_with (first
        | (go_at_call 18; refine HC.out.mono ?_; rintro e w1 ⟨rfl, hb⟩; have HB := hide hb; clear HC hb)
        | (go_at_call 19; refine (HF.out w1 HB.out).mono ?_; rintro e w2 ⟨rfl, hb⟩; have HB2 := hide (HB.out.trans (hb.mono HB.out.size)); clear HF hb))
      go_ret
      exact ⟨ret_int HU.out.symm, HB2.out⟩
    · rw [Nat.zero_add] at h1
      obtain ⟨⟨n1, n2⟩, f1, f2, t1, t2⟩ := hus _ (List.mem_of_getElem? h2)
      simp only at n1 n2 f1 f2 t1 t2 h3 h4 h5
      have hil : i < xs.length := (List.getElem?_eq_some_iff.1 h2).1
      have hii : (i : Int) < (n : Int) := by have := HN.out; omega
      have HCL : Hid (∀ W, Below w.heap.size w W → ∃ b off, ao = some ⟨b, off, none⟩ ∧ W.cell? ⟨b, off + i * 3, none⟩ = some (.int .i32 f) ∧ W.cell? ⟨b, off + i * 3 + 1, none⟩ = some (.int .i32 t)) := fun W h => by
        obtain ⟨b, off, x, e, hx, _, q0, q1, _⟩ := (HT.out.below h).at i hil
        obtain rfl : x = (f, t, m) := Option.some.inj (hx.symm.trans h2)
        exact ⟨b, off, e, q0, q1⟩
      have HU := hide h3
      rw [h1] at HF
      obtain ⟨S1, hS1⟩ : ∃ S, t + r = S := ⟨_, rfl⟩
      have hS1w : IntKind.i32.wrap S1 = S1 := IntWalk.i32_in _ ⟨by omega, by omega⟩
      obtain ⟨S2, hS2⟩ : ∃ S, S1 - f = S := ⟨_, rfl⟩
      have hS2w : IntKind.i32.wrap S2 = S2 := IntWalk.i32_in _ ⟨by omega, by omega⟩
      have HR : Hid (foldL xs r = S2) := by show _ = _; rw [h3]; omega
      clear hB hus h1 h2 h3 huse hil
      go_enter Tryd.func13, Tryd.ntmps13
      go_wp2_with (first
        | (go_at_call 18; refine HC.out.mono ?_; rintro e w1 ⟨rfl, hb⟩; have HB := hide hb; clear HC hb)
        | (go_at_call 19; refine (HF.out w1 HB.out).mono ?_; rintro e w2 ⟨rfl, hb⟩; have HB2 := hide (HB.out.trans (hb.mono HB.out.size)); obtain ⟨b, off, hao, q0, q1⟩ := HCL.out w2 HB2.out; subst hao; clear HF hb))
      go_quiet (fail)
      go_wp2
      go_ret
      exact ⟨ret_int HR.out.symm, below_drewG HB2.out _⟩

theorem bytes_none (w : World) (base : Nat) (hb : base ≤ w.heap.size) : (w.alloc (.cells #[] 5)).ownsRow base 5 1 (.slice (some ⟨w.heap.size, 0, none⟩) 0 0) 0 [] :=
  ⟨rfl, .inr ⟨w.heap.size, 0, #[], rfl, hb, heap_alloc_new w _, Nat.le_refl _, by simp [maxLen], by simp, rfl⟩⟩
theorem foldZ_snoc (xs : List Fd) (l : List (Nat × Nat)) (k : Nat) (x : Nat × Nat) (hx : l[k]? = some x) : foldZ xs (l.take (k + 1)) = foldZ xs (l.take k) ++ Lib.encodeRuneZ (foldL xs (x.2 : Int)) := by
  obtain ⟨hk, e⟩ := List.getElem?_eq_some_iff.1 hx
  rw [List.take_succ_eq_append_getElem hk, e]
  unfold foldZ
  rw [List.flatMap_append, List.flatMap_cons, List.flatMap_nil, List.append_nil]

set_option maxHeartbeats 2000000 in
theorem refText_any (w : World) (v : Value) (xs : List Fd) (hT : Tbl w v xs) (bv : Value) (zs : List Int) (hS : Sl w bv zs) (hl : zs.length ≤ 100000) :
    Calls Tryd.prog 6 #[v, bv] w fun e w' => e = .returned (.string (strOfNums (foldZ (useL xs) (runesN zs)))) ∧ Below w.heap.size w w' := by
  have HRR : Hid (∀ W, Below w.heap.size w W → Calls Tryd.prog 11 #[bv] W fun e w' => ∃ u, e = .returned u ∧ Marks w' W.heap.size u (runesN zs) ∧ Below W.heap.size W w') := fun W h => refRunes_any W _ zs (hS.below h) hl
  have HRU : Hid (∀ W r, Below w.heap.size w W → I32 r → Calls Tryd.prog 13 #[v, .int .i32 r] W fun e w' => e = .returned (.int .i32 (foldL (useL xs) r)) ∧ Below W.heap.size W w') := fun W r h hr => refRune_any W v xs r (hT.below h) hr
  have HV := hide (runesN_valid hS.1)
  have HI := hide (runesN_i32 zs)
  have HFI : Hid (∀ r, I32 r → I32 (foldL (useL xs) r)) := fun r hr => foldL_i32 _ (useL_ok xs) r hr
  have HFR : Hid (∀ r, runeB r = true → runeB (foldL (useL xs) r) = true) := fun r hr => fold_rune xs r hr
  have HFL := hide (foldZ_len xs)
  have HZO : Hid (∀ l, ByteOk (foldZ (useL xs) l)) := fun l => foldZ_ok xs l
  have hrl := runesN_len zs
  generalize runesN zs = R at *
  generalize useL xs = us at *
  obtain ⟨ao, cap, rfl⟩ := hT.len
  obtain ⟨bo, bn, bc, rfl⟩ := sl_form hS
  obtain ⟨n, hn⟩ : ∃ n, R.length = n := ⟨_, rfl⟩
  have HN := hide hn
  have hnl : n ≤ 100000 := by omega
  obtain ⟨w1, hw1⟩ : ∃ w1, w.alloc (.cells #[] 5) = w1 := ⟨_, rfl⟩
  have HO0 : Hid (w1.ownsRow w.heap.size 5 1 (.slice (some ⟨w.heap.size, 0, none⟩) 0 0) 0 []) := by rw [← hw1]; exact bytes_none w _ (Nat.le_refl _)
  have HB0 : Hid (Below w.heap.size w w1) := by rw [← hw1]; exact (Below.refl _ w).alloc (Nat.le_refl _) _
  have HZ0 : Hid (w.heap.size + 1 = w1.heap.size) := by show _ = _; rw [← hw1]; simp
  clear hT hS hn hl hrl
  go_enter Tryd.func6, Tryd.ntmps6
  go_wp2_with (go_at_call 11; refine (HRR.out w1 HB0.out).mono ?_; rintro e w2 ⟨u, rfl, hu, hb⟩; obtain ⟨al, cl, rfl⟩ := hu.shape; rw [HN.out] at hu ⊢; have HU := hide hu; have HB2 := hide (HB0.out.trans (hb.mono HB0.out.size)); have HO2 : Hid (w2.ownsRow w.heap.size 5 1 (.slice (some ⟨w.heap.size, 0, none⟩) 0 0) 0 []) := hide (ownsRow_only HO0.out (Only.of_below (fun _ => False) hb) (fun _ _ h => h)); have HS2 := hide hb.size; clear HRR hu hb HO0)
  clear hw1
  go_loopg [5, 7] n (fun k o i wr => ∃ (j m : Nat) (oa : Option Addr) (oc : Nat), k + j = n ∧ i = .int .i64 (j : Int) ∧ o = .slice oa m oc ∧ m = (foldZ us (R.take j)).length ∧ wr.ownsRow w.heap.size 5 1 (.slice oa m oc) m ((foldZ us (R.take j)).map (Value.int .u8)) ∧ Marks wr w1.heap.size (.slice al n cl) R ∧ (∀ q, (Value.slice oa m oc).ownBlock = some q → (Value.slice al n cl).ownBlock ≠ some q) ∧ Below w.heap.size w wr ∧ w1.heap.size ≤ wr.heap.size)
  case atStart => exact ⟨0, 0, _, 0, by omega, rfl, rfl, rfl, HO2.out, HU.out, (fun q hq hq2 => by have h1 := (HU.out.lt q hq2).1; have h2 := HZ0.out; have h3 := Option.some.inj hq; simp only at h3; omega), HB2.out, HS2.out⟩
  case round =>
    clear HO2 HU HB2
    obtain ⟨j, m, oa, oc, hk, rfl, rfl, hm, ho, hmk, hap, hbw, hsz⟩ := hrel
    have HO := hide ho
    have HMK := hide hmk
    have HAP := hide hap
    have HB := hide hbw
    have HSZ := hide hsz
    have HM := hide hm
    clear ho hmk hap hbw hsz hm
    cases gk with
    | zero =>
      obtain rfl : j = n := by omega
      have hlt : ¬ (j : Int) < (j : Int) := by omega
      have hfin : R.take j = R := List.take_of_length_le (by rw [HN.out]; exact Nat.le_refl _)
      have hcv : (convert 26 9 (.slice oa m oc)).run Tryd.prog wr = .ok (.string (strOfNums (foldZ us R))) wr := by
        have h1 := HO.out
        rw [hfin] at h1
        exact run_convert_sl (P := Tryd.prog) wr 26 5 9 Tryd.underlying26 Tryd.underlying5 Tryd.underlying9 _ _ (sl_of_own h1 (HZO.out R) rfl)
      clear hfin
      go_wp2
      go_ret
      exact ⟨rfl, HB.out⟩
    | succ k =>
      have hj : (j : Int) < (n : Int) := by omega
      obtain ⟨b, off, ⟨p, r⟩, rfl, hx, q0, q1⟩ := (HMK.out.read (by have := HN.out; omega)).at j (by rw [HN.out]; omega)
      simp only at q0 q1
      have hri := HI.out _ (List.mem_of_getElem? hx)
      have hrv := HV.out _ (List.mem_of_getElem? hx)
      simp only at hri hrv
      have hI : I32 (r : Int) := ⟨by omega, by omega⟩
      have HRC := hide (HRU.out wr (r : Int) HB.out hI)
      have HFF := hide (fun W => form_any W (foldL us (r : Int)) (HFI.out _ hI))
      have hsn := foldZ_snoc us R j (p, r) hx
      rw [enc_form _ (HFR.out _ hrv)] at hsn
      have HSN := hide hsn
      have hfl := form_pos (HFR.out _ hrv)
      have HFP := hide hfl
      have hml : m ≤ 400000 := by have h1 := HFL.out (R.take j); have h2 := HM.out; simp at h1; omega
      have HAPP : Hid (∀ W, Below wr.heap.size wr W → ∀ fa fn fc, Sl W (.slice fa fn fc) (formL (foldL us (r : Int))) → ∃ oa2 oc2 w3, (Builtin.append_ #[26, 26] 26 #[.slice oa m oc, .slice fa fn fc]).run Tryd.prog W = .ok (.slice oa2 (foldZ us (R.take (j + 1))).length oc2) w3 ∧ w3.ownsRow w.heap.size 5 1 (.slice oa2 (foldZ us (R.take (j + 1))).length oc2) (foldZ us (R.take (j + 1))).length ((foldZ us (R.take (j + 1))).map (Value.int .u8)) ∧ Marks w3 w1.heap.size (.slice (some ⟨b, off, none⟩) n cl) R ∧ (∀ q, (Value.slice oa2 (foldZ us (R.take (j + 1))).length oc2).ownBlock = some q → (Value.slice (some ⟨b, off, none⟩) n cl).ownBlock ≠ some q) ∧ Below w.heap.size w w3 ∧ w1.heap.size ≤ w3.heap.size) := fun W hW fa fn fc hs => by
        obtain ⟨i0, hi0, hz0, hz1, hz2⟩ := info_parts infoU8
        have hoW : w.heap.size ≤ W.heap.size := by have := HB.out.size; have := hW.size; omega
        have ho := ownsRow_only HO.out (Only.of_below (fun _ => False) hW) (fun _ _ h => h)
        have hmW := HMK.out.below hW
        have hlen : (foldZ us (R.take (j + 1))).length = m + (formL (foldL us (r : Int))).length := by rw [HSN.out, List.length_append, ← HM.out]
        obtain ⟨fb, fo, hs0⟩ : ∃ ad : Option Addr, ∃ q : Nat, fa = ad := ⟨fa, 0, rfl⟩
        have hfpos := HFP.out
        obtain ⟨ad, had, hsrc⟩ := hs.src (by omega)
        subst had
        have hfn := sl_len hs
        subst hfn
        obtain ⟨v', w3, hr, h1, h2, h3, h4⟩ := run_append_own_at (P := Tryd.prog) W w.heap.size 26 26 5 i0 (.int .u8 0) 1 1 Tryd.underlying26 hi0 hz0 hz1 hz2 rfl (by decide) _ m _ ho ad (formL (foldL us (r : Int))).length fc ((formL (foldL us (r : Int))).map (Value.int .u8)) (by simp) hsrc (oneCell_bytes _) (by unfold maxLen; omega) (by omega) hoW
        obtain ⟨oa2, oc2, rfl⟩ := own_form' h1
        have hoA : Only (fun q => (Value.slice oa m oc).ownBlock = some q) W w3 := (Only.refl _ W).grown h2 (fun q e _ => e)
        have hbW := HB.out.trans (hW.mono HB.out.size)
        refine ⟨oa2, oc2, w3, by rw [hlen]; exact hr, by rw [hlen, HSN.out, List.map_append]; exact h1, hmW.only hoA (fun q hq e => HAP.out q e hq), fun q hq hq2 => ?_, hbW.trans (hoA.below hbW.size (fun q hq e => by have := (World.ownsRow.lt ho q e).1; omega)), by have := hoA.size; have := hW.size; have := HSZ.out; omega⟩
        rw [hlen] at hq
        rcases h4 with e | e
        · exact HAP.out q (e.symm.trans hq) hq2
        · have := Option.some.inj (e.symm.trans hq)
          have := (hmW.lt q hq2).2
          omega
      obtain ⟨F, hF⟩ : ∃ F, foldL us (r : Int) = F := ⟨_, rfl⟩
      rw [hF] at HRC HFF HAPP
      clear hx hsn hfl hrv hF
      go_wp2_with (first
        | (go_at_call 13; refine HRC.out.mono ?_; rintro e w4 ⟨rfl, hb⟩; have HB4 := hide hb; clear HRC hb)
        | (go_at_call 12; refine (HFF.out w4).mono ?_; rintro e w5 ⟨u5, rfl, hs, hb⟩; obtain ⟨fa, fn, fc, rfl⟩ := sl_form hs; obtain ⟨oa2, oc2, w6, hap6, ho6, hm6, hq6, hb6, hz6⟩ := HAPP.out w5 (HB4.out.trans (hb.mono HB4.out.size)) fa fn fc hs; have HA6 := hide hap6; have HO6 := hide ho6; have HM6 := hide hm6; have HQ6 := hide hq6; have HB6 := hide hb6; have HZ6 := hide hz6; clear HFF HAPP hs hb hap6 ho6 hm6 hq6 hb6 hz6)
        | (at_builtin; (with_reducible refine wpList_append_run _ rfl (.tmp 17) (.tmp 25) 26 rfl _ _ ?_ ?_ _ _ HA6.out ?_); exact rfl; exact rfl; clear HA6))
      go_roundg k
      case measure => omega
      case rel => exact ⟨j + 1, _, oa2, oc2, by omega, by go_num, rfl, rfl, HO6.out, HM6.out, HQ6.out, HB6.out, HZ6.out⟩

end Go.Proofs.YtgeclnnhblffkabDoor
