/- Contracts: package words' wordsOf, and the iterator that it answers. -/
import Derived.Test.YtimmfnjkknbofaaDoorJWdLed
namespace Go.Proofs.YtimmfnjkknbofaaDoor
set_option maxRecDepth 20000
open Go.RowKit Go.Shelf
set_option linter.unusedVariables false
set_option linter.unusedSimpArgs false
set_option maxRecDepth 100000
attribute [local go_sem] Oper.semAt_some

/-- the words with their numbers -/
def wdsN (l : List Nat) : List (List Nat × Nat) := (wds l).zipIdx
theorem wdsN_len (l : List Nat) : (wdsN l).length = (wds l).length := by simp [wdsN]
theorem wdsN_at (l : List Nat) (k : Nat) (hk : k < (wdsN l).length) : (wdsN l)[k] = ((wds l)[k]'(by rw [wdsN_len] at hk; exact hk), k) := by simp [wdsN]
abbrev encW : List Nat × Nat → Array Value := fun x => #[.int .i64 (x.2 : Int), .string (strOfNums (fmL x.1))]

theorem wordsOf_any (w : World) (s : ByteArray) : Calls Tryd.prog 43 #[.string s] w fun e w' => e = .returned (.func (.func 66) #[] #[.pointer (some ⟨w.heap.size, 0, none⟩)]) ∧ w' = w.alloc (.cells #[.string s] 9) := by
  go_enter Tryd.func43, Tryd.ntmps43
  go_wp2
  go_ret
  exact ⟨rfl, rfl⟩
theorem enters_words : ∀ args w, (callFunc 66 args).run Tryd.prog w = .ok (.enter 66 args) w := enters_of Tryd.func66 (by kernel_rfl) rfl

/-- where the words' iterator is: behind the bytes up to pos, k words told, the last one's end at E -/
def WdAt (zs : List Int) (k pos E : Nat) : Prop :=
  (E = pos + (fmL (ledR (zs.drop pos))).length ∧ (wds (rs zs)).drop k = wds ((rs (zs.drop pos)).dropWhile letN)) ∨ (E ≤ pos ∧ (wds (rs zs)).drop k = wds (rs (zs.drop pos)))
theorem wdAt_start (zs : List Int) : WdAt zs 0 0 0 := .inr ⟨Nat.le_refl _, rfl⟩
theorem wdAt_end {zs : List Int} {k pos E : Nat} (h : WdAt zs k pos E) (hp : zs.length ≤ pos) (hk : k ≤ (wds (rs zs)).length) : k = (wds (rs zs)).length := by
  have h0 : zs.drop pos = [] := List.drop_eq_nil_of_le hp
  have hd : (wds (rs zs)).drop k = [] := by
    rcases h with ⟨_, h⟩ | ⟨_, h⟩
    · rw [h, h0]; rfl
    · rw [h, h0]; rfl
  have := List.drop_eq_nil_iff.1 hd
  omega
theorem dropWhile_on {r : Nat} (l : List Nat) (h : letN r = true) : (r :: l).dropWhile letN = l.dropWhile letN := List.dropWhile_cons_of_pos h
theorem dropWhile_off {r : Nat} (l : List Nat) (h : letN r = false) : (r :: l).dropWhile letN = r :: l := List.dropWhile_cons_of_neg (by rw [h]; simp)
/-- a rune that is passed over: of the last word, or no letter -/
theorem wdAt_skip {zs : List Int} {k pos E : Nat} (hb : ByteOk zs) (h : WdAt zs k pos E) (hne : zs.drop pos ≠ []) (hs : pos < E ∨ letN (decN (zs.drop pos)).1 = false) : WdAt zs k (pos + (decN (zs.drop pos)).2) E := by
  have hbd : ByteOk (zs.drop pos) := fun z hz => hb z (List.mem_of_mem_drop hz)
  have hrs := rs_on hne
  have hdd : (zs.drop pos).drop (decN (zs.drop pos)).2 = zs.drop (pos + (decN (zs.drop pos)).2) := List.drop_drop
  have hwd := decN_pos _ hne
  cases hr : letN (decN (zs.drop pos)).1 with
  | true =>
    have hlt : pos < E := by
      rcases hs with h | h
      · exact h
      · rw [hr] at h; cases h
    rcases h with ⟨h1, h2⟩ | ⟨h1, _⟩
    · have hy := led_yes hne hr
      have hon := (led_on hbd hne hr).2
      left
      rw [hy, fmL_cons, List.length_append, ← hon, hdd] at h1
      rw [hrs, dropWhile_on _ hr, hdd] at h2
      exact ⟨by omega, h2⟩
    · omega
  | false =>
    right
    rcases h with ⟨h1, h2⟩ | ⟨h1, h2⟩
    · rw [led_no hne hr] at h1
      rw [hrs, dropWhile_off _ hr, wds_no _ hr, hdd] at h2
      simp [fmL_nil] at h1
      exact ⟨by omega, h2⟩
    · rw [hrs, wds_no _ hr, hdd] at h2
      exact ⟨by omega, h2⟩
/-- a word begins -/
theorem wdAt_word {zs : List Int} {k pos E : Nat} (hb : ByteOk zs) (h : WdAt zs k pos E) (hne : zs.drop pos ≠ []) (hE : E ≤ pos) (hr : letN (decN (zs.drop pos)).1 = true) :
    (∃ hk : k < (wds (rs zs)).length, (wds (rs zs))[k] = ledR (zs.drop pos)) ∧ WdAt zs (k + 1) (pos + (decN (zs.drop pos)).2) (pos + (fmL (ledR (zs.drop pos))).length) := by
  have hbd : ByteOk (zs.drop pos) := fun z hz => hb z (List.mem_of_mem_drop hz)
  have hrs := rs_on hne
  have hdd : (zs.drop pos).drop (decN (zs.drop pos)).2 = zs.drop (pos + (decN (zs.drop pos)).2) := List.drop_drop
  have hy := led_yes hne hr
  have hon := (led_on hbd hne hr).2
  have hln := (letN_len hr).1
  rcases h with ⟨h1, h2⟩ | ⟨h1, h2⟩
  · rw [hy, fmL_cons, List.length_append] at h1
    omega
  · rw [hrs, wds_yes _ hr] at h2
    have hkl : k < (wds (rs zs)).length := by
      apply Nat.lt_of_not_le
      intro hle
      rw [List.drop_eq_nil_of_le hle] at h2
      cases h2
    rw [List.drop_eq_getElem_cons hkl] at h2
    obtain ⟨e1, e2⟩ := List.cons.inj h2
    refine ⟨⟨hkl, ?_⟩, .inl ⟨?_, ?_⟩⟩
    · rw [e1, hy]
      rfl
    · rw [hy, fmL_cons, List.length_append, ← hon, hdd]
      omega
    · rw [e2, hdd]

theorem round_wide0 {P : Program} {l : Nat} {f : FuncId} {tmps : Array Value} {assign body : Code} {w : World} {R : Ending → World → Prop} {n : Nat} (h : RoundIn Fence.wide n P l f tmps assign body w R) (m : Nat) : RoundIn Fence.wide m P l f tmps assign body w R :=
  ⟨trivial, fun c cs _ => h.2 c cs (room_wide _)⟩

set_option maxHeartbeats 4000000 in
theorem words_iter (Bs : Nat) (zs : List Int) (hb : ByteOk zs) (hmx : zs.length ≤ 1000000) : Iter2 Tryd.prog 66 #[.pointer (some ⟨Bs, 0, none⟩)] encW (wdsN (rs zs)) (fun _ W => W.cell? ⟨Bs, 0, none⟩ = some (.string (strOfNums zs)) ∧ Let W) := by
  intro l J Jx hJ hJx hV hY Y W h0
  obtain ⟨hc, hLt⟩ := hV Y 0 W h0
  obtain ⟨s, hs⟩ : ∃ s, strOfNums zs = s := ⟨_, rfl⟩
  have hsz : s.size = zs.length := by rw [← hs]; exact strOfNums_size zs
  rw [hs] at hc
  have hsl : ∀ W (n : Nat), n ≤ zs.length → (Instr.slice 9 (.string s) (some (.int .i64 (n : Int))) none none).run Tryd.prog W = .ok (.string (strOfNums (zs.drop n))) W := fun W n h => by rw [← hs]; exact slice_from W zs n h
  obtain ⟨q, hq⟩ : ∃ q, W.heap.size = q := ⟨_, rfl⟩
  obtain ⟨W1, hW1⟩ : ∃ W1, W.iter s 0 = W1 := ⟨_, rfl⟩
  have hit1 : W1.heap[q]? = some (.stringIter s 0) := by rw [← hW1, ← hq]; exact World.iter_heap W s 0
  have hz1 : W1.heap.size = q + 1 := by rw [← hW1, ← hq]; show (W.heap.push _).size = _; simp
  have ho1 : Only Y W W1 := by rw [← hW1]; exact (Only.refl Y W).alloc _
  have hj1 := hJ Y 0 W W1 h0 ho1
  have hYq : (more Y W W1) q := .inr (by omega)
  have hrun : (Instr.range 9 (.string s)).run Tryd.prog W = .ok (.pointer (some ⟨q, 0, none⟩)) W1 := by
    rw [run_range_string W 9 s Tryd.underlying9, hW1, hq]
  generalize more Y W W1 = Y1 at *
  have HJ1 := hide hj1
  have HYQ := hide hYq
  have HJ := hide hJ
  have HY := hide hY
  have HV := hide hV
  have HS := hide hs
  have HSZ := hide hsz
  have HSL := hide hsl
  have HLEN : Hid ((wdsN (rs zs)).length = (wds (rs zs)).length) := wdsN_len _
  have HWL : Hid ((wds (rs zs)).length ≤ zs.length) := Nat.le_trans (wds_len _) (rs_len zs)
  clear hJ hY hV hJx h0 hj1 hYq ho1 hW1 hs hsz hsl hLt
  refine callsIn_wide.2 ((callsIn_wide (n := 3)).1 ?_)
  refine callsIn_of_wp_marks Tryd.func66 rfl trivial ?_ rfl
  simp only [Tryd.ntmps66, List.size_toArray, List.length_cons, List.length_nil, Nat.reduceAdd, Nat.reduceSub, Array.replicate_succ, Array.replicate_zero, List.push_toArray, List.append_toArray, List.nil_append, List.cons_append]
  gi_wp2
  refine wpIn_wide.2 (wp_scope_straight ((wpIn_wide (n := 3)).1 ?_))
  gi_wp2
  refine wpIn_label ?_
  gi_wp2
  clear hrun hc
  gi_loopw [3, 4] (fun n3 n4 wr => ∃ (k pos E : Nat) (Y2 : Nat → Prop), n3 = .int .i64 (k : Int) ∧ n4 = .int .i64 (E : Int) ∧ E ≤ zs.length ∧ J Y2 k wr ∧ Y2 q ∧ wr.heap[q]? = some (.stringIter s pos) ∧ WdAt zs k pos E ∧ k ≤ (wds (rs zs)).length) (fun _ _ wr => zs.length + 1 - wr.iterPos q)
  case atStart => exact ⟨0, 0, 0, Y1, rfl, rfl, Nat.zero_le _, HJ1.out, HYQ.out, hit1, wdAt_start zs, Nat.zero_le _⟩
  case round =>
    clear HJ1 hit1 hz1
    obtain ⟨k, pos, E, Y2, rfl, rfl, hE, hj, hyq, hit, hat, hk⟩ := hrel
    have hlt : q < wr.heap.size := (Array.getElem?_eq_some_iff.1 hit).1
    by_cases hp : pos < zs.length
    · have hne : zs.drop pos ≠ [] := by
        intro e
        have := congrArg List.length e
        simp at this
        omega
      have hnx : ∀ ty, (Instr.next (.pointer (some ⟨q, 0, none⟩)) true ty).run Tryd.prog wr = _ := fun ty => Lib.run_next_any_at wr q s pos ty hit (by rw [HSZ.out]; exact hp)
      have hdec : Utf8.decode s pos = decN (zs.drop pos) := by rw [← HS.out]; exact dec_at zs pos
      rw [hdec] at hnx
      have hwd := decN_pos _ hne
      have hle := decN_le (zs.drop pos)
      have HSK : Hid (pos < E ∨ letN (decN (zs.drop pos)).1 = false → WdAt zs k (pos + (decN (zs.drop pos)).2) E) := fun h => wdAt_skip hb hat hne h
      have HWW : Hid (E ≤ pos → letN (decN (zs.drop pos)).1 = true → (∃ hk : k < (wds (rs zs)).length, (wds (rs zs))[k] = ledR (zs.drop pos)) ∧ WdAt zs (k + 1) (pos + (decN (zs.drop pos)).2) (pos + (fmL (ledR (zs.drop pos))).length)) := fun h1 h2 => wdAt_word hb hat hne h1 h2
      obtain ⟨r, hr⟩ : ∃ r, (decN (zs.drop pos)).1 = r := ⟨_, rfl⟩
      obtain ⟨n, hn⟩ : ∃ n, (decN (zs.drop pos)).2 = n := ⟨_, rfl⟩
      rw [hr] at hnx hle HSK HWW
      rw [hn] at hnx hwd HSK HWW
      obtain ⟨W2, hW2⟩ : ∃ W2, wr.iterAt q s (pos + n) = W2 := ⟨_, rfl⟩
      have hit2 : W2.heap[q]? = some (.stringIter s (pos + n)) := by rw [← hW2]; exact Lib.iterAt_heap wr q s pos (pos + n) hit
      have ho2 : Only Y2 wr W2 := by rw [← hW2]; exact (only_iterAt wr q s (pos + n)).mono (fun j _ e => by rw [e]; exact hyq)
      have hz2 : W2.heap.size = wr.heap.size := by rw [← hW2]; exact Lib.iterAt_size _ _ _ _
      have hj2 := HJ.out Y2 k wr W2 hj ho2
      have hyq2 : more Y2 wr W2 q := .inl hyq
      rw [hW2] at hnx
      generalize more Y2 wr W2 = Y3 at *
      have HIT := hide hit2
      have HIT0 := hide hit
      have HJ2 := hide hj2
      have HQ2 := hide hyq2
      have HQZ : Hid (q < W2.heap.size) := by show _ < _; omega
      have hE1 : (E : Int) ≤ 1000000 := by omega
      have HEZ := hide hE
      have HKL := hide hk
      have HPL := hide hp
      have HN1 := hide hwd
      clear hat hj hit hyq hdec hne hr hn hW2 hit2 ho2 hj2 hyq2 hlt hz2 hE hk hp hwd
      by_cases hpE : pos < E
      · have hpi : (pos : Int) < (E : Int) := by omega
        have HAT := hide (HSK.out (.inl hpE))
        clear HSK HWW hpE
        gi_wp2
        refine ⟨trivial, ?_⟩
        gi_wp2
        go_roundw
        case rel => exact ⟨k, pos + n, E, Y3, rfl, rfl, HEZ.out, HJ2.out, HQ2.out, HIT.out, HAT.out, HKL.out⟩
        case measure =>
          have := HN1.out
          have := HPL.out
          simp only [World.iterPos, HIT.out, HIT0.out]
          omega
      · have hpi : ¬ (pos : Int) < (E : Int) := by omega
        have hle2 : E ≤ pos := by omega
        have HLT := hide (letter_any W2 (r : Int) ⟨by omega, by omega⟩ (HV.out Y3 k W2 HJ2.out).2)
        cases hA : letN r with
        | false =>
          rw [show letB (r : Int) = false from hA] at HLT
          have HAT := hide (HSK.out (.inr hA))
          clear HSK HWW hpE hA hle2
          gi_wp2_with (first
            | (refine ⟨trivial, ?_⟩; gi_at_call 67; refine (callsIn_wide.2 HLT.out).mono ?_; rintro e w3 ⟨rfl, hbb⟩; have HB3 := hide hbb; clear HLT hbb))
          go_roundw
          case rel => exact ⟨k, pos + n, E, _, rfl, rfl, HEZ.out, HJ.out Y3 k W2 w3 HJ2.out (Only.of_below _ HB3.out), .inl HQ2.out, (HB3.out.block q HQZ.out).trans HIT.out, HAT.out, HKL.out⟩
          case measure =>
            have := HN1.out
            have := HPL.out
            have h3 : w3.heap[q]? = some (.stringIter s (pos + n)) := (HB3.out.block q HQZ.out).trans HIT.out
            simp only [World.iterPos, h3, HIT0.out]
            omega
        | true =>
          rw [show letB (r : Int) = true from hA] at HLT
          obtain ⟨⟨hkl, hwk⟩, hat2⟩ := HWW.out hle2 hA
          have hplen : (pos : Nat) ≤ zs.length := by have := HPL.out; omega
          have hbd : ByteOk (zs.drop pos) := fun z hz => hb z (List.mem_of_mem_drop hz)
          have HLD : Hid (∀ W, Let W → Calls Tryd.prog 68 #[.string (strOfNums (zs.drop pos))] W fun e w' => e = .returned (.string (strOfNums (fmL (ledR (zs.drop pos))))) ∧ Below W.heap.size W w') := fun W h => led_any W _ hbd (by simp; omega) h
          have hsl : ∀ W, (Instr.slice 9 (.string s) (some (.int .i64 (pos : Int))) none none).run Tryd.prog W = .ok (.string (strOfNums (zs.drop pos))) W := fun W => HSL.out W pos hplen
          have HPE : Hid (pos + (fmL (ledR (zs.drop pos))).length ≤ zs.length) := by
            have h1 := led_pre _ (zs.drop pos) hbd (Nat.le_refl _)
            have h2 := h1.length_le
            rw [List.length_drop] at h2
            show _ ≤ _
            omega
          have HXS : Hid ((strOfNums (fmL (ledR (zs.drop pos)))).size = (fmL (ledR (zs.drop pos))).length) := strOfNums_size _
          obtain ⟨X, hX⟩ : ∃ X, strOfNums (fmL (ledR (zs.drop pos))) = X := ⟨_, rfl⟩
          obtain ⟨D, hD⟩ : ∃ D, strOfNums (zs.drop pos) = D := ⟨_, rfl⟩
          rw [hX] at HLD HXS
          rw [hD] at HLD hsl
          obtain ⟨M, hM⟩ : ∃ M, (fmL (ledR (zs.drop pos))).length = M := ⟨_, rfl⟩
          rw [hM] at hat2 HPE HXS
          have HAT := hide hat2
          have hXM := HXS.out
          have hM1 : (pos : Int) + (M : Int) ≤ 1000000 := by have := HPE.out; omega
          have hk1 : (k : Int) ≤ 1000000 := by have := HWL.out; omega
          have HKW := hide hkl
          have HY2 : Hid (∀ Y4 W4, J Y4 k W4 → YieldAt Fence.wide 1 Tryd.prog l #[.int .i64 (k : Int), .string X] W4 fun e W' => (e = .returned (.bool true) ∧ J Y4 (k + 1) W' ∧ KeepsY Y4 W4 W') ∨ (e = .returned (.bool false) ∧ Jx Y4 (k + 1) W' ∧ KeepsY Y4 W4 W')) := fun Y4 W4 h => by
            have hkN : k < (wdsN (rs zs)).length := by rw [wdsN_len]; exact hkl
            have := HY.out Y4 k hkN W4 h
            rw [wdsN_at _ k hkN, hwk] at this
            simp only [encW, hX] at this
            exact this
          have HJL : Hid (∀ W3, Below W2.heap.size W2 W3 → J (more Y3 W2 W3) k W3 ∧ W3.cell? ⟨Bs, 0, none⟩ = some (.string s) ∧ Let W3) := fun W3 hb3 => by
            have h1 := HJ.out Y3 k W2 W3 HJ2.out (Only.of_below _ hb3)
            have h2 := HV.out _ k W3 h1
            rw [HS.out] at h2
            exact ⟨h1, h2⟩
          clear HSK HWW hpE hA hle2 hkl hwk hat2 hplen hbd hX hD hM
          gi_wp2_with (first
            | (refine ⟨trivial, ?_⟩; gi_at_call 67; refine (callsIn_wide.2 HLT.out).mono ?_; rintro e w3 ⟨rfl, hbb⟩; obtain ⟨j3, c3, l3⟩ := HJL.out w3 hbb; have HB3 := hide hbb; have HL3 := hide l3; clear HLT hbb j3 l3)
            | (refine ⟨trivial, ?_⟩; gi_at_call 68; refine (callsIn_wide.2 (HLD.out w3 HL3.out)).mono ?_; rintro e w4 ⟨rfl, hbb⟩; have HB4 := hide (HB3.out.trans (hbb.mono HB3.out.size)); obtain ⟨j4, c4, l4⟩ := HJL.out w4 HB4.out; obtain ⟨fn, tmps, assign, body, hyy, hrr⟩ := HY2.out _ w4 j4; have HRR := hide hrr; have HJ4 := hide j4; clear HLD hbb l4 hrr j4 HY2 c4 c3))
          refine (round_wide0 HRR.out _).mono ?_
          rintro e W5 (⟨rfl, hJ5, hK5⟩ | ⟨rfl, hJx5, _⟩)
          · have HJ5 := hide hJ5
            have HK5 := hide hK5
            clear hJ5 hK5 HRR hyy
            have HI5 : Hid (W5.heap[q]? = some (.stringIter s (pos + n))) := (HK5.out q (.inl HQ2.out)).trans ((HB4.out.block q HQZ.out).trans HIT.out)
            gi_wp2
            go_roundw
            case rel => exact ⟨k + 1, pos + n, pos + M, _, by go_num, by go_num, HPE.out, HJ5.out, .inl HQ2.out, HI5.out, HAT.out, HKW.out⟩
            case measure =>
              have := HN1.out
              have := HPL.out
              simp only [World.iterPos, HI5.out, HIT0.out]
              omega
          · have HJ5 := hide hJx5
            clear hJx5 HRR hyy
            have HKN : Hid (k < (wdsN (rs zs)).length) := by show _ < _; rw [wdsN_len]; exact HKW.out
            gi_wp2
            rw [Exit.noGoto_ret]
            exact ⟨_, results_none rfl _ _ _, ⟨_, rfl⟩, _, .inr ⟨k, HKN.out, HJ5.out⟩⟩
    · have hnx : ∀ ty, (Instr.next (.pointer (some ⟨q, 0, none⟩)) true ty).run Tryd.prog wr = _ := fun ty => Lib.run_next_end_at wr q s pos ty hit (by rw [HSZ.out]; exact hp)
      have hke := wdAt_end hat (by omega) hk
      have HJE := hide hj
      clear hj hyq hit hat
      subst hke
      gi_wp2
      rw [Exit.noGoto_normal]
      exact ⟨_, results_none rfl _ _ _, ⟨_, rfl⟩, Y2, .inl (by rw [HLEN.out]; exact HJE.out)⟩

end Go.Proofs.YtimmfnjkknbofaaDoor
