/- The runes of bytes (pure); package fold's Runes, as an iterator. -/
import Derived.Test.YtimmfnjkknbofaaDoorJFRange
import Derived.Test.YtimmfnjkknbofaaDoorJFChk
import Derived.Test.YtimmfnjkknbofaaDoorJFRune
import Derived.Lib.OthersKept
namespace Go.Proofs.YtimmfnjkknbofaaDoor
set_option maxRecDepth 20000
open Go.RowKit Go.Shelf
set_option linter.unusedVariables false
set_option maxRecDepth 100000
attribute [local go_sem] Oper.semAt_some

/-- the first rune of bytes, and how many bytes it has -/
def decN (b : List Int) : Nat × Nat := Utf8.decode (strOfNums b) 0
theorem str_get (zs : List Int) (j : Nat) : (strOfNums zs).get! j = if j < zs.length then UInt8.ofNat (zs.getD j 0).toNat else default := by
  show (strOfNums zs).data[j]! = _
  by_cases h : j < zs.length
  · rw [if_pos h]
    simp [strOfNums, h]
  · rw [if_neg h]
    have : ¬ j < (strOfNums zs).data.size := by simpa [strOfNums] using h
    exact getElem!_neg _ _ this
theorem str_drop (zs : List Int) (i k : Nat) : (strOfNums zs).get! (i + k) = (strOfNums (zs.drop i)).get! (0 + k) := by
  rw [str_get, str_get, Nat.zero_add]
  have e : (zs.drop i).getD k 0 = zs.getD (i + k) 0 := by simp [List.getD]
  rw [e, List.length_drop]
  by_cases h : i + k < zs.length
  · rw [if_pos h, if_pos (by omega)]
  · rw [if_neg h, if_neg (by omega)]
theorem str_in (zs : List Int) (i k : Nat) : decide (i + k < (strOfNums zs).size) = decide (0 + k < (strOfNums (zs.drop i)).size) := by
  rw [strOfNums_size, strOfNums_size, List.length_drop]
  by_cases h : i + k < zs.length
  · rw [decide_eq_true h, decide_eq_true (by omega)]
  · rw [decide_eq_false h, decide_eq_false (by omega)]
theorem dec_at (zs : List Int) (i : Nat) : Utf8.decode (strOfNums zs) i = decN (zs.drop i) := by
  simp only [decN, Utf8.decode, str_drop zs i, str_in zs i]
theorem decN_pos (b : List Int) (h : b ≠ []) : 1 ≤ (decN b).2 := by
  have hp : 0 < (strOfNums b).size := by rw [strOfNums_size]; exact List.length_pos_iff.2 h
  by_cases ha : ((strOfNums b)[0]'hp).toNat < 128
  · rw [decN, decode_ascii _ 0 hp ha]
    exact Nat.le_refl _
  · exact (decode_high _ 0 hp (by omega)).2
theorem decN_le (b : List Int) : (decN b).1 ≤ 2147483647 := decode_le _ _

def rnL : Nat → Nat → List Int → List (Nat × Nat)
  | 0, _, _ => []
  | f + 1, p, b => if b = [] then [] else (p, (decN b).1) :: rnL f (p + (decN b).2) (b.drop (decN b).2)
/-- the runes of bytes: the place of each, and it -/
def runesN (zs : List Int) : List (Nat × Nat) := rnL zs.length 0 zs
theorem rnL_nil (f p : Nat) : rnL f p [] = [] := by cases f <;> simp [rnL]
theorem rnL_on (f p : Nat) {b : List Int} (h : b ≠ []) : rnL (f + 1) p b = (p, (decN b).1) :: rnL f (p + (decN b).2) (b.drop (decN b).2) := by simp [rnL, h]
theorem rnL_len : ∀ (f p : Nat) (b : List Int), (rnL f p b).length ≤ b.length
  | 0, _, _ => by simp [rnL]
  | f + 1, p, b => by
    by_cases h : b = []
    · subst h; simp [rnL]
    · rw [rnL_on f p h]
      have h1 := decN_pos b h
      have h2 := rnL_len f (p + (decN b).2) (b.drop (decN b).2)
      have h3 := List.length_pos_iff.2 h
      simp only [List.length_cons, List.length_drop] at h2 ⊢
      omega
theorem runesN_len (zs : List Int) : (runesN zs).length ≤ zs.length := rnL_len _ _ _

theorem rnL_i32 : ∀ (f p : Nat) (b : List Int), ∀ x ∈ rnL f p b, x.2 ≤ 2147483647
  | 0, _, _ => by intro x hx; simp [rnL] at hx
  | f + 1, p, b => by
    by_cases h : b = []
    · subst h; intro x hx; simp [rnL] at hx
    · rw [rnL_on f p h]
      intro x hx
      rcases List.mem_cons.1 hx with rfl | hx
      · exact decN_le b
      · exact rnL_i32 f _ _ x hx
theorem runesN_i32 (zs : List Int) : ∀ x ∈ runesN zs, x.2 ≤ 2147483647 := rnL_i32 _ _ _

abbrev encN : Nat × Nat → Array Value := fun x => #[.int .i64 (x.1 : Int), .int .i32 (x.2 : Int)]
def RnV (Bs : Nat) (s : ByteArray) (_ : Nat) (W : World) : Prop := W.cell? ⟨Bs, 0, none⟩ = some (.string s)

theorem only_iterAt (W : World) (q : Nat) (s : ByteArray) (p : Nat) : Only (· = q) W (W.iterAt q s p) :=
  ⟨rfl, rfl, rfl, by rw [Lib.iterAt_size]; exact Nat.le_refl _, fun k _ hk => Lib.iterAt_other W q k s p hk⟩

set_option maxHeartbeats 2000000 in
theorem runes_iter (Bs : Nat) (zs : List Int) (hmx : zs.length ≤ 9223372036854775807) : Iter4 Tryd.prog 110 #[.pointer (some ⟨Bs, 0, none⟩)] encN (runesN zs) (RnV Bs (strOfNums zs)) := by
  intro l J Jx hJ hJx hV hY Y W h0 hY0
  have hc : W.cell? ⟨Bs, 0, none⟩ = some (.string (strOfNums zs)) := hV Y 0 W h0
  obtain ⟨s, hs⟩ : ∃ s, strOfNums zs = s := ⟨_, rfl⟩
  have hsz : s.size = zs.length := by rw [← hs]; exact strOfNums_size zs
  rw [hs] at hc
  obtain ⟨q, hq⟩ : ∃ q, W.heap.size = q := ⟨_, rfl⟩
  obtain ⟨W1, hW1⟩ : ∃ W1, W.iter s 0 = W1 := ⟨_, rfl⟩
  have hit1 : W1.heap[q]? = some (.stringIter s 0) := by rw [← hW1, ← hq]; exact World.iter_heap W s 0
  have hz1 : W1.heap.size = q + 1 := by rw [← hW1, ← hq]; show (W.heap.push _).size = _; simp
  have ho1 : Only Y W W1 := by rw [← hW1]; exact (Only.refl Y W).alloc _
  have hN1 : allNo (more Y W W1) W1 := fun j hj => by
    rcases hj with hj | hj
    · obtain ⟨h1, h2⟩ := hY0 j hj
      have hb : W1.heap[j]? = W.heap[j]? := by rw [← hW1]; exact Below.heap_alloc W _ j h1
      exact ⟨by omega, fun cs t f e => h2 cs t f (hb.symm.trans e)⟩
    · obtain rfl : j = q := by omega
      exact ⟨by omega, fun cs t f e => by rw [hit1] at e; cases e⟩
  have hj1 := hJ Y 0 W W1 h0 ho1 hN1
  have hYq : (more Y W W1) q := .inr (by omega)
  have hrun : (Instr.range 9 (.string s)).run Tryd.prog W = .ok (.pointer (some ⟨q, 0, none⟩)) W1 := by
    rw [run_range_string W 9 s Tryd.underlying9, hW1, hq]
  generalize more Y W W1 = Y1 at *
  have HJ1 := hide hj1
  have HN1 := hide hN1
  have HYQ := hide hYq
  have HJ := hide hJ
  have HY := hide hY
  have HS := hide hs
  have HSZ := hide hsz
  clear hJ hY hV hJx h0 hY0 hj1 hN1 hYq ho1 hW1 hs hsz
  refine callsIn_of_wp Tryd.func110 rfl trivial ?_ rfl
  simp only [Tryd.ntmps110, List.size_toArray, List.length_cons, List.length_nil, Nat.reduceAdd, Nat.reduceSub, Array.replicate_succ, Array.replicate_zero, List.push_toArray, List.append_toArray, List.nil_append, List.cons_append]
  gi_wp2
  gi_loopw [] (fun wr => ∃ (k pos f : Nat) (Y2 : Nat → Prop), J Y2 k wr ∧ allNo Y2 wr ∧ Y2 q ∧ wr.heap[q]? = some (.stringIter s pos) ∧ (runesN zs).drop k = rnL f pos (zs.drop pos) ∧ zs.length ≤ pos + f ∧ k ≤ (runesN zs).length) (fun wr => zs.length + 1 - wr.iterPos q)
  case atStart => exact ⟨0, 0, zs.length, Y1, HJ1.out, HN1.out, HYQ.out, hit1, rfl, by omega, Nat.zero_le _⟩
  case round =>
    clear HJ1 HN1 HYQ hit1 hrun hc hz1
    obtain ⟨k, pos, f, Y2, hj, hno, hyq, hit, hdr, hfu, hk⟩ := hrel
    have hlt : q < wr.heap.size := (Array.getElem?_eq_some_iff.1 hit).1
    by_cases hp : pos < zs.length
    · have hne : zs.drop pos ≠ [] := by
        intro e
        have := congrArg List.length e
        simp at this
        omega
      obtain ⟨f, rfl⟩ : ∃ g, f = g + 1 := ⟨f - 1, by omega⟩
      rw [rnL_on f pos hne] at hdr
      have hkl : k < (runesN zs).length := by
        apply Nat.lt_of_not_le
        intro hle
        rw [List.drop_eq_nil_of_le hle] at hdr
        cases hdr
      have hx : (runesN zs)[k] = (pos, (decN (zs.drop pos)).1) ∧ (runesN zs).drop (k + 1) = rnL f (pos + (decN (zs.drop pos)).2) ((zs.drop pos).drop (decN (zs.drop pos)).2) := by
        rw [List.drop_eq_getElem_cons hkl] at hdr
        exact List.cons.inj hdr
      have hnx : ∀ ty, (Instr.next (.pointer (some ⟨q, 0, none⟩)) true ty).run Tryd.prog wr = _ := fun ty => Lib.run_next_any_at wr q s pos ty hit (by rw [HSZ.out]; exact hp)
      have hdec : Utf8.decode s pos = decN (zs.drop pos) := by rw [← HS.out]; exact dec_at zs pos
      rw [hdec] at hnx
      have hwd := decN_pos _ hne
      have hle := decN_le (zs.drop pos)
      rw [List.drop_drop] at hx
      generalize decN (zs.drop pos) = d at *
      obtain ⟨r, n⟩ := d
      simp only at hnx hwd hle hx
      obtain ⟨W2, hW2⟩ : ∃ W2, wr.iterAt q s (pos + n) = W2 := ⟨_, rfl⟩
      have hit2 : W2.heap[q]? = some (.stringIter s (pos + n)) := by rw [← hW2]; exact Lib.iterAt_heap wr q s pos (pos + n) hit
      have ho2 : Only Y2 wr W2 := by rw [← hW2]; exact (only_iterAt wr q s (pos + n)).mono (fun j _ e => by rw [e]; exact hyq)
      have hz2 : W2.heap.size = wr.heap.size := by rw [← hW2]; exact Lib.iterAt_size _ _ _ _
      have hN2 : allNo (more Y2 wr W2) W2 := fun j hj => by
        have hj2 : Y2 j := hj.elim id (fun h => by omega)
        obtain ⟨h1, h2⟩ := hno j hj2
        refine ⟨by omega, fun cs t g e => ?_⟩
        by_cases hjq : j = q
        · rw [hjq, hit2] at e; cases e
        · refine h2 cs t g ?_
          rw [← hW2, Lib.iterAt_other wr q j s _ hjq] at e
          exact e
      have hj2 := HJ.out Y2 k wr W2 hj ho2 hN2
      have hyq2 : more Y2 wr W2 q := .inl hyq
      rw [hW2] at hnx
      have hy0 := HY.out _ k hkl W2 hj2
      rw [hx.1] at hy0
      generalize more Y2 wr W2 = Y3 at *
      obtain ⟨fn, tmps, assign, body, hy, hR⟩ := hy0
      have HR := hide hR
      have HIT := hide hit2
      have HIT0 := hide hit
      have HN3 := hide hN2
      have HYQ := hide hyq2
      have HX := hide hx.2
      have HD := hide hfu
      clear hR hj hno hyq hit hdr hdec hne hit2 ho2 hN2 hj2 hyq2 hx hfu hW2
      gi_wp2
      refine HR.out.mono ?_
      rintro e W3 (⟨rfl, hJ3, hK3⟩ | ⟨rfl, hJx3, _⟩)
      · have HJ3 := hide hJ3
        have HK3 := hide hK3
        clear hJ3 hK3 HR hy
        gi_wp2
        go_roundw
        case rel => exact ⟨k + 1, pos + n, f, Y3, HJ3.out, HN3.out.keep HK3.out, HYQ.out, (HK3.out q HYQ.out).trans HIT.out, HX.out, by have := HD.out; omega, by omega⟩
        case measure =>
          have h3 : W3.heap[q]? = some (.stringIter s (pos + n)) := (HK3.out q HYQ.out).trans HIT.out
          simp only [World.iterPos, h3, HIT0.out]
          omega
      · have HJ3 := hide hJx3
        clear hJx3 HR hy
        gi_wp2
        refine bodyPost_ret (results_none rfl _ _ _) rfl ?_
        exact ⟨⟨_, rfl⟩, Y3, .inr ⟨k, hkl, HJ3.out⟩⟩
    · have hnx : ∀ ty, (Instr.next (.pointer (some ⟨q, 0, none⟩)) true ty).run Tryd.prog wr = _ := fun ty => Lib.run_next_end_at wr q s pos ty hit (by rw [HSZ.out]; exact hp)
      have hke : k = (runesN zs).length := by
        rw [List.drop_eq_nil_of_le (show zs.length ≤ pos by omega), rnL_nil] at hdr
        have := List.drop_eq_nil_iff.1 hdr
        omega
      have HJE := hide hj
      clear hj hno hyq hit hdr hfu
      subst hke
      gi_wp2
      go_end0
      exact ⟨⟨_, rfl⟩, Y2, .inl HJE.out⟩

theorem enters_runes : ∀ args w, (callFunc 110 args).run Tryd.prog w = .ok (.enter 110 args) w := enters_of Tryd.func110 (by kernel_rfl) rfl

end Go.Proofs.YtimmfnjkknbofaaDoor
/- The runes of bytes, by their forms (pure): what decoding answers, there and back, in pieces. No program. -/
namespace Go.Proofs.YtimmfnjkknbofaaDoor
set_option maxRecDepth 20000
open Go.RowKit
set_option linter.unusedVariables false
set_option linter.unusedSimpArgs false
set_option maxRecDepth 100000

theorem byte_nat {b : List Int} (hb : ByteOk b) (k : Nat) : ∃ n : Nat, b.getD k 0 = (n : Int) ∧ n ≤ 255 ∧ ((strOfNums b).get! (0 + k)).toNat = n := by
  rw [Nat.zero_add, str_get]
  by_cases h : k < b.length
  · have hz := hb b[k] (List.getElem_mem h)
    have hg : b.getD k 0 = b[k] := by simp [List.getD, h]
    refine ⟨b[k].toNat, by omega, by omega, ?_⟩
    rw [if_pos h, hg]
    simp
    omega
  · have hg : b.getD k 0 = 0 := by simp [List.getD, h]
    refine ⟨0, by omega, by omega, ?_⟩
    rw [if_neg h]
    rfl
def decE (l n0 n1 n2 n3 : Nat) : Nat × Nat :=
  if n0 < 128 then (n0, 1)
  else if n0 / 32 = 6 ∧ 1 < l ∧ n1 / 64 = 2 then (if 128 ≤ (n0 % 32) * 64 + n1 % 64 then ((n0 % 32) * 64 + n1 % 64, 2) else (65533, 1))
  else if n0 / 16 = 14 ∧ (1 < l ∧ n1 / 64 = 2) ∧ 2 < l ∧ n2 / 64 = 2 then (if 2048 ≤ (n0 % 16) * 4096 + (n1 % 64) * 64 + n2 % 64 ∧ Utf8.valid (((n0 % 16) * 4096 + (n1 % 64) * 64 + n2 % 64 : Nat) : Int) = true then ((n0 % 16) * 4096 + (n1 % 64) * 64 + n2 % 64, 3) else (65533, 1))
  else if n0 / 8 = 30 ∧ ((1 < l ∧ n1 / 64 = 2) ∧ 2 < l ∧ n2 / 64 = 2) ∧ 3 < l ∧ n3 / 64 = 2 then (if 65536 ≤ (n0 % 8) * 262144 + (n1 % 64) * 4096 + (n2 % 64) * 64 + n3 % 64 ∧ Utf8.valid (((n0 % 8) * 262144 + (n1 % 64) * 4096 + (n2 % 64) * 64 + n3 % 64 : Nat) : Int) = true then ((n0 % 8) * 262144 + (n1 % 64) * 4096 + (n2 % 64) * 64 + n3 % 64, 4) else (65533, 1))
  else (65533, 1)
theorem decN_def {b : List Int} {n0 n1 n2 n3 : Nat} (h0 : ((strOfNums b).get! (0 + 0)).toNat = n0) (h1 : ((strOfNums b).get! (0 + 1)).toNat = n1) (h2 : ((strOfNums b).get! (0 + 2)).toNat = n2) (h3 : ((strOfNums b).get! (0 + 3)).toNat = n3) :
    decN b = decE b.length n0 n1 n2 n3 := by
  simp only [decN, Utf8.decode, h0, h1, h2, h3, strOfNums_size, Nat.zero_add, Utf8.runeError, decE]
  simp only [Bool.and_eq_true, beq_iff_eq, decide_eq_true_eq, ge_iff_le, and_assoc]
theorem valid_rune (r : Int) : Utf8.valid r = runeB r := by
  unfold Utf8.valid runeB
  rw [Bool.eq_iff_iff]
  simp only [Bool.or_eq_true, Bool.and_eq_true, decide_eq_true_iff, Bool.not_eq_true', Bool.and_eq_false_iff, decide_eq_false_iff_not]
  omega

theorem take_at {b : List Int} (n : Nat) (l : List Int) (hn : l.length = n) (hb : n ≤ b.length) (h : ∀ k, k < n → b.getD k 0 = l.getD k 0) : b.take n = l := by
  apply List.ext_getElem?
  intro i
  by_cases hi : i < n
  · have := h i hi
    have h1 : i < b.length := by omega
    have h2 : i < l.length := by omega
    simp [List.getD, h1, h2] at this
    simp [hi, h1, h2, this]
  · rw [List.getElem?_eq_none (by simp; omega), List.getElem?_eq_none (by omega)]
theorem pre_at {b l : List Int} (h : l <+: b) (k : Nat) (hk : k < l.length) : b.getD k 0 = l.getD k 0 := by
  obtain ⟨t, rfl⟩ := h
  simp [List.getD, List.getElem?_append_left hk]

/-- what has a rune's form ahead is decoded as it -/
theorem dec_form {b : List Int} (hb : ByteOk b) {r : Nat} (hr : runeB (r : Int) = true) (h : formL (r : Int) <+: b) : decN b = (r, (formL (r : Int)).length) := by
  obtain ⟨n0, e0, m0, g0⟩ := byte_nat hb 0
  obtain ⟨n1, e1, m1, g1⟩ := byte_nat hb 1
  obtain ⟨n2, e2, m2, g2⟩ := byte_nat hb 2
  obtain ⟨n3, e3, m3, g3⟩ := byte_nat hb 3
  rw [decN_def g0 g1 g2 g3]
  have hl := h.length_le
  have hat := pre_at h
  have hv : Utf8.valid (r : Int) = true := by rw [valid_rune]; exact hr
  have hrr := hr
  unfold runeB at hrr
  simp only [Bool.and_eq_true, decide_eq_true_iff, Bool.not_eq_true', Bool.and_eq_false_iff, decide_eq_false_iff_not] at hrr
  by_cases c1 : (r : Int) < 128
  · rw [formL_1 hr c1] at hat hl ⊢
    have a0 := hat 0 (by simp)
    rw [e0] at a0
    simp at a0 hl
    unfold decE
    rw [if_pos (by omega)]
    simp
    omega
  · by_cases c2 : (r : Int) < 2048
    · rw [formL_2 hr c1 c2] at hat hl ⊢
      have a0 := hat 0 (by simp)
      have a1 := hat 1 (by simp)
      rw [e0] at a0
      rw [e1] at a1
      simp at a0 a1 hl
      unfold decE
      rw [if_neg (by omega), if_pos ⟨by omega, by omega, by omega⟩, if_pos (by omega)]
      simp
      omega
    · by_cases c3 : (r : Int) < 65536
      · rw [formL_3 hr c2 c3] at hat hl ⊢
        have a0 := hat 0 (by simp)
        have a1 := hat 1 (by simp)
        have a2 := hat 2 (by simp)
        rw [e0] at a0
        rw [e1] at a1
        rw [e2] at a2
        simp at a0 a1 a2 hl
        have hc : (n0 % 16) * 4096 + (n1 % 64) * 64 + n2 % 64 = r := by omega
        unfold decE
        rw [if_neg (by omega), if_neg (by omega), if_pos ⟨by omega, ⟨by omega, by omega⟩, by omega, by omega⟩, hc, if_pos ⟨by omega, hv⟩]
        simp
      · rw [formL_4 hr c3] at hat hl ⊢
        have a0 := hat 0 (by simp)
        have a1 := hat 1 (by simp)
        have a2 := hat 2 (by simp)
        have a3 := hat 3 (by simp)
        rw [e0] at a0
        rw [e1] at a1
        rw [e2] at a2
        rw [e3] at a3
        simp at a0 a1 a2 a3 hl
        have hc : (n0 % 8) * 262144 + (n1 % 64) * 4096 + (n2 % 64) * 64 + n3 % 64 = r := by omega
        unfold decE
        rw [if_neg (by omega), if_neg (by omega), if_neg (by omega), if_pos ⟨by omega, ⟨⟨by omega, by omega⟩, by omega, by omega⟩, by omega, by omega⟩, hc, if_pos ⟨by omega, hv⟩]
        simp

/-- what is decoded has its form ahead, or is U+FFFD, of one byte, and no rune's form stands there -/
theorem dec_is {b : List Int} (hb : ByteOk b) (hne : b ≠ []) : (∃ r : Nat, runeB (r : Int) = true ∧ formL (r : Int) <+: b ∧ decN b = (r, (formL (r : Int)).length)) ∨ (decN b = (65533, 1) ∧ ∀ r : Nat, runeB (r : Int) = true → ¬ formL (r : Int) <+: b) := by
  by_cases hx : ∃ r : Nat, runeB (r : Int) = true ∧ formL (r : Int) <+: b
  · obtain ⟨r, h1, h2⟩ := hx
    exact .inl ⟨r, h1, h2, dec_form hb h1 h2⟩
  · refine .inr ⟨?_, fun r h1 h2 => hx ⟨r, h1, h2⟩⟩
    have hpos := List.length_pos_iff.2 hne
    obtain ⟨n0, e0, m0, g0⟩ := byte_nat hb 0
    obtain ⟨n1, e1, m1, g1⟩ := byte_nat hb 1
    obtain ⟨n2, e2, m2, g2⟩ := byte_nat hb 2
    obtain ⟨n3, e3, m3, g3⟩ := byte_nat hb 3
    have no : ∀ r : Nat, runeB (r : Int) = true → ∀ l, formL (r : Int) = l → l.length ≤ b.length → (∀ k, k < l.length → b.getD k 0 = l.getD k 0) → False := fun r hr l hf hl hk =>
      hx ⟨r, hr, by rw [hf, ← take_at l.length l rfl hl hk]; exact List.take_prefix _ _⟩
    rw [decN_def g0 g1 g2 g3]
    unfold decE
    split
    · rename_i c
      have hr : runeB (n0 : Int) = true := runeB_yes (by omega) (by omega) (by omega)
      exact (no n0 hr _ (formL_1 hr (by omega)) (by simp; omega) (fun k hk => by
        obtain rfl : k = 0 := by simp at hk; omega
        rw [e0]; rfl)).elim
    · rename_i c
      split
      · rename_i c2
        split
        · rename_i c3
          have hr : runeB (((n0 % 32) * 64 + n1 % 64 : Nat) : Int) = true := runeB_yes (by omega) (by omega) (by omega)
          exact (no _ hr _ (formL_2 hr (by omega) (by omega)) (by simp; omega) (fun k hk => by
            obtain rfl | rfl : k = 0 ∨ k = 1 := by simp at hk; omega
            · rw [e0]; simp; omega
            · rw [e1]; simp; omega)).elim
        · rfl
      · split
        · rename_i c3
          split
          · rename_i c4
            obtain ⟨c4, c5⟩ := c4
            rw [valid_rune] at c5
            exact (no _ c5 _ (formL_3 c5 (by omega) (by omega)) (by simp; omega) (fun k hk => by
              obtain rfl | rfl | rfl : k = 0 ∨ k = 1 ∨ k = 2 := by simp at hk; omega
              · rw [e0]; simp; omega
              · rw [e1]; simp; omega
              · rw [e2]; simp; omega)).elim
          · rfl
        · split
          · rename_i c4
            split
            · rename_i c5
              obtain ⟨c5, c6⟩ := c5
              rw [valid_rune] at c6
              exact (no _ c6 _ (formL_4 c6 (by omega)) (by simp; omega) (fun k hk => by
                obtain rfl | rfl | rfl | rfl : k = 0 ∨ k = 1 ∨ k = 2 ∨ k = 3 := by simp at hk; omega
                · rw [e0]; simp; omega
                · rw [e1]; simp; omega
                · rw [e2]; simp; omega
                · rw [e3]; simp; omega)).elim
            · rfl
          · rfl

/-- all bytes of a form but the first are from 128 to 191 -/
theorem form_on (r : Int) (k : Nat) (h0 : 0 < k) (h : k < (formL r).length) : 128 ≤ (formL r).getD k 0 ∧ (formL r).getD k 0 ≤ 191 := by
  cases hr : runeB r with
  | false => rw [formL_none hr] at h; simp at h
  | true =>
    by_cases c1 : r < 128
    · rw [formL_1 hr c1] at h; simp at h; omega
    · by_cases c2 : r < 2048
      · rw [formL_2 hr c1 c2] at h ⊢
        obtain rfl : k = 1 := by simp at h; omega
        simp; omega
      · by_cases c3 : r < 65536
        · rw [formL_3 hr c2 c3] at h ⊢
          obtain rfl | rfl : k = 1 ∨ k = 2 := by simp at h; omega
          · simp; omega
          · simp; omega
        · rw [formL_4 hr c3] at h ⊢
          obtain rfl | rfl | rfl : k = 1 ∨ k = 2 ∨ k = 3 := by simp at h; omega
          · simp; omega
          · simp; omega
          · simp; omega
theorem form_pos {r : Int} (hr : runeB r = true) : 1 ≤ (formL r).length ∧ (formL r).length ≤ 4 := by
  by_cases c1 : r < 128
  · rw [formL_1 hr c1]; simp
  · by_cases c2 : r < 2048
    · rw [formL_2 hr c1 c2]; simp
    · by_cases c3 : r < 65536
      · rw [formL_3 hr c2 c3]; simp
      · rw [formL_4 hr c3]; simp

/-- bytes behind which stand some that begin with none from 128 to 191 -/
theorem dec_app {a b : List Int} (ha : ByteOk a) (hb : ByteOk b) (hne : a ≠ []) (hc : ∀ z, b.head? = some z → ¬ (128 ≤ z ∧ z ≤ 191)) : decN (a ++ b) = decN a := by
  have hab : ByteOk (a ++ b) := ByteOk.append' ha hb
  rcases dec_is ha hne with ⟨r, h1, h2, h3⟩ | ⟨h3, h4⟩
  · rw [h3]
    exact dec_form hab h1 (h2.trans (List.prefix_append a b))
  · rw [h3]
    rcases dec_is hab (by simp [hne]) with ⟨r, h1, h2, h5⟩ | ⟨h5, _⟩
    · exfalso
      by_cases hl : (formL (r : Int)).length ≤ a.length
      · exact h4 r h1 (List.prefix_of_prefix_length_le h2 (List.prefix_append a b) hl)
      · have hp := List.length_pos_iff.2 hne
        have hon := form_on (r : Int) a.length hp (by omega)
        have hat := pre_at h2 a.length (by omega)
        have hlen := h2.length_le
        rw [← hat] at hon
        cases b with
        | nil => simp at hlen; omega
        | cons z t =>
          have hg : (a ++ z :: t).getD a.length 0 = z := by simp [List.getD]
          rw [hg] at hon
          exact hc z rfl hon
    · exact h5

end Go.Proofs.YtimmfnjkknbofaaDoor
/- The first rune of bytes, by the document (pure): what each number of bytes would be. -/
namespace Go.Proofs.YtimmfnjkknbofaaDoor
set_option maxRecDepth 20000
open Go.RowKit
set_option linter.unusedVariables false
set_option linter.unusedSimpArgs false
set_option maxRecDepth 100000

def vN (b : List Int) (n : Nat) : Int :=
  if n = 2 then b.getD 0 0 % 32 * 64 + b.getD 1 0 % 64
  else if n = 3 then b.getD 0 0 % 16 * 4096 + b.getD 1 0 % 64 * 64 + b.getD 2 0 % 64
  else if n = 4 then b.getD 0 0 % 8 * 262144 + b.getD 1 0 % 64 * 4096 + b.getD 2 0 % 64 * 64 + b.getD 3 0 % 64
  else b.getD 0 0
/-- n bytes are the form of what they would be -/
def fits (b : List Int) (n : Nat) : Prop := n ≤ b.length ∧ formL (vN b n) = b.take n
theorem fits_dec {b : List Int} (hb : ByteOk b) {n : Nat} (hn : 1 ≤ n ∧ n ≤ 4) (h : fits b n) : ∃ r : Nat, vN b n = (r : Int) ∧ decN b = (r, n) := by
  obtain ⟨h1, h2⟩ := h
  have hl : (formL (vN b n)).length = n := by rw [h2]; simp; omega
  have hr : runeB (vN b n) = true := by
    cases hr : runeB (vN b n) with
    | false => rw [formL_none hr] at hl; simp at hl; omega
    | true => rfl
  obtain ⟨r, e⟩ : ∃ r : Nat, vN b n = (r : Int) := by
    have := hr
    unfold runeB at this
    simp only [Bool.and_eq_true, decide_eq_true_iff] at this
    exact ⟨(vN b n).toNat, by omega⟩
  refine ⟨r, e, ?_⟩
  rw [e] at h2 hr hl
  have := dec_form hb hr (by rw [h2]; exact List.take_prefix _ _)
  rwa [hl] at this
theorem vN_form {b : List Int} {r : Int} (hr : runeB r = true) (h : formL r <+: b) : vN b (formL r).length = r := by
  have hrr := hr
  unfold runeB at hrr
  simp only [Bool.and_eq_true, decide_eq_true_iff, Bool.not_eq_true', Bool.and_eq_false_iff, decide_eq_false_iff_not] at hrr
  have hat := pre_at h
  by_cases c1 : r < 128
  · rw [formL_1 hr c1] at hat ⊢
    have a0 := hat 0 (by simp)
    unfold vN
    rw [if_neg (by simp), if_neg (by simp), if_neg (by simp), a0]
    rfl
  · by_cases c2 : r < 2048
    · rw [formL_2 hr c1 c2] at hat ⊢
      have a0 := hat 0 (by simp)
      have a1 := hat 1 (by simp)
      unfold vN
      rw [if_pos (by simp), a0, a1]
      simp
      omega
    · by_cases c3 : r < 65536
      · rw [formL_3 hr c2 c3] at hat ⊢
        have a0 := hat 0 (by simp)
        have a1 := hat 1 (by simp)
        have a2 := hat 2 (by simp)
        unfold vN
        rw [if_neg (by simp), if_pos (by simp), a0, a1, a2]
        simp
        omega
      · rw [formL_4 hr c3] at hat ⊢
        have a0 := hat 0 (by simp)
        have a1 := hat 1 (by simp)
        have a2 := hat 2 (by simp)
        have a3 := hat 3 (by simp)
        unfold vN
        rw [if_neg (by simp), if_neg (by simp), if_pos (by simp), a0, a1, a2, a3]
        simp
        omega
theorem fits_no {b : List Int} (hb : ByteOk b) (hne : b ≠ []) (h : ∀ n, 1 ≤ n → n ≤ 4 → ¬ fits b n) : decN b = (65533, 1) := by
  rcases dec_is hb hne with ⟨r, h1, h2, h3⟩ | ⟨h3, _⟩
  · exfalso
    have hp := form_pos h1
    refine h _ hp.1 hp.2 ⟨h2.length_le, ?_⟩
    rw [vN_form h1 h2]
    exact (List.prefix_iff_eq_take.1 h2)
  · exact h3
theorem vN_range {b : List Int} (hb : ByteOk b) (n : Nat) : 0 ≤ vN b n ∧ vN b n ≤ 2097151 := by
  have h : ∀ k, 0 ≤ b.getD k 0 ∧ b.getD k 0 ≤ 255 := fun k => by
    by_cases hk : k < b.length
    · rw [getD_lt b hk]; exact hb _ (List.getElem_mem hk)
    · simp [List.getD, hk]
  have h0 := h 0
  have h1 := h 1
  have h2 := h 2
  have h3 := h 3
  unfold vN
  split
  · omega
  · split
    · omega
    · split <;> omega

end Go.Proofs.YtimmfnjkknbofaaDoor
