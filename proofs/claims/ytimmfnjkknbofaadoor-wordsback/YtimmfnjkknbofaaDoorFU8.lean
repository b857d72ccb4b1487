/- The runes of bytes (pure); package fold's Runes, as an iterator. -/
import Derived.Test.YtimmfnjkknbofaaDoorFRange
import Derived.Test.YtimmfnjkknbofaaDoorFTw
import Derived.Lib.OthersKept
namespace Go.Proofs.YtimmfnjkknbofaaDoor
set_option maxRecDepth 20000
open Go.RowKit Go.Shelf
set_option linter.unusedVariables false
set_option maxRecDepth 100000
attribute [local go_sem] Oper.semAt_some

/-- the first rune of bytes, and how many bytes it has -/
def decN (b : List Int) : Nat × Nat := Utf8.decode (strOfNums b) 0
theorem str_get (zs : List Int) (j : Nat) : (strOfNums zs).get! j = if j < zs.length then UInt8.ofNat (zs.getD j 0).toNat else default := by
  show (strOfNums zs).data[j]! = _
  by_cases h : j < zs.length
  · rw [if_pos h]
    simp [strOfNums, h]
  · rw [if_neg h]
    have : ¬ j < (strOfNums zs).data.size := by simpa [strOfNums] using h
    exact getElem!_neg _ _ this
theorem str_drop (zs : List Int) (i k : Nat) : (strOfNums zs).get! (i + k) = (strOfNums (zs.drop i)).get! (0 + k) := by
  rw [str_get, str_get, Nat.zero_add]
  have e : (zs.drop i).getD k 0 = zs.getD (i + k) 0 := by simp [List.getD]
  rw [e, List.length_drop]
  by_cases h : i + k < zs.length
  · rw [if_pos h, if_pos (by omega)]
  · rw [if_neg h, if_neg (by omega)]
theorem str_in (zs : List Int) (i k : Nat) : decide (i + k < (strOfNums zs).size) = decide (0 + k < (strOfNums (zs.drop i)).size) := by
  rw [strOfNums_size, strOfNums_size, List.length_drop]
  by_cases h : i + k < zs.length
  · rw [decide_eq_true h, decide_eq_true (by omega)]
  · rw [decide_eq_false h, decide_eq_false (by omega)]
theorem dec_at (zs : List Int) (i : Nat) : Utf8.decode (strOfNums zs) i = decN (zs.drop i) := by
  simp only [decN, Utf8.decode, str_drop zs i, str_in zs i]
theorem decN_pos (b : List Int) (h : b ≠ []) : 1 ≤ (decN b).2 := by
  have hp : 0 < (strOfNums b).size := by rw [strOfNums_size]; exact List.length_pos_iff.2 h
  by_cases ha : ((strOfNums b)[0]'hp).toNat < 128
  · rw [decN, decode_ascii _ 0 hp ha]
    exact Nat.le_refl _
  · exact (decode_high _ 0 hp (by omega)).2
theorem decN_le (b : List Int) : (decN b).1 ≤ 2147483647 := decode_le _ _

def rnL : Nat → Nat → List Int → List (Nat × Nat)
  | 0, _, _ => []
  | f + 1, p, b => if b = [] then [] else (p, (decN b).1) :: rnL f (p + (decN b).2) (b.drop (decN b).2)
/-- the runes of bytes: the place of each, and it -/
def runesN (zs : List Int) : List (Nat × Nat) := rnL zs.length 0 zs
theorem rnL_nil (f p : Nat) : rnL f p [] = [] := by cases f <;> simp [rnL]
theorem rnL_on (f p : Nat) {b : List Int} (h : b ≠ []) : rnL (f + 1) p b = (p, (decN b).1) :: rnL f (p + (decN b).2) (b.drop (decN b).2) := by simp [rnL, h]
theorem rnL_len : ∀ (f p : Nat) (b : List Int), (rnL f p b).length ≤ b.length
  | 0, _, _ => by simp [rnL]
  | f + 1, p, b => by
    by_cases h : b = []
    · subst h; simp [rnL]
    · rw [rnL_on f p h]
      have h1 := decN_pos b h
      have h2 := rnL_len f (p + (decN b).2) (b.drop (decN b).2)
      have h3 := List.length_pos_iff.2 h
      simp only [List.length_cons, List.length_drop] at h2 ⊢
      omega
theorem runesN_len (zs : List Int) : (runesN zs).length ≤ zs.length := rnL_len _ _ _

theorem rnL_i32 : ∀ (f p : Nat) (b : List Int), ∀ x ∈ rnL f p b, x.2 ≤ 2147483647
  | 0, _, _ => by intro x hx; simp [rnL] at hx
  | f + 1, p, b => by
    by_cases h : b = []
    · subst h; intro x hx; simp [rnL] at hx
    · rw [rnL_on f p h]
      intro x hx
      rcases List.mem_cons.1 hx with rfl | hx
      · exact decN_le b
      · exact rnL_i32 f _ _ x hx
theorem runesN_i32 (zs : List Int) : ∀ x ∈ runesN zs, x.2 ≤ 2147483647 := rnL_i32 _ _ _

abbrev encN : Nat × Nat → Array Value := fun x => #[.int .i64 (x.1 : Int), .int .i32 (x.2 : Int)]
def RnV (Bs : Nat) (s : ByteArray) (_ : Nat) (W : World) : Prop := W.cell? ⟨Bs, 0, none⟩ = some (.string s)

theorem only_iterAt (W : World) (q : Nat) (s : ByteArray) (p : Nat) : Only (· = q) W (W.iterAt q s p) :=
  ⟨rfl, rfl, rfl, by rw [Lib.iterAt_size]; exact Nat.le_refl _, fun k _ hk => Lib.iterAt_other W q k s p hk⟩

set_option maxHeartbeats 2000000 in
theorem runes_iter (Bs : Nat) (zs : List Int) (hmx : zs.length ≤ 9223372036854775807) : Iter4 Tryd.prog 110 #[.pointer (some ⟨Bs, 0, none⟩)] encN (runesN zs) (RnV Bs (strOfNums zs)) := by
  intro l J Jx hJ hJx hV hY Y W h0 hY0
  have hc : W.cell? ⟨Bs, 0, none⟩ = some (.string (strOfNums zs)) := hV Y 0 W h0
  obtain ⟨s, hs⟩ : ∃ s, strOfNums zs = s := ⟨_, rfl⟩
  have hsz : s.size = zs.length := by rw [← hs]; exact strOfNums_size zs
  rw [hs] at hc
  obtain ⟨q, hq⟩ : ∃ q, W.heap.size = q := ⟨_, rfl⟩
  obtain ⟨W1, hW1⟩ : ∃ W1, W.iter s 0 = W1 := ⟨_, rfl⟩
  have hit1 : W1.heap[q]? = some (.stringIter s 0) := by rw [← hW1, ← hq]; exact World.iter_heap W s 0
  have hz1 : W1.heap.size = q + 1 := by rw [← hW1, ← hq]; show (W.heap.push _).size = _; simp
  have ho1 : Only Y W W1 := by rw [← hW1]; exact (Only.refl Y W).alloc _
  have hN1 : allNo (more Y W W1) W1 := fun j hj => by
    rcases hj with hj | hj
    · obtain ⟨h1, h2⟩ := hY0 j hj
      have hb : W1.heap[j]? = W.heap[j]? := by rw [← hW1]; exact Below.heap_alloc W _ j h1
      exact ⟨by omega, fun cs t f e => h2 cs t f (hb.symm.trans e)⟩
    · obtain rfl : j = q := by omega
      exact ⟨by omega, fun cs t f e => by rw [hit1] at e; cases e⟩
  have hj1 := hJ Y 0 W W1 h0 ho1 hN1
  have hYq : (more Y W W1) q := .inr (by omega)
  have hrun : (Instr.range 9 (.string s)).run Tryd.prog W = .ok (.pointer (some ⟨q, 0, none⟩)) W1 := by
    rw [run_range_string W 9 s Tryd.underlying9, hW1, hq]
  generalize more Y W W1 = Y1 at *
  have HJ1 := hide hj1
  have HN1 := hide hN1
  have HYQ := hide hYq
  have HJ := hide hJ
  have HY := hide hY
  have HS := hide hs
  have HSZ := hide hsz
  clear hJ hY hV hJx h0 hY0 hj1 hN1 hYq ho1 hW1 hs hsz
  refine callsIn_of_wp Tryd.func110 rfl trivial ?_ rfl
  simp only [Tryd.ntmps110, List.size_toArray, List.length_cons, List.length_nil, Nat.reduceAdd, Nat.reduceSub, Array.replicate_succ, Array.replicate_zero, List.push_toArray, List.append_toArray, List.nil_append, List.cons_append]
  gi_wp2
  gi_loopw [] (fun wr => ∃ (k pos f : Nat) (Y2 : Nat → Prop), J Y2 k wr ∧ allNo Y2 wr ∧ Y2 q ∧ wr.heap[q]? = some (.stringIter s pos) ∧ (runesN zs).drop k = rnL f pos (zs.drop pos) ∧ zs.length ≤ pos + f ∧ k ≤ (runesN zs).length) (fun wr => zs.length + 1 - wr.iterPos q)
  case atStart => exact ⟨0, 0, zs.length, Y1, HJ1.out, HN1.out, HYQ.out, hit1, rfl, by omega, Nat.zero_le _⟩
  case round =>
    clear HJ1 HN1 HYQ hit1 hrun hc hz1
    obtain ⟨k, pos, f, Y2, hj, hno, hyq, hit, hdr, hfu, hk⟩ := hrel
    have hlt : q < wr.heap.size := (Array.getElem?_eq_some_iff.1 hit).1
    by_cases hp : pos < zs.length
    · have hne : zs.drop pos ≠ [] := by
        intro e
        have := congrArg List.length e
        simp at this
        omega
      obtain ⟨f, rfl⟩ : ∃ g, f = g + 1 := ⟨f - 1, by omega⟩
      rw [rnL_on f pos hne] at hdr
      have hkl : k < (runesN zs).length := by
        apply Nat.lt_of_not_le
        intro hle
        rw [List.drop_eq_nil_of_le hle] at hdr
        cases hdr
      have hx : (runesN zs)[k] = (pos, (decN (zs.drop pos)).1) ∧ (runesN zs).drop (k + 1) = rnL f (pos + (decN (zs.drop pos)).2) ((zs.drop pos).drop (decN (zs.drop pos)).2) := by
        rw [List.drop_eq_getElem_cons hkl] at hdr
        exact List.cons.inj hdr
      have hnx : ∀ ty, (Instr.next (.pointer (some ⟨q, 0, none⟩)) true ty).run Tryd.prog wr = _ := fun ty => Lib.run_next_any_at wr q s pos ty hit (by rw [HSZ.out]; exact hp)
      have hdec : Utf8.decode s pos = decN (zs.drop pos) := by rw [← HS.out]; exact dec_at zs pos
      rw [hdec] at hnx
      have hwd := decN_pos _ hne
      have hle := decN_le (zs.drop pos)
      rw [List.drop_drop] at hx
      generalize decN (zs.drop pos) = d at *
      obtain ⟨r, n⟩ := d
      simp only at hnx hwd hle hx
      obtain ⟨W2, hW2⟩ : ∃ W2, wr.iterAt q s (pos + n) = W2 := ⟨_, rfl⟩
      have hit2 : W2.heap[q]? = some (.stringIter s (pos + n)) := by rw [← hW2]; exact Lib.iterAt_heap wr q s pos (pos + n) hit
      have ho2 : Only Y2 wr W2 := by rw [← hW2]; exact (only_iterAt wr q s (pos + n)).mono (fun j _ e => by rw [e]; exact hyq)
      have hz2 : W2.heap.size = wr.heap.size := by rw [← hW2]; exact Lib.iterAt_size _ _ _ _
      have hN2 : allNo (more Y2 wr W2) W2 := fun j hj => by
        have hj2 : Y2 j := hj.elim id (fun h => by omega)
        obtain ⟨h1, h2⟩ := hno j hj2
        refine ⟨by omega, fun cs t g e => ?_⟩
        by_cases hjq : j = q
        · rw [hjq, hit2] at e; cases e
        · refine h2 cs t g ?_
          rw [← hW2, Lib.iterAt_other wr q j s _ hjq] at e
          exact e
      have hj2 := HJ.out Y2 k wr W2 hj ho2 hN2
      have hyq2 : more Y2 wr W2 q := .inl hyq
      rw [hW2] at hnx
      have hy0 := HY.out _ k hkl W2 hj2
      rw [hx.1] at hy0
      generalize more Y2 wr W2 = Y3 at *
      obtain ⟨fn, tmps, assign, body, hy, hR⟩ := hy0
      have HR := hide hR
      have HIT := hide hit2
      have HIT0 := hide hit
      have HN3 := hide hN2
      have HYQ := hide hyq2
      have HX := hide hx.2
      have HD := hide hfu
      clear hR hj hno hyq hit hdr hdec hne hit2 ho2 hN2 hj2 hyq2 hx hfu hW2
      gi_wp2
      refine HR.out.mono ?_
      rintro e W3 (⟨rfl, hJ3, hK3⟩ | ⟨rfl, hJx3, _⟩)
      · have HJ3 := hide hJ3
        have HK3 := hide hK3
        clear hJ3 hK3 HR hy
        gi_wp2
        go_roundw
        case rel => exact ⟨k + 1, pos + n, f, Y3, HJ3.out, HN3.out.keep HK3.out, HYQ.out, (HK3.out q HYQ.out).trans HIT.out, HX.out, by have := HD.out; omega, by omega⟩
        case measure =>
          have h3 : W3.heap[q]? = some (.stringIter s (pos + n)) := (HK3.out q HYQ.out).trans HIT.out
          simp only [World.iterPos, h3, HIT0.out]
          omega
      · have HJ3 := hide hJx3
        clear hJx3 HR hy
        gi_wp2
        refine bodyPost_ret (results_none rfl _ _ _) rfl ?_
        exact ⟨⟨_, rfl⟩, Y3, .inr ⟨k, hkl, HJ3.out⟩⟩
    · have hnx : ∀ ty, (Instr.next (.pointer (some ⟨q, 0, none⟩)) true ty).run Tryd.prog wr = _ := fun ty => Lib.run_next_end_at wr q s pos ty hit (by rw [HSZ.out]; exact hp)
      have hke : k = (runesN zs).length := by
        rw [List.drop_eq_nil_of_le (show zs.length ≤ pos by omega), rnL_nil] at hdr
        have := List.drop_eq_nil_iff.1 hdr
        omega
      have HJE := hide hj
      clear hj hno hyq hit hdr hfu
      subst hke
      gi_wp2
      go_end0
      exact ⟨⟨_, rfl⟩, Y2, .inl HJE.out⟩

theorem enters_runes : ∀ args w, (callFunc 110 args).run Tryd.prog w = .ok (.enter 110 args) w := enters_of Tryd.func110 (by kernel_rfl) rfl

end Go.Proofs.YtimmfnjkknbofaaDoor
