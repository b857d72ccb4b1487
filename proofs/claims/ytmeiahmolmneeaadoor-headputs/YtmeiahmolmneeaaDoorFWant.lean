/- Contracts: a number among numbers (slices.Index, slices.Contains); a page of a kind that is wanted (frame.Want); a kind's name. -/
import Derived.Test.YtmeiahmolmneeaaDoorFShort
namespace Go.Proofs.YtmeiahmolmneeaaDoor
set_option maxRecDepth 20000
open Go.RowKit
set_option linter.unusedVariables false

/-- a slice of numbers that is read -/
def Is (w : World) (v : Value) (ks : List Int) : Prop :=
  ∃ ao cap, v = .slice ao ks.length cap ∧ ks.length ≤ cap ∧ cap ≤ maxLen ∧ (ks ≠ [] → ∃ b off, ao = some ⟨b, off, none⟩ ∧ ∀ i, i < ks.length → w.cell? ⟨b, off + i, none⟩ = some (.int .i64 (ks.getD i 0)))
theorem Is.below {w w' : World} {v : Value} {ks : List Int} (h : Is w v ks) (hb : Below w.heap.size w w') : Is w' v ks := by
  obtain ⟨ao, cap, rfl, h1, h2, h3⟩ := h
  refine ⟨ao, cap, rfl, h1, h2, fun hne => ?_⟩
  obtain ⟨b, off, rfl, hc⟩ := h3 hne
  refine ⟨b, off, rfl, fun i hi => ?_⟩
  rw [World.cell?_of_block (w := w) (hb.block b (World.block_lt_of_cell? w _ (hc i hi)))]
  exact hc i hi

theorem index_any (w : World) (v : Value) (ks : List Int) (k : Int) (h : Is w v ks) :
    Calls Tryd.prog 83 #[v, .int .i64 k] w fun r w' => (∃ i : Int, r = .returned (.int .i64 i) ∧ (0 ≤ i ↔ k ∈ ks)) ∧ w' = w := by
  obtain ⟨ao, cap, rfl, h1, h2, h3⟩ := h
  unfold maxLen at h2
  have H3 := hide h3
  clear h3
  go_enter Tryd.func83, Tryd.ntmps83
  go_wp2
  go_loopg [8] ks.length (fun g i wr => ∃ j : Nat, g + j = ks.length ∧ i = .int .i64 j ∧ (∀ m, m < j → ks.getD m 0 ≠ k) ∧ wr = w)
  case atStart => exact ⟨0, by omega, rfl, fun m hm => by omega, rfl⟩
  case round =>
    obtain ⟨j, hj, rfl, hno, rfl⟩ := hrel
    have HNO := hide hno
    clear hno
    cases gk with
    | zero =>
      obtain rfl : j = ks.length := by omega
      go_wp2
      go_ret
      refine ⟨⟨-1, rfl, ?_⟩, rfl⟩
      constructor
      · intro h; omega
      · intro h
        obtain ⟨m, hm⟩ := List.getElem?_of_mem h
        have hml := (List.getElem?_eq_some_iff.1 hm).1
        exact absurd (by rw [getD_lt ks hml]; exact (List.getElem?_eq_some_iff.1 hm).2) (HNO.out m hml)
    | succ g =>
      have hjl : j < ks.length := by omega
      have hji : (j : Int) < (ks.length : Int) := by omega
      obtain ⟨b, off, rfl, hc⟩ := H3.out (by intro h; simp [h] at hjl)
      have c1 := hc j hjl
      obtain ⟨x, hx⟩ : ∃ x, x = ks.getD j 0 := ⟨_, rfl⟩
      rw [← hx] at c1
      have HX := hide hx
      clear hc hx
      by_cases hk : k = x
      · subst hk
        go_wp2
        go_ret
        refine ⟨⟨_, rfl, ?_⟩, rfl⟩
        constructor
        · intro _
          rw [HX.out, getD_lt ks hjl]
          exact List.getElem_mem hjl
        · intro _; omega
      · have hk' : (k == x) = false := by simpa using hk
        go_wp2
        go_roundg g
        case measure => omega
        case rel =>
          refine ⟨j + 1, by omega, by go_num, fun m hm => ?_, rfl⟩
          rcases Nat.lt_or_ge m j with h | h
          · exact HNO.out m h
          · obtain rfl : m = j := by omega
            rw [← HX.out]
            exact fun e => hk e.symm

theorem contains_any (w : World) (v : Value) (ks : List Int) (k : Int) (h : Is w v ks) :
    Calls Tryd.prog 72 #[v, .int .i64 k] w fun r w' => r = .returned (.bool (decide (k ∈ ks))) ∧ w' = w := by
  have HI := hide (index_any w v ks k h)
  obtain ⟨ao, cap, rfl, _⟩ := h
  go_enter Tryd.func72, Tryd.ntmps72
  go_wp2_with (go_at_call 83; refine HI.out.mono ?_; rintro e1 w1 ⟨⟨i, rfl, hi⟩, hw⟩; subst w1; have HII := hide hi; clear HI hi)
  go_ret
  refine ⟨ret_bool ?_, rfl⟩
  rw [Bool.eq_iff_iff]
  simp [HII.out]

def nameS (k : Int) : ByteArray := if k = 1 then ⟨#[104, 101, 97, 100]⟩ else if k = 2 then ⟨#[109, 97, 112]⟩ else if k = 3 then ⟨#[108, 101, 97, 102]⟩ else if k = 4 then ⟨#[105, 110, 110, 101, 114]⟩ else ⟨#[]⟩

/-- a frame that was answered, its bytes read -/
def GivesS (w : World) (g : Fr) (r : Ending) (w' : World) : Prop :=
  ∃ a c, r = .returned (.tuple #[.agg #[.int .i64 g.kind, .int .i64 g.page, .int .u64 g.epoch, .slice a g.data.length c], .int .i64 g.err]) ∧ Sl w' (.slice a g.data.length c) g.data ∧ Below w.heap.size w w'
theorem GivesS.no {w w' : World} (e : Int) (hb : Below w.heap.size w w') : GivesS w (noFr e) (.returned (.tuple #[.agg #[.int .i64 0, .int .i64 0, .int .u64 0, .slice none 0 0], .int .i64 e])) w' := ⟨none, 0, rfl, Sl.nil _, hb⟩

theorem wantS_err {zs : List Int} {q : Int} (ks : List Int) (h : (getS zs q).err ≠ 0) : wantS zs q ks = noFr (getS zs q).err := by unfold wantS; rw [if_pos h]
theorem wantS_no {zs : List Int} {q : Int} {ks : List Int} (h : (getS zs q).err = 0) (hk : (getS zs q).kind ∉ ks) : wantS zs q ks = noFr 42 := by unfold wantS; rw [if_neg (by omega), if_neg hk]
theorem wantS_yes {zs : List Int} {q : Int} {ks : List Int} (h : (getS zs q).err = 0) (hk : (getS zs q).kind ∈ ks) : wantS zs q ks = getS zs q := by unfold wantS; rw [if_neg (by omega), if_pos hk]

set_option maxHeartbeats 2000000 in
theorem want_any (w : World) (v : Value) (zs : List Int) (q : Int) (kv : Value) (ks : List Int) (h : Sl w v zs) (hk : Is w kv ks) (hT : Tab w) :
    Calls Tryd.prog 62 #[v, .int .i64 q, kv] w (Gives w (wantS zs q ks)) := by
  have HN := hide (St.new w)
  have hza := zeroFrameRun
  have HG : Hid (∀ w1, St w w1 → Calls Tryd.prog 77 #[v, .int .i64 q] w1 fun r w2 => ∃ a n c, r = .returned (.tuple #[.agg #[.int .i64 (getS zs q).kind, .int .i64 (getS zs q).page, .int .u64 (getS zs q).epoch, .slice a n c], .int .i64 (getS zs q).err]) ∧ w2.ownsRow (w.heap.size + 1) 5 1 (.slice a n c) (getS zs q).data.length ((getS zs q).data.map (Value.int .u8)) ∧ St w w2) := by
    intro w1 hs
    refine (get_any w1 v zs q (h.below hs.1) (hT.below hs.1)).mono ?_
    rintro r w2 ⟨a, n, c, rfl, ho, hb⟩
    exact ⟨a, n, c, rfl, own_of_le ho hs.2.lt, hs.below hb⟩
  have HCO : Hid (∀ w1, St w w1 → Calls Tryd.prog 72 #[kv, .int .i64 (getS zs q).kind] w1 fun r w2 => r = .returned (.bool (decide ((getS zs q).kind ∈ ks))) ∧ w2 = w1) := fun w1 hs => contains_any w1 kv ks _ (hk.below hs.1)
  have HE := hide (getS_err zs q)
  have HW1 := hide (wantS_err (zs := zs) (q := q) ks)
  have HW2 := hide (wantS_no (zs := zs) (q := q) (ks := ks))
  have HW3 := hide (wantS_yes (zs := zs) (q := q) (ks := ks))
  obtain ⟨ao, cap, rfl⟩ := sl_form' h
  obtain ⟨ko, kc, rfl, _⟩ := hk
  obtain ⟨W, hW⟩ : ∃ W, W = wantS zs q ks := ⟨_, rfl⟩
  rw [← hW] at HW1 HW2 HW3 ⊢
  obtain ⟨G, hG⟩ : ∃ G, G = getS zs q := ⟨_, rfl⟩
  rw [← hG] at HG HCO HE HW1 HW2 HW3
  obtain ⟨er, k, p, e, D⟩ := G
  simp only at HG HCO HE HW1 HW2 HW3
  clear h hT hW hG
  by_cases h0 : er = 0
  · subst h0
    by_cases hin : k ∈ ks
    · rw [HW3.out rfl hin]
      rw [decide_eq_true hin] at HCO
      clear HW1 HW2 HW3 HE
      go_enter Tryd.func62, Tryd.ntmps62
      go_wp2_with (first
        | (go_at_call 77; refine (HG.out _ HN.out).mono ?_; rintro e1 w1 ⟨a1, n1, l1, rfl, O1, st1⟩; have st2 := st1.below ((Below.refl _ w1).alloc (Nat.le_refl _) (.cells #[.int .i64 k, .int .i64 p, .int .u64 e, .slice a1 n1 l1] 59)); have HO1 := hide (own_keep O1 ((Below.refl _ w1).alloc (Nat.le_refl _) (.cells #[.int .i64 k, .int .i64 p, .int .u64 e, .slice a1 n1 l1] 59))); have HST := hide st2; have HC2 := hide (HCO.out _ st2); obtain ⟨⟨c0, c1, c2, c3⟩, f0, f1, f2, f3⟩ := st2.cells; clear HG HCO HN O1 st1 st2)
        | (go_at_call 72; refine HC2.out.mono ?_; rintro e1 w2 ⟨rfl, hw⟩; subst w2; clear HC2))
      (try simp only [Exit.inBlock, Exit.then])
      obtain ⟨s1, b8, k8⟩ := HST.out.store (.int .i64 k) (.int .i64 p) (.int .u64 e) (.slice a1 n1 l1)
      refine bodyPost_ret (ret_frame rfl _ _ w.heap.size _ _ _ _ _ rfl rfl s1) rfl ?_
      refine ⟨a1, n1, l1, rfl, ?_, b8⟩
      obtain ⟨g1, g2⟩ := HO1.out
      refine ⟨g1, g2.elim .inl (fun ⟨g, cp, cur, hv, hg, hh, r⟩ => .inr ⟨g, cp, cur, hv, Nat.le_of_lt hg, ?_, r⟩)⟩
      exact (k8 g (by omega)).trans hh
    · rw [HW2.out rfl hin]
      rw [decide_eq_false hin] at HCO
      clear HW1 HW2 HW3 HE
      go_enter Tryd.func62, Tryd.ntmps62
      go_wp2_with (first
        | (go_at_call 77; refine (HG.out _ HN.out).mono ?_; rintro e1 w1 ⟨a1, n1, l1, rfl, O1, st1⟩; have st2 := st1.below ((Below.refl _ w1).alloc (Nat.le_refl _) (.cells #[.int .i64 k, .int .i64 p, .int .u64 e, .slice a1 n1 l1] 59)); have HST := hide st2; have HC2 := hide (HCO.out _ st2); obtain ⟨⟨c0, c1, c2, c3⟩, f0, f1, f2, f3⟩ := st2.cells; clear HG HCO HN O1 st1 st2)
        | (go_at_call 72; refine HC2.out.mono ?_; rintro e1 w2 ⟨rfl, hw⟩; subst w2; clear HC2))
      (try simp only [Exit.inBlock, Exit.then])
      obtain ⟨s1, b8, _⟩ := HST.out.store (.int .i64 0) (.int .i64 0) (.int .u64 0) (.slice none 0 0)
      refine bodyPost_ret (ret_frame rfl _ _ w.heap.size _ _ _ _ _ rfl rfl s1) rfl ?_
      exact Gives.no 42 b8
  · rw [HW1.out h0]
    have hne : (er != 0) = true := by simpa using h0
    clear HW1 HW2 HW3 HE HCO
    go_enter Tryd.func62, Tryd.ntmps62
    go_wp2_with (first
      | (go_at_call 77; refine (HG.out _ HN.out).mono ?_; rintro e1 w1 ⟨a1, n1, l1, rfl, O1, st1⟩; have st2 := st1.below ((Below.refl _ w1).alloc (Nat.le_refl _) (.cells #[.int .i64 k, .int .i64 p, .int .u64 e, .slice a1 n1 l1] 59)); have HST := hide st2; obtain ⟨⟨c0, c1, c2, c3⟩, f0, f1, f2, f3⟩ := st2.cells; clear HG HN O1 st1 st2))
    (try simp only [Exit.inBlock, Exit.then])
    obtain ⟨s1, b8, _⟩ := HST.out.store (.int .i64 0) (.int .i64 0) (.int .u64 0) (.slice none 0 0)
    refine bodyPost_ret (ret_frame rfl _ _ w.heap.size _ _ _ _ _ rfl rfl s1) rfl ?_
    exact Gives.no er b8

end Go.Proofs.YtmeiahmolmneeaaDoor
