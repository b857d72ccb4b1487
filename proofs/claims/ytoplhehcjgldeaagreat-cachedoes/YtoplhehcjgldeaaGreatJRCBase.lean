/- The document's own cache (package incipitref05): how its struct and its row of pages hold a 'Ch', over the document's own device; Find. -/
import Derived.Test.YtoplhehcjgldeaaGreatJDRefN
import Derived.Test.YtoplhehcjgldeaaGreatJCUn
import Derived.Test.YtoplhehcjgldeaaGreatJCFlush
namespace Go.Proofs.YtoplhehcjgldeaaGreat
open Go.RowKit
set_option linter.unusedVariables false
set_option maxRecDepth 100000

/-- a page that is held, as cells -/
def hc (h : Hd) (v : Value) : List Value := [.int .i64 h.p, v, .bool h.ch, .int .i64 h.pins]
def hRow (hs : List (Hd × Value)) : List Value := (hs.map (fun x => hc x.1 x.2)).flatten
theorem hRow_len : ∀ hs : List (Hd × Value), (hRow hs).length = hs.length * 4
  | [] => rfl
  | x :: r => by
    have := hRow_len r
    unfold hRow at this ⊢
    rw [List.map_cons, List.flatten_cons, List.length_append, this, List.length_cons]
    show 4 + r.length * 4 = _
    omega
theorem hRow_at : ∀ (hs : List (Hd × Value)) (i j : Nat) (hi : i < hs.length), j < 4 → (hRow hs)[i * 4 + j]? = (hc hs[i].1 hs[i].2)[j]?
  | [], i, j, hi, _ => by simp at hi
  | x :: r, 0, j, hi, hj => by
    unfold hRow
    rw [List.map_cons, List.flatten_cons, Nat.zero_mul, Nat.zero_add, List.getElem?_append_left (by show j < 4; exact hj)]
    rfl
  | x :: r, i + 1, j, hi, hj => by
    have ih := hRow_at r i j (by simpa using hi) hj
    unfold hRow at ih ⊢
    rw [List.map_cons, List.flatten_cons, List.getElem?_append_right (by show 4 ≤ _; omega)]
    rw [show (i + 1) * 4 + j - (hc x.1 x.2).length = i * 4 + j by show (i + 1) * 4 + j - 4 = _; omega, ih]
    rfl
theorem hRow_snoc (hs : List (Hd × Value)) (x : Hd × Value) : hRow (hs ++ [x]) = hRow hs ++ hc x.1 x.2 := by simp [hRow]
theorem hRow_cons (hs : List (Hd × Value)) (x : Hd × Value) : hRow (x :: hs) = hc x.1 x.2 ++ hRow hs := by simp [hRow]
theorem hc_one {h : Hd} {v : Value} (hv : v.oneCell' = true) : ∀ u ∈ hc h v, u.oneCell' = true := by
  intro u hu
  simp only [hc, List.mem_cons, List.mem_nil_iff, or_false] at hu
  rcases hu with rfl | rfl | rfl | rfl
  · rfl
  · exact hv
  · rfl
  · rfl
theorem hRow_one {hs : List (Hd × Value)} (h : ∀ x ∈ hs, x.2.oneCell' = true) : ∀ u ∈ hRow hs, u.oneCell' = true := by
  intro u hu
  obtain ⟨l, hl, hu⟩ := List.mem_flatten.1 hu
  obtain ⟨x, hx, rfl⟩ := List.mem_map.1 hl
  exact hc_one (h x hx) u hu
/-- one cell of one page is set -/
theorem hRow_set : ∀ (hs : List (Hd × Value)) (i : Nat) (hi : i < hs.length) (y : Hd × Value) (j : Nat) (u : Value), j < 4 → hc y.1 y.2 = (hc hs[i].1 hs[i].2).set j u → hRow (hs.set i y) = (hRow hs).set (i * 4 + j) u
  | [], i, hi, _, _, _, _, _ => by simp at hi
  | x :: r, 0, hi, y, j, u, hj, e => by
    rw [List.set_cons_zero, hRow_cons, hRow_cons, e, Nat.zero_mul, Nat.zero_add, List.set_append_left _ _ (by show j < 4; exact hj)]
    rfl
  | x :: r, i + 1, hi, y, j, u, hj, e => by
    rw [List.set_cons_succ, hRow_cons, hRow_cons, List.set_append_right _ _ (by show 4 ≤ _; omega), hRow_set r i (by simpa using hi) y j u hj e]
    rw [show (i + 1) * 4 + j - (hc x.1 x.2).length = i * 4 + j by show (i + 1) * 4 + j - 4 = _; omega]

theorem infoHeld : (Tryz.prog.info? 76).map (fun i => (i.zero, i.size, i.bytes)) = some (some (.agg #[.int .i64 0, .slice none 0 0, .bool false, .int .i64 0]), 4, 48) := by kernel_rfl
theorem sizeHeld : (Tryz.prog.info? 76).map (·.size) = some 4 := by kernel_rfl

structure RcAt (w : World) (c r : Nat) (H : Nat → Prop) (hs : List (Hd × Value)) (size hits misses : Nat) (lv : Value) : Prop where
  blk : Blk w c 66 [dp r, .int .i64 size, lv, .int .i64 hits, .int .i64 misses]
  row : w.ownsRow 0 76 4 lv hs.length (hRow hs)
  bys : ∀ x ∈ hs, Sl w x.2 x.1.bs ∧ ∀ k, x.2.ownBlock = some k → H k ∧ k ≠ c ∧ lv.ownBlock ≠ some k ∧ k < w.heap.size
  fc : H c
  fl : ∀ k, lv.ownBlock = some k → H k

section
variable {w w' : World} {c r : Nat} {H H' S : Nat → Prop} {hs : List (Hd × Value)} {size hits misses : Nat} {lv : Value}
theorem RcAt.keep (h : RcAt w c r H hs size hits misses lv) (ho : Only S w w') (hn : ∀ k, H k → ¬ S k) : RcAt w' c r H hs size hits misses lv :=
  ⟨h.blk.only ho (hn c h.fc), ownsRow_only h.row ho (fun k hk => hn k (h.fl k hk)), fun x hx => ⟨(h.bys x hx).1.only ho (fun k hk => hn k ((h.bys x hx).2 k hk).1), fun k hk => ⟨((h.bys x hx).2 k hk).1, ((h.bys x hx).2 k hk).2.1, ((h.bys x hx).2 k hk).2.2.1, Nat.lt_of_lt_of_le ((h.bys x hx).2 k hk).2.2.2 ho.size⟩⟩, h.fc, h.fl⟩
theorem RcAt.below (h : RcAt w c r H hs size hits misses lv) (hb : Below w.heap.size w w') : RcAt w' c r H hs size hits misses lv := h.keep (Only.of_below (fun _ => False) hb) (fun _ _ h => h)
theorem RcAt.mono (h : RcAt w c r H hs size hits misses lv) (hH : ∀ k, H k → H' k) : RcAt w c r H' hs size hits misses lv :=
  ⟨h.blk, h.row, fun x hx => ⟨(h.bys x hx).1, fun k hk => ⟨hH k ((h.bys x hx).2 k hk).1, ((h.bys x hx).2 k hk).2⟩⟩, hH c h.fc, fun k hk => hH k (h.fl k hk)⟩
theorem RcAt.c0 (h : RcAt w c r H hs size hits misses lv) : w.cell? ⟨c, 0, none⟩ = some (dp r) := h.blk.cell 0
theorem RcAt.c1 (h : RcAt w c r H hs size hits misses lv) : w.cell? ⟨c, 1, none⟩ = some (.int .i64 size) := h.blk.cell 1
theorem RcAt.c2 (h : RcAt w c r H hs size hits misses lv) : w.cell? ⟨c, 2, none⟩ = some lv := h.blk.cell 2
theorem RcAt.c3 (h : RcAt w c r H hs size hits misses lv) : w.cell? ⟨c, 3, none⟩ = some (.int .i64 hits) := h.blk.cell 3
theorem RcAt.c4 (h : RcAt w c r H hs size hits misses lv) : w.cell? ⟨c, 4, none⟩ = some (.int .i64 misses) := h.blk.cell 4
theorem RcAt.lv_c (h : RcAt w c r H hs size hits misses lv) {k : Nat} (hk : lv.ownBlock = some k) : k ≠ c := own_apart h.row h.blk (by decide) hk
theorem RcAt.shape (h : RcAt w c r H hs size hits misses lv) : ∃ ao cap, lv = .slice ao hs.length cap ∧ hs.length ≤ cap ∧ cap ≤ 9223372036854775807 := by
  obtain ⟨ao, cap, rfl⟩ := own_form' h.row
  exact ⟨ao, cap, rfl, own_len h.row⟩
/-- the i-th page that is held -/
theorem RcAt.at {ao : Option Addr} {n cap : Nat} (h : RcAt w c r H hs size hits misses (.slice ao n cap)) {i : Nat} (hi : i < hs.length) : ∃ g, ao = some ⟨g, 0, none⟩ ∧ w.rangeAt g (i * 4) (hc hs[i].1 hs[i].2) ∧ w.cell? ⟨g, i * 4, none⟩ = some (.int .i64 hs[i].1.p) ∧ w.cell? ⟨g, i * 4 + 1, none⟩ = some hs[i].2 ∧ w.cell? ⟨g, i * 4 + 2, none⟩ = some (.bool hs[i].1.ch) ∧ w.cell? ⟨g, i * 4 + 3, none⟩ = some (.int .i64 hs[i].1.pins) ∧ ∀ j, w.frozen? ⟨g, j, none⟩ = false := by
  have hr := h.row
  rcases own_form hr with ⟨e, h0⟩ | ⟨g, cap', e⟩
  · omega
  · simp only [Value.slice.injEq] at e
    obtain ⟨rfl, rfl, rfl⟩ := e
    have hcell : ∀ j, j < 4 → w.cell? ⟨g, i * 4 + j, none⟩ = (hc hs[i].1 hs[i].2)[j]? := fun j hj => by
      rw [hr.cellAt (i * 4 + j) (by omega)]
      exact hRow_at hs i j hi hj
    refine ⟨g, rfl, fun j u hj => ?_, hcell 0 (by omega), hcell 1 (by omega), hcell 2 (by omega), hcell 3 (by omega), fun j => hr.frozenAt j⟩
    have hj4 : j < 4 := (List.getElem?_eq_some_iff.1 hj).1
    exact (hcell j hj4).trans hj
end

/-- the document's cache at block c, over its device at block r: their blocks lie in K -/
def RefC (w : World) (c r : Nat) (K : Nat → Prop) (ch : Ch) (d : Dv) : Prop :=
  ∃ H G hs lv, RcAt w c r H hs ch.size ch.hits ch.misses lv ∧ hs.map (·.1) = ch.l ∧ Ref w r G d ∧ (∀ k, H k → ¬ G k) ∧ (∀ k, H k ∨ G k → K k ∧ k < w.heap.size)

theorem findC_at {l : List Hd} (hn : (l.map (·.p)).Nodup) {i : Nat} (hi : i < l.length) : findC l l[i].p = some l[i] := findC_mem hn (List.getElem_mem hi)

set_option maxHeartbeats 1000000 in
theorem refFind_any (w : World) (c r : Nat) (H : Nat → Prop) (hs : List (Hd × Value)) (size hits misses : Nat) (lv : Value) (h : RcAt w c r H hs size hits misses lv) (hl : hs.length ≤ 64) (p : Int) :
    Calls Tryz.prog 41 #[dp c, .int .i64 p] w fun e w' => ∃ z : Int, e = .returned (.int .i64 z) ∧ w' = w ∧ ((z = -1 ∧ ∀ x ∈ hs, (x.1.p : Int) ≠ p) ∨ ∃ i, ∃ hi : i < hs.length, z = (i : Int) ∧ (hs[i].1.p : Int) = p) := by
  obtain ⟨ao, cap, rfl, hc1, hc2⟩ := h.shape
  have c2 := h.c2
  have HX := hide h
  clear h
  go_enter Tryz.func41, Tryz.ntmps41
  go_wp2
  go_loopg [5] hs.length (fun g i wr => ∃ k : Nat, g + k = hs.length ∧ i = .int .i64 k ∧ (∀ j, ∀ hj : j < hs.length, j < k → (hs[j].1.p : Int) ≠ p) ∧ w = wr)
  case atStart => exact ⟨0, rfl, rfl, fun j hj h => by omega, rfl⟩
  case round =>
    obtain ⟨k, hk, rfl, hno, rfl⟩ := hrel
    cases gk with
    | zero =>
      obtain rfl : k = hs.length := by omega
      have HN := hide hno
      clear hno
      go_wp2
      go_ret
      refine ⟨-1, rfl, rfl, .inl ⟨rfl, fun x hx => ?_⟩⟩
      obtain ⟨j, hj, rfl⟩ := List.mem_iff_getElem.1 hx
      exact HN.out j hj hj
    | succ g =>
      have hkl : k < hs.length := by omega
      have hki : (k : Int) < (hs.length : Int) := by omega
      obtain ⟨gb, rfl, _, hcp, _⟩ := HX.out.at hkl
      obtain ⟨P, hP⟩ : ∃ P, hs[k].1.p = P := ⟨_, rfl⟩
      rw [hP] at hcp
      have HP := hide hP
      have HN := hide hno
      clear hP hno
      by_cases hPp : (P : Int) = p
      · have e1 : ((P : Int) == p) = true := by simpa using hPp
        go_wp2
        go_ret
        exact ⟨k, rfl, rfl, .inr ⟨k, hkl, rfl, by rw [HP.out]; exact hPp⟩⟩
      · have e1 : ((P : Int) == p) = false := by simpa using hPp
        go_wp2
        go_roundg g
        case measure => omega
        case rel =>
          refine ⟨k + 1, by omega, by go_num, fun j hj hlt => ?_, rfl⟩
          by_cases e : j = k
          · subst e; rw [HP.out]; exact hPp
          · exact HN.out j hj (by omega)

theorem find_or (hs : List (Hd × Value)) (p : Int) : (∀ x ∈ hs, (x.1.p : Int) ≠ p) ∨ ∃ i, ∃ hi : i < hs.length, (hs[i].1.p : Int) = p := by
  by_cases h : ∃ i, ∃ hi : i < hs.length, (hs[i].1.p : Int) = p
  · exact .inr h
  · refine .inl fun x hx e => ?_
    obtain ⟨i, hi, rfl⟩ := List.mem_iff_getElem.1 hx
    exact h ⟨i, hi, e⟩
theorem find_uniq {hs : List (Hd × Value)} (hn : ((hs.map (·.1)).map (·.p)).Nodup) {i j : Nat} (hi : i < hs.length) (hj : j < hs.length) (e : hs[i].1.p = hs[j].1.p) : i = j := by
  have hp := List.pairwise_iff_getElem.1 hn
  rcases Nat.lt_trichotomy i j with h | h | h
  · exact absurd (by simpa using e) (hp i j (by simpa using hi) (by simpa using hj) h)
  · exact h
  · exact absurd (by simpa using e.symm) (hp j i (by simpa using hj) (by simpa using hi) h)
theorem refFind_no (w : World) (c r : Nat) (H : Nat → Prop) (hs : List (Hd × Value)) (size hits misses : Nat) (lv : Value) (h : RcAt w c r H hs size hits misses lv) (hl : hs.length ≤ 64) (p : Int) (hno : ∀ x ∈ hs, (x.1.p : Int) ≠ p) :
    Calls Tryz.prog 41 #[dp c, .int .i64 p] w fun e w' => e = .returned (.int .i64 (-1)) ∧ w' = w := by
  refine (refFind_any w c r H hs size hits misses lv h hl p).mono ?_
  rintro e w' ⟨z, rfl, hw, ⟨rfl, _⟩ | ⟨i, hi, rfl, hp⟩⟩
  · exact ⟨rfl, hw⟩
  · exact absurd hp (hno _ (List.getElem_mem hi))
theorem refFind_yes (w : World) (c r : Nat) (H : Nat → Prop) (hs : List (Hd × Value)) (size hits misses : Nat) (lv : Value) (h : RcAt w c r H hs size hits misses lv) (hl : hs.length ≤ 64) (hn : ((hs.map (·.1)).map (·.p)).Nodup) (p : Int) (i : Nat) (hi : i < hs.length) (hp : (hs[i].1.p : Int) = p) :
    Calls Tryz.prog 41 #[dp c, .int .i64 p] w fun e w' => e = .returned (.int .i64 i) ∧ w' = w := by
  refine (refFind_any w c r H hs size hits misses lv h hl p).mono ?_
  rintro e w' ⟨z, rfl, hw, ⟨rfl, hno⟩ | ⟨j, hj, rfl, hp'⟩⟩
  · exact absurd hp (hno _ (List.getElem_mem hi))
  · obtain rfl := find_uniq hn hi hj (by omega)
    exact ⟨rfl, hw⟩

end Go.Proofs.YtoplhehcjgldeaaGreat
/- Contracts of the document's own cache: out, use. -/
namespace Go.Proofs.YtoplhehcjgldeaaGreat
open Go.RowKit
set_option linter.unusedVariables false
set_option maxRecDepth 100000

theorem run_append_helds (w : World) (base : Nat) (v : Value) (xs : List (Hd × Value)) (h : w.ownsRow base 76 4 v xs.length (hRow xs)) (ys : List (Hd × Value)) (ao : Option Addr) (cap : Nat) (hy : ao = none → ys = [] ∧ cap = 0) (hys : ∀ g, ao = some g → ∀ j u, (hRow ys)[j]? = some u → w.cell? (g.add j) = some u) (h1 : ∀ x ∈ ys, x.2.oneCell' = true) (hl : xs.length + ys.length ≤ 100000) (hb : base ≤ w.heap.size) :
    ∃ v' w', (Builtin.append_ #[64, 64] 64 #[v, .slice ao ys.length cap]).run Tryz.prog w = .ok v' w' ∧ w'.ownsRow base 76 4 v' (xs.length + ys.length) (hRow (xs ++ ys)) ∧ w.grownBy w' v.ownBlock ∧ (v'.ownBlock = v.ownBlock ∨ v'.ownBlock = some w.heap.size) ∧ ∃ ao cap, v' = .slice ao (xs.length + ys.length) cap := by
  obtain ⟨i0, hi, hz, hs, hby⟩ := info_parts infoHeld
  have eR : hRow (xs ++ ys) = hRow xs ++ hRow ys := by simp [hRow]
  rw [eR]
  cases ao with
  | none =>
    obtain ⟨rfl, rfl⟩ := hy rfl
    obtain ⟨a', c', e⟩ := own_form' h
    exact ⟨v, w, run_append_owned_none w base _ _ 76 i0 4 Tryz.underlying64 hi v xs.length (hRow xs) h, by simpa [hRow] using h, ⟨rfl, rfl, rfl, Nat.le_refl _, fun _ _ _ => rfl⟩, .inl rfl, a', c', by simpa using e⟩
  | some a =>
    obtain ⟨v', w', hr, h1, h2, _, h4⟩ := run_append_own_at (P := Tryz.prog) w base 64 64 76 i0 _ 4 48 Tryz.underlying64 hi hz hs hby rfl (by decide) v xs.length (hRow xs) h a ys.length cap (hRow ys) (hRow_len ys) (hys a rfl) (hRow_one h1) (by unfold maxLen; omega) (by omega) hb
    exact ⟨v', w', hr, h1, h2, h4, own_form' h1⟩
/-- one more -/
theorem run_append_held (w : World) (base : Nat) (v : Value) (xs : List (Hd × Value)) (h : w.ownsRow base 76 4 v xs.length (hRow xs)) (x : Hd × Value) (h1 : x.2.oneCell' = true) (hl : xs.length + 1 ≤ 100000) (hb : base ≤ w.heap.size) :
    ∃ v' w', (Builtin.append_ #[64, 64] 64 #[v, .slice (some ⟨w.heap.size, 0, none⟩) 1 1]).run Tryz.prog (w.alloc (.cells (hc x.1 x.2).toArray 76)) = .ok v' w' ∧ w'.ownsRow base 76 4 v' (xs ++ [x]).length (hRow (xs ++ [x])) ∧ Only (fun j => v.ownBlock = some j) w w' ∧ (v'.ownBlock = v.ownBlock ∨ v'.ownBlock = some (w.heap.size + 1)) := by
  obtain ⟨v', w', hr, h2, h3, h4, h5⟩ := run_append_helds (w.alloc (.cells (hc x.1 x.2).toArray 76)) base v xs (World.ownsRow.alloc h _) [x] (some ⟨w.heap.size, 0, none⟩) 1 (fun h => by cases h) (fun g hg j u hj => by
    obtain rfl := Option.some.inj hg
    have hB := Blk.new w 76 (hc x.1 x.2)
    rw [Addr.add_mid, Nat.zero_add]
    refine (hB.cell j).trans ?_
    rw [← hj]
    simp [hRow]) (fun y hy => by simp at hy; subst hy; exact h1) (by simpa using hl) (by simp; omega)
  refine ⟨v', w', hr, by rw [List.length_append]; exact h2, ((Only.refl _ w).alloc _).grown h3 (fun j e _ => e), by simpa using h4⟩

theorem erase_step {α : Type} (hs : List α) (i k : Nat) (hk : k < hs.length) (hi : k ≠ i) : (hs.take (k + 1)).eraseIdx i = (hs.take k).eraseIdx i ++ [hs[k]] := by
  rw [List.take_succ_eq_append_getElem hk]
  by_cases h : i < k
  · rw [List.eraseIdx_append_of_lt_length (by simp; omega)]
  · rw [List.eraseIdx_of_length_le (by simp; omega), List.eraseIdx_of_length_le (by simp; omega)]
theorem erase_same {α : Type} (hs : List α) (i : Nat) (hk : i < hs.length) : (hs.take (i + 1)).eraseIdx i = (hs.take i).eraseIdx i := by
  have hl : (hs.take i).length = i := by simp; omega
  have e1 : (hs.take i).eraseIdx i = hs.take i := List.eraseIdx_of_length_le (by omega)
  rw [e1, List.take_succ_eq_append_getElem hk, List.eraseIdx_append_of_length_le (by omega), hl]
  simp
theorem erase_less {l : List Hd} (hn : (l.map (·.p)).Nodup) {i : Nat} (hi : i < l.length) : l.eraseIdx i = lessC l l[i].p := by
  induction l generalizing i with
  | nil => simp at hi
  | cons x l ih =>
    rw [List.map_cons, List.nodup_cons] at hn
    cases i with
    | zero =>
      rw [List.eraseIdx_cons_zero]
      have e := lessC_none (l := l) (p := x.p) (fun y hy e => hn.1 (by rw [← e]; exact List.mem_map_of_mem hy))
      show l = lessC (x :: l) x.p
      unfold lessC at e ⊢
      rw [List.filter_cons]
      simp only [ne_eq, not_true_eq_false, decide_false, Bool.false_eq_true, if_false]
      exact e.symm
    | succ i =>
      have hi' : i < l.length := by simpa using hi
      rw [List.eraseIdx_cons_succ, ih hn.2 hi']
      show x :: lessC l l[i].p = lessC (x :: l) l[i].p
      unfold lessC
      rw [List.filter_cons, if_pos]
      have : x.p ≠ l[i].p := fun e => hn.1 (by rw [e]; exact List.mem_map_of_mem (List.getElem_mem hi'))
      simpa using this

set_option maxHeartbeats 1000000 in
theorem refOut_any (w : World) (c r : Nat) (H : Nat → Prop) (hs : List (Hd × Value)) (size hits misses : Nat) (lv : Value) (h : RcAt w c r H hs size hits misses lv) (hl : hs.length ≤ 64) (i : Nat) (hi : i < hs.length) :
    Calls Tryz.prog 65 #[dp c, .int .i64 i] w fun e w' => e = .returned (.tuple #[]) ∧ (∃ lv', RcAt w' c r (fun k => H k ∨ w.heap.size ≤ k) (hs.eraseIdx i) size hits misses lv') ∧ Only (· = c) w w' := by
  obtain ⟨ao, cap, rfl, hc1, hc2⟩ := h.shape
  have HX := hide h
  have hcw : c < w.heap.size := h.blk.lt
  clear h
  go_enter Tryz.func65, Tryz.ntmps65
  go_wp2
  go_loopg [4, 5] hs.length (fun g l iv wr => ∃ k : Nat, g + k = hs.length ∧ iv = .int .i64 k ∧ Below w.heap.size w wr ∧ w.heap.size ≤ wr.heap.size ∧ wr.ownsRow w.heap.size 76 4 l ((hs.take k).eraseIdx i).length (hRow ((hs.take k).eraseIdx i)))
  case atStart =>
    refine ⟨0, rfl, rfl, (Below.refl _ w).alloc (Nat.le_refl _) _, by simp, ?_⟩
    have := World.ownsRow_made (size := 4) (e := 76) w #[] 0 (Nat.le_refl w.heap.size) (by simp [maxLen]) rfl
    simpa [hRow] using this
  case round =>
    obtain ⟨k, hk, rfl, hb, hws, ho⟩ := hrel
    have hXr := HX.out.below hb
    have c2 := hXr.c2
    have HB := hide hb
    cases gk with
    | zero =>
      obtain rfl : k = hs.length := by omega
      rw [List.take_of_length_le (Nat.le_refl _)] at ho
      obtain ⟨a2, cap2, rfl⟩ := own_form' ho
      have f2 := hXr.blk.frozen 2
      have HO := hide ho
      have HXr := hide hXr
      obtain ⟨n2, hn2⟩ : ∃ n2, (hs.eraseIdx i).length = n2 := ⟨_, rfl⟩
      rw [hn2] at HO
      have HN2 := hide hn2
      rw [hn2]
      clear ho hXr hb hn2
      go_wp2
      go_end0
      have hoC : Only (· = c) wr (wr.setCell ⟨c, 2, none⟩ (.slice a2 n2 cap2)) := (Only.refl (· = c) wr).setCell ⟨c, 2, none⟩ _ (fun _ => rfl)
      refine ⟨rfl, ⟨_, ⟨HXr.out.blk.set 2 _, ?_, fun x hx => ?_, .inl HXr.out.fc, fun k hk => .inr (HO.out.lt k hk).1⟩⟩, (Only.of_below _ HB.out).trans hoC (fun _ _ h => h)⟩
      · rw [HN2.out]
        exact ownsRow_only (ownsRow_base HO.out (Nat.zero_le _)) hoC (fun k hk e => by have := (HO.out.lt k hk).1; omega)
      · have hx' := HXr.out.bys x (List.mem_of_mem_eraseIdx hx)
        have hx0 := HX.out.bys x (List.mem_of_mem_eraseIdx hx)
        exact ⟨hx'.1.only hoC (fun k hk e => (hx'.2 k hk).2.1 e), fun k hk => ⟨.inl (hx'.2 k hk).1, (hx'.2 k hk).2.1, fun e => by
          have := (HO.out.lt k e).1
          have := (hx0.2 k hk).2.2.2
          omega, Nat.lt_of_lt_of_le (hx'.2 k hk).2.2.2 hoC.size⟩⟩
    | succ g =>
      have hkl : k < hs.length := by omega
      have hki : (k : Int) < (hs.length : Int) := by omega
      obtain ⟨gb, rfl, _, k0, k1, k2, k3, _⟩ := hXr.at hkl
      have hbx := hXr.bys _ (List.getElem_mem hkl)
      obtain ⟨x, hx⟩ : ∃ x, hs[k] = x := ⟨_, rfl⟩
      rw [hx] at k0 k1 k2 k3 hbx
      obtain ⟨au, cu, hu⟩ := sl_form' hbx.1
      have hone : x.2.oneCell' = true := by rw [hu]; rfl
      by_cases hki0 : k = i
      · have hke : (k : Int) = (i : Int) := by omega
        have HO := hide ho
        clear ho hXr k0 k1 k2 k3 hbx hb
        go_wp2
        go_roundg g
        case measure => omega
        case rel =>
          refine ⟨k + 1, by omega, by go_num, HB.out, hws, ?_⟩
          subst hki0
          rw [erase_same hs k hkl]
          exact HO.out
      · have hke : ((k : Int) == (i : Int)) = false := by simp; omega
        obtain ⟨v', w', hr, h2, h3, h4⟩ := run_append_held wr w.heap.size _ _ ho x hone (by have := List.length_eraseIdx_le (hs.take k) i; have : (hs.take k).length ≤ 64 := (by simp; omega); omega) hws
        have e := erase_step hs i k hkl hki0
        rw [hx] at e
        rw [← e] at h2
        obtain ⟨⟨P, bs, chg, pins⟩, u⟩ := x
        simp only at hu k0 k1 k2 k3
        simp only [hc] at hr
        subst hu
        obtain ⟨n0, hn0⟩ : ∃ n0, bs.length = n0 := ⟨_, rfl⟩
        rw [hn0] at k1 hr
        have HR := hide hr
        have HO2 := hide h2
        have HO3 := hide h3
        have HOw := hide ho
        clear hr h2 h3 h4 ho hbx hXr hb e hone hn0 hx
        go_wp2_with (at_builtin; (with_reducible refine wpList_append_run _ rfl (.tmp 19) (.tmp 27) 64 rfl _ _ ?_ ?_ _ _ HR.out ?_); exact rfl; exact rfl; clear HR)
        go_roundg g
        case measure => omega
        case rel => exact ⟨k + 1, by omega, by go_num, HB.out.trans (HO3.out.below hws (fun j hj e => by have := (HOw.out.lt j e).1; omega)), Nat.le_trans hws HO3.out.size, HO2.out⟩

end Go.Proofs.YtoplhehcjgldeaaGreat
/- Contract of the document's own cache: use. -/
namespace Go.Proofs.YtoplhehcjgldeaaGreat
open Go.RowKit
set_option linter.unusedVariables false
set_option maxRecDepth 100000

theorem use_app {w : World} {c r : Nat} {H : Nat → Prop} {hs : List (Hd × Value)} {size hits misses : Nat} {a2 : Option Addr} {cap2 : Nat} (h : RcAt w c r H hs size hits misses (.slice a2 hs.length cap2)) (hl : hs.length ≤ 64) (x : Hd) (xv : Value) (hS : Sl w xv x.bs) (hb : ∀ k, xv.ownBlock = some k → k ≠ c ∧ k < w.heap.size) :
    ∃ a3 n3 cap3 w', (Builtin.append_ #[64, 64] 64 #[.slice (some ⟨w.heap.size, 0, none⟩) 1 1, .slice a2 hs.length cap2]).run Tryz.prog (w.alloc (.cells (hc x xv).toArray 76)) = .ok (.slice a3 n3 cap3) w' ∧ w'.cell? ⟨c, 2, none⟩ = some (.slice a2 hs.length cap2) ∧ w'.frozen? ⟨c, 2, none⟩ = false ∧
      RcAt (w'.setCell ⟨c, 2, none⟩ (.slice a3 n3 cap3)) c r (fun k => H k ∨ w.heap.size ≤ k ∨ xv.ownBlock = some k) ((x, xv) :: hs) size hits misses (.slice a3 n3 cap3) ∧ Only (· = c) w (w'.setCell ⟨c, 2, none⟩ (.slice a3 n3 cap3)) := by
  have hone : xv.oneCell' = true := by obtain ⟨a, n, e⟩ := sl_form' hS; rw [e]; rfl
  have hone2 : ∀ y ∈ hs, y.2.oneCell' = true := fun y hy => by obtain ⟨a, n, e⟩ := sl_form' (h.bys y hy).1; rw [e]; rfl
  obtain ⟨wA, hwA⟩ : ∃ wA, w.alloc (.cells (hc x xv).toArray 76) = wA := ⟨_, rfl⟩
  have hsA : wA.heap.size = w.heap.size + 1 := by rw [← hwA]; simp
  have hbA : Below w.heap.size w wA := by rw [← hwA]; exact (Below.refl _ w).alloc (Nat.le_refl _) _
  have hA := h.below hbA
  have hcw : c < w.heap.size := h.blk.lt
  have hL : wA.ownsRow w.heap.size 76 4 (.slice (some ⟨w.heap.size, 0, none⟩) 1 1) [(x, xv)].length (hRow [(x, xv)]) := by
    rw [← hwA]
    have := World.ownsRow_lit (base := w.heap.size) (size := 4) (e := 76) w (hc x xv).toArray 1 (Nat.le_refl _) (by simp [maxLen]) rfl
    simpa [hRow] using this
  rw [hwA]
  obtain ⟨v', w', hr, h2, h3, h4, a3, cap3, rfl⟩ := run_append_helds wA w.heap.size (.slice (some ⟨w.heap.size, 0, none⟩) 1 1) [(x, xv)] hL hs a2 cap2 (fun e => by
    subst e
    rcases own_form h.row with ⟨e2, e3⟩ | ⟨g, cap', e2⟩
    · simp only [Value.slice.injEq, true_and] at e2
      exact ⟨List.eq_nil_of_length_eq_zero e3, e2.2⟩
    · simp at e2) (fun g hg j u hj => by
    subst hg
    rcases own_form h.row with ⟨e2, e3⟩ | ⟨g', cap', e2⟩
    · simp at e2
    · simp only [Value.slice.injEq, Option.some.injEq] at e2
      rw [e2.1]
      exact hA.row.cells (g := g') (by rw [e2.1]; rfl) j u hj) hone2 (by simp; omega) (by omega)
  have ho : Only (fun j => j = w.heap.size) w w' := ((Only.of_below _ hbA)).trans ((Only.refl (fun j => j = w.heap.size) wA).grown h3 (fun j e _ => by simp [Value.ownBlock] at e; exact e.symm)) (fun _ _ h => h)
  have hbw : Below w.heap.size w w' := ho.below (Nat.le_refl _) (fun j hj e => by omega)
  have h' := h.below hbw
  have hoC : Only (· = c) w' (w'.setCell ⟨c, 2, none⟩ (.slice a3 ([(x, xv)].length + hs.length) cap3)) := (Only.refl (· = c) w').setCell ⟨c, 2, none⟩ _ (fun _ => rfl)
  have hnew : ∀ k, (Value.slice a3 ([(x, xv)].length + hs.length) cap3).ownBlock = some k → w.heap.size ≤ k := fun k hk => (h2.lt k hk).1
  refine ⟨a3, _, cap3, w', hr, h'.c2, h'.blk.frozen 2, ⟨h'.blk.set 2 _, ?_, fun y hy => ?_, .inl h'.fc, fun k hk => .inr (.inl (hnew k hk))⟩, (Only.of_below _ hbw).trans hoC (fun _ _ h => h)⟩
  · have := ownsRow_only (ownsRow_base h2 (Nat.zero_le _)) hoC (fun k hk e => by have := hnew k hk; omega)
    have e : [(x, xv)].length + hs.length = ((x, xv) :: hs).length := by simp; omega
    rw [e] at this ⊢
    exact this
  · rcases List.mem_cons.1 hy with rfl | hy
    · exact ⟨(hS.below hbw).only hoC (fun k hk e => (hb k hk).1 e), fun k hk => ⟨.inr (.inr hk), (hb k hk).1, fun e => by have := hnew k e; have := (hb k hk).2; omega, Nat.lt_of_lt_of_le (Nat.lt_of_lt_of_le (hb k hk).2 hbw.size) hoC.size⟩⟩
    · have hy0 := h.bys y hy
      have hy' := h'.bys y hy
      exact ⟨hy'.1.only hoC (fun k hk e => (hy'.2 k hk).2.1 e), fun k hk => ⟨.inl (hy'.2 k hk).1, (hy'.2 k hk).2.1, fun e => by have := hnew k e; have := (hy0.2 k hk).2.2.2; omega, Nat.lt_of_lt_of_le (hy'.2 k hk).2.2.2 hoC.size⟩⟩

theorem map_erase : ∀ (hs : List (Hd × Value)) (i : Nat), (hs.eraseIdx i).map (·.1) = (hs.map (·.1)).eraseIdx i
  | [], i => rfl
  | x :: r, 0 => rfl
  | x :: r, i + 1 => by
    have := map_erase r i
    simp only [List.eraseIdx_cons_succ, List.map_cons, this]

set_option maxHeartbeats 1000000 in
theorem refUse_any (w : World) (c r : Nat) (H : Nat → Prop) (hs : List (Hd × Value)) (size hits misses : Nat) (lv : Value) (h : RcAt w c r H hs size hits misses lv) (hl : hs.length ≤ 64) (hn : ((hs.map (·.1)).map (·.p)).Nodup) (x : Hd) (ax : Option Addr) (nx cx : Nat) (hS : Sl w (.slice ax nx cx) x.bs) (hb : ∀ k, (Value.slice ax nx cx).ownBlock = some k → k ≠ c ∧ k < w.heap.size) :
    Calls Tryz.prog 61 #[dp c, .agg #[.int .i64 x.p, .slice ax nx cx, .bool x.ch, .int .i64 x.pins]] w fun e w' => e = .returned (.tuple #[]) ∧ (∃ hs' lv', RcAt w' c r (fun k => H k ∨ w.heap.size ≤ k ∨ (Value.slice ax nx cx).ownBlock = some k) ((x, .slice ax nx cx) :: hs') size hits misses lv' ∧ ((x, Value.slice ax nx cx) :: hs').map (·.1) = useC (hs.map (·.1)) x) ∧ Only (· = c) w w' := by
  obtain ⟨wA, hwA⟩ : ∃ wA, w.alloc (.cells #[.int .i64 x.p, .slice ax nx cx, .bool x.ch, .int .i64 x.pins] 76) = wA := ⟨_, rfl⟩
  have hsA : wA.heap.size = w.heap.size + 1 := by rw [← hwA]; simp
  have hbA : Below w.heap.size w wA := by rw [← hwA]; exact (Below.refl _ w).alloc (Nat.le_refl _) _
  have hA := h.below hbA
  have hcw : c < w.heap.size := h.blk.lt
  have hBx : Blk wA w.heap.size 76 (hc x (.slice ax nx cx)) := by rw [← hwA]; exact Blk.new w _ _
  have q0 : wA.cell? ⟨w.heap.size, 0, none⟩ = some (.int .i64 x.p) := hBx.cell 0
  have HFN := hide (refFind_no wA c r H hs size hits misses lv hA hl x.p)
  have HFY := hide (refFind_yes wA c r H hs size hits misses lv hA hl hn x.p)
  -- the end, from a world behind Find and out
  have HEnd : Hid (∀ (w2 : World) (hs2 : List (Hd × Value)) (H2 : Nat → Prop) (a2 : Option Addr) (n2 cap2 : Nat), n2 = hs2.length → RcAt w2 c r H2 hs2 size hits misses (.slice a2 n2 cap2) → hs2.length ≤ 64 → (∀ k, H2 k → H k ∨ w.heap.size ≤ k) → hs2.map (·.1) = lessC (hs.map (·.1)) x.p → Only (· = c) wA w2 → ∃ a3 n3 cap3 w', (w2.alloc (.cells #[.int .i64 x.p, .slice ax nx cx, .bool x.ch, .int .i64 x.pins] 76)).cell? ⟨c, 2, none⟩ = some (.slice a2 n2 cap2) ∧ (Builtin.append_ #[64, 64] 64 #[.slice (some ⟨w2.heap.size, 0, none⟩) 1 1, .slice a2 n2 cap2]).run Tryz.prog (w2.alloc (.cells #[.int .i64 x.p, .slice ax nx cx, .bool x.ch, .int .i64 x.pins] 76)) = .ok (.slice a3 n3 cap3) w' ∧ w'.cell? ⟨c, 2, none⟩ = some (.slice a2 n2 cap2) ∧ w'.frozen? ⟨c, 2, none⟩ = false ∧
      ((∃ hs' lv', RcAt (w'.setCell ⟨c, 2, none⟩ (.slice a3 n3 cap3)) c r (fun k => H k ∨ w.heap.size ≤ k ∨ (Value.slice ax nx cx).ownBlock = some k) ((x, .slice ax nx cx) :: hs') size hits misses lv' ∧ ((x, Value.slice ax nx cx) :: hs').map (·.1) = useC (hs.map (·.1)) x) ∧ Only (· = c) w (w'.setCell ⟨c, 2, none⟩ (.slice a3 n3 cap3)))) := fun w2 hs2 H2 a2 n2 cap2 hn2 h2 hl2 hH hm ho2 => by
    subst hn2
    have hs2 := ho2.size
    obtain ⟨a3, n3, cap3, w', e1, e2, e3, e4, e5⟩ := use_app h2 hl2 x (.slice ax nx cx) ((hS.below hbA).only ho2 (fun k hk e => (hb k hk).1 e)) (fun k hk => ⟨(hb k hk).1, by have := (hb k hk).2; omega⟩)
    refine ⟨a3, n3, cap3, w', (h2.below ((Below.refl _ w2).alloc (Nat.le_refl _) _)).c2, e1, e2, e3, ⟨_, _, e4.mono (fun k hk => ?_), ?_⟩, ((Only.of_below _ hbA).trans ho2 (fun _ _ h => h)).trans e5 (fun _ _ h => h)⟩
    · rcases hk with hk | hk | hk
      · rcases hH k hk with hk | hk
        · exact .inl hk
        · exact .inr (.inl hk)
      · exact .inr (.inl (by omega))
      · exact .inr (.inr hk)
    · rw [List.map_cons, hm]; rfl
  have HNO : Hid ((∀ y ∈ hs, (y.1.p : Int) ≠ (x.p : Int)) → hs.map (·.1) = lessC (hs.map (·.1)) x.p) := fun hno => (lessC_none (fun y hy e => by
    obtain ⟨z, hz, rfl⟩ := List.mem_map.1 hy
    exact hno z hz (by rw [e]))).symm
  have HYES : Hid (∀ i, ∀ hi : i < hs.length, (hs[i].1.p : Int) = (x.p : Int) → (hs.eraseIdx i).map (·.1) = lessC (hs.map (·.1)) x.p) := fun i hi e => by
    rw [map_erase, erase_less hn (by simpa using hi)]
    congr 1
    simp
    omega
  have HOUT : Hid (∀ i, ∀ hi : i < hs.length, Calls Tryz.prog _ _ _ _) := fun i hi => refOut_any wA c r H hs size hits misses lv hA hl i hi
  have HX := hide hA
  have HBX := hide hBx
  obtain ⟨alv, clv, rfl, _, _⟩ := hA.shape
  have c2A := hA.c2
  have p0 : wA.cell? ⟨w.heap.size, 1, none⟩ = some (.slice ax nx cx) := hBx.cell 1
  have p1 : wA.cell? ⟨w.heap.size, 2, none⟩ = some (.bool x.ch) := hBx.cell 2
  have p2 : wA.cell? ⟨w.heap.size, 3, none⟩ = some (.int .i64 x.pins) := hBx.cell 3
  clear hA hBx h hn hS hbA
  rcases find_or hs x.p with hno | ⟨i, hi, hp⟩
  · obtain ⟨a3, n3, cap3, w', e0, e1, e2, e3, e4⟩ := HEnd.out wA hs H alv hs.length clv rfl HX.out hl (fun k hk => .inl hk) (HNO.out hno) (Only.refl _ _)
    have HF := hide (HFN.out hno)
    rw [hsA] at e1
    have E1 := hide e1
    have E4 := hide e4
    clear e1 e4 hno
    go_enter Tryz.func61, Tryz.ntmps61
    go_wp2_with (first
      | (rw [hwA]; clear hwA)
      | (go_at_call 41; refine HF.out.mono ?_; rintro e w1 ⟨rfl, hw⟩; subst w1; clear HF)
      | (at_builtin; (with_reducible refine wpList_append_run _ rfl (.tmp 18) (.tmp 22) 64 rfl _ _ ?_ ?_ _ _ E1.out ?_); exact rfl; exact rfl; clear E1))
    go_end0
    exact ⟨rfl, E4.out⟩
  · have HO := hide (HOUT.out i hi)
    have HF := hide (HFY.out i hi hp)
    have HP := hide hp
    have hii : ¬ (i : Int) < 0 := by omega
    clear hp p0 p1 p2 c2A
    go_enter Tryz.func61, Tryz.ntmps61
    go_wp2_with (first
      | (rw [hwA]; clear hwA)
      | (go_at_call 41; refine HF.out.mono ?_; rintro e w1 ⟨rfl, hw⟩; subst w1; clear HF)
      | (go_at_call 65; refine HO.out.mono ?_; rintro e w2 ⟨rfl, ⟨lv2, h2⟩, ho2⟩; obtain ⟨a2, cap2, rfl, _, _⟩ := h2.shape; obtain ⟨a3, n3, cap3, w', e0, e1, e2, e3, e4⟩ := HEnd.out w2 _ _ a2 _ cap2 rfl h2 (by have := List.length_eraseIdx_le hs i; omega) (fun k hk => hk.elim .inl (fun hk => .inr (by omega))) (HYES.out i hi HP.out) ho2; have c2 := h2.c2; have hB2 := HBX.out.only ho2 (by omega); have p0 : w2.cell? ⟨w.heap.size, 0, none⟩ = some (.int .i64 x.p) := hB2.cell 0; have p1 : w2.cell? ⟨w.heap.size, 1, none⟩ = some (.slice ax nx cx) := hB2.cell 1; have p2 : w2.cell? ⟨w.heap.size, 2, none⟩ = some (.bool x.ch) := hB2.cell 2; have p3 : w2.cell? ⟨w.heap.size, 3, none⟩ = some (.int .i64 x.pins) := hB2.cell 3; have E1 := hide e1; have E4 := hide e4; clear HO e1 e4 h2 ho2 hB2)
      | (at_builtin; (with_reducible refine wpList_append_run _ rfl (.tmp 18) (.tmp 22) 64 rfl _ _ ?_ ?_ _ _ E1.out ?_); exact rfl; exact rfl; clear E1))
    go_end0
    exact ⟨rfl, E4.out⟩

end Go.Proofs.YtoplhehcjgldeaaGreat
