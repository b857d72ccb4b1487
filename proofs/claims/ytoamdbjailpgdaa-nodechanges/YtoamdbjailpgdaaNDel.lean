/- A copy of a node, in a box, out of whose rows one element is taken in place. No package's function. -/
import Derived.Test.YtoamdbjailpgdaaNGv
import Derived.Test.YtoamdbjailpgdaaNSlc
namespace Go.Proofs.Ytoamdbjailpgdaa
set_option maxRecDepth 20000
open Go.RowKit
set_option linter.unusedVariables false
set_option linter.unusedSimpArgs false
set_option maxRecDepth 100000

def TxU (W : World) (u : Value) (zs : List Int) : Prop := Sl W u zs ∧ ∀ j, u.ownBlock = some j → ∃ cs, Blk W j 5 cs
theorem TxU.only {W W' : World} {u : Value} {zs : List Int} {S : Nat → Prop} (h : TxU W u zs) (ho : Only S W W') (hS : ∀ j, S j → ∀ cs, ¬ Blk W j 5 cs) : TxU W' u zs := by
  have hk : ∀ j, u.ownBlock = some j → ¬ S j := fun j hj hs => by
    obtain ⟨cs, hB⟩ := h.2 j hj
    exact hS j hs cs hB
  refine ⟨h.1.only ho hk, fun j hj => ?_⟩
  obtain ⟨cs, hB⟩ := h.2 j hj
  exact ⟨cs, hB.only ho (hk j hj)⟩

structure Dl (w0 : World) (lb : Nat) (lf : Bool) (pv kv cv p k c : Value) (xs : List (Value × Value)) (ys : List Value) (cs : List Int) (ps : List (List Int × List Int)) (ks : List (List Int)) (W : World) : Prop where
  box : Blk W lb 26 [.bool lf, pv, kv, cv]
  prow : W.ownsRow w0.heap.size 36 2 p xs.length (flatP xs)
  krow : W.ownsRow w0.heap.size 34 1 k ys.length ys
  ints : Ints W w0.heap.size c cs
  pl : xs.length = ps.length
  kl : ys.length = ks.length
  pt : ∀ i, i < ps.length → TxU W (xs.getD i nil2).1 (ps.getD i ([], [])).1 ∧ TxU W (xs.getD i nil2).2 (ps.getD i ([], [])).2
  kt : ∀ i, i < ks.length → TxU W (ys.getD i nilS) (ks.getD i [])
  lbt : w0.heap.size ≤ lb
  below : Below w0.heap.size w0 W
section
variable {w0 : World} {lb : Nat} {lf : Bool} {pv kv cv p k c : Value} {xs : List (Value × Value)} {ys : List Value} {cs : List Int} {ps : List (List Int × List Int)} {ks : List (List Int)} {W W' : World}

theorem Dl.keep (h : Dl w0 lb lf pv kv cv p k c xs ys cs ps ks W) (ho : Only (fun _ => False) W W') : Dl w0 lb lf pv kv cv p k c xs ys cs ps ks W' :=
  ⟨h.box.only ho (fun h => h), ownsRow_only h.prow ho (fun _ _ h => h), ownsRow_only h.krow ho (fun _ _ h => h), h.ints.only ho (fun _ _ h => h), h.pl, h.kl, fun i hi => ⟨(h.pt i hi).1.only ho (fun _ h => h.elim), (h.pt i hi).2.only ho (fun _ h => h.elim)⟩, fun i hi => (h.kt i hi).only ho (fun _ h => h.elim), h.lbt, h.below.trans (ho.below h.below.size (fun _ _ h => h))⟩
theorem Dl.val (h : Dl w0 lb lf pv kv cv p k c xs ys cs ps ks W) : NdV W (.agg #[.bool lf, p, k, c]) ⟨lf, ps, ks, cs⟩ :=
  ⟨p, k, c, xs, ys, rfl, prs_own h.prow h.pl (fun i hi => ⟨(h.pt i hi).1.1, (h.pt i hi).2.1⟩), bss_own h.krow h.kl (fun i hi => (h.kt i hi).1), h.ints.is⟩
theorem Dl.put (h : Dl w0 lb lf pv kv cv p k c xs ys cs ps ks W) (i : Nat) (u pv' kv' cv' : Value) (hc : [.bool lf, pv, kv, cv].set i u = [.bool lf, pv', kv', cv']) : Dl w0 lb lf pv' kv' cv' p k c xs ys cs ps ks (W.setCell ⟨lb, i, none⟩ u) := by
  have ho : Only (· = lb) W (W.setCell ⟨lb, i, none⟩ u) := (Only.refl (· = lb) W).setCell ⟨lb, i, none⟩ _ (fun _ => rfl)
  have hlb := h.lbt
  have hS : ∀ j, j = lb → ∀ cs, ¬ Blk W j 5 cs := fun j hj cs hB => by subst hj; exact hB.ne h.box (by decide) rfl
  refine ⟨?_, ownsRow_only h.prow ho (fun j hj e => row_not_blk h.prow h.box (by decide) (e ▸ hj)), ownsRow_only h.krow ho (fun j hj e => row_not_blk h.krow h.box (by decide) (e ▸ hj)), h.ints.only ho (fun j hj e => row_not_blk h.ints h.box (by decide) (e ▸ hj)), h.pl, h.kl, fun i hi => ⟨(h.pt i hi).1.only ho hS, (h.pt i hi).2.only ho hS⟩, fun i hi => (h.kt i hi).only ho hS, h.lbt, h.below.trans (ho.below h.below.size (fun j hj e => by omega))⟩
  have := h.box.set i u
  rwa [hc] at this
/-- one of the rows is turned -/
theorem Dl.row (h : Dl w0 lb lf pv kv cv p k c xs ys cs ps ks W) {u : Value} {e : TypeId} {size n : Nat} {zs : List Value} (hu : W.ownsRow w0.heap.size e size u n zs) (ho : Only (fun j => u.ownBlock = some j) W W') (hne : e ≠ 5) (hnn : e ≠ 26) :
    Blk W' lb 26 [.bool lf, pv, kv, cv] ∧ Below w0.heap.size w0 W' ∧ (∀ i, i < ps.length → TxU W' (xs.getD i nil2).1 (ps.getD i ([], [])).1 ∧ TxU W' (xs.getD i nil2).2 (ps.getD i ([], [])).2) ∧ (∀ i, i < ks.length → TxU W' (ys.getD i nilS) (ks.getD i [])) ∧
      (e ≠ 36 → W'.ownsRow w0.heap.size 36 2 p xs.length (flatP xs)) ∧ (e ≠ 34 → W'.ownsRow w0.heap.size 34 1 k ys.length ys) ∧ (e ≠ 3 → Ints W' w0.heap.size c cs) := by
  have hS : ∀ j, u.ownBlock = some j → ∀ cs, ¬ Blk W j 5 cs := fun j hj cs hB => row_not_blk hu hB hne hj
  exact ⟨h.box.only ho (row_not_blk hu h.box hnn), h.below.trans (ho.below h.below.size (fun j hj e => by have := (row_blk hu e).1; omega)), fun i hi => ⟨(h.pt i hi).1.only ho hS, (h.pt i hi).2.only ho hS⟩, fun i hi => (h.kt i hi).only ho hS, fun hx => ownsRow_only h.prow ho (fun j hj e => rows_ne h.prow hu (fun e => hx e.symm) hj e), fun hx => ownsRow_only h.krow ho (fun j hj e => rows_ne h.krow hu (fun e => hx e.symm) hj e), fun hx => h.ints.only ho (fun j hj e => rows_ne h.ints hu (fun e => hx e.symm) hj e)⟩
end
/-! ### rows that are cut -/
theorem own_take {W : World} {base : Nat} {e : TypeId} {m n cap : Nat} {a : Option Addr} {L : List Value} (h : W.ownsRow base e m (.slice a n cap) n L) (i : Nat) (hi : i ≤ n) : W.ownsRow base e m (.slice a i cap) i (L.take (i * m)) := by
  obtain ⟨h1, h2⟩ := h
  have hle : i * m ≤ n * m := Nat.mul_le_mul_right _ hi
  refine ⟨by rw [List.length_take]; omega, ?_⟩
  rcases h2 with ⟨h, hn⟩ | ⟨g, cap', cur, h, hb, hg, h3, h4, hcs, ht⟩
  · simp only [Value.slice.injEq] at h
    obtain rfl : i = 0 := by omega
    exact .inl ⟨by rw [h.1, h.2.2], rfl⟩
  · simp only [Value.slice.injEq, true_and] at h
    obtain ⟨rfl, rfl⟩ := h
    refine .inr ⟨g, cap, cur, rfl, hb, hg, by omega, h4, hcs, ?_⟩
    rw [← ht, List.take_take]
    congr 1
    omega
theorem cut_end {P : Program} (t e : TypeId) (z : Nat) (ht : P.underlying t = some (.slice e)) (hz : (P.info? e).map (·.size) = some z) (ao : Option Addr) (n : Nat) (hc : n ≤ maxLen) (wx : World) :
    (Instr.slice t (.slice ao n n) (some (.int .i64 n)) none none).run P wx = .ok (.slice ao 0 0) wx := by
  have he : P.elem t = e := by simp [Program.elem, ht]
  have hs : (Go.sizeOf (P.elem t)).run P wx = .ok z wx := by
    rw [he]
    cases hq : P.info? e with
    | none => simp [hq] at hz
    | some i => simp [hq] at hz; simp [Go.sizeOf, typeInfo, hq, hz]
  unfold maxLen at hc
  rw [run_slice_l wx t ao n n (by rw [he]; exact ht) .i64 n (by omega) (by omega), hs]
  simp only [Result.andThen, sliced, Int.toNat_natCast]
  simp only [Nat.sub_self, if_true]
/-- s[l:] of a row of the call's own -/
theorem src_row {t e : TypeId} {m : Nat} (ht : Try.prog.underlying t = some (.slice e)) (hz : (Try.prog.info? e).map (·.size) = some m) {W : World} {base n cap : Nat} {a : Option Addr} {L : List Value} (h : W.ownsRow base e m (.slice a n cap) n L) (l : Nat) (hl : l ≤ n) (hn : n ≤ 1000) (h1 : ∀ u ∈ L, u.oneCell' = true) :
    ∃ a' n' c', (∀ wx, (Instr.slice t (.slice a n cap) (some (.int .i64 l)) none none).run Try.prog wx = .ok (.slice a' n' c') wx) ∧ RowR W m (.slice a' n' c') (L.drop (l * m)) := by
  have hlen := h.1
  have hcap := own_len h
  by_cases hlc : l < cap
  · refine ⟨_, _, _, fun wx => cut_low (P := Try.prog) t e m ht hz a n cap l hl hcap.1 hlc hcap.2 wx, ?_⟩
    refine ⟨_, _, _, rfl, by rw [List.length_drop, hlen, Nat.sub_mul], by omega, fun ha => ?_, fun b hb j u hj => ?_, fun u hu => h1 u (List.mem_of_mem_drop hu)⟩
    · cases a with
      | none =>
        rcases h.2 with ⟨hh, h0⟩ | ⟨g, _, _, hh, _⟩
        · omega
        · cases hh
      | some x => cases ha
    · rcases h.2 with ⟨hh, h0⟩ | ⟨g, cap', cur, hh, _⟩
      · simp only [Value.slice.injEq] at hh; omega
      · simp only [Value.slice.injEq, true_and] at hh
        obtain ⟨rfl, rfl⟩ := hh
        simp only [Option.map_some, Option.some.injEq] at hb
        subst hb
        have hr := own_range h (l * m) (L.drop (l * m)) (fun j hj => by rw [List.getElem?_drop])
        have := hr j u hj
        rw [Addr.add_mid, Addr.add_mid, Nat.zero_add]
        exact this
  · obtain rfl : l = n := by omega
    obtain rfl : l = cap := by omega
    refine ⟨a, 0, 0, fun wx => cut_end (P := Try.prog) t e m ht hz a l hcap.2 wx, ?_⟩
    rw [List.drop_eq_nil_of_le (by omega)]
    exact ⟨a, 0, 0, rfl, by simp, by omega, fun _ => rfl, fun b hb j u hj => by simp at hj, fun u hu => by cases hu⟩
theorem flatP_take (xs : List (Value × Value)) (i : Nat) : (flatP xs).take (i * 2) = flatP (xs.take i) := by
  induction xs generalizing i with
  | nil => simp [flatP]
  | cons x xs ih =>
    cases i with
    | zero => simp [flatP]
    | succ i =>
      have e : flatP (x :: xs) = x.1 :: x.2 :: flatP xs := by simp [flatP]
      have e2 : flatP ((x :: xs).take (i + 1)) = x.1 :: x.2 :: flatP (xs.take i) := by simp [flatP]
      rw [e, e2, show (i + 1) * 2 = i * 2 + 1 + 1 by omega, List.take_succ_cons, List.take_succ_cons, ih]
theorem flatP_drop (xs : List (Value × Value)) (i : Nat) : (flatP xs).drop (i * 2) = flatP (xs.drop i) := by
  induction xs generalizing i with
  | nil => simp [flatP]
  | cons x xs ih =>
    cases i with
    | zero => simp
    | succ i =>
      have e : flatP (x :: xs) = x.1 :: x.2 :: flatP xs := by simp [flatP]
      rw [e, show (i + 1) * 2 = i * 2 + 1 + 1 by omega, List.drop_succ_cons, List.drop_succ_cons, ih, List.drop_succ_cons]
theorem getD_del {α : Type} (l : List α) (k i : Nat) (d : α) (hk : k < l.length) : (l.take k ++ l.drop (k + 1)).getD i d = if i < k then l.getD i d else l.getD (i + 1) d := by
  have hl : (l.take k).length = k := by simp; omega
  by_cases h : i < k
  · rw [if_pos h]
    simp only [List.getD]
    rw [List.getElem?_append_left (by omega), List.getElem?_take, if_pos h]
  · rw [if_neg h]
    simp only [List.getD]
    rw [List.getElem?_append_right (by omega), hl, List.getElem?_drop, show k + 1 + (i - k) = i + 1 by omega]
theorem own_short {a : Option Addr} {n n' c : Nat} : (Value.slice a n c).ownBlock = (Value.slice a n' c).ownBlock := by cases a <;> rfl

section
variable {w0 : World} {lb : Nat} {lf : Bool} {pv kv cv p k c : Value} {xs : List (Value × Value)} {ys : List Value} {cs : List Int} {ps : List (List Int × List Int)} {ks : List (List Int)} {W : World}
theorem Dl.pcells (h : Dl w0 lb lf pv kv cv p k c xs ys cs ps ks W) : ∀ u ∈ flatP xs, u.oneCell' = true := fun u hu => by
  unfold flatP at hu
  obtain ⟨r, hr, hu⟩ := List.mem_flatten.1 hu
  obtain ⟨x, hx, rfl⟩ := List.mem_map.1 hr
  obtain ⟨j, hj, rfl⟩ := List.getElem_of_mem hx
  have := h.pt j (by have := h.pl; omega)
  rw [show xs.getD j nil2 = xs[j] by simp [List.getD, hj]] at this
  obtain ⟨a1, n1, c1, e1⟩ := sl_form this.1.1
  obtain ⟨a2, n2, c2, e2⟩ := sl_form this.2.1
  simp only [List.mem_cons, List.not_mem_nil, or_false] at hu
  rcases hu with rfl | rfl
  · rw [e1]; rfl
  · rw [e2]; rfl
theorem Dl.kcells (h : Dl w0 lb lf pv kv cv p k c xs ys cs ps ks W) : ∀ u ∈ ys, u.oneCell' = true := fun u hu => by
  obtain ⟨j, hj, rfl⟩ := List.getElem_of_mem hu
  have := h.kt j (by have := h.kl; omega)
  rw [show ys.getD j nilS = ys[j] by simp [List.getD, hj]] at this
  obtain ⟨a1, n1, c1, e1⟩ := sl_form this.1
  rw [e1]; rfl
theorem Dl.delP {a : Option Addr} {n cap : Nat} (h : Dl w0 lb lf pv kv cv (.slice a n cap) k c xs ys cs ps ks W) (i : Nat) (hi : i < n) (hn : n = xs.length) (hl : n ≤ 1000) (sv : Value) (hs : RowR W 2 sv (flatP (xs.drop (i + 1)))) :
    ∃ p' w', (Builtin.append_ #[22, 22] 22 #[.slice a i cap, sv]).run Try.prog W = .ok p' w' ∧ Dl w0 lb lf pv kv cv p' k c (xs.take i ++ xs.drop (i + 1)) ys cs (ps.take i ++ ps.drop (i + 1)) ks w' ∧ ∃ a n c, p' = .slice a n c := by
  obtain ⟨i0, hi0, hz0, hz1, hz2⟩ := info_parts infoPair
  have hrow := h.prow
  rw [← hn] at hrow
  have ho := own_take hrow i (by omega)
  rw [flatP_take] at ho
  obtain ⟨p', w', kk, hr, h1, _, _, h4, h5⟩ := append_row Try.underlying22 hi0 hz0 hz1 hz2 rfl (by decide) (by decide) W w0.heap.size _ _ _ ho sv _ hs (by omega) h.below.size
  have hon : Only (fun j => (Value.slice a n cap).ownBlock = some j) W w' := (Only.refl _ W).grown h5 (fun j hj _ => by rw [own_short (n' := i)]; exact hj)
  obtain ⟨b1, b2, b3, b4, b5, b6, b7⟩ := h.row hrow hon (by decide) (by decide)
  have hpl := h.pl
  rw [flatP_len, List.length_drop] at h1
  refine ⟨p', w', hr, ⟨b1, ?_, b6 (by decide), b7 (by decide), ?_, h.kl, fun j hj => ?_, b4, h.lbt, b2⟩, ?_⟩
  · rw [flatP_append, List.length_append, List.length_take, List.length_drop, show min i xs.length + (xs.length - (i + 1)) = i + kk by omega]
    exact h4
  · simp only [List.length_append, List.length_take, List.length_drop]; omega
  · rw [getD_del _ _ _ _ (by omega), getD_del _ _ _ _ (by omega)]
    simp only [List.length_append, List.length_take, List.length_drop] at hj
    split
    · exact b3 j (by omega)
    · exact b3 (j + 1) (by omega)
  · obtain ⟨a', c', e⟩ := own_form' h4
    exact ⟨a', _, c', e⟩
theorem Dl.delK {a : Option Addr} {n cap : Nat} (h : Dl w0 lb lf pv kv cv p (.slice a n cap) c xs ys cs ps ks W) (i : Nat) (hi : i < n) (hn : n = ys.length) (hl : n ≤ 1000) (sv : Value) (hs : RowR W 1 sv (ys.drop (i + 1))) :
    ∃ p' w', (Builtin.append_ #[23, 23] 23 #[.slice a i cap, sv]).run Try.prog W = .ok p' w' ∧ Dl w0 lb lf pv kv cv p p' c xs (ys.take i ++ ys.drop (i + 1)) cs ps (ks.take i ++ ks.drop (i + 1)) w' ∧ ∃ a n c, p' = .slice a n c := by
  obtain ⟨i0, hi0, hz0, hz1, hz2⟩ := info_parts infoRow
  have hrow := h.krow
  rw [← hn] at hrow
  have ho := own_take hrow i (by omega)
  rw [Nat.mul_one] at ho
  obtain ⟨p', w', kk, hr, h1, _, _, h4, h5⟩ := append_row Try.underlying23 hi0 hz0 hz1 hz2 rfl (by decide) (by decide) W w0.heap.size _ _ _ ho sv _ hs (by omega) h.below.size
  have hon : Only (fun j => (Value.slice a n cap).ownBlock = some j) W w' := (Only.refl _ W).grown h5 (fun j hj _ => by rw [own_short (n' := i)]; exact hj)
  obtain ⟨b1, b2, b3, b4, b5, b6, b7⟩ := h.row hrow hon (by decide) (by decide)
  have hkl := h.kl
  rw [List.length_drop] at h1
  refine ⟨p', w', hr, ⟨b1, b5 (by decide), ?_, b7 (by decide), h.pl, ?_, b3, fun j hj => ?_, h.lbt, b2⟩, ?_⟩
  · rw [List.length_append, List.length_take, List.length_drop, show min i ys.length + (ys.length - (i + 1)) = i + kk by omega]
    exact h4
  · simp only [List.length_append, List.length_take, List.length_drop]; omega
  · rw [getD_del _ _ _ _ (by omega), getD_del _ _ _ _ (by omega)]
    simp only [List.length_append, List.length_take, List.length_drop] at hj
    split
    · exact b4 j (by omega)
    · exact b4 (j + 1) (by omega)
  · obtain ⟨a', c', e⟩ := own_form' h4
    exact ⟨a', _, c', e⟩
theorem Dl.delI {a : Option Addr} {n cap : Nat} (h : Dl w0 lb lf pv kv cv p k (.slice a n cap) xs ys cs ps ks W) (i : Nat) (hi : i < n) (hn : n = cs.length) (hl : n ≤ 1000) (sv : Value) (hs : RowR W 1 sv (iv (cs.drop (i + 1)))) :
    ∃ p' w', (Builtin.append_ #[24, 24] 24 #[.slice a i cap, sv]).run Try.prog W = .ok p' w' ∧ Dl w0 lb lf pv kv cv p k p' xs ys (cs.take i ++ cs.drop (i + 1)) ps ks w' ∧ ∃ a n c, p' = .slice a n c := by
  obtain ⟨i0, hi0, hz0, hz1, hz2⟩ := info_parts infoInt
  have hrow : W.ownsRow w0.heap.size 3 1 (.slice a n cap) n (iv cs) := by have := h.ints; unfold Ints at this; rw [← hn] at this; exact this
  have ho := own_take hrow i (by omega)
  rw [Nat.mul_one, show (iv cs).take i = iv (cs.take i) by simp [iv, List.map_take]] at ho
  obtain ⟨p', w', kk, hr, h1, _, _, h4, h5⟩ := append_row Try.underlying24 hi0 hz0 hz1 hz2 rfl (by decide) (by decide) W w0.heap.size _ _ _ ho sv _ hs (by omega) h.below.size
  have hon : Only (fun j => (Value.slice a n cap).ownBlock = some j) W w' := (Only.refl _ W).grown h5 (fun j hj _ => by rw [own_short (n' := i)]; exact hj)
  obtain ⟨b1, b2, b3, b4, b5, b6, b7⟩ := h.row hrow hon (by decide) (by decide)
  have hl1 : (iv (cs.drop (i + 1))).length = cs.length - (i + 1) := by simp [iv]
  refine ⟨p', w', hr, ⟨b1, b5 (by decide), b6 (by decide), ?_, h.pl, h.kl, b3, b4, h.lbt, b2⟩, ?_⟩
  · unfold Ints
    rw [List.length_append, List.length_take, List.length_drop, show min i cs.length + (cs.length - (i + 1)) = i + kk by omega, show iv (cs.take i ++ cs.drop (i + 1)) = iv (cs.take i) ++ iv (cs.drop (i + 1)) by simp [iv]]
    exact h4
  · obtain ⟨a', c', e⟩ := own_form' h4
    exact ⟨a', _, c', e⟩
end
/-- a copy that was boxed -/
theorem dl_of {w0 W0 : World} {l : Bool} {p k c : Value} {n : Nd} (h : NdN W0 w0.heap.size (.agg #[.bool l, p, k, c]) n) (hb : Below w0.heap.size w0 W0) : ∃ xs ys, l = n.lf ∧ Dl w0 W0.heap.size l p k c p k c xs ys n.cs n.ps n.ks (W0.alloc (.cells #[.bool l, p, k, c] 26)) := by
  obtain ⟨vp, vk, vc, xs, ys, sv, he, h1, h2, h3, h4, h5, h6⟩ := h
  unfold ndv at he
  simp only [Value.agg.injEq, Array.mk.injEq, List.cons.injEq, Value.bool.injEq, and_true] at he
  obtain ⟨rfl, rfl, rfl, rfl⟩ := he
  have ho : Only (fun _ => False) W0 (W0.alloc (.cells #[.bool n.lf, p, k, c] 26)) := (Only.refl _ W0).alloc _
  have hyl : ys.length = n.ks.length := by have := h2.1; omega
  have hx : ∀ u zs, Sl W0 u zs → Held W0 w0.heap.size sv u → TxU (W0.alloc (.cells #[.bool n.lf, p, k, c] 26)) u zs := fun u zs a b => TxU.only (⟨a, fun j hj => (b j hj).2.1⟩ : TxU W0 u zs) ho (fun _ h => h.elim)
  refine ⟨xs, ys, rfl, Blk.new W0 _ _, ?_, ?_, h3.only ho (fun _ _ h => h), h4, hyl, fun i hi => ⟨hx _ _ (h5 i hi).1.1 (h5 i hi).1.2, hx _ _ (h5 i hi).2.1 (h5 i hi).2.2⟩, fun i hi => hx _ _ (h6 i hi).1 (h6 i hi).2, hb.size, hb.alloc hb.size _⟩
  · rw [h4]; exact ownsRow_only h1 ho (fun _ _ h => h)
  · rw [hyl]; exact ownsRow_only h2 ho (fun _ _ h => h)

end Go.Proofs.Ytoamdbjailpgdaa
