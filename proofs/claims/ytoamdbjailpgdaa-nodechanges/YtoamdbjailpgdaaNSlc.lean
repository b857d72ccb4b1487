/- Slices of a node's rows: their values, and what is read of them. No package's function. -/
import Derived.Test.YtoamdbjailpgdaaNCat
namespace Go.Proofs.Ytoamdbjailpgdaa
set_option maxRecDepth 20000
open Go.RowKit
set_option linter.unusedVariables false
set_option linter.unusedSimpArgs false
set_option maxRecDepth 100000

/-- s[:h:m] -/
theorem cut_max {P : Program} (t e : TypeId) (z : Nat) (ht : P.underlying t = some (.slice e)) (hz : (P.info? e).map (·.size) = some z) (ao : Option Addr) (n cap h m : Nat) (h1 : h ≤ m) (h2 : m ≤ cap) (hc : cap ≤ maxLen) (wx : World) :
    (Instr.slice t (.slice ao n cap) none (some (.int .i64 h)) (some (.int .i64 m))).run P wx = .ok (.slice ao h m) wx := by
  have he : P.elem t = e := by simp [Program.elem, ht]
  have hs : (Go.sizeOf (P.elem t)).run P wx = .ok z wx := by
    rw [he]
    cases hq : P.info? e with
    | none => simp [hq] at hz
    | some i => simp [hq] at hz; simp [Go.sizeOf, typeInfo, hq, hz]
  unfold maxLen at hc
  rw [run_slice_hm wx t ao n cap (by rw [he]; exact ht) .i64 .i64 h m (by omega) (by omega) (by omega), hs]
  simp only [Result.andThen, sliced, Int.toNat_natCast]
  by_cases hm : m = 0
  · rw [if_pos (by omega)]; obtain rfl : h = 0 := by omega
    subst hm; rfl
  · rw [if_neg (by omega)]
    cases ao with
    | none => rfl
    | some x => simp [Addr.add]
/-- s[l:] -/
theorem cut_low {P : Program} (t e : TypeId) (z : Nat) (ht : P.underlying t = some (.slice e)) (hz : (P.info? e).map (·.size) = some z) (ao : Option Addr) (n cap l : Nat) (h1 : l ≤ n) (h2 : n ≤ cap) (h3 : l < cap) (hc : cap ≤ maxLen) (wx : World) :
    (Instr.slice t (.slice ao n cap) (some (.int .i64 l)) none none).run P wx = .ok (.slice (ao.map (·.add (l * z))) (n - l) (cap - l)) wx := by
  have he : P.elem t = e := by simp [Program.elem, ht]
  have hs : (Go.sizeOf (P.elem t)).run P wx = .ok z wx := by
    rw [he]
    cases hq : P.info? e with
    | none => simp [hq] at hz
    | some i => simp [hq] at hz; simp [Go.sizeOf, typeInfo, hq, hz]
  unfold maxLen at hc
  rw [run_slice_l wx t ao n cap (by rw [he]; exact ht) .i64 l (by omega) (by omega), hs]
  simp only [Result.andThen, sliced, Int.toNat_natCast]
  rw [if_neg (by omega)]

theorem getD_dropX {α : Type} (l : List α) (k i : Nat) (d : α) : (l.drop k).getD i d = l.getD (k + i) d := by simp [List.getD, List.getElem?_drop]
theorem getD_takeX {α : Type} (l : List α) (k i : Nat) (d : α) (h : i < k) : (l.take k).getD i d = l.getD i d := by simp [List.getD, List.getElem?_take, h]
section
variable {w : World} {ao : Option Addr} {cap : Nat}
theorem Prs.take {xs : List (Value × Value)} {ps : List (List Int × List Int)} (h : Prs w (.slice ao ps.length cap) xs ps) (i c : Nat) (hi : i ≤ ps.length) (hc : i ≤ c) (hm : c ≤ maxLen) : Prs w (.slice ao i c) (xs.take i) (ps.take i) := by
  obtain ⟨h0, a, c', he, h1, h2, h3, h4⟩ := h
  simp only [Value.slice.injEq, true_and] at he
  obtain ⟨rfl, rfl⟩ := he
  have hl : (ps.take i).length = i := by simp; omega
  refine ⟨by simp [h0], ao, c, by rw [hl], by omega, hm, fun j hj => ?_, fun hne => ?_⟩
  · rw [getD_takeX _ _ _ _ (by omega), getD_takeX _ _ _ _ (by omega)]
    exact h3 j (by omega)
  · obtain ⟨b, off, rfl, hx⟩ := h4 (by intro e; simp [e] at hne)
    exact ⟨b, off, rfl, fun j hj => by rw [getD_takeX _ _ _ _ (by omega)]; exact hx j (by omega)⟩
theorem Prs.drop {xs : List (Value × Value)} {ps : List (List Int × List Int)} (h : Prs w (.slice ao ps.length cap) xs ps) (i : Nat) (hi : i ≤ ps.length) : Prs w (.slice (ao.map (·.add (i * 2))) (ps.length - i) (cap - i)) (xs.drop i) (ps.drop i) := by
  obtain ⟨h0, a, c', he, h1, h2, h3, h4⟩ := h
  simp only [Value.slice.injEq, true_and] at he
  obtain ⟨rfl, rfl⟩ := he
  have hl : (ps.drop i).length = ps.length - i := List.length_drop
  refine ⟨by simp [h0], _, cap - i, by rw [hl], by omega, by omega, fun j hj => ?_, fun hne => ?_⟩
  · rw [getD_dropX, getD_dropX]
    exact h3 (i + j) (by omega)
  · obtain ⟨b, off, rfl, hx⟩ := h4 (by intro e; simp [e] at hne)
    refine ⟨b, off + i * 2, by simp [Addr.add_mid], fun j hj => ?_⟩
    rw [getD_dropX, show off + i * 2 + j * 2 = off + (i + j) * 2 by omega]
    exact hx (i + j) (by omega)
theorem Bss.take {ys : List Value} {ks : List (List Int)} (h : Bss w (.slice ao ks.length cap) ys ks) (i c : Nat) (hi : i ≤ ks.length) (hc : i ≤ c) (hm : c ≤ maxLen) : Bss w (.slice ao i c) (ys.take i) (ks.take i) := by
  obtain ⟨h0, a, c', he, h1, h2, h3, h4⟩ := h
  simp only [Value.slice.injEq, true_and] at he
  obtain ⟨rfl, rfl⟩ := he
  have hl : (ks.take i).length = i := by simp; omega
  refine ⟨by simp [h0], ao, c, by rw [hl], by omega, hm, fun j hj => ?_, fun hne => ?_⟩
  · rw [getD_takeX _ _ _ _ (by omega), getD_takeX _ _ _ _ (by omega)]
    exact h3 j (by omega)
  · obtain ⟨b, off, rfl, hx⟩ := h4 (by intro e; simp [e] at hne)
    exact ⟨b, off, rfl, fun j hj => by rw [getD_takeX _ _ _ _ (by omega)]; exact hx j (by omega)⟩
theorem Bss.drop {ys : List Value} {ks : List (List Int)} (h : Bss w (.slice ao ks.length cap) ys ks) (i : Nat) (hi : i ≤ ks.length) : Bss w (.slice (ao.map (·.add (i * 1))) (ks.length - i) (cap - i)) (ys.drop i) (ks.drop i) := by
  obtain ⟨h0, a, c', he, h1, h2, h3, h4⟩ := h
  simp only [Value.slice.injEq, true_and] at he
  obtain ⟨rfl, rfl⟩ := he
  have hl : (ks.drop i).length = ks.length - i := List.length_drop
  refine ⟨by simp [h0], _, cap - i, by rw [hl], by omega, by omega, fun j hj => ?_, fun hne => ?_⟩
  · rw [getD_dropX, getD_dropX]
    exact h3 (i + j) (by omega)
  · obtain ⟨b, off, rfl, hx⟩ := h4 (by intro e; simp [e] at hne)
    refine ⟨b, off + i * 1, by simp [Addr.add_mid], fun j hj => ?_⟩
    rw [getD_dropX, show off + i * 1 + j = off + (i + j) by omega]
    exact hx (i + j) (by omega)
theorem Is.drop {cs : List Int} (h : Is w (.slice ao cs.length cap) cs) (i : Nat) (hi : i ≤ cs.length) : Is w (.slice (ao.map (·.add (i * 1))) (cs.length - i) (cap - i)) (cs.drop i) := by
  obtain ⟨a, c', he, h1, h2, h4⟩ := h
  simp only [Value.slice.injEq, true_and] at he
  obtain ⟨rfl, rfl⟩ := he
  have hl : (cs.drop i).length = cs.length - i := List.length_drop
  refine ⟨_, cap - i, by rw [hl], by omega, by omega, fun hne => ?_⟩
  obtain ⟨b, off, rfl, hx⟩ := h4 (by intro e; simp [e] at hne)
  refine ⟨b, off + i * 1, by simp [Addr.add_mid], fun j hj => ?_⟩
  rw [getD_dropX, show off + i * 1 + j = off + (i + j) by omega]
  exact hx (i + j) (by omega)
end
/-! ### rows of the call's own, of texts that are read -/
theorem flatP_append (xs ys : List (Value × Value)) : flatP (xs ++ ys) = flatP xs ++ flatP ys := by simp [flatP]
theorem prs_own {w : World} {base : Nat} {v : Value} {xs : List (Value × Value)} {ps : List (List Int × List Int)} (h1 : w.ownsRow base 36 2 v xs.length (flatP xs)) (hl : xs.length = ps.length) (ht : ∀ i, i < ps.length → Sl w (xs.getD i nil2).1 (ps.getD i ([], [])).1 ∧ Sl w (xs.getD i nil2).2 (ps.getD i ([], [])).2) : Prs w v xs ps := by
  rw [hl] at h1
  refine ⟨hl, ?_⟩
  obtain ⟨a, c, rfl⟩ := own_form' h1
  have hc := own_len h1
  refine ⟨a, c, rfl, hc.1, hc.2, ht, fun hne => ?_⟩
  have hpos : 0 < ps.length := List.length_pos_iff.2 hne
  rcases h1.2 with ⟨_, h0⟩ | ⟨g, cap, cur, hv, _⟩
  · omega
  · simp only [Value.slice.injEq, true_and] at hv
    obtain ⟨rfl, rfl⟩ := hv
    exact ⟨g, 0, rfl, fun i hi => by
      rw [Nat.zero_add]
      exact own_range h1 (i * 2) _ (fun j hj => flatP_at xs i (by omega) j hj)⟩
theorem bss_own {w : World} {base : Nat} {v : Value} {ys : List Value} {ks : List (List Int)} (h2 : w.ownsRow base 34 1 v ys.length ys) (hl : ys.length = ks.length) (ht : ∀ i, i < ks.length → Sl w (ys.getD i nilS) (ks.getD i [])) : Bss w v ys ks := by
  rw [hl] at h2
  refine ⟨hl, ?_⟩
  obtain ⟨a, c, rfl⟩ := own_form' h2
  have hc := own_len h2
  refine ⟨a, c, rfl, hc.1, hc.2, ht, fun hne => ?_⟩
  have hpos : 0 < ks.length := List.length_pos_iff.2 hne
  rcases h2.2 with ⟨_, h0⟩ | ⟨g, cap, cur, hv, _⟩
  · omega
  · simp only [Value.slice.injEq, true_and] at hv
    obtain ⟨rfl, rfl⟩ := hv
    refine ⟨g, 0, rfl, fun i hi => ?_⟩
    rw [Nat.zero_add, World.ownsRow.cellAt h2 i (by omega)]
    simp [List.getD, show i < ys.length by omega]
theorem Prs.texts {w : World} {v : Value} {xs : List (Value × Value)} {ps : List (List Int × List Int)} (h : Prs w v xs ps) : ∀ i, i < ps.length → Sl w (xs.getD i nil2).1 (ps.getD i ([], [])).1 ∧ Sl w (xs.getD i nil2).2 (ps.getD i ([], [])).2 := by
  obtain ⟨_, _, _, _, _, _, h3, _⟩ := h
  exact h3
theorem Bss.texts {w : World} {v : Value} {ys : List Value} {ks : List (List Int)} (h : Bss w v ys ks) : ∀ i, i < ks.length → Sl w (ys.getD i nilS) (ks.getD i []) := by
  obtain ⟨_, _, _, _, _, _, h3, _⟩ := h
  exact h3
theorem texts_append {w : World} {xs xs' : List (Value × Value)} {ps ps' : List (List Int × List Int)} (hl : xs.length = ps.length) (h : ∀ i, i < ps.length → Sl w (xs.getD i nil2).1 (ps.getD i ([], [])).1 ∧ Sl w (xs.getD i nil2).2 (ps.getD i ([], [])).2) (h' : ∀ i, i < ps'.length → Sl w (xs'.getD i nil2).1 (ps'.getD i ([], [])).1 ∧ Sl w (xs'.getD i nil2).2 (ps'.getD i ([], [])).2) :
    ∀ i, i < (ps ++ ps').length → Sl w ((xs ++ xs').getD i nil2).1 ((ps ++ ps').getD i ([], [])).1 ∧ Sl w ((xs ++ xs').getD i nil2).2 ((ps ++ ps').getD i ([], [])).2 := fun i hi => by
  rw [List.length_append] at hi
  by_cases h1 : i < ps.length
  · have e1 : (xs ++ xs').getD i nil2 = xs.getD i nil2 := by simp [List.getD, List.getElem?_append_left (show i < xs.length by omega)]
    have e2 : (ps ++ ps').getD i ([], []) = ps.getD i ([], []) := by simp [List.getD, List.getElem?_append_left h1]
    rw [e1, e2]; exact h i h1
  · have e1 : (xs ++ xs').getD i nil2 = xs'.getD (i - ps.length) nil2 := by simp only [List.getD]; rw [List.getElem?_append_right (by omega), hl]
    have e2 : (ps ++ ps').getD i ([], []) = ps'.getD (i - ps.length) ([], []) := by simp only [List.getD]; rw [List.getElem?_append_right (by omega)]
    rw [e1, e2]; exact h' _ (by omega)
theorem keys_append {w : World} {ys ys' : List Value} {ks ks' : List (List Int)} (hl : ys.length = ks.length) (h : ∀ i, i < ks.length → Sl w (ys.getD i nilS) (ks.getD i [])) (h' : ∀ i, i < ks'.length → Sl w (ys'.getD i nilS) (ks'.getD i [])) :
    ∀ i, i < (ks ++ ks').length → Sl w ((ys ++ ys').getD i nilS) ((ks ++ ks').getD i []) := fun i hi => by
  rw [List.length_append] at hi
  by_cases h1 : i < ks.length
  · have e1 : (ys ++ ys').getD i nilS = ys.getD i nilS := by simp [List.getD, List.getElem?_append_left (show i < ys.length by omega)]
    have e2 : (ks ++ ks').getD i [] = ks.getD i [] := by simp [List.getD, List.getElem?_append_left h1]
    rw [e1, e2]; exact h i h1
  · have e1 : (ys ++ ys').getD i nilS = ys'.getD (i - ks.length) nilS := by simp only [List.getD]; rw [List.getElem?_append_right (by omega), hl]
    have e2 : (ks ++ ks').getD i [] = ks'.getD (i - ks.length) [] := by simp only [List.getD]; rw [List.getElem?_append_right (by omega)]
    rw [e1, e2]; exact h' _ (by omega)

end Go.Proofs.Ytoamdbjailpgdaa
