/- What crashes and syncs come to, in lists. -/
import Derived.Test.YtofpngmabjpfhaaDPlays
namespace Go.Proofs.Ytofpngmabjpfhaa
open Go.RowKit
set_option linter.unusedVariables false

theorem crashK_none (st : List (List Int)) (ws : List (Nat × List Int)) : ∀ k, crashK st ws [] k = st := by
  intro k
  have := crashK_beyond st ws [] 0 (by simp) k
  rwa [Nat.zero_add] at this
theorem mixS_all {x r : List Int} (hx : x.length = 256) (hr : r.length = 256) : mixS x r 256 = x := by
  unfold mixS
  rw [List.take_of_length_le (by omega), List.drop_of_length_le (by omega), List.append_nil]
theorem crashK_full {st : List (List Int)} {ws : List (Nat × List Int)} (n : Nat) (hn : ws.length ≤ n) (h : ∀ r ∈ st, PageOk r) (hw : ∀ x ∈ ws, x.1 < st.length ∧ PageOk x.2) : ∀ k, k ≤ ws.length → crashK st ws (List.replicate n 4) k = syncK st ws k
  | 0, _ => rfl
  | k + 1, hk => by
    have ih := crashK_full n hn h hw k (by omega)
    have hx := hw _ (List.getElem_mem (show k < ws.length by omega))
    rw [← wAt_lt (show k < ws.length by omega)] at hx
    have hok := syncK_ok h hw k (by omega)
    rw [crashK, syncK, ih]
    have e : (List.replicate n (4 : Int)).getD k 0 = 4 := by rw [getD_lt _ (by simp; omega)]; simp
    rw [e]
    have e2 : mixN 4 = 256 := rfl
    rw [e2, mixS_all hx.2.1]
    rw [sAt_lt (by rw [syncK_len]; exact hx.1)]
    exact (hok _ (List.getElem_mem _)).1
theorem sAt_set (st : List (List Int)) (p q : Nat) (r : List Int) (hp : p < st.length) : sAt (st.set p r) q = if p = q then r else sAt st q := by
  unfold sAt
  rw [List.getD_eq_getElem?_getD, List.getD_eq_getElem?_getD, List.getElem?_set]
  split
  · rename_i h
    subst h
    rfl
  · rfl
def showsW (st : List (List Int)) (ws l : List (Nat × List Int)) (p : Nat) : List Int := match lastIx l p with
  | some i => (wAt ws i).2
  | none => sAt st p
theorem sync_shows {st : List (List Int)} {ws : List (Nat × List Int)} (hw : ∀ x ∈ ws, x.1 < st.length ∧ PageOk x.2) (p : Nat) : ∀ k, k ≤ ws.length → sAt (syncK st ws k) p = showsW st ws (ws.take k) p
  | 0, _ => rfl
  | k + 1, hk => by
    have ih := sync_shows hw p k (by omega)
    have hkl : k < ws.length := by omega
    have hx := hw _ (List.getElem_mem hkl)
    unfold showsW at ih ⊢
    rw [List.take_succ_eq_append_getElem hkl, lastIx_snoc, syncK, sAt_set _ _ _ _ (by rw [syncK_len, wAt_lt hkl]; exact hx.1), wAt_lt hkl]
    by_cases hp : ws[k].1 = p
    · rw [if_pos hp, if_pos hp]
      have e : (ws.take k).length = k := by simp; omega
      simp only [e]
      rw [wAt_lt hkl]
    · rw [if_neg hp, if_neg hp, ih]
theorem sync_showsD {d : Dv} (h : DvOk d) (p : Nat) : sAt (syncK d.st d.ws d.ws.length) p = showsD d p := by
  rw [sync_shows h.ws p _ (Nat.le_refl _), List.take_length]
  rfl

end Go.Proofs.Ytofpngmabjpfhaa
