/- Numbers of one's own row made less by one, one behind the other. No package's function. -/
import Derived.Test.YtmjkpgmmfooajaaPoGv
import Derived.Test.YtmjkpgmmfooajaaPoOpen
namespace Go.Proofs.Ytmjkpgmmfooajaa
set_option maxRecDepth 20000
open Go.RowKit
set_option linter.unusedVariables false

theorem Ints.put {W : World} {base g n c : Nat} {vals : List Int} (h : Ints W base (.slice (some ⟨g, 0, none⟩) n c) vals) (hn : vals.length = n) (k : Nat) (x : Int) (hk : k < n) :
    W.cell? ⟨g, k, none⟩ = some (.int .i64 (vals.getD k 0)) ∧ W.frozen? ⟨g, k, none⟩ = false ∧ Ints (W.setCell ⟨g, k, none⟩ (.int .i64 x)) base (.slice (some ⟨g, 0, none⟩) n c) (vals.set k x) := by
  have hrow := h
  unfold Ints at hrow
  rw [hn] at hrow
  have hs := hrow.stored k (.int .i64 x)
  refine ⟨?_, hrow.frozenAt k, ?_⟩
  · rw [World.ownsRow.cellAt hrow k (by omega)]
    have hk2 : k < vals.length := by omega
    simp [iv, List.getD, hk2]
  · have h3 := hs.1
    unfold Ints
    rw [List.length_set, hn]
    have e : (iv vals).set k (.int .i64 x) = iv (vals.set k x) := by simp [iv, List.map_set]
    rw [← e]
    exact h3

def decI (x : Int) : Int := wrap64 (x - 1)
def decL (zs : List Int) (k : Nat) : List Int := (zs.take k).map decI ++ zs.drop k
theorem decL_len (zs : List Int) (k : Nat) (hk : k ≤ zs.length) : (decL zs k).length = zs.length := by simp [decL]; omega
theorem decL_zero (zs : List Int) : decL zs 0 = zs := by simp [decL]
theorem decL_get (zs : List Int) (k : Nat) (hk : k < zs.length) : (decL zs k).getD k 0 = zs.getD k 0 := by
  have h1 : ((zs.take k).map decI).length = k := by simp; omega
  simp only [decL, List.getD]
  rw [List.getElem?_append_right (by omega), h1, Nat.sub_self, List.getElem?_drop]
  simp
theorem decL_set (zs : List Int) (k : Nat) (hk : k < zs.length) : (decL zs k).set k (decI (zs.getD k 0)) = decL zs (k + 1) := by
  have h1 : ((zs.take k).map decI).length = k := by simp; omega
  unfold decL
  rw [List.set_append_right _ _ (by omega), h1, Nat.sub_self, List.drop_eq_getElem_cons hk, List.set_cons_zero, List.take_succ_eq_append_getElem hk, List.map_append, List.append_assoc]
  simp [List.getD, hk]
theorem decI_ne {x : Int} (h : I64p x) : decI x ≠ x := by
  obtain ⟨h1, h2⟩ := h
  unfold decI wrap64
  omega
theorem decL_ne (zs : List Int) (hne : 1 ≤ zs.length) (h : ∀ z ∈ zs, I64p z) : decL zs zs.length ≠ zs := by
  intro e
  cases zs with
  | nil => simp at hne
  | cons z zs =>
    have : (decL (z :: zs) (z :: zs).length).getD 0 0 = z := by rw [e]; rfl
    simp [decL, List.getD] at this
    exact decI_ne (h z (List.mem_cons_self ..)) this

end Go.Proofs.Ytmjkpgmmfooajaa
