/- A region that draws its order and makes blocks: operation M is the first that makes one; those that wait for it may make others, nothing else does. No program. -/
import Derived.Test.YtbnhacibkmcmkaaDoorRegionT
namespace Go.Proofs.YtbnhacibkmcmkaaDoor
set_option maxRecDepth 20000
open Go.RowKit
set_option linter.unusedVariables false
set_option maxRecDepth 100000

section
variable {P : Program} {Q : Exit → Act → World → Prop}
/-- nothing is made -/
def Qt (w w' : World) : Prop := Only (fun _ => False) w w' ∧ w'.heap.size = w.heap.size
theorem Qt.refl (w : World) : Qt w w := ⟨Only.refl _ _, rfl⟩
def growR (ops : Array Oper) (M i : Nat) (w w' : World) : Prop := Only (fun _ => False) w w' ∧ (i = M ∨ depB ops i M = true ∨ w'.heap.size = w.heap.size)
def growO (M i : Nat) (w w' : World) : Prop := Only (fun _ => False) w w' ∧ (i = M → w'.heap.size = w.heap.size)
theorem grow_refl (ops : Array Oper) (M i : Nat) (w : World) : growR ops M i w w := ⟨Only.refl _ _, .inr (.inr rfl)⟩
theorem grow_M {ops : Array Oper} {M : Nat} {w w' : World} (h : Only (fun _ => False) w w') : growR ops M M w w' := ⟨h, .inl rfl⟩
theorem grow_dep {ops : Array Oper} {M i : Nat} {w w' : World} (hd : depB ops i M = true) (h : Only (fun _ => False) w w') : growR ops M i w w' := ⟨h, .inr (.inl hd)⟩
theorem growO_at {M : Nat} {w w' : World} (h : growO M M w w') : w'.heap.size = w.heap.size := h.2 rfl

theorem wp_region_grow {id : Nat} {l : List Oper} {a0 : Act} {w0 : World} (fs : List (Value → World → Prop)) (M n L : Nat) (hm : P.follows .mixedOrders = true) (hap : apartB l.toArray n = true) (hbk : backB l.toArray = true) (hL : lastB l.toArray L = true) (hn : n = a0.tmps.size)
    (hst : AllStL (fun _ => False) 99 0 fs) (steps : StepsM P l.toArray a0 w0 (FL fs) (Only (fun _ => False)) (growR l.toArray M) (growO M) 0 l.dropLast)
    (fin : ∀ oL, l.toArray[L]? = some oL → ∀ vals w, Only (fun _ => False) w0 w → (∀ j d, j < L → (l.toArray[j]?).bind (·.dst) = some d → FL fs j (vals j) w) → opGives P l.toArray oL (putAll l.dropLast vals 0 a0) w (fun v w' => Q .normal ((putAll l.dropLast vals 0 a0).put oL.dst v) w')) :
    (Code.region id l.toArray true).wp P Q a0 w0 :=
  wp_region_lastT (FL fs) _ _ _ n L hm hap hbk hL hn (fun i _ _ h => h.1) (fun i a b c h k => ⟨h.1.trans k.1 (fun _ _ h => h), fun e => (k.2 e).trans (h.2 e)⟩) (fun _ _ _ h k => h.trans k (fun _ _ h => h))
    (fun i k a b hik he h => ⟨h.1, fun e => by
      subst e
      rcases h.2 with h | h | h
      · exact absurd h hik
      · rw [he] at h; cases h
      · exact h⟩) (Only.refl _ w0).drew (fun i => ⟨(Only.refl _ w0).drew, fun _ => rfl⟩)
    (fun i j v w w' hji he hr => allStL_1 fs 0 hst j v w w' hr.1) steps fin
end

end Go.Proofs.YtbnhacibkmcmkaaDoor
