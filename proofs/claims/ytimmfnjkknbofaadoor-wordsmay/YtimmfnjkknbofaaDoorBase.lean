/- What the walks of package pack share: a slice of bytes that is read ('Sl'), how two texts are compared ('pre', 'cmp'); plain lemmas on them, no program. -/
import Derived.WalkKit
import Derived.WalkSmall
namespace Go.Proofs.YtimmfnjkknbofaaDoor
set_option maxRecDepth 20000
open Go.RowKit

theorem hide {p : Prop} (h : p) : Hid p := h

def ByteOk (zs : List Int) : Prop := ∀ z ∈ zs, 0 ≤ z ∧ z ≤ 255

def Sl (w : World) (v : Value) (zs : List Int) : Prop :=
  ByteOk zs ∧ ∃ ao cap, v = .slice ao zs.length cap ∧ zs.length ≤ cap ∧ cap ≤ maxLen ∧ (ao = none → cap = 0) ∧
    (zs ≠ [] → ∃ b off, ao = some ⟨b, off, none⟩ ∧ ∀ i, i < zs.length → w.cell? ⟨b, off + i, none⟩ = some (.int .u8 (zs.getD i 0)))

theorem Sl.bytes {w : World} {v : Value} {zs : List Int} (h : Sl w v zs) : ByteOk zs := h.1

theorem getD_lt (zs : List Int) {i : Nat} (hi : i < zs.length) : zs.getD i 0 = zs[i] := by simp [List.getD, hi]
theorem getD_ge (zs : List Int) {i : Nat} (hi : zs.length ≤ i) : zs.getD i 0 = 0 := by simp [List.getD, hi]

theorem ByteOk.get {zs : List Int} (h : ByteOk zs) (i : Nat) : 0 ≤ zs.getD i 0 ∧ zs.getD i 0 ≤ 255 := by
  by_cases hi : i < zs.length
  · have := h zs[i] (List.getElem_mem hi)
    rw [getD_lt zs hi]; exact this
  · rw [getD_ge zs (by omega)]; omega

theorem Sl.nil (w : World) : Sl w (.slice none 0 0) [] :=
  ⟨(by intro z hz; cases hz), none, 0, rfl, Nat.le_refl _, by simp [maxLen], fun _ => rfl, fun h => absurd rfl h⟩

/-- a slice stays what it is while its block does -/
theorem Sl.keep {w w' : World} {v : Value} {zs : List Int} (h : Sl w v zs) (hk : ∀ k, v.ownBlock = some k → k < w.heap.size → w'.heap[k]? = w.heap[k]?) : Sl w' v zs := by
  obtain ⟨hb, ao, cap, rfl, h1, h2, h3, h4⟩ := h
  refine ⟨hb, ao, cap, rfl, h1, h2, h3, fun hz => ?_⟩
  obtain ⟨b, off, rfl, hc⟩ := h4 hz
  refine ⟨b, off, rfl, fun i hi => ?_⟩
  have hlt := World.block_lt_of_cell? w _ (hc i hi)
  rw [World.cell?_of_block (w := w) (hk b rfl hlt)]
  exact hc i hi

theorem Sl.below {w w' : World} {v : Value} {zs : List Int} (h : Sl w v zs) (hb : Below w.heap.size w w') : Sl w' v zs :=
  h.keep fun k _ hk => hb.block k hk

theorem Sl.grown {w w' : World} {v : Value} {zs : List Int} {row : Option Nat} (h : Sl w v zs) (hg : w.grownBy w' row) (hne : v.ownBlock = none ∨ v.ownBlock ≠ row) : Sl w' v zs :=
  h.keep fun k hk hlt => hg.block k hlt (by rcases hne with h' | h' <;> simp_all)

theorem Sl.grown0 {w w' : World} {v : Value} {zs : List Int} (h : Sl w v zs) (hg : w.grownBy w' none) : Sl w' v zs :=
  h.keep fun k _ hlt => hg.block k hlt (by simp)

theorem Sl.alloc {w : World} {v : Value} {zs : List Int} (h : Sl w v zs) (o : Obj) : Sl (w.alloc o) v zs :=
  h.keep fun k _ hk => Below.heap_alloc w o k hk

/-- what the call owns, as a slice that is read -/
theorem sl_of_own {w : World} {base : Nat} {e : TypeId} {v : Value} {n : Nat} {xs : List Value} {zs : List Int} (h : w.ownsRow base e 1 v n xs) (hb : ByteOk zs) (hx : xs = zs.map (Value.int .u8)) : Sl w v zs := by
  obtain ⟨h1, h2⟩ := h
  have hn : zs.length = n := by rw [hx] at h1; simpa using h1
  subst hn
  refine ⟨hb, ?_⟩
  rcases h2 with ⟨rfl, h0⟩ | ⟨g, cap, cur, rfl, _, hg, hnc, hcm, hcs, ht⟩
  · exact ⟨none, 0, by rw [h0], by omega, by simp [maxLen], fun _ => rfl, fun hz => absurd (List.eq_nil_of_length_eq_zero h0) hz⟩
  · refine ⟨_, cap, rfl, hnc, hcm, (fun h => by cases h), fun _ => ⟨g, 0, rfl, fun i hi => ?_⟩⟩
    rw [cell_of_row w g (0 + i) cur e (0, 0) hg]
    have : (cur.toList.take (zs.length * 1))[i]? = (zs.map (Value.int .u8))[i]? := by rw [ht, hx]
    rw [List.getElem?_take, if_pos (by omega)] at this
    simp at this
    rw [Nat.zero_add, this]
    rw [getD_lt zs hi]
    simp [hi]

/-- a made literal -/
theorem sl_lit (w : World) (e : TypeId) (zs : List Int) (hb : ByteOk zs) (hm : zs.length ≤ maxLen) :
    Sl (w.alloc (.cells (zs.map (Value.int .u8)).toArray e)) (.slice (some ⟨w.heap.size, 0, none⟩) zs.length zs.length) zs :=
  sl_of_own (base := w.heap.size) (e := e) (World.ownsRow_lit (size := 1) w _ zs.length (Nat.le_refl _) hm (by simp)) hb (by simp)

/-! ### how two texts begin, and stand -/
def pre : List Int → List Int → Nat
  | a :: as, b :: bs => if a = b then pre as bs + 1 else 0
  | _, _ => 0

theorem pre_le_left : ∀ (as bs : List Int), pre as bs ≤ as.length
  | [], _ => by simp [pre]
  | a :: as, [] => by simp [pre]
  | a :: as, b :: bs => by have := pre_le_left as bs; simp only [pre]; split <;> simp <;> omega

theorem pre_le_right : ∀ (as bs : List Int), pre as bs ≤ bs.length
  | [], _ => by simp [pre]
  | a :: as, [] => by simp [pre]
  | a :: as, b :: bs => by have := pre_le_right as bs; simp only [pre]; split <;> simp <;> omega

theorem pre_step : ∀ (as bs : List Int) (k : Nat), k ≤ pre as bs → k < as.length → k < bs.length → as.getD k 0 = bs.getD k 0 → k + 1 ≤ pre as bs
  | [], _, k, _, h1, _, _ => by simp at h1
  | a :: as, [], k, _, _, h2, _ => by simp at h2
  | a :: as, b :: bs, 0, _, _, _, h => by
      have h' : a = b := by simpa using h
      simp [pre, h']
  | a :: as, b :: bs, k + 1, h0, h1, h2, h => by
      simp only [pre] at h0 ⊢
      split at h0
      · rename_i hab
        rw [if_pos hab]
        have := pre_step as bs k (by omega) (by simpa using h1) (by simpa using h2) (by simpa using h)
        omega
      · omega

theorem pre_same : ∀ (as bs : List Int) (k : Nat), k < pre as bs → as.getD k 0 = bs.getD k 0
  | [], _, k, h => by simp [pre] at h
  | a :: as, [], k, h => by simp [pre] at h
  | a :: as, b :: bs, 0, h => by
      simp only [pre] at h; split at h
      · simpa
      · omega
  | a :: as, b :: bs, k + 1, h => by
      simp only [pre] at h; split at h
      · simpa using pre_same as bs k (by omega)
      · omega

theorem pre_stop (as bs : List Int) (k : Nat) (h : k ≤ pre as bs) (hs : as.length ≤ k ∨ bs.length ≤ k ∨ as.getD k 0 ≠ bs.getD k 0) : pre as bs = k := by
  rcases Nat.lt_or_ge k (pre as bs) with hlt | hge
  · have h1 := pre_le_left as bs; have h2 := pre_le_right as bs; have h3 := pre_same as bs k hlt
    rcases hs with h | h | h <;> first | omega | exact absurd h3 h
  · omega

/-- -1, 0, 1: which stands ahead -/
def cmp : List Int → List Int → Int
  | [], [] => 0
  | [], _ :: _ => -1
  | _ :: _, [] => 1
  | a :: as, b :: bs => if a < b then -1 else if b < a then 1 else cmp as bs

theorem cmp_pre : ∀ (as bs : List Int), cmp as bs = if pre as bs = as.length then (if pre as bs = bs.length then 0 else -1) else if pre as bs = bs.length then 1 else if bs.getD (pre as bs) 0 < as.getD (pre as bs) 0 then 1 else -1
  | [], [] => by simp [cmp, pre]
  | [], b :: bs => by simp [cmp, pre]
  | a :: as, [] => by simp [cmp, pre]
  | a :: as, b :: bs => by
      have ih := cmp_pre as bs
      by_cases hab : a = b
      · subst hab
        have e : pre (a :: as) (a :: bs) = pre as bs + 1 := by simp [pre]
        rw [e]
        simp [cmp, ih]
      · have e : pre (a :: as) (b :: bs) = 0 := by simp [pre, hab]
        rw [e]
        simp only [cmp]
        by_cases h : a < b
        · simp [h]; omega
        · have : b < a := by omega
          simp [h, this]

theorem cmp_self : ∀ as : List Int, cmp as as = 0
  | [] => rfl
  | a :: as => by simp [cmp, cmp_self as]

theorem cmp_eq_zero : ∀ (as bs : List Int), cmp as bs = 0 → as = bs
  | [], [], _ => rfl
  | [], b :: bs, h => by simp [cmp] at h
  | a :: as, [], h => by simp [cmp] at h
  | a :: as, b :: bs, h => by
      simp only [cmp] at h
      split at h
      · simp at h
      · split at h
        · simp at h
        · rw [cmp_eq_zero as bs h]; congr 1; omega

theorem cmp_zero_iff (as bs : List Int) : (cmp as bs = 0) ↔ as = bs := ⟨cmp_eq_zero as bs, fun h => h ▸ cmp_self as⟩

theorem cmp_range (as bs : List Int) : cmp as bs = -1 ∨ cmp as bs = 0 ∨ cmp as bs = 1 := by
  rw [cmp_pre]; repeat (first | split | omega)

theorem ret_int {k : IntKind} {a b : Int} (h : a = b) : Ending.returned (.int k a) = .returned (.int k b) := by rw [h]
theorem ret_bool {a b : Bool} (h : a = b) : Ending.returned (.bool a) = .returned (.bool b) := by rw [h]

end Go.Proofs.YtimmfnjkknbofaaDoor
