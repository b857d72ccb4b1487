/- What the statement DiskStays keeps: rows that were read, which pages were written, and that a crash leaves the others. -/
import Derived.Test.YtofpngmabjpfhaaDMath
namespace Go.Proofs.Ytofpngmabjpfhaa
open Go.RowKit
set_option linter.unusedVariables false

theorem infoSl : (Try.prog.info? 33).map (fun i => (i.zero, i.size, i.bytes)) = some (some (.slice none 0 0), 1, 24) := by kernel_rfl
theorem infoBool : (Try.prog.info? 4).map (fun i => (i.zero, i.size, i.bytes)) = some (some (.bool false), 1, 1) := by kernel_rfl

/-- pages that were read, one behind the other -/
def WasRow (B : Nat) (w : World) (v : Value) (rows : List (List Int)) : Prop :=
  ∃ vs, w.ownsRow B 33 1 v rows.length vs ∧ ∀ i, i < rows.length → ∃ g, vs[i]? = some (.slice (some ⟨g, 0, none⟩) 256 256) ∧ Blk w g 73 (pc (sAt rows i)) ∧ B ≤ g
theorem WasRow.nil (B : Nat) (w : World) : WasRow B w (.slice none 0 0) [] := ⟨[], World.ownsRow_nil _ _ _ _, fun i hi => by simp at hi⟩
theorem WasRow.only {S : Nat → Prop} {B : Nat} {w w' : World} {v : Value} {rows : List (List Int)} (h : WasRow B w v rows) (ho : Only S w w') (hS : ∀ k, k < w.heap.size → S k → k < B) : WasRow B w' v rows := by
  obtain ⟨vs, h1, h2⟩ := h
  refine ⟨vs, ownsRow_only h1 ho (fun k hk hs => by have := h1.lt k hk; have := hS k this.2 hs; omega), fun i hi => ?_⟩
  obtain ⟨g, hg, hB, hb⟩ := h2 i hi
  exact ⟨g, hg, hB.only ho (fun hs => by have := hS g hB.lt hs; omega), hb⟩
theorem WasRow.below {B : Nat} {w w' : World} {v : Value} {rows : List (List Int)} (h : WasRow B w v rows) (hb : Below w.heap.size w w') : WasRow B w' v rows := h.only (Only.of_below (fun _ => False) hb) (fun _ _ h => h.elim)
theorem WasRow.form {B : Nat} {w : World} {v : Value} {rows : List (List Int)} (h : WasRow B w v rows) : ∃ ao cap, v = .slice ao rows.length cap ∧ rows.length ≤ cap ∧ cap ≤ 9223372036854775807 := by
  obtain ⟨vs, h1, _⟩ := h
  obtain ⟨ao, cap, rfl⟩ := own_form' h1
  exact ⟨ao, cap, rfl, own_len h1⟩
/-- the row at i -/
theorem WasRow.at {B : Nat} {w : World} {ao : Option Addr} {n cap : Nat} {rows : List (List Int)} (h : WasRow B w (.slice ao n cap) rows) {i : Nat} (hi : i < rows.length) (hok : PageOk (sAt rows i)) :
    ∃ g u, ao = some ⟨g, 0, none⟩ ∧ w.cell? ⟨g, i, none⟩ = some (.slice (some ⟨u, 0, none⟩) 256 256) ∧ Sl w (.slice (some ⟨u, 0, none⟩) 256 256) (sAt rows i) := by
  obtain ⟨vs, h1, h2⟩ := h
  obtain ⟨u, hu, hB, _⟩ := h2 i hi
  rcases own_form h1 with ⟨_, h0⟩ | ⟨g, c, hg⟩
  · omega
  obtain ⟨rfl, rfl, rfl⟩ : ao = some ⟨g, 0, none⟩ ∧ n = rows.length ∧ cap = c := by simpa using hg
  refine ⟨g, u, rfl, ?_, sl_page hB hok⟩
  have := h1.cells (g := g) rfl i _ hu
  rwa [Addr.add_mid, Nat.zero_add] at this
/-- one row more -/
theorem WasRow.snoc {B : Nat} {w : World} {v : Value} {rows : List (List Int)} (h : WasRow B w v rows) (r : List Int) (u : Nat) (hB : Blk w u 73 (pc r)) (hu : B ≤ u) (hl : rows.length ≤ 1000) (hBw : B ≤ w.heap.size) :
    ∃ v' w', (Builtin.append_ #[47, 47] 47 #[v, .slice (some ⟨w.heap.size, 0, none⟩) 1 1]).run Try.prog (w.alloc (.cells #[.slice (some ⟨u, 0, none⟩) 256 256] 33)) = .ok v' w' ∧ WasRow B w' v' (rows ++ [r]) ∧ Only (fun k => v.ownBlock = some k) w w' := by
  obtain ⟨i1, hi, hz0, hz1, hz2⟩ := info_parts infoSl
  obtain ⟨vs, h1, h2⟩ := h
  have hA := h1.alloc (.cells #[.slice (some ⟨u, 0, none⟩) 256 256] 33)
  have hN := Blk.new w 33 [.slice (some ⟨u, 0, none⟩) 256 256]
  obtain ⟨v', w', hr, ho, hg, _, hloc⟩ := run_append_own_at (P := Try.prog) _ B 47 47 33 i1 _ 1 24 Try.underlying47 hi hz0 hz1 hz2 rfl (by decide) _ _ _ hA ⟨w.heap.size, 0, none⟩ 1 1 [.slice (some ⟨u, 0, none⟩) 256 256] rfl
    (fun j x hx => by rw [Addr.add_mid, Nat.zero_add, hN.cell]; exact hx) (fun x hx => by simp at hx; subst hx; rfl) (by unfold maxLen; omega) (by omega) (by simp; omega)
  have hoa : Only (fun k => v.ownBlock = some k) w w' := ((Only.refl _ w).alloc _).grown hg (fun k hk _ => hk)
  refine ⟨v', w', hr, ⟨vs ++ [.slice (some ⟨u, 0, none⟩) 256 256], by rw [List.length_append]; exact ho, fun i hi => ?_⟩, hoa⟩
  have hne : ∀ g e cs, Blk w g e cs → e ≠ 33 → Blk w' g e cs := fun g e cs hb hee => hb.only hoa (fun hk => by
    rcases own_form h1 with ⟨rfl, _⟩ | ⟨g', c, rfl⟩
    · cases hk
    · obtain ⟨_, _, _, _, sp, hB', _⟩ := own_blk h1
      simp [Value.ownBlock] at hk
      subst hk
      exact hb.ne hB' hee rfl)
  by_cases hil : i < rows.length
  · obtain ⟨g, hg', hB', hb'⟩ := h2 i hil
    refine ⟨g, ?_, ?_, hb'⟩
    · have hvl := h1.1
      rw [List.getElem?_append_left (by omega)]; exact hg'
    · have e : sAt (rows ++ [r]) i = sAt rows i := by rw [sAt_lt hil, sAt_lt (by simp; omega), List.getElem_append_left hil]
      rw [e]
      exact hne g _ _ hB' (by decide)
  · have hie : i = rows.length := by simp at hi; omega
    subst hie
    refine ⟨u, ?_, ?_, hu⟩
    · have hvl := h1.1
      rw [List.getElem?_append_right (by omega), show rows.length - vs.length = 0 by omega]; rfl
    · have e : sAt (rows ++ [r]) rows.length = r := by rw [sAt_lt (by simp)]; simp
      rw [e]
      exact hne u _ _ hB (by decide)

/-- the writes behind a sync -/
def wr1 (d : Dv) (o : OpA) : Dv := if o.dO ≠ 2 ∧ 0 ≤ o.p ∧ o.p < 9 then writeD d o.p.toNat (pageS o.b) else d
def wrK (d : Dv) (os : List OpA) : Nat → Dv
  | 0 => d
  | k + 1 => wr1 (wrK d os k) (opAt os k)
theorem calm_wr1 {k : Nat} {d : Dv} (h : Calm 9 k d) (o : OpA) : Calm 9 (k + 1) (wr1 d o) := by
  unfold wr1
  split
  · exact calm_write h _ _
  · exact h.mono (by omega)
theorem calm_wrK {c : Nat} {d : Dv} (h : Calm 9 c d) (os : List OpA) : ∀ k, Calm 9 (c + k) (wrK d os k)
  | 0 => h
  | k + 1 => calm_wr1 (calm_wrK h os k) _
theorem writeD_st {d : Dv} (h : d.left = none) (p : Nat) (zs : List Int) : (writeD d p zs).st = d.st ∧ (writeD d p zs).ws = d.ws ++ [(p, zs)] := by unfold writeD spendD; simp [h]
theorem wrK_st {c : Nat} {d : Dv} (h : Calm 9 c d) (os : List OpA) : ∀ k, (wrK d os k).st = d.st
  | 0 => rfl
  | k + 1 => by
    rw [wrK, wr1]
    split
    · rw [(writeD_st (calm_wrK h os k).left _ _).1]; exact wrK_st h os k
    · exact wrK_st h os k

/-- a page that nothing writes stays -/
theorem crash_other {st : List (List Int)} {ws : List (Nat × List Int)} (pk : List Int) (p : Nat) (hw : ∀ x ∈ ws, x.1 < st.length ∧ x.1 ≠ p) : ∀ k, k ≤ ws.length → sAt (crashK st ws pk k) p = sAt st p
  | 0, _ => rfl
  | k + 1, hk => by
    have hkl : k < ws.length := by omega
    have hx := hw _ (List.getElem_mem hkl)
    rw [crashK, sAt_set _ _ _ _ (by rw [crashK_len, wAt_lt hkl]; exact hx.1), wAt_lt hkl, if_neg hx.2]
    exact crash_other pk p hw k (by omega)

/-- which pages were written -/
def Wrote (bl : List Bool) (d : Dv) : Prop := bl.length = 9 ∧ ∀ p, p < 9 → bl.getD p false = false → ∀ x ∈ d.ws, x.1 ≠ p
theorem Wrote.set {bl : List Bool} {d : Dv} (h : Wrote bl d) (hl : d.left = none) (q : Nat) (hq : q < 9) (zs : List Int) : Wrote (bl.set q true) (writeD d q zs) := by
  refine ⟨by rw [List.length_set]; exact h.1, fun p hp hb x hx => ?_⟩
  rw [(writeD_st hl q zs).2] at hx
  have h9 := h.1
  rw [List.getD_eq_getElem?_getD, List.getElem?_set] at hb
  by_cases hqp : q = p
  · subst hqp
    rw [if_pos rfl, if_pos (by omega)] at hb
    simp at hb
  · rw [if_neg hqp] at hb
    rcases List.mem_append.1 hx with hx | hx
    · exact h.2 p hp (by rw [List.getD_eq_getElem?_getD]; exact hb) x hx
    · simp at hx; subst hx; exact hqp

/-- a row of truths, as cells -/
def bc (bl : List Bool) : List Value := bl.map Value.bool
theorem bc_len (bl : List Bool) : (bc bl).length = bl.length := List.length_map _
theorem bc_set (bl : List Bool) (p : Nat) (x : Bool) : bc (bl.set p x) = (bc bl).set p (.bool x) := List.map_set
theorem bc_rep (n : Nat) : bc (List.replicate n false) = List.replicate n (Value.bool false) := List.map_replicate
theorem bc_at (bl : List Bool) (p : Nat) (hp : p < bl.length) : (bc bl)[p]? = some (.bool (bl.getD p false)) := by
  unfold bc
  rw [List.getElem?_map, List.getElem?_eq_getElem hp, List.getD_eq_getElem?_getD, List.getElem?_eq_getElem hp]; rfl

/-- a write that went well -/
def isWrQ (Q : World → Prop) : Value → World → Prop := fun v w => v = .int .i64 0 ∧ Q w
theorem stS_isWrQ {Q : World → Prop} (hQ : ∀ w w', Only (fun _ => False) w w' → Q w → Q w') : StS (fun _ => False) (isWrQ Q) := by
  rintro v w w' ho ⟨h1, h2⟩
  exact ⟨h1, hQ _ _ ho h2⟩

end Go.Proofs.Ytofpngmabjpfhaa
