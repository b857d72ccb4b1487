/- What the statement DiskSectors keeps: an array of rows of bytes, and that a crash mixes sectors. -/
import Derived.Test.YtofpngmabjpfhaaDStay
namespace Go.Proofs.Ytofpngmabjpfhaa
open Go.RowKit
set_option linter.unusedVariables false

/-! ### the rows that may be -/
def updR (R : Nat → List Int) (q : Nat) (zs : List Int) : Nat → List Int := fun i => if i = q then zs else R i
structure MayAt (w : World) (F : Nat → Prop) (lo : Nat) (R : Nat → List Int) (vs : List Value) : Prop where
  len : vs.length = 32
  own : ∀ (i : Nat) (v : Value), vs[i]? = some v → w.ownsRow lo 5 1 v (R i).length (pc (R i))
  out : ∀ (i : Nat) (v : Value) (k : Nat), vs[i]? = some v → v.ownBlock = some k → ¬ F k
  apart : ∀ (i j : Nat) (u v : Value) (k : Nat), i ≠ j → vs[i]? = some u → vs[j]? = some v → u.ownBlock = some k → v.ownBlock ≠ some k
theorem MayAt.only {S F : Nat → Prop} {w w' : World} {lo : Nat} {R : Nat → List Int} {vs : List Value} (h : MayAt w F lo R vs) (ho : Only S w w') (hS : ∀ (i : Nat) (v : Value) (k : Nat), vs[i]? = some v → v.ownBlock = some k → ¬ S k) : MayAt w' F lo R vs :=
  ⟨h.len, fun i v hv => ownsRow_only (h.own i v hv) ho (fun k hk => hS i v k hv hk), h.out, h.apart⟩
theorem MayAt.lt {F : Nat → Prop} {w : World} {lo : Nat} {R : Nat → List Int} {vs : List Value} (h : MayAt w F lo R vs) {i k : Nat} {v : Value} (hv : vs[i]? = some v) (hk : v.ownBlock = some k) : lo ≤ k ∧ k < w.heap.size := (h.own i v hv).lt k hk
theorem MayAt.mono {F G : Nat → Prop} {w : World} {lo : Nat} {R : Nat → List Int} {vs : List Value} (h : MayAt w F lo R vs) (hG : ∀ k, lo ≤ k → k < w.heap.size → G k → F k) : MayAt w G lo R vs :=
  ⟨h.len, h.own, fun i v k hv hk hg => h.out i v k hv hk (hG k (h.lt hv hk).1 (h.lt hv hk).2 hg), h.apart⟩
theorem MayAt.quiet {F : Nat → Prop} {w w' : World} {lo : Nat} {R : Nat → List Int} {vs : List Value} (h : MayAt w F lo R vs) (ho : Only (fun _ => False) w w') : MayAt w' F lo R vs := h.only ho (fun _ _ _ _ _ h => h)
/-- a row's block holds bytes -/
theorem own_u8 {w : World} {lo n : Nat} {v : Value} {xs : List Value} (h : w.ownsRow lo 5 1 v n xs) {k : Nat} (hk : v.ownBlock = some k) : ∃ cs, Blk w k 5 cs := by
  rcases own_form h with ⟨rfl, _⟩ | ⟨g, c, rfl⟩
  · cases hk
  · obtain ⟨_, _, _, _, sp, hB, _⟩ := own_blk h
    simp [Value.ownBlock] at hk
    subst hk
    exact ⟨_, hB⟩
theorem MayAt.ne {F : Nat → Prop} {w : World} {lo : Nat} {R : Nat → List Int} {vs : List Value} (h : MayAt w F lo R vs) {g : Nat} {e : TypeId} {cs : List Value} (hB : Blk w g e cs) (he : e ≠ 5) {i k : Nat} {v : Value} (hv : vs[i]? = some v) (hk : v.ownBlock = some k) : k ≠ g := by
  obtain ⟨ds, hD⟩ := own_u8 (h.own i v hv) hk
  exact fun e' => (by subst e'; exact hB.ne hD he rfl)
theorem MayAt.set {F : Nat → Prop} {w : World} {lo : Nat} {R : Nat → List Int} {vs : List Value} (h : MayAt w F lo R vs) (q : Nat) (v : Value) (zs : List Int) (hv : w.ownsRow lo 5 1 v zs.length (pc zs))
    (hF : ∀ k, v.ownBlock = some k → ¬ F k) (hap : ∀ (i : Nat) (u : Value) (k : Nat), i ≠ q → vs[i]? = some u → v.ownBlock = some k → u.ownBlock ≠ some k) : MayAt w F lo (updR R q zs) (vs.set q v) := by
  have hget : ∀ (i : Nat) (u : Value), (vs.set q v)[i]? = some u → (i = q ∧ u = v) ∨ (i ≠ q ∧ vs[i]? = some u) := by
    intro i u hu
    rw [List.getElem?_set] at hu
    split at hu
    · rename_i e
      split at hu
      · exact .inl ⟨e.symm, (Option.some.inj hu).symm⟩
      · cases hu
    · rename_i e
      exact .inr ⟨fun e' => e e'.symm, hu⟩
  refine ⟨by rw [List.length_set]; exact h.len, fun i u hu => ?_, fun i u k hu hk => ?_, fun i j u x k hij hu hx hk => ?_⟩
  · rcases hget i u hu with ⟨rfl, rfl⟩ | ⟨hi, hu⟩
    · unfold updR; rw [if_pos rfl]; exact hv
    · unfold updR; rw [if_neg hi]; exact h.own i u hu
  · rcases hget i u hu with ⟨rfl, rfl⟩ | ⟨hi, hu⟩
    · exact hF k hk
    · exact h.out i u k hu hk
  · rcases hget i u hu with ⟨e1, e2⟩ | ⟨hi, hu'⟩ <;> rcases hget j x hx with ⟨e3, e4⟩ | ⟨hj, hx'⟩
    · exact absurd (e1.trans e3.symm) hij
    · rw [e2] at hk; exact hap j x k hj hx' hk
    · rw [e4]; exact fun hk' => hap i u k hi hu' hk' hk
    · exact h.apart i j u x k hij hu' hx' hk
/-- one byte more in a row -/
theorem MayAt.append {F : Nat → Prop} {w : World} {lo : Nat} {R : Nat → List Int} {vs : List Value} (h : MayAt w F lo R vs) (q : Nat) (v : Value) (hq : vs[q]? = some v) (c : Int) (g : Nat) (hc : w.cell? ⟨g, 0, none⟩ = some (.int .u8 c)) (hl : (R q).length ≤ 1000) (hlo : lo ≤ w.heap.size) (hF : ¬ F w.heap.size) :
    ∃ v' w', (Builtin.append_ #[33, 33] 33 #[v, .slice (some ⟨g, 0, none⟩) 1 1]).run Try.prog w = .ok v' w' ∧ MayAt w' F lo (updR R q (R q ++ [c])) (vs.set q v') ∧ Only (fun k => v.ownBlock = some k) w w' := by
  obtain ⟨i1, hi, hz0, hz1, hz2⟩ := info_parts infoU8
  obtain ⟨v', w', hr, ho, hg, _, hloc⟩ := run_append_own_at (P := Try.prog) _ lo 33 33 5 i1 _ 1 1 Try.underlying33 hi hz0 hz1 hz2 rfl (by decide) _ _ _ (h.own q v hq) ⟨g, 0, none⟩ 1 1 [.int .u8 c] rfl
    (fun j x hx => by
      cases j with
      | zero => simp at hx; subst hx; rw [Addr.add_mid]; exact hc
      | succ j => simp at hx) (fun x hx => by simp at hx; subst hx; rfl) (by unfold maxLen; omega) (by omega) hlo
  have hoa : Only (fun k => v.ownBlock = some k) w w' := (Only.refl _ w).grown hg (fun k hk _ => hk)
  refine ⟨v', w', hr, ?_, hoa⟩
  -- all rows but this one stay
  have hne : ∀ (i : Nat) (u : Value) (k : Nat), i ≠ q → vs[i]? = some u → u.ownBlock = some k → v.ownBlock ≠ some k := fun i u k hi hu hk => h.apart i q u v k hi hu hq hk
  have hget : ∀ (i : Nat) (u : Value), (vs.set q v')[i]? = some u → (i = q ∧ u = v') ∨ (i ≠ q ∧ vs[i]? = some u) := by
    intro i u hu
    rw [List.getElem?_set] at hu
    split at hu
    · rename_i e
      split at hu
      · exact .inl ⟨e.symm, (Option.some.inj hu).symm⟩
      · cases hu
    · rename_i e
      exact .inr ⟨fun e' => e e'.symm, hu⟩
  have hv'F : ∀ k, v'.ownBlock = some k → ¬ F k := by
    intro k hk
    rcases hloc with e | e
    · rw [e] at hk; exact h.out q v k hq hk
    · rw [e] at hk; obtain rfl := Option.some.inj hk; exact hF
  have hv'ap : ∀ (i : Nat) (u : Value) (k : Nat), i ≠ q → vs[i]? = some u → v'.ownBlock = some k → u.ownBlock ≠ some k := by
    intro i u k hi hu hk hk'
    rcases hloc with e | e
    · rw [e] at hk; exact hne i u k hi hu hk' hk
    · rw [e] at hk; obtain rfl := Option.some.inj hk
      have := (h.lt hu hk').2
      omega
  have ho' : w'.ownsRow lo 5 1 v' (R q ++ [c]).length (pc (R q ++ [c])) := by
    have e : pc (R q ++ [c]) = pc (R q) ++ [.int .u8 c] := by simp [pc]
    rw [e, List.length_append]; exact ho
  refine ⟨by rw [List.length_set]; exact h.len, fun i u hu => ?_, fun i u k hu hk => ?_, fun i j u x k hij hu hx hk => ?_⟩
  · rcases hget i u hu with ⟨rfl, rfl⟩ | ⟨hi, hu⟩
    · unfold updR; rw [if_pos rfl]; exact ho'
    · unfold updR; rw [if_neg hi]; exact ownsRow_only (h.own i u hu) hoa (fun k hk => hne i u k hi hu hk)
  · rcases hget i u hu with ⟨rfl, rfl⟩ | ⟨hi, hu⟩
    · exact hv'F k hk
    · exact h.out i u k hu hk
  · rcases hget i u hu with ⟨e1, e2⟩ | ⟨hi, hu'⟩ <;> rcases hget j x hx with ⟨e3, e4⟩ | ⟨hj, hx'⟩
    · exact absurd (e1.trans e3.symm) hij
    · rw [e2] at hk; exact hv'ap j x k hj hx' hk
    · rw [e4]; exact fun hk' => hv'ap i u k hi hu' hk' hk
    · exact h.apart i j u x k hij hu' hx' hk

/-- the array's block with its rows -/
def MayR (w : World) (M : Nat) (F : Nat → Prop) (lo : Nat) (R : Nat → List Int) : Prop := ¬ F M ∧ ∃ vs, Blk w M 54 vs ∧ MayAt w F lo R vs
theorem MayR.of_set {w : World} {M : Nat} {F : Nat → Prop} {lo : Nat} {R : Nat → List Int} {vs : List Value} {q : Nat} {v : Value} (hM : ¬ F M) (hB : Blk w M 54 vs) (h : MayAt w F lo R (vs.set q v)) : MayR (w.setCell ⟨M, q, none⟩ v) M F lo R :=
  ⟨hM, _, hB.set q v, h.only (S := fun k => k = M) ((Only.refl _ w).setCell ⟨M, q, none⟩ v (fun _ => rfl)) (fun i u k hu hk e => h.ne hB (by decide) hu hk e)⟩
theorem MayR.only {S F : Nat → Prop} {w w' : World} {M lo : Nat} {R : Nat → List Int} (h : MayR w M F lo R) (ho : Only S w w') (hS : ∀ k, k < w.heap.size → S k → F k) : MayR w' M F lo R := by
  obtain ⟨hM, vs, hB, h⟩ := h
  exact ⟨hM, vs, hB.only ho (fun hs => hM (hS M hB.lt hs)), h.only ho (fun i v k hv hk hs => h.out i v k hv hk (hS k (h.lt hv hk).2 hs))⟩
theorem MayR.below {F : Nat → Prop} {w w' : World} {M lo : Nat} {R : Nat → List Int} (h : MayR w M F lo R) (hb : Below w.heap.size w w') : MayR w' M F lo R := h.only (Only.of_below (fun _ => False) hb) (fun _ _ h => h.elim)
theorem MayR.mono {F G : Nat → Prop} {w : World} {M lo : Nat} {R : Nat → List Int} (h : MayR w M F lo R) (hG : ∀ k, k < w.heap.size → G k → F k) : MayR w M G lo R := by
  obtain ⟨hM, vs, hB, h⟩ := h
  exact ⟨fun hg => hM (hG M hB.lt hg), vs, hB, h.mono (fun k _ hk hg => hG k hk hg)⟩
/-- a row, as it lies -/
theorem MayR.row {F : Nat → Prop} {w : World} {M lo : Nat} {R : Nat → List Int} (h : MayR w M F lo R) {i : Nat} (hi : i < 32) : ∃ ao cap, w.cell? ⟨M, i, none⟩ = some (.slice ao (R i).length cap) ∧ (R i).length ≤ cap ∧ cap ≤ maxLen ∧ ∀ (j : Nat), j < (R i).length → ∃ g, ao = some ⟨g, 0, none⟩ ∧ w.cell? ⟨g, j, none⟩ = some (.int .u8 ((R i).getD j 0)) := by
  obtain ⟨hM, vs, hB, h⟩ := h
  have hl := h.len
  have hv : vs[i]? = some vs[i] := List.getElem?_eq_getElem (by omega)
  have ho := h.own i _ hv
  obtain ⟨ao, cap, e⟩ := own_form' ho
  rw [e] at ho
  refine ⟨ao, cap, by rw [hB.cell, hv, e], (own_len ho).1, (own_len ho).2, fun j hj => ?_⟩
  rcases own_form ho with ⟨_, h0⟩ | ⟨g, c, hg⟩
  · omega
  obtain ⟨rfl, _⟩ : ao = some ⟨g, 0, none⟩ ∧ cap = c := by simpa using hg
  refine ⟨g, rfl, ?_⟩
  have := ho.cells (g := g) rfl j (.int .u8 ((R i).getD j 0)) (by unfold pc; rw [List.getElem?_map, List.getElem?_eq_getElem hj, List.getD_eq_getElem?_getD, List.getElem?_eq_getElem hj]; rfl)
  rwa [Addr.add_mid, Nat.zero_add] at this

def mayZero : Array Value := Array.replicate 32 (.slice none 0 0)
theorem zeroMayRun (w : World) : (zeroValue 54).run Try.prog w = .ok (.agg mayZero) w := by kernel_rfl
/-- the rows while they are laid -/
def firstR (n : Nat) : Nat → List Int := fun i => if i < n then [0] else []
theorem firstR_upd (n : Nat) : updR (firstR n) n [0] = firstR (n + 1) := by
  funext i
  unfold updR firstR
  by_cases h : i = n
  · rw [if_pos h, if_pos (by omega)]
  · rw [if_neg h]
    by_cases h' : i < n
    · rw [if_pos h', if_pos (by omega)]
    · rw [if_neg h', if_neg (by omega)]
theorem mayR_new (w : World) (F : Nat → Prop) (hF : ¬ F w.heap.size) (lo : Nat) : MayR (w.alloc (.cells mayZero 54)) w.heap.size F lo (firstR 0) := by
  have e : mayZero = (List.replicate 32 (Value.slice none 0 0)).toArray := rfl
  rw [e]
  have hrep : ∀ (i : Nat) (v : Value), (List.replicate 32 (Value.slice none 0 0))[i]? = some v → v = .slice none 0 0 := fun i v hv => (List.mem_replicate.1 (List.mem_of_getElem? hv)).2
  refine ⟨hF, _, Blk.new w _ _, rfl, fun i v hv => ?_, fun i v k hv hk => ?_, fun i j u v k _ hu hv hk => ?_⟩
  · obtain rfl := hrep i v hv
    rw [show (firstR 0 i) = [] from rfl]
    exact World.ownsRow_nil _ _ _ _
  · obtain rfl := hrep i v hv
    cases hk
  · obtain rfl := hrep i u hu
    cases hk
/-- a fresh row of one byte is laid -/
theorem MayR.first {w : World} {M : Nat} {F : Nat → Prop} {lo n : Nat} (h : MayR w M F lo (firstR n)) (hF : ¬ F w.heap.size) (hlo : lo ≤ w.heap.size) :
    MayR ((w.alloc (.cells #[.int .u8 0] 5)).setCell ⟨M, n, none⟩ (.slice (some ⟨w.heap.size, 0, none⟩) 1 1)) M F lo (firstR (n + 1)) := by
  obtain ⟨hM, vs, hB, h⟩ := h
  have hA := h.quiet ((Only.refl _ w).alloc (.cells #[.int .u8 0] 5))
  have hN := Blk.new w 5 [.int .u8 0]
  have h2 := hA.set n (.slice (some ⟨w.heap.size, 0, none⟩) 1 1) [0] (blk_own (sp := []) hN hlo (by omega) (by unfold maxLen; omega) rfl rfl)
    (fun k hk => by simp [Value.ownBlock] at hk; subst hk; exact hF) (fun i u k hi hu hk hk' => by
      simp [Value.ownBlock] at hk; subst hk
      have := (h.lt hu hk').2
      omega)
  rw [firstR_upd] at h2
  exact MayR.of_set hM (hB.alloc _) h2

theorem MayR.first' {w : World} {M : Nat} {F : Nat → Prop} {lo n : Nat} (h : MayR w M F lo (firstR n)) (hF : ¬ F w.heap.size) (hlo : lo ≤ w.heap.size) :
    MayR ((w.setCell ⟨M, n, none⟩ (.slice (some ⟨w.heap.size, 0, none⟩) 1 1)).alloc (.cells #[.int .u8 0] 5)) M F lo (firstR (n + 1)) := by
  have hM : M < w.heap.size := by obtain ⟨_, vs, hB, _⟩ := h; exact hB.lt
  rw [← World.setCell_alloc_past _ _ _ _ hM]
  exact h.first hF hlo
theorem MayR.lt {w : World} {M : Nat} {F : Nat → Prop} {lo : Nat} {R : Nat → List Int} (h : MayR w M F lo R) : M < w.heap.size := by obtain ⟨_, vs, hB, _⟩ := h; exact hB.lt
theorem MayR.frozen {w : World} {M : Nat} {F : Nat → Prop} {lo : Nat} {R : Nat → List Int} (h : MayR w M F lo R) (i : Nat) : w.frozen? ⟨M, i, none⟩ = false := by obtain ⟨_, vs, hB, _⟩ := h; exact hB.frozen i

/-- a write's four bytes are laid -/
def rowsU (R : Nat → List Int) (P : Nat) (x : List Int) (k : Nat) : Nat → List Int := fun i => if P * 4 ≤ i ∧ i < P * 4 + k then R i ++ [x.getD ((i - P * 4) * 64) 0] else R i
theorem rowsU_zero (R : Nat → List Int) (P : Nat) (x : List Int) : rowsU R P x 0 = R := by
  funext i
  unfold rowsU
  rw [if_neg (by omega)]
theorem rowsU_at (R : Nat → List Int) (P : Nat) (x : List Int) (k : Nat) : rowsU R P x k (P * 4 + k) = R (P * 4 + k) := by unfold rowsU; rw [if_neg (by omega)]
theorem rowsU_succ (R : Nat → List Int) (P : Nat) (x : List Int) (k : Nat) : updR (rowsU R P x k) (P * 4 + k) (rowsU R P x k (P * 4 + k) ++ [x.getD (k * 64) 0]) = rowsU R P x (k + 1) := by
  funext i
  rw [rowsU_at]
  unfold updR
  by_cases h : i = P * 4 + k
  · subst h
    unfold rowsU
    rw [if_pos rfl, if_pos (by omega), Nat.add_sub_cancel_left]
  · rw [if_neg h]
    unfold rowsU
    by_cases h1 : P * 4 ≤ i ∧ i < P * 4 + k
    · rw [if_pos h1, if_pos (by omega)]
    · rw [if_neg h1, if_neg (by omega)]
theorem rowsU_len (R : Nat → List Int) (P : Nat) (x : List Int) (k i n : Nat) (h : (R i).length ≤ n) : (rowsU R P x k i).length ≤ n + 1 := by
  unfold rowsU
  split
  · simp; exact h
  · omega

/-! ### facts of the drawn region -/
def isB8 (base : Nat) (c : Int) : Value → World → Prop := fun v w => ∃ g, v = .slice (some ⟨g, 0, none⟩) 1 1 ∧ Blk w g 5 [.int .u8 c] ∧ base ≤ g
theorem stS_isB8 (S : Nat → Prop) (base : Nat) (c : Int) (hS : ∀ k, S k → k < base) : StS S (isB8 base c) := by
  rintro v w w' ho ⟨g, hv, hB, hg⟩
  exact ⟨g, hv, hB.only ho (fun hs => by have := hS g hs; omega), hg⟩
def isAp (F : Nat → Prop) (lo : Nat) (R : Nat → List Int) (vs : List Value) (q : Nat) : Value → World → Prop := fun v w => MayAt w F lo R (vs.set q v)
theorem stS_isAp (F : Nat → Prop) (lo : Nat) (R : Nat → List Int) (vs : List Value) (q : Nat) : StS (fun _ => False) (isAp F lo R vs q) := by
  rintro v w w' ho h
  exact MayAt.quiet h ho
theorem isAp_form {F : Nat → Prop} {lo : Nat} {R : Nat → List Int} {vs : List Value} {q : Nat} {v : Value} {w : World} (h : isAp F lo R vs q v w) (hq : q < vs.length) : ∃ ao cap, v = .slice ao (R q).length cap := own_form' (h.own q v (by rw [List.getElem?_set, if_pos rfl, if_pos hq]))
theorem buildU8 (c : Int) (wx : World) : (Instr.buildSlice 33 1 #[(0, .int .u8 c)]).run Try.prog wx = .ok (.slice (some ⟨wx.heap.size, 0, none⟩) 1 1) (wx.alloc (.cells [Value.int .u8 c].toArray 5)) := by
  obtain ⟨i1, hi, hz0, hz1, hz2⟩ := info_parts infoU8
  go_simp

/-! ### a crash mixes sectors -/
def Sec (r : List Int) (s : Nat) (c : Int) : Prop := ∀ i, i < 64 → r[s * 64 + i]? = some c
def MayOk (R : Nat → List Int) (ws : List (Nat × List Int)) : Prop := (∀ i, i < 32 → (0 : Int) ∈ R i) ∧ ∀ x ∈ ws, ∃ b : List Int, x.2 = pageS b ∧ ∀ s, s < 4 → b.getD s 0 ∈ R (x.1 * 4 + s)
theorem sec_page (b : List Int) (s : Nat) (hs : s < 4) : Sec (pageS b) s (b.getD s 0) := by
  intro i hi
  rw [pageS_get b (by omega), show (s * 64 + i) / 64 = s by omega]
theorem sec_zero (s : Nat) (hs : s < 4) : Sec zeroPage s 0 := by
  intro i hi
  unfold zeroPage
  rw [List.getElem?_replicate, if_pos (by omega)]
theorem sec_mix {x r : List Int} {s : Nat} {c d z : Int} (hs : s < 4) (hx : PageOk x) (hr : PageOk r) (h1 : Sec x s c) (h2 : Sec r s d) : Sec (mixS x r (mixN z)) s c ∨ Sec (mixS x r (mixN z)) s d := by
  unfold mixN
  obtain ⟨m, hm⟩ : ∃ m, m = z.toNat % 5 := ⟨_, rfl⟩
  have hm5 : m < 5 := by omega
  rw [← hm]
  by_cases h : s < m
  · left
    intro i hi
    unfold mixS
    rw [List.getElem?_append_left (by rw [List.length_take, hx.1]; omega), List.getElem?_take, if_pos (by omega)]
    exact h1 i hi
  · right
    intro i hi
    unfold mixS
    rw [List.getElem?_append_right (by rw [List.length_take, hx.1]; omega), List.getElem?_drop, List.length_take, hx.1, show m * 64 + (s * 64 + i - min (m * 64) 256) = s * 64 + i by omega]
    exact h2 i hi
theorem crash_sec {st : List (List Int)} {ws : List (Nat × List Int)} {R : Nat → List Int} (pk : List Int) (hst : st = List.replicate 8 zeroPage) (hw : ∀ x ∈ ws, x.1 < st.length ∧ PageOk x.2) (hR : MayOk R ws) :
    ∀ k, k ≤ ws.length → ∀ p, p < 8 → ∀ s, s < 4 → ∃ c, c ∈ R (p * 4 + s) ∧ Sec (sAt (crashK st ws pk k) p) s c
  | 0, _, p, hp, s, hs => ⟨0, hR.1 _ (by omega), by
      rw [crashK, hst, sAt_lt (by rw [List.length_replicate]; exact hp), List.getElem_replicate]; exact sec_zero s hs⟩
  | k + 1, hk, p, hp, s, hs => by
    have ih := crash_sec pk hst hw hR k (by omega) p hp s hs
    have hkl : k < ws.length := by omega
    have hx := hw _ (List.getElem_mem hkl)
    have hm := hR.2 _ (List.getElem_mem hkl)
    rw [← wAt_lt hkl] at hx hm
    rw [crashK, sAt_set _ _ _ _ (by rw [crashK_len]; exact hx.1)]
    by_cases hpp : (wAt ws k).1 = p
    · rw [if_pos hpp, hpp]
      obtain ⟨b, hb, hmem⟩ := hm
      obtain ⟨c, hc, hsec⟩ := ih
      have hok := crashK_ok pk (st := st) (ws := ws) (fun r hr => by rw [hst] at hr; rw [(List.mem_replicate.1 hr).2]; exact zeroPage_ok) hw k (by omega)
      have hl := crashK_len st ws pk k
      have hp8 : p < (crashK st ws pk k).length := by rw [hl, hst, List.length_replicate]; exact hp
      have hrow : PageOk (sAt (crashK st ws pk k) p) := by rw [sAt_lt hp8]; exact hok _ (List.getElem_mem hp8)
      have h1 : Sec (wAt ws k).2 s (b.getD s 0) := by rw [hb]; exact sec_page b s hs
      rcases sec_mix (z := pk.getD k 0) hs hx.2 hrow h1 hsec with h | h
      · exact ⟨_, by have := hmem s hs; rwa [hpp] at this, h⟩
      · exact ⟨c, hc, h⟩
    · rw [if_neg hpp]; exact ih
theorem MayOk.write {R : Nat → List Int} {ws : List (Nat × List Int)} (h : MayOk R ws) (P : Nat) (b : List Int) : MayOk (rowsU R P (pageS b) 4) (ws ++ [(P, pageS b)]) := by
  have hsub : ∀ i c, c ∈ R i → c ∈ rowsU R P (pageS b) 4 i := by
    intro i c hc
    unfold rowsU
    split
    · exact List.mem_append_left _ hc
    · exact hc
  refine ⟨fun i hi => hsub i 0 (h.1 i hi), fun x hx => ?_⟩
  rcases List.mem_append.1 hx with hx | hx
  · obtain ⟨b', e, hm⟩ := h.2 x hx
    exact ⟨b', e, fun s hs => hsub _ _ (hm s hs)⟩
  · simp at hx
    subst hx
    refine ⟨b, rfl, fun s hs => ?_⟩
    show b.getD s 0 ∈ rowsU R P (pageS b) 4 (P * 4 + s)
    unfold rowsU
    rw [if_pos (by omega), Nat.add_sub_cancel_left]
    refine List.mem_append_right _ ?_
    have := sec_page b s hs 0 (by omega)
    rw [Nat.add_zero] at this
    rw [List.getD_eq_getElem?_getD, this]
    simp
theorem mayOk_first {ws : List (Nat × List Int)} (h : ws = []) : MayOk (firstR 32) ws := ⟨fun i hi => by unfold firstR; rw [if_pos hi]; simp, fun x hx => by rw [h] at hx; cases hx⟩
theorem mem_take_succ (row : List Int) (c : Int) (j : Nat) (hj : j < row.length) : decide (c ∈ row.take (j + 1)) = (decide (c ∈ row.take j) || decide (row.getD j 0 = c)) := by
  have e : row.take (j + 1) = row.take j ++ [row.getD j 0] := by
    rw [List.take_succ_eq_append_getElem hj, List.getD_eq_getElem?_getD, List.getElem?_eq_getElem hj]; rfl
  rw [e]
  by_cases h1 : c ∈ row.take j
  · rw [decide_eq_true h1, decide_eq_true (List.mem_append_left _ h1)]; rfl
  · rw [decide_eq_false h1, Bool.false_or]
    by_cases h2 : row.getD j 0 = c
    · rw [decide_eq_true h2, decide_eq_true (List.mem_append_right _ (by rw [h2]; simp))]
    · rw [decide_eq_false h2, decide_eq_false (fun h => by
        rcases List.mem_append.1 h with h | h
        · exact h1 h
        · simp only [List.mem_singleton] at h; exact h2 h.symm)]
theorem below_drewN {B : Nat} {a w : World} (h : Below B a w) (n : Nat) : Below B a (w.drewN n) := ⟨h.os, h.tape, h.output, h.size, h.block⟩
theorem imgS_get {st : List (List Int)} (h : ∀ r ∈ st, PageOk r) {p : Nat} (hp : p < st.length) (j : Nat) (hj : j < 256) : (imgS st)[p * 256 + j]? = (sAt st p)[j]? := by
  unfold imgS
  rw [flat_get st p hp (fun r hr => (h r hr).1) j hj, sAt_lt hp]

end Go.Proofs.Ytofpngmabjpfhaa
