/- The document's own device (package incipitref03): how its struct, its rows and what waits hold a 'Dv', and its small contracts. -/
import Derived.Test.YtoplhehcjgldeaaGreatJDSync
import Derived.Test.YtoplhehcjgldeaaGreatRegionM
import Derived.Test.YtoplhehcjgldeaaGreatOwn
namespace Go.Proofs.YtoplhehcjgldeaaGreat
open Go.RowKit
set_option linter.unusedVariables false
set_option maxRecDepth 100000

def writeD (d : Dv) (p : Nat) (zs : List Int) : Dv := spendD { d with ws := d.ws ++ [(p, zs)] }
theorem ownsRow_base {w : World} {base base' size n : Nat} {e : TypeId} {v : Value} {xs : List Value} (h : w.ownsRow base e size v n xs) (hb : base' ≤ base) : w.ownsRow base' e size v n xs :=
  ⟨h.1, h.2.elim .inl (fun ⟨g, cap, cur, hv, hg, r⟩ => .inr ⟨g, cap, cur, hv, Nat.le_trans hb hg, r⟩)⟩
theorem sAt_set (st : List (List Int)) (p q : Nat) (r : List Int) (hp : p < st.length) : sAt (st.set p r) q = if p = q then r else sAt st q := by
  unfold sAt
  rw [List.getD_eq_getElem?_getD, List.getD_eq_getElem?_getD, List.getElem?_set]
  split
  · rename_i h
    subst h
    rfl
  · rfl
theorem infoSl : (Tryz.prog.info? 46).map (fun i => (i.zero, i.size, i.bytes)) = some (some (.slice none 0 0), 1, 24) := by kernel_rfl
def leftI : Option Nat → Int
  | none => -1
  | some n => n
def RefB (w : World) (r : Nat) (vs vw : Value) (left : Int) (off : Bool) (done : Int) : Prop := Blk w r 45 [vs, vw, .int .i64 left, .bool off, .int .i64 done]
section
variable {w : World} {r : Nat} {vs vw : Value} {off : Bool} {left done : Int}
theorem RefB.c0 (h : RefB w r vs vw left off done) : w.cell? ⟨r, 0, none⟩ = some vs := Blk.cell h 0
theorem RefB.c1 (h : RefB w r vs vw left off done) : w.cell? ⟨r, 1, none⟩ = some vw := Blk.cell h 1
theorem RefB.c2 (h : RefB w r vs vw left off done) : w.cell? ⟨r, 2, none⟩ = some (.int .i64 left) := Blk.cell h 2
theorem RefB.c3 (h : RefB w r vs vw left off done) : w.cell? ⟨r, 3, none⟩ = some (.bool off) := Blk.cell h 3
theorem RefB.c4 (h : RefB w r vs vw left off done) : w.cell? ⟨r, 4, none⟩ = some (.int .i64 done) := Blk.cell h 4
end

/-- what waits, as cells -/
def flatR : List (Nat × List Int) → List Value → List Value
  | x :: ws, v :: vs => .int .i64 x.1 :: v :: flatR ws vs
  | _, _ => []
theorem flatR_len : ∀ (ws : List (Nat × List Int)) (vs : List Value), vs.length = ws.length → (flatR ws vs).length = ws.length * 2
  | [], _, _ => rfl
  | x :: ws, [], h => by simp at h
  | x :: ws, v :: vs, h => by
    have := flatR_len ws vs (by simpa using h)
    simp only [flatR, List.length_cons, this]; omega
theorem flatR_p : ∀ (ws : List (Nat × List Int)) (vs : List Value) (i : Nat), vs.length = ws.length → i < ws.length → (flatR ws vs)[i * 2]? = some (.int .i64 (wAt ws i).1)
  | [], _, i, _, hi => by simp at hi
  | x :: ws, [], i, h, _ => by simp at h
  | x :: ws, v :: vs, 0, h, _ => rfl
  | x :: ws, v :: vs, i + 1, h, hi => by
    have := flatR_p ws vs i (by simpa using h) (by simpa using hi)
    rw [show (i + 1) * 2 = i * 2 + 1 + 1 by omega, flatR, List.getElem?_cons_succ, List.getElem?_cons_succ, this]
    simp [wAt]
theorem flatR_b : ∀ (ws : List (Nat × List Int)) (vs : List Value) (i : Nat), vs.length = ws.length → i < ws.length → (flatR ws vs)[i * 2 + 1]? = vs[i]?
  | [], _, i, _, hi => by simp at hi
  | x :: ws, [], i, h, _ => by simp at h
  | x :: ws, v :: vs, 0, h, _ => rfl
  | x :: ws, v :: vs, i + 1, h, hi => by
    have := flatR_b ws vs i (by simpa using h) (by simpa using hi)
    rw [show (i + 1) * 2 + 1 = i * 2 + 1 + 1 + 1 by omega, flatR, List.getElem?_cons_succ, List.getElem?_cons_succ, this, List.getElem?_cons_succ]
theorem flatR_snoc : ∀ (ws : List (Nat × List Int)) (vs : List Value) (x : Nat × List Int) (v : Value), vs.length = ws.length → flatR (ws ++ [x]) (vs ++ [v]) = flatR ws vs ++ [.int .i64 x.1, v]
  | [], [], x, v, _ => rfl
  | [], u :: vs, x, v, h => by simp at h
  | y :: ws, [], x, v, h => by simp at h
  | y :: ws, u :: vs, x, v, h => by
    have := flatR_snoc ws vs x v (by simpa using h)
    simp only [List.cons_append, flatR, this]

/-- a row: bytes that nothing writes any more -/
def RowR (w : World) (G : Nat → Prop) (v : Value) (zs : List Int) : Prop := w.ownsRow 0 5 1 v 256 (pc zs) ∧ ∀ k, v.ownBlock = some k → G k
theorem own_typed {w : World} {lo size n : Nat} {e : TypeId} {v : Value} {xs : List Value} (h : w.ownsRow lo e size v n xs) {k : Nat} (hk : v.ownBlock = some k) : ∃ cs, Blk w k e cs := by
  rcases h.2 with ⟨rfl, _⟩ | ⟨g, cap, cur, rfl, _, hg, _⟩
  · cases hk
  · simp [Value.ownBlock] at hk
    subst hk
    exact ⟨cur.toList, hg⟩
theorem own_apart {w : World} {lo size n g : Nat} {e f : TypeId} {v : Value} {xs cs : List Value} (h : w.ownsRow lo e size v n xs) (hB : Blk w g f cs) (hn : e ≠ f) {k : Nat} (hk : v.ownBlock = some k) : k ≠ g := by
  obtain ⟨ds, hD⟩ := own_typed h hk
  exact fun e' => (by subst e'; exact hD.ne hB hn rfl)
theorem own_apart2 {w : World} {lo lo' size size' n n' : Nat} {e f : TypeId} {v u : Value} {xs ys : List Value} (h : w.ownsRow lo e size v n xs) (h' : w.ownsRow lo' f size' u n' ys) (hn : e ≠ f) {k : Nat} (hk : v.ownBlock = some k) : u.ownBlock ≠ some k := by
  intro hk'
  obtain ⟨ds, hD⟩ := own_typed h' hk'
  exact own_apart h hD hn hk rfl
theorem RowR.only {S G : Nat → Prop} {w w' : World} {v : Value} {zs : List Int} (h : RowR w G v zs) (ho : Only S w w') (hS : ∀ k, v.ownBlock = some k → ¬ S k) : RowR w' G v zs := ⟨ownsRow_only h.1 ho hS, h.2⟩
theorem RowR.mono {G H : Nat → Prop} {w : World} {v : Value} {zs : List Int} (h : RowR w G v zs) (hH : ∀ k, k < w.heap.size → G k → H k) : RowR w H v zs := ⟨h.1, fun k hk => hH k (h.1.lt k hk).2 (h.2 k hk)⟩
theorem RowR.sl {w : World} {G : Nat → Prop} {v : Value} {zs : List Int} (h : RowR w G v zs) (hz : PageOk zs) : Sl w v zs := sl_of_own h.1 hz.2 rfl
theorem RowR.form {w : World} {G : Nat → Prop} {v : Value} {zs : List Int} (h : RowR w G v zs) : ∃ g cap, v = .slice (some ⟨g, 0, none⟩) 256 cap ∧ 256 ≤ cap ∧ cap ≤ 9223372036854775807 := by
  rcases own_form h.1 with ⟨_, h0⟩ | ⟨g, cap, rfl⟩
  · omega
  · exact ⟨g, cap, rfl, (own_len h.1).1, (own_len h.1).2⟩

structure RefAt (w : World) (r : Nat) (G : Nat → Prop) (d : Dv) (sv wv : Value) (svs wvs : List Value) : Prop where
  ok : DvOk d
  blk : RefB w r sv wv (leftI d.left) d.off d.done
  st : w.ownsRow 0 46 1 sv d.st.length svs
  ws : w.ownsRow 0 107 2 wv d.ws.length (flatR d.ws wvs)
  wl : wvs.length = d.ws.length
  rows : ∀ (i : Nat) (v : Value), svs[i]? = some v → RowR w G v (sAt d.st i)
  wrs : ∀ (i : Nat) (v : Value), wvs[i]? = some v → RowR w G v (wAt d.ws i).2
  fr : G r
  fs : ∀ k, sv.ownBlock = some k → G k
  fw : ∀ k, wv.ownBlock = some k → G k
def Ref (w : World) (r : Nat) (G : Nat → Prop) (d : Dv) : Prop := ∃ sv wv svs wvs, RefAt w r G d sv wv svs wvs

section
variable {w w' : World} {r : Nat} {G : Nat → Prop} {d d' : Dv} {sv wv : Value} {svs wvs : List Value}
theorem RefAt.sl (h : RefAt w r G d sv wv svs wvs) : svs.length = d.st.length := by have := h.st.1; omega
theorem RefAt.keep {S : Nat → Prop} (h : RefAt w r G d sv wv svs wvs) (ho : Only S w w') (hn : ∀ k, G k → ¬ S k) : RefAt w' r G d sv wv svs wvs :=
  ⟨h.ok, Blk.only h.blk ho (hn r h.fr), ownsRow_only h.st ho (fun k hk => hn k (h.fs k hk)), ownsRow_only h.ws ho (fun k hk => hn k (h.fw k hk)), h.wl, fun i v hv => (h.rows i v hv).only ho (fun k hk => hn k ((h.rows i v hv).2 k hk)), fun i v hv => (h.wrs i v hv).only ho (fun k hk => hn k ((h.wrs i v hv).2 k hk)), h.fr, h.fs, h.fw⟩
theorem RefAt.mono {H : Nat → Prop} (h : RefAt w r G d sv wv svs wvs) (hH : ∀ k, k < w.heap.size → G k → H k) : RefAt w r H d sv wv svs wvs :=
  ⟨h.ok, h.blk, h.st, h.ws, h.wl, fun i v hv => (h.rows i v hv).mono hH, fun i v hv => (h.wrs i v hv).mono hH, hH r (Blk.lt h.blk) h.fr, fun k hk => hH k (h.st.lt k hk).2 (h.fs k hk), fun k hk => hH k (h.ws.lt k hk).2 (h.fw k hk)⟩
theorem RefAt.sv_r (h : RefAt w r G d sv wv svs wvs) {k : Nat} (hk : sv.ownBlock = some k) : k ≠ r := own_apart h.st h.blk (by decide) hk
theorem RefAt.wv_r (h : RefAt w r G d sv wv svs wvs) {k : Nat} (hk : wv.ownBlock = some k) : k ≠ r := own_apart h.ws h.blk (by decide) hk
theorem RefAt.row_r (h : RefAt w r G d sv wv svs wvs) {i : Nat} {v : Value} (hv : svs[i]? = some v) {k : Nat} (hk : v.ownBlock = some k) : k ≠ r := own_apart (h.rows i v hv).1 h.blk (by decide) hk
theorem RefAt.wrow_r (h : RefAt w r G d sv wv svs wvs) {i : Nat} {v : Value} (hv : wvs[i]? = some v) {k : Nat} (hk : v.ownBlock = some k) : k ≠ r := own_apart (h.wrs i v hv).1 h.blk (by decide) hk
/-- the struct alone turned -/
theorem RefAt.struct (h : RefAt w r G d sv wv svs wvs) (e1 : d'.st = d.st) (e2 : d'.ws = d.ws) (ok : DvOk d') (hB : RefB w' r sv wv (leftI d'.left) d'.off d'.done) (ho : Only (· = r) w w') : Ref w' r G d' := by
  refine ⟨sv, wv, svs, wvs, ok, hB, ?_, ?_, by rw [e2]; exact h.wl, fun i v hv => ?_, fun i v hv => ?_, h.fr, h.fs, h.fw⟩
  · rw [e1]; exact ownsRow_only h.st ho (fun k hk => h.sv_r hk)
  · rw [e2]; exact ownsRow_only h.ws ho (fun k hk => h.wv_r hk)
  · rw [e1]; exact (h.rows i v hv).only ho (fun k hk => h.row_r hv hk)
  · rw [e2]; exact (h.wrs i v hv).only ho (fun k hk => h.wrow_r hv hk)
/-- and nothing waits any more -/
theorem RefAt.empty (h : RefAt w r G d sv wv svs wvs) (e1 : d'.st = d.st) (e2 : d'.ws = []) (ok : DvOk d') (hB : RefB w' r sv (.slice none 0 0) (leftI d'.left) d'.off d'.done) (ho : Only (· = r) w w') : Ref w' r G d' := by
  refine ⟨sv, .slice none 0 0, svs, [], ok, hB, ?_, ?_, by rw [e2]; rfl, fun i v hv => ?_, fun i v hv => ?_, h.fr, h.fs, fun k hk => by cases hk⟩
  · rw [e1]; exact ownsRow_only h.st ho (fun k hk => h.sv_r hk)
  · rw [e2]; exact World.ownsRow_nil _ _ _ _
  · rw [e1]; exact (h.rows i v hv).only ho (fun k hk => h.row_r hv hk)
  · simp at hv
theorem Ref.keep {S : Nat → Prop} (h : Ref w r G d) (ho : Only S w w') (hn : ∀ k, G k → ¬ S k) : Ref w' r G d := by
  obtain ⟨sv, wv, svs, wvs, h⟩ := h
  exact ⟨sv, wv, svs, wvs, h.keep ho hn⟩
theorem Ref.mono {H : Nat → Prop} (h : Ref w r G d) (hH : ∀ k, k < w.heap.size → G k → H k) : Ref w r H d := by
  obtain ⟨sv, wv, svs, wvs, h⟩ := h
  exact ⟨sv, wv, svs, wvs, h.mono hH⟩
theorem Ref.bound (h : Ref w r G d) : Ref w r (fun k => G k ∧ k < w.heap.size) d := h.mono (fun k hk hg => ⟨hg, hk⟩)
theorem Ref.below (h : Ref w r G d) (hb : Below w.heap.size w w') : Ref w' r G d := h.keep (Only.of_below (fun _ => False) hb) (fun _ _ h => h)
theorem Ref.ok (h : Ref w r G d) : DvOk d := by
  obtain ⟨sv, wv, svs, wvs, h⟩ := h
  exact h.ok
end

/-! ### small contracts -/
theorem refIs_any (w : World) (r : Nat) (G : Nat → Prop) (d : Dv) (p : Int) (h : Ref w r G d) :
    Calls Tryz.prog 49 #[dp r, .int .i64 p] w fun e w' => e = .returned (.bool (decide (0 ≤ p ∧ p < d.st.length))) ∧ w' = w := by
  obtain ⟨sv, wv, svs, wvs, h⟩ := h
  obtain ⟨asv, csv, rfl⟩ := own_form' h.st
  have c0 := h.blk.c0
  clear h
  by_cases h1 : 0 ≤ p
  · by_cases h2 : p < (d.st.length : Int)
    · rw [decide_eq_true ⟨h1, h2⟩]
      go_enter Tryz.func49, Tryz.ntmps49
      go_wp2
      go_ret
      exact ⟨rfl, rfl⟩
    · rw [decide_eq_false (fun h => h2 h.2)]
      go_enter Tryz.func49, Tryz.ntmps49
      go_wp2
      go_ret
      exact ⟨rfl, rfl⟩
  · rw [decide_eq_false (fun h => h1 h.1)]
    go_enter Tryz.func49, Tryz.ntmps49
    go_wp2
    go_ret
    exact ⟨rfl, rfl⟩

theorem refGoes_any (w : World) (r : Nat) (G : Nat → Prop) (d : Dv) (h : Ref w r G d) (hdl : d.done < 1000000000) :
    Calls Tryz.prog 72 #[dp r] w fun e w' => e = .returned (.bool (decide (d.left = some 0))) ∧ Ref w' r G (spendD d) ∧ Only (· = r) w w' := by
  obtain ⟨sv, wv, svs, wvs, h⟩ := h
  have c2 := h.blk.c2
  have c3 := h.blk.c3
  have c4 := h.blk.c4
  have f2 := Blk.frozen h.blk 2
  have f3 := Blk.frozen h.blk 3
  have f4 := Blk.frozen h.blk 4
  have HX := hide h
  have hok := h.ok.spend
  have hll := h.ok.left
  clear h
  cases hl : d.left with
  | none =>
    rw [hl] at c2
    have e1 : leftI none = -1 := rfl
    rw [e1] at c2
    have es : spendD d = { d with done := d.done + 1 } := by unfold spendD; rw [hl]
    rw [es] at hok ⊢
    go_enter Tryz.func72, Tryz.ntmps72
    go_wp2
    go_ret
    have ho : Only (· = r) w (w.setCell ⟨r, 4, none⟩ (.int .i64 (d.done + 1))) := (Only.refl _ _).setCell _ _ (fun _ => rfl)
    exact ⟨rfl, HX.out.struct rfl rfl hok (Blk.set HX.out.blk 4 _) ho, ho⟩
  | some n =>
    cases n with
    | zero =>
      rw [hl] at c2
      have e1 : leftI (some 0) = 0 := rfl
      rw [e1] at c2
      have es : spendD d = { d with off := true } := by unfold spendD; rw [hl]
      rw [es] at hok ⊢
      go_enter Tryz.func72, Tryz.ntmps72
      go_wp2
      go_ret
      have ho : Only (· = r) w (w.setCell ⟨r, 3, none⟩ (.bool true)) := (Only.refl _ _).setCell _ _ (fun _ => rfl)
      exact ⟨rfl, HX.out.struct rfl rfl hok (Blk.set HX.out.blk 3 _) ho, ho⟩
    | succ n =>
      rw [hl] at c2
      have hn := hll _ hl
      obtain ⟨L, hL⟩ : ∃ L : Int, L = leftI (some (n + 1)) := ⟨_, rfl⟩
      have hLn : L = (n : Int) + 1 := by rw [hL]; rfl
      rw [← hL] at c2
      have e1 : (L == 0) = false := by simp; omega
      have e2 : (0 : Int) < L := by omega
      have e3 : L ≤ 9223372036854775807 := by omega
      have es : spendD d = { d with left := some n, done := d.done + 1 } := by unfold spendD; rw [hl]
      rw [es] at hok ⊢
      have HLn := hide hLn
      clear hL hLn
      go_enter Tryz.func72, Tryz.ntmps72
      go_wp2
      go_ret
      have ho := only_set2 w r 2 4 (.int .i64 (L - 1)) (.int .i64 (d.done + 1))
      refine ⟨rfl, HX.out.struct rfl rfl hok ?_ ho, ho⟩
      have hB := (Blk.set HX.out.blk 2 (.int .i64 (L - 1))).set 4 (.int .i64 (d.done + 1))
      have e4 : L - 1 = leftI (some n) := by rw [HLn.out]; show (n : Int) + 1 - 1 = n; omega
      rw [e4] at hB ⊢
      exact hB

/-- Arm -/
theorem refArm_bad (w : World) (r : Nat) (n : Int) (hn : n < 0) : Calls Tryz.prog 36 #[dp r, .int .i64 n] w fun e w' => e = .returned (.int .i64 1) ∧ w' = w := by
  go_enter Tryz.func36, Tryz.ntmps36
  go_wp2
  go_ret
  exact ⟨rfl, rfl⟩
theorem refArm_off (w : World) (r : Nat) (G : Nat → Prop) (d : Dv) (n : Int) (h : Ref w r G d) (hn : ¬ n < 0) (hoff : d.off = true) : Calls Tryz.prog 36 #[dp r, .int .i64 n] w fun e w' => e = .returned (.int .i64 5) ∧ w' = w := by
  obtain ⟨sv, wv, svs, wvs, h⟩ := h
  have c3 := h.blk.c3
  rw [hoff] at c3
  clear h
  go_enter Tryz.func36, Tryz.ntmps36
  go_wp2
  go_ret
  exact ⟨rfl, rfl⟩
theorem refArm_ok (w : World) (r : Nat) (G : Nat → Prop) (d : Dv) (n : Nat) (h : Ref w r G d) (hn : n ≤ 9223372036854775807) (hon : d.off = false) :
    Calls Tryz.prog 36 #[dp r, .int .i64 n] w fun e w' => e = .returned (.int .i64 0) ∧ Ref w' r G { d with left := some n } ∧ Only (· = r) w w' := by
  obtain ⟨sv, wv, svs, wvs, h⟩ := h
  have c3 := h.blk.c3
  have c2 := h.blk.c2
  have f2 := Blk.frozen h.blk 2
  rw [hon] at c3
  clear hon
  have hni : ¬ (n : Int) < 0 := by omega
  have HX := hide h
  clear h
  go_enter Tryz.func36, Tryz.ntmps36
  go_wp2
  go_ret
  have hX := HX.out
  have ho : Only (· = r) w (w.setCell ⟨r, 2, none⟩ (.int .i64 n)) := (Only.refl _ _).setCell _ _ (fun _ => rfl)
  exact ⟨rfl, hX.struct (d' := { d with left := some n }) rfl rfl ⟨hX.ok.pos, hX.ok.few, hX.ok.st, hX.ok.ws, fun m hm => by simp at hm; omega⟩ (Blk.set hX.blk 2 _) ho, ho⟩
end Go.Proofs.YtoplhehcjgldeaaGreat
/- Contract: the document's answer: one text behind the other (incipitref01.Join). -/
namespace Go.Proofs.YtoplhehcjgldeaaGreat
open Go.RowKit
set_option maxRecDepth 100000

set_option maxHeartbeats 400000 in
theorem refJoin_any (w : World) (va vb : Value) (xs ys : List Int) (ha : Sl w va xs) (hb : Sl w vb ys) (hl : xs.length + ys.length ≤ 500000) :
    Calls Tryz.prog 50 #[va, vb] w fun e w' => ∃ u, e = .returned u ∧ w'.ownsRow w.heap.size 5 1 u (xs ++ ys).length ((xs ++ ys).map (Value.int .u8)) ∧ u ≠ .slice none 0 0 ∧ Below w.heap.size w w' ∧ w.heap.size < w'.heap.size := by
  obtain ⟨i0, hi, hz0, hz1, hz2⟩ := info_parts infoU8
  have HA := ha.alloc (.cells #[] 5)
  have HB := hb
  obtain ⟨_, ao, cap, rfl, _⟩ := ha
  obtain ⟨_, ao', cap', rfl, _⟩ := hb
  obtain ⟨v1, w1, hr1, ho1, hg1, hn1⟩ := run_append_sl (P := Tryz.prog) _ w.heap.size 46 46 5 i0 Tryz.underlying46 hi hz0 hz1 hz2 _ 0 [] (World.ownsRow_made w #[] 0 (Nat.le_refl _) (Nat.zero_le _) rfl) ao xs.length cap xs HA (by omega) (by simp)
  rw [Nat.zero_add, List.nil_append] at ho1
  have hb0 : Below w.heap.size w (w.alloc (.cells #[] 5)) := (Below.refl _ w).alloc (Nat.le_refl _) _
  have hb1 : Below w.heap.size w w1 := hb0.grown hg1 (by simp) (by intro k hk; cases hk; exact Nat.le_refl _)
  have hs1 : w.heap.size + 1 ≤ w1.heap.size := by simpa using hg1.size
  have HB1 := HB.below hb1
  obtain ⟨v2, w2, hr2, ho2, hg2, hn2⟩ := run_append_sl (P := Tryz.prog) w1 w.heap.size 46 46 5 i0 Tryz.underlying46 hi hz0 hz1 hz2 v1 xs.length _ ho1 ao' ys.length cap' ys HB1 (by omega) (by omega)
  have hb2 : Below w.heap.size w w2 := hb1.grown hg2 (by omega) (fun k hk => (ho1.lt k hk).1)
  have HR1 := hide hr1
  have HR2 := hide hr2
  clear hr1 hr2
  go_enter Tryz.func50, Tryz.ntmps50
  go_wp2_with (first
    | (at_builtin; refine wpList_append_run _ rfl (.tmp 7) (.tmp 8) 46 rfl _ _ rfl rfl _ _ HR1.out ?_)
    | (at_builtin; refine wpList_append_run _ rfl (.tmp 10) (.tmp 11) 46 rfl _ _ rfl rfl _ _ HR2.out ?_))
  go_ret
  refine ⟨_, rfl, ?_, hn2 (hn1 (by simp)), hb2, by have := hg2.size; omega⟩
  simpa using ho2

end Go.Proofs.YtoplhehcjgldeaaGreat
/- Contracts of the document's own device that read: shows, Read, Image. -/
namespace Go.Proofs.YtoplhehcjgldeaaGreat
open Go.RowKit
set_option linter.unusedVariables false
set_option maxRecDepth 100000

theorem lastIx_none : ∀ (ws : List (Nat × List Int)) (p : Nat), (∀ j, j < ws.length → (wAt ws j).1 ≠ p) → lastIx ws p = none
  | [], _, _ => rfl
  | x :: r, p, h => by
    rw [lastIx, lastIx_none r p (fun j hj => by have := h (j + 1) (by simpa using hj); simpa [wAt] using this)]
    have h0 := h 0 (by simp)
    rw [show (wAt (x :: r) 0) = x from rfl] at h0
    simp [h0]
theorem lastIx_some : ∀ (ws : List (Nat × List Int)) (p i : Nat), i < ws.length → (wAt ws i).1 = p → (∀ j, i < j → j < ws.length → (wAt ws j).1 ≠ p) → lastIx ws p = some i
  | [], _, i, hi, _, _ => by simp at hi
  | x :: r, p, 0, _, h0, h => by
    rw [lastIx, lastIx_none r p (fun j hj => by have := h (j + 1) (by omega) (by simpa using hj); simpa [wAt] using this)]
    rw [show (wAt (x :: r) 0) = x from rfl] at h0
    simp [h0]
  | x :: r, p, i + 1, hi, h0, h => by
    rw [lastIx, lastIx_some r p i (by simpa using hi) (by simpa [wAt] using h0) (fun j hj hl => by have := h (j + 1) (by omega) (by simpa using hl); simpa [wAt] using this)]

section
variable {w : World} {r : Nat} {G : Nat → Prop} {d : Dv} {aw asv : Option Addr} {cw csv : Nat} {sv wv : Value} {svs wvs : List Value}
theorem RefAt.wcell (h : RefAt w r G d sv (.slice aw d.ws.length cw) svs wvs) {i : Nat} (hi : i < d.ws.length) : ∃ wg v, aw = some ⟨wg, 0, none⟩ ∧ w.cell? ⟨wg, i * 2, none⟩ = some (.int .i64 (wAt d.ws i).1) ∧ w.cell? ⟨wg, i * 2 + 1, none⟩ = some v ∧ wvs[i]? = some v := by
  rcases own_form h.ws with ⟨_, h0⟩ | ⟨g, c, hg⟩
  · omega
  obtain ⟨rfl, rfl⟩ : aw = some ⟨g, 0, none⟩ ∧ cw = c := by simpa using hg
  have hv : wvs[i]? = some (wvs[i]'(by rw [h.wl]; exact hi)) := List.getElem?_eq_getElem _
  refine ⟨g, _, rfl, ?_, ?_, hv⟩
  · have := h.ws.cells (g := g) rfl (i * 2) _ (flatR_p d.ws wvs i h.wl hi)
    rwa [Addr.add_mid, Nat.zero_add] at this
  · have := h.ws.cells (g := g) rfl (i * 2 + 1) _ ((flatR_b d.ws wvs i h.wl hi).trans hv)
    rwa [Addr.add_mid, Nat.zero_add] at this
theorem RefAt.scell (h : RefAt w r G d (.slice asv d.st.length csv) wv svs wvs) {i : Nat} (hi : i < d.st.length) : ∃ sg v, asv = some ⟨sg, 0, none⟩ ∧ w.cell? ⟨sg, i, none⟩ = some v ∧ svs[i]? = some v := by
  rcases own_form h.st with ⟨_, h0⟩ | ⟨g, c, hg⟩
  · omega
  obtain ⟨rfl, rfl⟩ : asv = some ⟨g, 0, none⟩ ∧ csv = c := by simpa using hg
  have hv : svs[i]? = some (svs[i]'(by rw [h.sl]; exact hi)) := List.getElem?_eq_getElem _
  refine ⟨g, _, rfl, ?_, hv⟩
  have := h.st.cells (g := g) rfl i _ hv
  rwa [Addr.add_mid, Nat.zero_add] at this
end

set_option maxHeartbeats 1000000 in
theorem refShows_any (w : World) (r : Nat) (G : Nat → Prop) (d : Dv) (p : Nat) (h : Ref w r G d) (hp : p < d.st.length) :
    Calls Tryz.prog 51 #[dp r, .int .i64 p] w fun e w' => (∃ v, e = .returned v ∧ RowR w G v (showsD d p)) ∧ w' = w := by
  obtain ⟨sv, wv, svs, wvs, h⟩ := h
  obtain ⟨asv, csv, rfl⟩ := own_form' h.st
  obtain ⟨aw, cw, rfl⟩ := own_form' h.ws
  have c0 := h.blk.c0
  have c1 := h.blk.c1
  have hcw : d.ws.length ≤ cw ∧ cw ≤ 9223372036854775807 := own_len h.ws
  have hcs : d.st.length ≤ csv ∧ csv ≤ 9223372036854775807 := own_len h.st
  have hpi : (p : Int) < (d.st.length : Int) := by omega
  have HX := hide h
  clear h
  go_enter Tryz.func51, Tryz.ntmps51
  go_wp2
  go_loopg [5] d.ws.length (fun g i wr => i = .int .i64 ((g : Int) - 1) ∧ g ≤ d.ws.length ∧ (∀ j, g ≤ j → j < d.ws.length → (wAt d.ws j).1 ≠ p) ∧ w = wr)
  case atStart => exact ⟨rfl, Nat.le_refl _, fun j h1 h2 => by omega, rfl⟩
  case round =>
    obtain ⟨rfl, hg, hno, rfl⟩ := hrel
    cases gk with
    | zero =>
      obtain ⟨sg, v, rfl, hc, hv⟩ := HX.out.scell hp
      have hrow := HX.out.rows _ _ hv
      obtain ⟨vg, vc, rfl, _, _⟩ := hrow.form
      have HR : Hid (RowR w G (.slice (some ⟨vg, 0, none⟩) 256 vc) (showsD d p)) := by
        show RowR _ _ _ _
        unfold showsD
        rw [lastIx_none d.ws p (fun j hj => hno j (Nat.zero_le _) hj)]
        exact hrow
      clear hv hrow hno
      go_wp2
      go_ret
      exact ⟨⟨_, rfl, HR.out⟩, rfl⟩
    | succ g =>
      have hgl : g < d.ws.length := by omega
      have hgi : (g : Int) < (d.ws.length : Int) := by omega
      rw [show ((g + 1 : Nat) : Int) - 1 = (g : Int) by omega]
      obtain ⟨wg, v, rfl, hc1, hc2, hv⟩ := HX.out.wcell hgl
      have hrow := HX.out.wrs _ _ hv
      obtain ⟨vg, vc, rfl, _, _⟩ := hrow.form
      obtain ⟨P, hP⟩ : ∃ P, P = (wAt d.ws g).1 := ⟨_, rfl⟩
      rw [← hP] at hc1
      by_cases hPp : P = p
      · have HR : Hid (RowR w G (.slice (some ⟨vg, 0, none⟩) 256 vc) (showsD d p)) := by
          show RowR _ _ _ _
          unfold showsD
          rw [lastIx_some d.ws p g hgl (hP.symm.trans hPp) (fun j hj hl => hno j (by omega) hl)]
          exact hrow
        subst hPp
        clear hv hrow hno hP
        go_wp2
        go_ret
        exact ⟨⟨_, rfl, HR.out⟩, rfl⟩
      · have hne : ((P : Int) == (p : Int)) = false := by simp; omega
        have HN : Hid (∀ j, g ≤ j → j < d.ws.length → (wAt d.ws j).1 ≠ p) := fun j hj hl => by
          by_cases e : j = g
          · subst e; rw [← hP]; exact hPp
          · exact hno j (by omega) hl
        clear hv hrow hno hP
        go_wp2
        go_roundg g
        case measure => omega
        case rel => exact ⟨by go_num, by omega, HN.out, rfl⟩

/-- Read -/
theorem refRead_arg (w : World) (r : Nat) (G : Nat → Prop) (d : Dv) (p : Int) (h : Ref w r G d) (hp : ¬ (0 ≤ p ∧ p < d.st.length)) :
    Calls Tryz.prog 14 #[dp r, .int .i64 p] w fun e w' => e = .returned (.tuple #[.slice none 0 0, .int .i64 1]) ∧ w' = w := by
  have hI := refIs_any w r G d p h
  rw [decide_eq_false hp] at hI
  have HI := hide hI
  clear hI h hp
  go_enter Tryz.func14, Tryz.ntmps14
  go_wp2_with (go_at_call 49; refine HI.out.mono ?_; rintro e w1 ⟨rfl, hw⟩; subst w1; clear HI)
  go_ret2
  exact ⟨rfl, rfl⟩
theorem refRead_off (w : World) (r : Nat) (G : Nat → Prop) (d : Dv) (p : Int) (h : Ref w r G d) (hp : 0 ≤ p ∧ p < d.st.length) (hoff : d.off = true) :
    Calls Tryz.prog 14 #[dp r, .int .i64 p] w fun e w' => e = .returned (.tuple #[.slice none 0 0, .int .i64 5]) ∧ w' = w := by
  have hI := refIs_any w r G d p h
  rw [decide_eq_true hp] at hI
  have HI := hide hI
  obtain ⟨sv, wv, svs, wvs, h⟩ := h
  have c3 := h.blk.c3
  rw [hoff] at c3
  clear hI h hp hoff
  go_enter Tryz.func14, Tryz.ntmps14
  go_wp2_with (go_at_call 49; refine HI.out.mono ?_; rintro e w1 ⟨rfl, hw⟩; subst w1; clear HI)
  go_ret2
  exact ⟨rfl, rfl⟩
theorem refRead_ok (w : World) (r : Nat) (G : Nat → Prop) (d : Dv) (p : Nat) (h : Ref w r G d) (hp : p < d.st.length) (hon : d.off = false) :
    Calls Tryz.prog 14 #[dp r, .int .i64 p] w fun e w' => (∃ ao cap, e = .returned (.tuple #[.slice ao 256 cap, .int .i64 0]) ∧ Sl w' (.slice ao 256 cap) (showsD d p) ∧ ∀ k, (Value.slice ao 256 cap).ownBlock = some k → w.heap.size ≤ k) ∧ Below w.heap.size w w' := by
  have hI := refIs_any w r G d p h
  rw [decide_eq_true ⟨by omega, by omega⟩] at hI
  have HI := hide hI
  have HS := hide (refShows_any w r G d p h hp)
  have hok := h.ok.shows hp
  have HJ : Hid (∀ v, RowR w G v (showsD d p) → Calls Tryz.prog 50 #[.slice none 0 0, v] w fun e w' => (∃ ao cap, e = .returned (.slice ao 256 cap) ∧ Sl w' (.slice ao 256 cap) (showsD d p) ∧ ∀ k, (Value.slice ao 256 cap).ownBlock = some k → w.heap.size ≤ k) ∧ Below w.heap.size w w') := fun v hv => by
    refine (refJoin_any w _ v [] (showsD d p) (Sl.nil w) (hv.sl hok) (by rw [hok.1]; simp)).mono ?_
    rintro e w' ⟨u, rfl, ho, _, hb, _⟩
    rw [List.nil_append, hok.1] at ho
    obtain ⟨ao, cap, rfl⟩ := own_form' ho
    exact ⟨⟨ao, cap, rfl, sl_of_own ho hok.2 rfl, fun k hk => (ho.lt k hk).1⟩, hb⟩
  obtain ⟨sv, wv, svs, wvs, h⟩ := h
  have c3 := h.blk.c3
  rw [hon] at c3
  clear hI h hp hon hok
  go_enter Tryz.func14, Tryz.ntmps14
  go_wp2_with (first
    | (go_at_call 49; refine HI.out.mono ?_; rintro e w1 ⟨rfl, hw⟩; subst w1; clear HI)
    | (go_at_call 51; refine HS.out.mono ?_; rintro e w1 ⟨⟨v, rfl, hv⟩, hw⟩; subst w1; have HV := hide hv; clear HS hv)
    | (go_at_call 50; refine (HJ.out v HV.out).mono ?_; rintro e w2 ⟨⟨ao, cap, rfl, hs, hk⟩, hb⟩; clear HJ HV))
  go_ret2
  exact ⟨⟨ao, cap, rfl, hs, hk⟩, hb⟩

end Go.Proofs.YtoplhehcjgldeaaGreat
