/- Nodes whose rows are written over: what stays. No package's function. -/
import Derived.Test.YtoamdbjailpgdaaNGv
import Derived.Test.YtoamdbjailpgdaaJNRefUn
import Derived.Test.YtoamdbjailpgdaaJNKeep
import Derived.Test.YtoamdbjailpgdaaNRefS
import Derived.Test.YtoamdbjailpgdaaJNPutL
import Derived.Test.YtoamdbjailpgdaaNFew
namespace Go.Proofs.Ytoamdbjailpgdaa
set_option maxRecDepth 20000
open Go.RowKit
set_option linter.unusedVariables false
set_option linter.unusedSimpArgs false
set_option maxRecDepth 100000

/-- a row of one's own, whatever it holds -/
def Shp (W : World) (B : Nat) (e : TypeId) (m : Nat) (v : Value) (n : Nat) : Prop := ∃ L, W.ownsRow B e m v n L
theorem Shp.set {W : World} {B : Nat} {e : TypeId} {m n : Nat} {v : Value} (h : Shp W B e m v n) (g o : Nat) (u : Value) : Shp (W.setCell ⟨g, o, none⟩ u) B e m v n := by
  obtain ⟨L, h⟩ := h
  have ho : Only (· = g) W (W.setCell ⟨g, o, none⟩ u) := (Only.refl (· = g) W).setCell ⟨g, o, none⟩ _ (fun _ => rfl)
  rcases h.2 with ⟨rfl, h0⟩ | ⟨g', cap, cur, rfl, hb, hg, hnc, hcm, hcs, ht⟩
  · exact ⟨L, ownsRow_only h ho (fun j hj => by cases hj)⟩
  · by_cases hgg : g' = g
    · subst hgg
      obtain ⟨q1, q2, q3, q4, sp, hB, hsp⟩ := own_blk h
      have hs := hB.set o u
      have hl : ((L ++ sp).set o u).length = (L ++ sp).length := by simp
      refine ⟨((L ++ sp).set o u).take (n * m), blk_own (sp := ((L ++ sp).set o u).drop (n * m)) (by rw [List.take_append_drop]; exact hs) q1 q2 q3 ?_ ?_⟩
      · rw [List.length_take, hl, List.length_append]; omega
      · rw [List.length_drop, hl, List.length_append]; omega
    · exact ⟨L, ownsRow_only h ho (fun j hj e => by
        have : g' = j := by simpa [Value.ownBlock] using hj
        exact hgg (this.trans e))⟩
theorem Shp.keep {W W' : World} {B : Nat} {e : TypeId} {m n : Nat} {v : Value} (h : Shp W B e m v n) (hb : Below W.heap.size W W') : Shp W' B e m v n := by
  obtain ⟨L, h⟩ := h
  exact ⟨L, ownsRow_only h (Only.of_below (fun _ => False) hb) (fun _ _ h => h)⟩
/-- a cell of it -/
theorem Shp.at {W : World} {B : Nat} {e : TypeId} {m n cap : Nat} {a : Option Addr} (h : Shp W B e m (.slice a n cap) n) (i : Nat) (hi : i < n) : ∃ g cs, a = some ⟨g, 0, none⟩ ∧ B ≤ g ∧ Blk W g e cs ∧ n * m ≤ cs.length := by
  obtain ⟨L, h⟩ := h
  rcases h.2 with ⟨_, h0⟩ | ⟨g', cap', cur, hv, _⟩
  · omega
  · simp only [Value.slice.injEq, true_and] at hv
    obtain ⟨rfl, rfl⟩ := hv
    obtain ⟨q1, q2, q3, q4, sp, hB, hsp⟩ := own_blk h
    exact ⟨g', _, rfl, q1, hB, by rw [List.length_append]; omega⟩
/-- a node of such rows -/
def ShN (W : World) (B : Nat) (x : Bool × Value × Value × Value) : Prop := ∃ pa np pc ka nk kc ca nc cc, x = (x.1, .slice pa np pc, .slice ka nk kc, .slice ca nc cc) ∧ Shp W B 36 2 (.slice pa np pc) np ∧ Shp W B 34 1 (.slice ka nk kc) nk ∧ Shp W B 3 1 (.slice ca nc cc) nc
theorem ShN.of {W : World} {B : Nat} {l : Bool} {pa ka ca : Option Addr} {np pc nk kc nc cc : Nat} {n : Nd} (h : NdN W B (.agg #[.bool l, .slice pa np pc, .slice ka nk kc, .slice ca nc cc]) n) : ShN W B (l, .slice pa np pc, .slice ka nk kc, .slice ca nc cc) := by
  obtain ⟨vp, vk, vc, xs, ys, sv, he, h1, h2, h3, h4, h5, h6⟩ := h
  simp only [ndv, Value.agg.injEq] at he
  have e1 : Value.slice pa np pc = vp := by simpa using congrArg (fun a => a.getD 1 undef) he
  have e2 : Value.slice ka nk kc = vk := by simpa using congrArg (fun a => a.getD 2 undef) he
  have e3 : Value.slice ca nc cc = vc := by simpa using congrArg (fun a => a.getD 3 undef) he
  subst e1 e2 e3
  have n1 : np = n.ps.length := by
    obtain ⟨a, c, hh⟩ := own_form' h1
    simp only [Value.slice.injEq] at hh
    exact hh.2.1
  have n2 : nk = n.ks.length := by
    obtain ⟨a, c, hh⟩ := own_form' h2
    simp only [Value.slice.injEq] at hh
    exact hh.2.1
  have n3 : nc = n.cs.length := by
    obtain ⟨a, c, hh⟩ := h3.shape
    simp only [Value.slice.injEq] at hh
    exact hh.2.1
  subst n1 n2 n3
  exact ⟨_, _, _, _, _, _, _, _, _, rfl, ⟨_, h1⟩, ⟨_, h2⟩, ⟨_, h3⟩⟩
def cellsX (x : Bool × Value × Value × Value) : List Value := [.bool x.1, x.2.1, x.2.2.1, x.2.2.2]
/-- nodes in a literal, whose rows are written over -/
structure Zr (w5 : World) (B LB : Nat) (xs : List (Bool × Value × Value × Value)) (W : World) : Prop where
  below : Below B w5 W
  lit : Blk W LB 26 (xs.map cellsX).flatten
  rows : ∀ x ∈ xs, ShN W B x
section
variable {w5 W W' : World} {B LB : Nat} {xs : List (Bool × Value × Value × Value)}
theorem Zr.keep (h : Zr w5 B LB xs W) (hb : Below W.heap.size W W') (hB : B ≤ W.heap.size) : Zr w5 B LB xs W' := by
  refine ⟨h.below.trans (hb.mono hB), h.lit.below hb h.lit.lt, fun x hx => ?_⟩
  obtain ⟨pa, np, pc, ka, nk, kc, ca, nc, cc, he, a, b, c⟩ := h.rows x hx
  exact ⟨pa, np, pc, ka, nk, kc, ca, nc, cc, he, a.keep hb, b.keep hb, c.keep hb⟩
theorem Zr.set (h : Zr w5 B LB xs W) {g : Nat} {e : TypeId} {cs : List Value} (hg : Blk W g e cs) (hB : B ≤ g) (hne : e ≠ 26) (hsz : B ≤ W.heap.size) (o : Nat) (u : Value) : Zr w5 B LB xs (W.setCell ⟨g, o, none⟩ u) := by
  have ho : Only (· = g) W (W.setCell ⟨g, o, none⟩ u) := (Only.refl (· = g) W).setCell ⟨g, o, none⟩ _ (fun _ => rfl)
  refine ⟨h.below.trans (ho.below hsz (fun j hj e => by omega)), h.lit.only ho (fun e => (hg.ne h.lit hne) e.symm), fun x hx => ?_⟩
  obtain ⟨pa, np, pc, ka, nk, kc, ca, nc, cc, he, a, b, c⟩ := h.rows x hx
  exact ⟨pa, np, pc, ka, nk, kc, ca, nc, cc, he, a.set g o u, b.set g o u, c.set g o u⟩
/-- the i-th one -/
theorem Zr.get (h : Zr w5 B LB xs W) (i : Nat) (hi : i < xs.length) : W.rangeAt LB (i * 4) (cellsX xs[i]) :=
  h.lit.range (i * 4) _ (fun j hj => by
    rw [flat_get (m := 4) _ i (by simpa using hi) (fun r hr => by obtain ⟨x, _, rfl⟩ := List.mem_map.1 hr; rfl) j (by simpa [cellsX] using hj)]
    simp)
end

/-- one of them is written over -/
structure Zi (w5 : World) (B LB : Nat) (xs : List (Bool × Value × Value × Value)) (ZB : Nat) (l : Bool) (pa : Option Addr) (np pc : Nat) (ka : Option Addr) (nk kc : Nat) (ca : Option Addr) (nc cc : Nat) (W : World) : Prop where
  z : Zr w5 B LB xs W
  box : Blk W ZB 26 [.bool l, .slice pa np pc, .slice ka nk kc, .slice ca nc cc]
  sp : Shp W B 36 2 (.slice pa np pc) np
  sk : Shp W B 34 1 (.slice ka nk kc) nk
  sc : Shp W B 3 1 (.slice ca nc cc) nc
  size : B ≤ W.heap.size
theorem Zi.set {w5 W : World} {B LB ZB np pc nk kc nc cc : Nat} {xs : List (Bool × Value × Value × Value)} {l : Bool} {pa ka ca : Option Addr} (h : Zi w5 B LB xs ZB l pa np pc ka nk kc ca nc cc W) {g : Nat} {e : TypeId} {cs : List Value} (hg : Blk W g e cs) (hB : B ≤ g) (hne : e ≠ 26) (o : Nat) (u : Value) : Zi w5 B LB xs ZB l pa np pc ka nk kc ca nc cc (W.setCell ⟨g, o, none⟩ u) := by
  have ho : Only (· = g) W (W.setCell ⟨g, o, none⟩ u) := (Only.refl (· = g) W).setCell ⟨g, o, none⟩ _ (fun _ => rfl)
  exact ⟨h.z.set hg hB hne h.size o u, h.box.only ho (fun e => (hg.ne h.box hne) e.symm), h.sp.set g o u, h.sk.set g o u, h.sc.set g o u, Nat.le_trans h.size ho.size⟩
theorem cell_at {W : World} {g : Nat} {e : TypeId} {cs : List Value} (h : Blk W g e cs) (o : Nat) (ho : o < cs.length) : W.cell? ⟨g, o, none⟩ = some cs[o] ∧ W.frozen? ⟨g, o, none⟩ = false := ⟨by rw [h.cell]; exact List.getElem?_eq_getElem ho, h.frozen o⟩

end Go.Proofs.Ytoamdbjailpgdaa
/- NodeChanges, walked. -/
namespace Go.Proofs.Ytoamdbjailpgdaa
set_option maxRecDepth 20000
open Go.RowKit Go.Shelf
set_option linter.unusedVariables false
set_option linter.unusedSimpArgs false
set_option maxRecDepth 100000
attribute [local go_sem] Oper.semAt_some

theorem nds_c1 {w : World} {v : Value} {n : Nd} (h : NdV w v n) {lf : Bool} {p k c : Value} (hv : v = .agg #[.bool lf, p, k, c]) : Nds (w.alloc (.cells #[.bool lf, p, k, c] 26)) w.heap.size [v] [n] := by
  refine ⟨rfl, fun i hi => ?_⟩
  obtain rfl : i = 0 := by simp at hi; omega
  refine ⟨h.alloc _, ?_⟩
  have hB := Blk.new w 26 [.bool lf, p, k, c]
  subst hv
  exact hB.range 0 _ (fun j hj => by rw [Nat.zero_add]; rfl)
theorem sameN_three (a : Nd) : sameN a a = true := by simp [sameN]
theorem gn_form {W w' : World} {n : Nd} {er : Int} {e : Ending} (h : GivesN W n er e w') : ∃ l p m c x mk kc q mq qc,  e = .returned (.tuple #[.agg #[.bool l, .slice p m c, .slice x mk kc, .slice q mq qc], .int .i64 er]) ∧ NdN w' W.heap.size (.agg #[.bool l, .slice p m c, .slice x mk kc, .slice q mq qc]) n ∧ Below W.heap.size W w' := by
  obtain ⟨u, rfl, h1, h2⟩ := h
  obtain ⟨pa, np, pc, ka, nk, kc, ca, nc, cc, rfl⟩ := h1.form
  exact ⟨_, _, _, _, _, _, _, _, _, _, rfl, h1, h2⟩
/-- boxes that stay, and nodes of one's own -/
structure Bn (w : World) (B : Nat) (L : List (Nat × List Value)) (M : List (Value × Nd)) (W : World) : Prop where
  below : Below w.heap.size w W
  box : ∀ x ∈ L, Blk W x.1 26 x.2
  node : ∀ x ∈ M, NdN W B x.1 x.2
  size : B ≤ W.heap.size
theorem Bn.keep {w W W' : World} {B : Nat} {L : List (Nat × List Value)} {M : List (Value × Nd)} (h : Bn w B L M W) (hb : Below W.heap.size W W') : Bn w B L M W' :=
  ⟨h.below.trans (hb.mono h.below.size), fun x hx => (h.box x hx).below hb (h.box x hx).lt, fun x hx => (h.node x hx).below hb, Nat.le_trans h.size hb.size⟩
theorem Bn.step {w W W' : World} {B : Nat} {L : List (Nat × List Value)} {M : List (Value × Nd)} (h : Bn w B L M W) (hb : Below W.heap.size W W') {V : List Value} {N : Nd} (hn : NdN W' W.heap.size (.agg V.toArray) N) : Bn w B ((W'.heap.size, V) :: L) ((.agg V.toArray, N) :: M) (W'.alloc (.cells V.toArray 26)) := by
  have h1 := h.keep hb
  have hal : Below W'.heap.size W' (W'.alloc (.cells V.toArray 26)) := (Below.refl _ W').alloc (Nat.le_refl _) _
  have h2 := h1.keep hal
  refine ⟨h2.below, fun x hx => ?_, fun x hx => ?_, h2.size⟩
  · rcases List.mem_cons.1 hx with rfl | hx
    · exact Blk.new W' _ _
    · exact h2.box x hx
  · rcases List.mem_cons.1 hx with rfl | hx
    · exact (hn.below hal).le h.size
    · exact h2.node x hx
theorem build5 (w : World) (l0 l1 l2 l3 l4 : Bool) (p0 x0 q0 p1 x1 q1 p2 x2 q2 p3 x3 q3 p4 x4 q4 : Option Addr) (m0 c0 mk0 kc0 mq0 qc0 m1 c1 mk1 kc1 mq1 qc1 m2 c2 mk2 kc2 mq2 qc2 m3 c3 mk3 kc3 mq3 qc3 m4 c4 mk4 kc4 mq4 qc4 : Nat) : (Instr.buildSlice 58 5 #[(0, .agg #[.bool l0, .slice p0 m0 c0, .slice x0 mk0 kc0, .slice q0 mq0 qc0]), (1, .agg #[.bool l1, .slice p1 m1 c1, .slice x1 mk1 kc1, .slice q1 mq1 qc1]), (2, .agg #[.bool l2, .slice p2 m2 c2, .slice x2 mk2 kc2, .slice q2 mq2 qc2]), (3, .agg #[.bool l3, .slice p3 m3 c3, .slice x3 mk3 kc3, .slice q3 mq3 qc3]), (4, .agg #[.bool l4, .slice p4 m4 c4, .slice x4 mk4 kc4, .slice q4 mq4 qc4])]).run Try.prog w = .ok (.slice (some ⟨w.heap.size, 0, none⟩) 5 5) (w.alloc (.cells #[.bool l0, .slice p0 m0 c0, .slice x0 mk0 kc0, .slice q0 mq0 qc0, .bool l1, .slice p1 m1 c1, .slice x1 mk1 kc1, .slice q1 mq1 qc1, .bool l2, .slice p2 m2 c2, .slice x2 mk2 kc2, .slice q2 mq2 qc2, .bool l3, .slice p3 m3 c3, .slice x3 mk3 kc3, .slice q3 mq3 qc3, .bool l4, .slice p4 m4 c4, .slice x4 mk4 kc4, .slice q4 mq4 qc4] 26)) := by kernel_rfl

set_option maxHeartbeats 8000000 in
theorem nodeChanges_walk (w : World) (v : Value) (n : Nd) (kv : Value) (key : List Int) (vv : Value) (val : List Int) (i kid : Int) (hv : NdV w v n) (hk : Sl w kv key) (hvv : Sl w vv val) (hi : (Lit.int .i64 i).wf = true) (hkid : (Lit.int .i64 kid).wf = true) :
    Calls Try.prog 6 #[v, kv, vv, .int .i64 i, .int .i64 kid] w fun e w' => e = .returned (.bool true) ∧ Below w.heap.size w w' := by
  have HLV := hide live_any
  obtain ⟨lf, pa, np, pc, ka, nk, kc, ca, nc, cc, rfl, -⟩ := nd_open hv
  obtain ⟨ak, ck, rfl⟩ := sl_form' hk
  obtain ⟨av, cv, rfl⟩ := sl_form' hvv
  obtain ⟨mk, hmk⟩ : ∃ m, key.length = m := ⟨_, rfl⟩
  obtain ⟨mv, hmv⟩ : ∃ m, val.length = m := ⟨_, rfl⟩
  rw [hmk] at hk ⊢
  rw [hmv] at hvv ⊢
  have HFW1 : Hid (∀ w1, Below w.heap.size w w1 → Calls Try.prog 9 #[.slice (some ⟨w1.heap.size, 0, none⟩) 1 1] (w1.alloc (.cells #[.bool lf, .slice pa np pc, .slice ka nk kc, .slice ca nc cc] 26)) fun e w' => e = .returned (.bool (fewN [n])) ∧ Below w1.heap.size w1 w') := fun w1 hb =>
    (few_any _ _ 1 _ [n] (nds_c1 (hv.below hb) rfl) (by simp)).mono fun e w' ⟨h1, h2⟩ => ⟨h1, after_alloc h2⟩
  have HQ : Hid (fewN [n] = true → n.ks.length + n.cs.length ≤ 9223372036854775807) := fun hf => by
    simp only [fewN, List.all_cons, List.all_nil, Bool.and_true, few1, Bool.and_eq_true, decide_eq_true_iff] at hf
    omega
  have HF1 : Hid (fewN [n] = true → few1 n = true) := fun hf => by simpa [fewN] using hf
  have HCL0 : Hid (fewN [n] = true → ∀ W, Below w.heap.size w W → Calls Try.prog 10 #[.agg #[.bool lf, .slice pa np pc, .slice ka nk kc, .slice ca nc cc]] W fun e w' => ∃ l p m c x mk kc q mq qc,  e = .returned (.agg #[.bool l, .slice p m c, .slice x mk kc, .slice q mq qc]) ∧ NdN w' W.heap.size (.agg #[.bool l, .slice p m c, .slice x mk kc, .slice q mq qc]) n ∧ Below W.heap.size W w') := fun hf W hW => (refClone_any W _ n (hv.below hW) (HF1.out hf)).mono (by
    rintro e w' ⟨u, rfl, h1, h2⟩
    obtain ⟨pa, np, pc, ka, nk, kc, ca, nc, cc, rfl⟩ := h1.form
    exact ⟨_, _, _, _, _, _, _, _, _, _, rfl, h1, h2⟩)
  have HCa10 : Hid (∀ W, Below w.heap.size w W → Calls Try.prog 31 #[.agg #[.bool lf, .slice pa np pc, .slice ka nk kc, .slice ca nc cc], .slice ak mk ck, .slice av mv cv] W fun e w' => ∃ l p m c x mk kc q mq qc,  e = .returned (.tuple #[.agg #[.bool l, .slice p m c, .slice x mk kc, .slice q mq qc], .int .i64 (setE n key val)]) ∧ NdN w' W.heap.size (.agg #[.bool l, .slice p m c, .slice x mk kc, .slice q mq qc]) (setN n key val) ∧ Below W.heap.size W w') := fun W hW => (set_any W _ n (hv.below hW) _ key (hk.below hW) _ val (hvv.below hW)).mono (fun e w' h => gn_form h)
  have HCb10 : Hid (fewN [n] = true → ∀ W, Below w.heap.size w W → Calls Try.prog 32 #[.agg #[.bool lf, .slice pa np pc, .slice ka nk kc, .slice ca nc cc], .slice ak mk ck, .slice av mv cv] W fun e w' => ∃ l p m c x mk kc q mq qc,  e = .returned (.tuple #[.agg #[.bool l, .slice p m c, .slice x mk kc, .slice q mq qc], .int .i64 (setE n key val)]) ∧ NdN w' W.heap.size (.agg #[.bool l, .slice p m c, .slice x mk kc, .slice q mq qc]) (setN n key val) ∧ Below W.heap.size W w') := fun hf W hW => (refSet_any W _ n (hv.below hW) _ key (hk.below hW) _ val (hvv.below hW) (HQ.out hf)).mono (fun e w' h => gn_form h)
  have HCc10 : Hid (∀ W, Below w.heap.size w W → Calls Try.prog 33 #[.agg #[.bool lf, .slice pa np pc, .slice ka nk kc, .slice ca nc cc], .slice ak mk ck] W fun e w' => ∃ l p m c x mk kc q mq qc,  e = .returned (.tuple #[.agg #[.bool l, .slice p m c, .slice x mk kc, .slice q mq qc], .int .i64 (unsetE n key)]) ∧ NdN w' W.heap.size (.agg #[.bool l, .slice p m c, .slice x mk kc, .slice q mq qc]) (unsetN n key) ∧ Below W.heap.size W w') := fun W hW => (unset_any W _ n (hv.below hW) _ key (hk.below hW)).mono (fun e w' h => gn_form h)
  have HCd10 : Hid (fewN [n] = true → ∀ W, Below w.heap.size w W → Calls Try.prog 34 #[.agg #[.bool lf, .slice pa np pc, .slice ka nk kc, .slice ca nc cc], .slice ak mk ck] W fun e w' => ∃ l p m c x mk kc q mq qc,  e = .returned (.tuple #[.agg #[.bool l, .slice p m c, .slice x mk kc, .slice q mq qc], .int .i64 (unsetE n key)]) ∧ NdN w' W.heap.size (.agg #[.bool l, .slice p m c, .slice x mk kc, .slice q mq qc]) (unsetN n key) ∧ Below W.heap.size W w') := fun hf W hW => (refUnset_any W _ n (hv.below hW) _ key (hk.below hW) (HQ.out hf)).mono (fun e w' h => gn_form h)
  have HCx10 : Hid (∀ W, Below w.heap.size w W → Calls Try.prog 35 #[.agg #[.bool lf, .slice pa np pc, .slice ka nk kc, .slice ca nc cc], .int .i64 i, .int .i64 kid] W fun e w' => ∃ l p m c x mk kc q mq qc,  e = .returned (.tuple #[.agg #[.bool l, .slice p m c, .slice x mk kc, .slice q mq qc], .int .i64 (turnE n i kid)]) ∧ NdN w' W.heap.size (.agg #[.bool l, .slice p m c, .slice x mk kc, .slice q mq qc]) (turnN n i kid) ∧ Below W.heap.size W w') := fun W hW => (turn_any W _ n (hv.below hW) i kid).mono (fun e w' h => gn_form h)
  have HCy10 : Hid (fewN [n] = true → ∀ W, Below w.heap.size w W → Calls Try.prog 36 #[.agg #[.bool lf, .slice pa np pc, .slice ka nk kc, .slice ca nc cc], .int .i64 i, .int .i64 kid] W fun e w' => ∃ l p m c x mk kc q mq qc,  e = .returned (.tuple #[.agg #[.bool l, .slice p m c, .slice x mk kc, .slice q mq qc], .int .i64 (turnE n i kid)]) ∧ NdN w' W.heap.size (.agg #[.bool l, .slice p m c, .slice x mk kc, .slice q mq qc]) (turnN n i kid) ∧ Below W.heap.size W w') := fun hf W hW => (refTurn_any W _ n (hv.below hW) i kid (HQ.out hf)).mono (fun e w' h => gn_form h)
  have HCu10 : Hid (∀ W, Below w.heap.size w W → Calls Try.prog 37 #[.agg #[.bool lf, .slice pa np pc, .slice ka nk kc, .slice ca nc cc], .int .i64 i, .slice ak mk ck, .int .i64 kid] W fun e w' => ∃ l p m c x mk kc q mq qc,  e = .returned (.tuple #[.agg #[.bool l, .slice p m c, .slice x mk kc, .slice q mq qc], .int .i64 (growE n i key kid)]) ∧ NdN w' W.heap.size (.agg #[.bool l, .slice p m c, .slice x mk kc, .slice q mq qc]) (growN n i key kid) ∧ Below W.heap.size W w') := fun W hW => (grow_any W _ n (hv.below hW) i _ key (hk.below hW) kid).mono (fun e w' h => gn_form h)
  have HCv10 : Hid (fewN [n] = true → ∀ W, Below w.heap.size w W → Calls Try.prog 38 #[.agg #[.bool lf, .slice pa np pc, .slice ka nk kc, .slice ca nc cc], .int .i64 i, .slice ak mk ck, .int .i64 kid] W fun e w' => ∃ l p m c x mk kc q mq qc,  e = .returned (.tuple #[.agg #[.bool l, .slice p m c, .slice x mk kc, .slice q mq qc], .int .i64 (growE n i key kid)]) ∧ NdN w' W.heap.size (.agg #[.bool l, .slice p m c, .slice x mk kc, .slice q mq qc]) (growN n i key kid) ∧ Below W.heap.size W w') := fun hf W hW => (refGrow_any W _ n (hv.below hW) i _ key (hk.below hW) kid (HQ.out hf)).mono (fun e w' h => gn_form h)
  have HCp10 : Hid (∀ W, Below w.heap.size w W → Calls Try.prog 39 #[.agg #[.bool lf, .slice pa np pc, .slice ka nk kc, .slice ca nc cc], .int .i64 i] W fun e w' => ∃ l p m c x mk kc q mq qc,  e = .returned (.tuple #[.agg #[.bool l, .slice p m c, .slice x mk kc, .slice q mq qc], .int .i64 (shrinkE n i)]) ∧ NdN w' W.heap.size (.agg #[.bool l, .slice p m c, .slice x mk kc, .slice q mq qc]) (shrinkN n i) ∧ Below W.heap.size W w') := fun W hW => (shrink_any W _ n (hv.below hW) i).mono (fun e w' h => gn_form h)
  have HCq10 : Hid (fewN [n] = true → ∀ W, Below w.heap.size w W → Calls Try.prog 40 #[.agg #[.bool lf, .slice pa np pc, .slice ka nk kc, .slice ca nc cc], .int .i64 i] W fun e w' => ∃ l p m c x mk kc q mq qc,  e = .returned (.tuple #[.agg #[.bool l, .slice p m c, .slice x mk kc, .slice q mq qc], .int .i64 (shrinkE n i)]) ∧ NdN w' W.heap.size (.agg #[.bool l, .slice p m c, .slice x mk kc, .slice q mq qc]) (shrinkN n i) ∧ Below W.heap.size W w') := fun hf W hW => (refShrink_any W _ n (hv.below hW) i (HQ.out hf)).mono (fun e w' h => gn_form h)
  have HSM : Hid (∀ wx u1 u2 m, NdV wx u1 m → NdV wx u2 m → Calls Try.prog 17 #[u1, u2] wx fun e w' => e = .returned (.bool true) ∧ Below wx.heap.size wx w') := fun wx u1 u2 m h1 h2 => by rw [← sameN_three m]; exact refSame_any wx _ _ _ _ h1 h2
  have HNV : Hid (∀ W, Below w.heap.size w W → NdV W (.agg #[.bool lf, .slice pa np pc, .slice ka nk kc, .slice ca nc cc]) n) := fun W hb => hv.below hb
  generalize fewN [n] = FW at *
  generalize setN n key val = N0 at *
  generalize unsetN n key = N1 at *
  generalize turnN n i kid = N2 at *
  generalize growN n i key kid = N3 at *
  generalize shrinkN n i = N4 at *
  generalize setE n key val = E0 at *
  generalize unsetE n key = E1 at *
  generalize turnE n i kid = E2 at *
  generalize growE n i key kid = E3 at *
  generalize shrinkE n i = E4 at *
  obtain ⟨w1, hw1, HB1, HBB, z0, z1, z2, z3⟩ := nd_box w lf (.slice pa np pc) (.slice ka nk kc) (.slice ca nc cc)
  have HX1 : Hid (Bn w 0 [(w.heap.size, [.bool lf, .slice pa np pc, .slice ka nk kc, .slice ca nc cc])] [] w1) := ⟨HB1.out, fun x hx => by (obtain rfl := List.mem_singleton.1 hx; exact HBB.out), fun x hx => (by cases hx), Nat.zero_le _⟩
  clear hv hk hvv hmk hmv HQ HF1 HB1 HBB hi hkid
  cases FW with
  | false =>
    go_enter Try.func6, Try.ntmps6
    go_wp2_with (first
      | (go_at_call 9; refine (HFW1.out w2 HX2.out.below).mono ?_; rintro e w3 ⟨rfl, hb3⟩; have HX3 := hide (HX2.out.keep hb3); (try clear z0 z1 z2 z3); obtain ⟨⟨z0, z1, z2, z3⟩, _⟩ := node_cells (HX3.out.box _ (List.Mem.head _)); have HLV3 := hide (HLV.out w3); clear HFW1 hb3)
      | (go_at_call 8; refine HLV3.out.mono ?_; rintro e w4 ⟨rfl, hb4⟩; have HX4 := hide (HX3.out.keep hb4); clear HLV3 hb4)
      | (go_at_call 8; refine (HLV.out w1).mono ?_; rintro e w2 ⟨rfl, hb2⟩; have HX2 := hide (HX1.out.keep hb2); (try clear z0 z1 z2 z3); obtain ⟨⟨z0, z1, z2, z3⟩, _⟩ := node_cells (HX2.out.box _ (List.Mem.head _)); clear hb2))
    go_ret
    exact ⟨rfl, HX4.out.below⟩
  | true =>
    have HCL := hide (HCL0.out rfl)
    have HCa1 := HCa10
    have HCb1 := hide (HCb10.out rfl)
    have HCc1 := HCc10
    have HCd1 := hide (HCd10.out rfl)
    have HCx1 := HCx10
    have HCy1 := hide (HCy10.out rfl)
    have HCu1 := HCu10
    have HCv1 := hide (HCv10.out rfl)
    have HCp1 := HCp10
    have HCq1 := hide (HCq10.out rfl)
    clear HCL0 HCa10 HCb10 HCc10 HCd10 HCx10 HCy10 HCu10 HCv10 HCp10 HCq10
    by_cases hL : mk ≤ 300
    · have iL : ¬ (300 : Int) < (mk : Int) := by omega
      by_cases hL2 : mv ≤ 300
      · have iL2 : ¬ (300 : Int) < (mv : Int) := by omega
        go_enter Try.func6, Try.ntmps6
        go_wp2_with (first
          | (go_at_call 8; refine (HLV.out w1).mono ?_; rintro e w2 ⟨rfl, hb2⟩; have HX2 := hide (HX1.out.keep hb2); (try clear z0 z1 z2 z3); obtain ⟨⟨z0, z1, z2, z3⟩, _⟩ := node_cells (HX2.out.box _ (List.Mem.head _)); clear hb2)
          | (go_at_call 9; refine (HFW1.out w2 HX2.out.below).mono ?_; rintro e w3 ⟨rfl, hb3⟩; have HX3 := hide (HX2.out.keep hb3); (try clear z0 z1 z2 z3); obtain ⟨⟨z0, z1, z2, z3⟩, _⟩ := node_cells (HX3.out.box _ (List.Mem.head _)); have HLV3 := hide (HLV.out w3); clear HFW1 hb3)
          | (go_at_call 10; refine (HCL.out w3 HX3.out.below).mono ?_; rintro e w4 ⟨lw, pw, mw, cw, xw, mkw, kcw, qw, mqw, qcw, rfl, hn4, hb4⟩; have hX5 := HX3.out.step hb4 hn4; obtain ⟨w5, hw5⟩ : ∃ x, w4.alloc (.cells #[.bool lw, .slice pw mw cw, .slice xw mkw kcw, .slice qw mqw qcw] 26) = x := ⟨_, rfl⟩; rw [hw5] at hX5; have HW5 := hide (hX5.node _ (List.Mem.head _)).val; have HBW := hide hX5.below; have HBX5 : Hid (Blk w5 w.heap.size 26 [.bool lf, .slice pa np pc, .slice ka nk kc, .slice ca nc cc] ∧ Blk w5 w4.heap.size 26 [.bool lw, .slice pw mw cw, .slice xw mkw kcw, .slice qw mqw qcw]) := ⟨hX5.box _ (List.Mem.tail _ (List.Mem.head _)), hX5.box _ (List.Mem.head _)⟩; have HX5 : Hid (Bn w5 w5.heap.size [(w4.heap.size, [.bool lw, .slice pw mw cw, .slice xw mkw kcw, .slice qw mqw qcw]), (w.heap.size, [.bool lf, .slice pa np pc, .slice ka nk kc, .slice ca nc cc])] [] w5) := ⟨Below.refl _ _, hX5.box, fun x hx => (by cases hx), Nat.le_refl _⟩; (try clear z0 z1 z2 z3); obtain ⟨⟨z0, z1, z2, z3⟩, _⟩ := node_cells (HX5.out.box _ (List.Mem.tail _ (List.Mem.head _))); clear HCL hb4 hn4 hX5)
          | (go_at_call 31; refine (HCa1.out w5 (HBW.out.trans (HX5.out.below.mono HBW.out.size))).mono ?_; rintro e ra1 ⟨la1, pa1, ma1, ca1, xa1, mka1, kca1, qa1, mqa1, qca1, rfl, hna1, hba1⟩; have hXa1 := HX5.out.step hba1 hna1; obtain ⟨sa1, hsa1⟩ : ∃ x, ra1.alloc (.cells #[.bool la1, .slice pa1 ma1 ca1, .slice xa1 mka1 kca1, .slice qa1 mqa1 qca1] 26) = x := ⟨_, rfl⟩; rw [hsa1] at hXa1; have HXa1 := hide hXa1; (try clear z0 z1 z2 z3); obtain ⟨⟨z0, z1, z2, z3⟩, _⟩ := node_cells (HXa1.out.box _ (List.Mem.tail _ (List.Mem.tail _ (List.Mem.head _)))); clear HCa1 hba1 hna1 hXa1)
          | (go_at_call 32; refine (HCb1.out sa1 (HBW.out.trans (HXa1.out.below.mono HBW.out.size))).mono ?_; rintro e rb1 ⟨lb1, pb1, mb1, cb1, xb1, mkb1, kcb1, qb1, mqb1, qcb1, rfl, hnb1, hbb1⟩; have hXb1 := HXa1.out.step hbb1 hnb1; obtain ⟨sb1, hsb1⟩ : ∃ x, rb1.alloc (.cells #[.bool lb1, .slice pb1 mb1 cb1, .slice xb1 mkb1 kcb1, .slice qb1 mqb1 qcb1] 26) = x := ⟨_, rfl⟩; rw [hsb1] at hXb1; have HXb1 := hide hXb1; (try clear z0 z1 z2 z3); obtain ⟨⟨z0, z1, z2, z3⟩, _⟩ := node_cells (HXb1.out.box _ (List.Mem.tail _ (List.Mem.tail _ (List.Mem.tail _ (List.Mem.head _))))); clear HCb1 hbb1 hnb1 hXb1)
          | (go_at_call 33; refine (HCc1.out sb1 (HBW.out.trans (HXb1.out.below.mono HBW.out.size))).mono ?_; rintro e rc1 ⟨lc1, pc1, mc1, cc1, xc1, mkc1, kcc1, qc1, mqc1, qcc1, rfl, hnc1, hbc1⟩; have hXc1 := HXb1.out.step hbc1 hnc1; obtain ⟨sc1, hsc1⟩ : ∃ x, rc1.alloc (.cells #[.bool lc1, .slice pc1 mc1 cc1, .slice xc1 mkc1 kcc1, .slice qc1 mqc1 qcc1] 26) = x := ⟨_, rfl⟩; rw [hsc1] at hXc1; have HXc1 := hide hXc1; (try clear z0 z1 z2 z3); obtain ⟨⟨z0, z1, z2, z3⟩, _⟩ := node_cells (HXc1.out.box _ (List.Mem.tail _ (List.Mem.tail _ (List.Mem.tail _ (List.Mem.tail _ (List.Mem.head _)))))); clear HCc1 hbc1 hnc1 hXc1)
          | (go_at_call 34; refine (HCd1.out sc1 (HBW.out.trans (HXc1.out.below.mono HBW.out.size))).mono ?_; rintro e rd1 ⟨ld1, pd1, md1, cd1, xd1, mkd1, kcd1, qd1, mqd1, qcd1, rfl, hnd1, hbd1⟩; have hXd1 := HXc1.out.step hbd1 hnd1; obtain ⟨sd1, hsd1⟩ : ∃ x, rd1.alloc (.cells #[.bool ld1, .slice pd1 md1 cd1, .slice xd1 mkd1 kcd1, .slice qd1 mqd1 qcd1] 26) = x := ⟨_, rfl⟩; rw [hsd1] at hXd1; have HXd1 := hide hXd1; (try clear z0 z1 z2 z3); obtain ⟨⟨z0, z1, z2, z3⟩, _⟩ := node_cells (HXd1.out.box _ (List.Mem.tail _ (List.Mem.tail _ (List.Mem.tail _ (List.Mem.tail _ (List.Mem.tail _ (List.Mem.head _))))))); clear HCd1 hbd1 hnd1 hXd1)
          | (go_at_call 35; refine (HCx1.out sd1 (HBW.out.trans (HXd1.out.below.mono HBW.out.size))).mono ?_; rintro e rx1 ⟨lx1, px1, mx1, cx1, xx1, mkx1, kcx1, qx1, mqx1, qcx1, rfl, hnx1, hbx1⟩; have hXx1 := HXd1.out.step hbx1 hnx1; obtain ⟨sx1, hsx1⟩ : ∃ x, rx1.alloc (.cells #[.bool lx1, .slice px1 mx1 cx1, .slice xx1 mkx1 kcx1, .slice qx1 mqx1 qcx1] 26) = x := ⟨_, rfl⟩; rw [hsx1] at hXx1; have HXx1 := hide hXx1; (try clear z0 z1 z2 z3); obtain ⟨⟨z0, z1, z2, z3⟩, _⟩ := node_cells (HXx1.out.box _ (List.Mem.tail _ (List.Mem.tail _ (List.Mem.tail _ (List.Mem.tail _ (List.Mem.tail _ (List.Mem.tail _ (List.Mem.head _)))))))); clear HCx1 hbx1 hnx1 hXx1)
          | (go_at_call 36; refine (HCy1.out sx1 (HBW.out.trans (HXx1.out.below.mono HBW.out.size))).mono ?_; rintro e ry1 ⟨ly1, py1, my1, cy1, xy1, mky1, kcy1, qy1, mqy1, qcy1, rfl, hny1, hby1⟩; have hXy1 := HXx1.out.step hby1 hny1; obtain ⟨sy1, hsy1⟩ : ∃ x, ry1.alloc (.cells #[.bool ly1, .slice py1 my1 cy1, .slice xy1 mky1 kcy1, .slice qy1 mqy1 qcy1] 26) = x := ⟨_, rfl⟩; rw [hsy1] at hXy1; have HXy1 := hide hXy1; (try clear z0 z1 z2 z3); obtain ⟨⟨z0, z1, z2, z3⟩, _⟩ := node_cells (HXy1.out.box _ (List.Mem.tail _ (List.Mem.tail _ (List.Mem.tail _ (List.Mem.tail _ (List.Mem.tail _ (List.Mem.tail _ (List.Mem.tail _ (List.Mem.head _))))))))); clear HCy1 hby1 hny1 hXy1)
          | (go_at_call 37; refine (HCu1.out sy1 (HBW.out.trans (HXy1.out.below.mono HBW.out.size))).mono ?_; rintro e ru1 ⟨lu1, pu1, mu1, cu1, xu1, mku1, kcu1, qu1, mqu1, qcu1, rfl, hnu1, hbu1⟩; have hXu1 := HXy1.out.step hbu1 hnu1; obtain ⟨su1, hsu1⟩ : ∃ x, ru1.alloc (.cells #[.bool lu1, .slice pu1 mu1 cu1, .slice xu1 mku1 kcu1, .slice qu1 mqu1 qcu1] 26) = x := ⟨_, rfl⟩; rw [hsu1] at hXu1; have HXu1 := hide hXu1; (try clear z0 z1 z2 z3); obtain ⟨⟨z0, z1, z2, z3⟩, _⟩ := node_cells (HXu1.out.box _ (List.Mem.tail _ (List.Mem.tail _ (List.Mem.tail _ (List.Mem.tail _ (List.Mem.tail _ (List.Mem.tail _ (List.Mem.tail _ (List.Mem.tail _ (List.Mem.head _)))))))))); clear HCu1 hbu1 hnu1 hXu1)
          | (go_at_call 38; refine (HCv1.out su1 (HBW.out.trans (HXu1.out.below.mono HBW.out.size))).mono ?_; rintro e rv1 ⟨lv1, pv1, mv1, cv1, xv1, mkv1, kcv1, qv1, mqv1, qcv1, rfl, hnv1, hbv1⟩; have hXv1 := HXu1.out.step hbv1 hnv1; obtain ⟨sv1, hsv1⟩ : ∃ x, rv1.alloc (.cells #[.bool lv1, .slice pv1 mv1 cv1, .slice xv1 mkv1 kcv1, .slice qv1 mqv1 qcv1] 26) = x := ⟨_, rfl⟩; rw [hsv1] at hXv1; have HXv1 := hide hXv1; (try clear z0 z1 z2 z3); obtain ⟨⟨z0, z1, z2, z3⟩, _⟩ := node_cells (HXv1.out.box _ (List.Mem.tail _ (List.Mem.tail _ (List.Mem.tail _ (List.Mem.tail _ (List.Mem.tail _ (List.Mem.tail _ (List.Mem.tail _ (List.Mem.tail _ (List.Mem.tail _ (List.Mem.head _))))))))))); clear HCv1 hbv1 hnv1 hXv1)
          | (go_at_call 39; refine (HCp1.out sv1 (HBW.out.trans (HXv1.out.below.mono HBW.out.size))).mono ?_; rintro e rp1 ⟨lp1, pp1, mp1, cp1, xp1, mkp1, kcp1, qp1, mqp1, qcp1, rfl, hnp1, hbp1⟩; have hXp1 := HXv1.out.step hbp1 hnp1; obtain ⟨sp1, hsp1⟩ : ∃ x, rp1.alloc (.cells #[.bool lp1, .slice pp1 mp1 cp1, .slice xp1 mkp1 kcp1, .slice qp1 mqp1 qcp1] 26) = x := ⟨_, rfl⟩; rw [hsp1] at hXp1; have HXp1 := hide hXp1; (try clear z0 z1 z2 z3); obtain ⟨⟨z0, z1, z2, z3⟩, _⟩ := node_cells (HXp1.out.box _ (List.Mem.tail _ (List.Mem.tail _ (List.Mem.tail _ (List.Mem.tail _ (List.Mem.tail _ (List.Mem.tail _ (List.Mem.tail _ (List.Mem.tail _ (List.Mem.tail _ (List.Mem.tail _ (List.Mem.head _)))))))))))); clear HCp1 hbp1 hnp1 hXp1)
          | (go_at_call 40; refine (HCq1.out sp1 (HBW.out.trans (HXp1.out.below.mono HBW.out.size))).mono ?_; rintro e rq1 ⟨lq1, pq1, mq1, cq1, xq1, mkq1, kcq1, qq1, mqq1, qcq1, rfl, hnq1, hbq1⟩; have hXq1 := HXp1.out.step hbq1 hnq1; obtain ⟨sq1, hsq1⟩ : ∃ x, rq1.alloc (.cells #[.bool lq1, .slice pq1 mq1 cq1, .slice xq1 mkq1 kcq1, .slice qq1 mqq1 qcq1] 26) = x := ⟨_, rfl⟩; rw [hsq1] at hXq1; have HXq1 := hide hXq1; (try clear z0 z1 z2 z3); obtain ⟨⟨z0, z1, z2, z3⟩, _⟩ := node_cells (HXq1.out.box _ (List.Mem.tail _ (List.Mem.tail _ (List.Mem.tail _ (List.Mem.tail _ (List.Mem.tail _ (List.Mem.tail _ (List.Mem.tail _ (List.Mem.tail _ (List.Mem.tail _ (List.Mem.tail _ (List.Mem.tail _ (List.Mem.head _))))))))))))); obtain ⟨⟨ga1a, ga1b, ga1c, ga1d⟩, _⟩ := node_cells (HXq1.out.box _ (List.Mem.tail _ (List.Mem.tail _ (List.Mem.tail _ (List.Mem.tail _ (List.Mem.tail _ (List.Mem.tail _ (List.Mem.tail _ (List.Mem.tail _ (List.Mem.tail _ (List.Mem.head _))))))))))); obtain ⟨⟨gb1a, gb1b, gb1c, gb1d⟩, _⟩ := node_cells (HXq1.out.box _ (List.Mem.tail _ (List.Mem.tail _ (List.Mem.tail _ (List.Mem.tail _ (List.Mem.tail _ (List.Mem.tail _ (List.Mem.tail _ (List.Mem.tail _ (List.Mem.head _)))))))))); clear HCq1 hbq1 hnq1 hXq1)
          | (go_at_call 17; refine (HSM.out sq1 _ _ N0 (HXq1.out.node _ (List.Mem.tail _ (List.Mem.tail _ (List.Mem.tail _ (List.Mem.tail _ (List.Mem.tail _ (List.Mem.tail _ (List.Mem.tail _ (List.Mem.tail _ (List.Mem.tail _ (List.Mem.head _))))))))))).val (HXq1.out.node _ (List.Mem.tail _ (List.Mem.tail _ (List.Mem.tail _ (List.Mem.tail _ (List.Mem.tail _ (List.Mem.tail _ (List.Mem.tail _ (List.Mem.tail _ (List.Mem.head _)))))))))).val).mono ?_; rintro e t0 ⟨rfl, hb0⟩; have HY0 := hide (HXq1.out.keep hb0); clear ga1a ga1b ga1c ga1d; clear gb1a gb1b gb1c gb1d; obtain ⟨⟨gc1a, gc1b, gc1c, gc1d⟩, _⟩ := node_cells (HY0.out.box _ (List.Mem.tail _ (List.Mem.tail _ (List.Mem.tail _ (List.Mem.tail _ (List.Mem.tail _ (List.Mem.tail _ (List.Mem.tail _ (List.Mem.head _))))))))); obtain ⟨⟨gd1a, gd1b, gd1c, gd1d⟩, _⟩ := node_cells (HY0.out.box _ (List.Mem.tail _ (List.Mem.tail _ (List.Mem.tail _ (List.Mem.tail _ (List.Mem.tail _ (List.Mem.tail _ (List.Mem.head _)))))))); clear HXq1 hb0)
          | (go_at_call 17; refine (HSM.out t0 _ _ N1 (HY0.out.node _ (List.Mem.tail _ (List.Mem.tail _ (List.Mem.tail _ (List.Mem.tail _ (List.Mem.tail _ (List.Mem.tail _ (List.Mem.tail _ (List.Mem.head _))))))))).val (HY0.out.node _ (List.Mem.tail _ (List.Mem.tail _ (List.Mem.tail _ (List.Mem.tail _ (List.Mem.tail _ (List.Mem.tail _ (List.Mem.head _)))))))).val).mono ?_; rintro e t1 ⟨rfl, hb1⟩; have HY1 := hide (HY0.out.keep hb1); clear gc1a gc1b gc1c gc1d; clear gd1a gd1b gd1c gd1d; obtain ⟨⟨gx1a, gx1b, gx1c, gx1d⟩, _⟩ := node_cells (HY1.out.box _ (List.Mem.tail _ (List.Mem.tail _ (List.Mem.tail _ (List.Mem.tail _ (List.Mem.tail _ (List.Mem.head _))))))); obtain ⟨⟨gy1a, gy1b, gy1c, gy1d⟩, _⟩ := node_cells (HY1.out.box _ (List.Mem.tail _ (List.Mem.tail _ (List.Mem.tail _ (List.Mem.tail _ (List.Mem.head _)))))); clear HY0 hb1)
          | (go_at_call 17; refine (HSM.out t1 _ _ N2 (HY1.out.node _ (List.Mem.tail _ (List.Mem.tail _ (List.Mem.tail _ (List.Mem.tail _ (List.Mem.tail _ (List.Mem.head _))))))).val (HY1.out.node _ (List.Mem.tail _ (List.Mem.tail _ (List.Mem.tail _ (List.Mem.tail _ (List.Mem.head _)))))).val).mono ?_; rintro e t2 ⟨rfl, hb2⟩; have HY2 := hide (HY1.out.keep hb2); clear gx1a gx1b gx1c gx1d; clear gy1a gy1b gy1c gy1d; obtain ⟨⟨gu1a, gu1b, gu1c, gu1d⟩, _⟩ := node_cells (HY2.out.box _ (List.Mem.tail _ (List.Mem.tail _ (List.Mem.tail _ (List.Mem.head _))))); obtain ⟨⟨gv1a, gv1b, gv1c, gv1d⟩, _⟩ := node_cells (HY2.out.box _ (List.Mem.tail _ (List.Mem.tail _ (List.Mem.head _)))); clear HY1 hb2)
          | (go_at_call 17; refine (HSM.out t2 _ _ N3 (HY2.out.node _ (List.Mem.tail _ (List.Mem.tail _ (List.Mem.tail _ (List.Mem.head _))))).val (HY2.out.node _ (List.Mem.tail _ (List.Mem.tail _ (List.Mem.head _)))).val).mono ?_; rintro e t3 ⟨rfl, hb3⟩; have HY3 := hide (HY2.out.keep hb3); clear gu1a gu1b gu1c gu1d; clear gv1a gv1b gv1c gv1d; obtain ⟨⟨gp1a, gp1b, gp1c, gp1d⟩, _⟩ := node_cells (HY3.out.box _ (List.Mem.tail _ (List.Mem.head _))); obtain ⟨⟨gq1a, gq1b, gq1c, gq1d⟩, _⟩ := node_cells (HY3.out.box _ (List.Mem.head _)); clear HY2 hb3)
          | (go_at_call 17; refine (HSM.out t3 _ _ N4 (HY3.out.node _ (List.Mem.tail _ (List.Mem.head _))).val (HY3.out.node _ (List.Mem.head _)).val).mono ?_; rintro e t4 ⟨rfl, hb4⟩; have HY4 := hide (HY3.out.keep hb4); clear gp1a gp1b gp1c gp1d; clear gq1a gq1b gq1c gq1d; obtain ⟨⟨ga1a, ga1b, ga1c, ga1d⟩, _⟩ := node_cells (HY4.out.box _ (List.Mem.tail _ (List.Mem.tail _ (List.Mem.tail _ (List.Mem.tail _ (List.Mem.tail _ (List.Mem.tail _ (List.Mem.tail _ (List.Mem.tail _ (List.Mem.tail _ (List.Mem.head _))))))))))); obtain ⟨⟨gc1a, gc1b, gc1c, gc1d⟩, _⟩ := node_cells (HY4.out.box _ (List.Mem.tail _ (List.Mem.tail _ (List.Mem.tail _ (List.Mem.tail _ (List.Mem.tail _ (List.Mem.tail _ (List.Mem.tail _ (List.Mem.head _))))))))); obtain ⟨⟨gx1a, gx1b, gx1c, gx1d⟩, _⟩ := node_cells (HY4.out.box _ (List.Mem.tail _ (List.Mem.tail _ (List.Mem.tail _ (List.Mem.tail _ (List.Mem.tail _ (List.Mem.head _))))))); obtain ⟨⟨gu1a, gu1b, gu1c, gu1d⟩, _⟩ := node_cells (HY4.out.box _ (List.Mem.tail _ (List.Mem.tail _ (List.Mem.tail _ (List.Mem.head _))))); obtain ⟨⟨gp1a, gp1b, gp1c, gp1d⟩, _⟩ := node_cells (HY4.out.box _ (List.Mem.tail _ (List.Mem.head _))); have hb5 := fun wx => build5 wx la1 lc1 lx1 lu1 lp1 pa1 xa1 qa1 pc1 xc1 qc1 px1 xx1 qx1 pu1 xu1 qu1 pp1 xp1 qp1 ma1 ca1 mka1 kca1 mqa1 qca1 mc1 cc1 mkc1 kcc1 mqc1 qcc1 mx1 cx1 mkx1 kcx1 mqx1 qcx1 mu1 cu1 mku1 kcu1 mqu1 qcu1 mp1 cp1 mkp1 kcp1 mqp1 qcp1; clear HY3 hb4))
        obtain ⟨W8, hW8⟩ : ∃ x, t4.alloc (.cells #[.bool la1, .slice pa1 ma1 ca1, .slice xa1 mka1 kca1, .slice qa1 mqa1 qca1, .bool lc1, .slice pc1 mc1 cc1, .slice xc1 mkc1 kcc1, .slice qc1 mqc1 qcc1, .bool lx1, .slice px1 mx1 cx1, .slice xx1 mkx1 kcx1, .slice qx1 mqx1 qcx1, .bool lu1, .slice pu1 mu1 cu1, .slice xu1 mku1 kcu1, .slice qu1 mqu1 qcu1, .bool lp1, .slice pp1 mp1 cp1, .slice xp1 mkp1 kcp1, .slice qp1 mqp1 qcp1] 26) = x := ⟨_, rfl⟩
        have HZ8 : Hid (Zr w5 w5.heap.size t4.heap.size [(la1, Value.slice pa1 ma1 ca1, Value.slice xa1 mka1 kca1, Value.slice qa1 mqa1 qca1), (lc1, Value.slice pc1 mc1 cc1, Value.slice xc1 mkc1 kcc1, Value.slice qc1 mqc1 qcc1), (lx1, Value.slice px1 mx1 cx1, Value.slice xx1 mkx1 kcx1, Value.slice qx1 mqx1 qcx1), (lu1, Value.slice pu1 mu1 cu1, Value.slice xu1 mku1 kcu1, Value.slice qu1 mqu1 qcu1), (lp1, Value.slice pp1 mp1 cp1, Value.slice xp1 mkp1 kcp1, Value.slice qp1 mqp1 qcp1)] W8) := by
          have hal : Below t4.heap.size t4 W8 := by rw [← hW8]; exact (Below.refl _ t4).alloc (Nat.le_refl _) _
          have hk := HY4.out.keep hal
          refine ⟨hk.below, by rw [← hW8]; exact Blk.new t4 _ _, fun x hx => ?_⟩
          simp only [List.mem_cons, List.not_mem_nil, or_false] at hx
          rcases hx with rfl | rfl | rfl | rfl | rfl
          · exact ShN.of (hk.node _ (List.Mem.tail _ (List.Mem.tail _ (List.Mem.tail _ (List.Mem.tail _ (List.Mem.tail _ (List.Mem.tail _ (List.Mem.tail _ (List.Mem.tail _ (List.Mem.tail _ (List.Mem.head _)))))))))))
          · exact ShN.of (hk.node _ (List.Mem.tail _ (List.Mem.tail _ (List.Mem.tail _ (List.Mem.tail _ (List.Mem.tail _ (List.Mem.tail _ (List.Mem.tail _ (List.Mem.head _)))))))))
          · exact ShN.of (hk.node _ (List.Mem.tail _ (List.Mem.tail _ (List.Mem.tail _ (List.Mem.tail _ (List.Mem.tail _ (List.Mem.head _)))))))
          · exact ShN.of (hk.node _ (List.Mem.tail _ (List.Mem.tail _ (List.Mem.tail _ (List.Mem.head _)))))
          · exact ShN.of (hk.node _ (List.Mem.tail _ (List.Mem.head _)))
        rw [hW8]
        obtain ⟨XS, hXS⟩ : ∃ x, x = [(la1, Value.slice pa1 ma1 ca1, Value.slice xa1 mka1 kca1, Value.slice qa1 mqa1 qca1), (lc1, Value.slice pc1 mc1 cc1, Value.slice xc1 mkc1 kcc1, Value.slice qc1 mqc1 qcc1), (lx1, Value.slice px1 mx1 cx1, Value.slice xx1 mkx1 kcx1, Value.slice qx1 mqx1 qcx1), (lu1, Value.slice pu1 mu1 cu1, Value.slice xu1 mku1 kcu1, Value.slice qu1 mqu1 qcu1), (lp1, Value.slice pp1 mp1 cp1, Value.slice xp1 mkp1 kcp1, Value.slice qp1 mqp1 qcp1)] := ⟨_, rfl⟩
        have HXL : Hid (XS.length = 5) := by rw [hXS]; rfl
        rw [← hXS] at HZ8
        have HNW : Hid (∀ W, Below w5.heap.size w5 W → (NdV W (.agg #[.bool lf, .slice pa np pc, .slice ka nk kc, .slice ca nc cc]) n ∧ NdV W (.agg #[.bool lw, .slice pw mw cw, .slice xw mkw kcw, .slice qw mqw qcw]) n) ∧ Blk W w.heap.size 26 [.bool lf, .slice pa np pc, .slice ka nk kc, .slice ca nc cc] ∧ Blk W w4.heap.size 26 [.bool lw, .slice pw mw cw, .slice xw mkw kcw, .slice qw mqw qcw]) := fun W hb => ⟨⟨HNV.out W (HBW.out.trans (hb.mono HBW.out.size)), HW5.out.below hb⟩, HBX5.out.1.below hb HBX5.out.1.lt, HBX5.out.2.below hb HBX5.out.2.lt⟩
        have hsz5 : w5.heap.size ≤ W8.heap.size := HZ8.out.below.size
        clear hXS hb5 HY4 HNV HW5 HBX5 ga1a ga1b ga1c ga1d gc1a gc1b gc1c gc1d gx1a gx1b gx1c gx1d gu1a gu1b gu1c gu1d gp1a gp1b gp1c gp1d
        go_loopg [184] 5 (fun g s wr => ∃ j : Nat, g + j = 5 ∧ s = .int .i64 (j : Int) ∧ Zr w5 w5.heap.size t4.heap.size XS wr)
        case atStart => exact ⟨0, rfl, rfl, HZ8.out⟩
        case round =>
          obtain ⟨j, hgj, rfl, hz⟩ := hrel
          obtain ⟨GO, hGO⟩ : ∃ x, x = gk := ⟨_, rfl⟩
          have HGO := hide hGO
          obtain ⟨W, rfl⟩ : ∃ x, x = wr := ⟨_, rfl⟩
          clear hGO HZ8
          by_cases hj : j < 5
          · have hji : (j : Int) < 5 := by omega
            have hjl : j < XS.length := by rw [HXL.out]; exact hj
            have hr := hz.get j hjl
            obtain ⟨p9, m9, c9, x9, k9, d9, q9, r9, e9, he, sp, sk, sc⟩ := hz.rows XS[j] (List.getElem_mem hjl)
            generalize XS[j] = x at *
            obtain ⟨l9, y1, y2, y3⟩ := x
            simp only [Prod.mk.injEq, true_and] at he
            obtain ⟨rfl, rfl, rfl⟩ := he
            have c0 : W.cell? ⟨t4.heap.size, j * 4, none⟩ = some (.bool l9) := hr 0 _ rfl
            have c1 : W.cell? ⟨t4.heap.size, j * 4 + 1, none⟩ = some (.slice p9 m9 c9) := hr 1 _ rfl
            have c2 : W.cell? ⟨t4.heap.size, j * 4 + 2, none⟩ = some (.slice x9 k9 d9) := hr 2 _ rfl
            have c3 : W.cell? ⟨t4.heap.size, j * 4 + 3, none⟩ = some (.slice q9 r9 e9) := hr 3 _ rfl
            obtain ⟨W1, hW1, HB1, HC1, s0, s1, s2, s3⟩ := nd_box W l9 (.slice p9 m9 c9) (.slice x9 k9 d9) (.slice q9 r9 e9)
            have HI1 : Hid (Zi w5 w5.heap.size t4.heap.size XS W.heap.size l9 p9 m9 c9 x9 k9 d9 q9 r9 e9 W1) := ⟨hz.keep HB1.out hz.below.size, HC1.out, sp.keep HB1.out, sk.keep HB1.out, sc.keep HB1.out, Nat.le_trans hz.below.size HB1.out.size⟩
            have hle : m9 ≤ 9223372036854775807 ∧ r9 ≤ 9223372036854775807 ∧ k9 ≤ 9223372036854775807 := by
              obtain ⟨L1, o1⟩ := sp
              obtain ⟨L2, o2⟩ := sk
              obtain ⟨L3, o3⟩ := sc
              have h1 := own_len o1
              have h2 := own_len o2
              have h3 := own_len o3
              unfold maxLen at h1 h2 h3
              omega
            obtain ⟨hm9, hr9, hk9⟩ := hle
            clear hz hr sp sk sc
            go_wp2
            go_loopg [191] m9 (fun g s wr => ∃ t : Nat, g + t = m9 ∧ s = .int .i64 (t : Int) ∧ Zi w5 w5.heap.size t4.heap.size XS W.heap.size l9 p9 m9 c9 x9 k9 d9 q9 r9 e9 wr)
            case atStart => exact ⟨0, by omega, rfl, HI1.out⟩
            case round =>
              obtain ⟨t, hgt, rfl, hi⟩ := hrel
              obtain ⟨W2, rfl⟩ : ∃ x, x = wr := ⟨_, rfl⟩
              clear HI1 s0 s1 s2 s3
              obtain ⟨⟨s0, s1, s2, s3⟩, _⟩ := node_cells hi.box
              by_cases ht : t < m9
              · have hti : (t : Int) < (m9 : Int) := by omega
                obtain ⟨g1, cs, rfl, hB1, hBk, hln⟩ := hi.sp.at t ht
                obtain ⟨d1, f1⟩ := cell_at hBk (t * 2) (by omega)
                obtain ⟨d2, f2⟩ := cell_at hBk (t * 2 + 1) (by omega)
                have HNX := hide ((hi.set hBk hB1 (by decide) (t * 2) (.slice none 0 0)).set (hBk.set (t * 2) (.slice none 0 0)) hB1 (by decide) (t * 2 + 1) (.slice none 0 0))
                generalize cs[t * 2] = v1 at *
                generalize cs[t * 2 + 1] = v2 at *
                clear hi hBk
                go_wp2
                go_roundg (gk - 1)
                case measure => omega
                case rel => exact ⟨t + 1, by omega, by go_num, HNX.out⟩
              · have HI2 := hide hi
                clear hi
                go_wp2
                go_loopg [203] r9 (fun g s wr => ∃ t : Nat, g + t = r9 ∧ s = .int .i64 (t : Int) ∧ Zi w5 w5.heap.size t4.heap.size XS W.heap.size l9 p9 m9 c9 x9 k9 d9 q9 r9 e9 wr)
                case atStart => exact ⟨0, by omega, rfl, HI2.out⟩
                case round =>
                  obtain ⟨t, hgt, rfl, hi⟩ := hrel
                  obtain ⟨W3, rfl⟩ : ∃ x, x = wr := ⟨_, rfl⟩
                  clear HI2 s0 s1 s2 s3
                  obtain ⟨⟨s0, s1, s2, s3⟩, _⟩ := node_cells hi.box
                  by_cases ht : t < r9
                  · have hti : (t : Int) < (r9 : Int) := by omega
                    obtain ⟨g1, cs, rfl, hB1, hBk, hln⟩ := hi.sc.at t ht
                    obtain ⟨d1, f1⟩ := cell_at hBk t (by omega)
                    have HNX := hide (hi.set hBk hB1 (by decide) t (.int .i64 0))
                    generalize cs[t] = v1 at *
                    clear hi hBk
                    go_wp2
                    go_roundg (gk - 1)
                    case measure => omega
                    case rel => exact ⟨t + 1, by omega, by go_num, HNX.out⟩
                  · have HI3 := hide hi
                    clear hi
                    go_wp2
                    go_loopg [214] k9 (fun g s wr => ∃ t : Nat, g + t = k9 ∧ s = .int .i64 (t : Int) ∧ Zi w5 w5.heap.size t4.heap.size XS W.heap.size l9 p9 m9 c9 x9 k9 d9 q9 r9 e9 wr)
                    case atStart => exact ⟨0, by omega, rfl, HI3.out⟩
                    case round =>
                      obtain ⟨t, hgt, rfl, hi⟩ := hrel
                      obtain ⟨W4, rfl⟩ : ∃ x, x = wr := ⟨_, rfl⟩
                      clear HI3 s0 s1 s2 s3
                      obtain ⟨⟨s0, s1, s2, s3⟩, _⟩ := node_cells hi.box
                      by_cases ht : t < k9
                      · have hti : (t : Int) < (k9 : Int) := by omega
                        obtain ⟨g1, cs, rfl, hB1, hBk, hln⟩ := hi.sk.at t ht
                        obtain ⟨d1, f1⟩ := cell_at hBk t (by omega)
                        have HNX := hide (hi.set hBk hB1 (by decide) t (.slice none 0 0))
                        generalize cs[t] = v1 at *
                        clear hi hBk
                        go_wp2
                        go_roundg (gk - 1)
                        case measure => omega
                        case rel => exact ⟨t + 1, by omega, by go_num, HNX.out⟩
                      · have HI4 := hide hi.z
                        clear hi
                        go_wp2
                        go_roundg (GO - 1)
                        case measure => have := HGO.out; omega
                        case rel => exact ⟨j + 1, by have := HGO.out; omega, by go_num, HI4.out⟩
          · have hji : ¬ (j : Int) < 5 := by omega
            obtain ⟨⟨hn1, hn2⟩, hb1, hb2⟩ := HNW.out W hz.below
            have HSE := hide (HSM.out W _ _ n hn1 hn2)
            have HBE := hide (HBW.out.trans (hz.below.mono HBW.out.size))
            (try clear z0 z1 z2 z3)
            obtain ⟨⟨z0, z1, z2, z3⟩, _⟩ := node_cells hb1
            obtain ⟨⟨s0, s1, s2, s3⟩, _⟩ := node_cells hb2
            clear hz hn1 hn2 hb1 hb2
            go_wp2_with (go_at_call 17; refine HSE.out.mono ?_; rintro e w9 ⟨rfl, hb9⟩; have HB9 := hide hb9; clear HSE hb9)
            go_ret
            exact ⟨rfl, HBE.out.trans (HB9.out.mono HBE.out.size)⟩
      · have iL2 : (300 : Int) < (mv : Int) := by omega
        go_enter Try.func6, Try.ntmps6
        go_wp2_with (first
          | (go_at_call 9; refine (HFW1.out w2 HX2.out.below).mono ?_; rintro e w3 ⟨rfl, hb3⟩; have HX3 := hide (HX2.out.keep hb3); (try clear z0 z1 z2 z3); obtain ⟨⟨z0, z1, z2, z3⟩, _⟩ := node_cells (HX3.out.box _ (List.Mem.head _)); have HLV3 := hide (HLV.out w3); clear HFW1 hb3)
          | (go_at_call 8; refine HLV3.out.mono ?_; rintro e w4 ⟨rfl, hb4⟩; have HX4 := hide (HX3.out.keep hb4); clear HLV3 hb4)
          | (go_at_call 8; refine (HLV.out w1).mono ?_; rintro e w2 ⟨rfl, hb2⟩; have HX2 := hide (HX1.out.keep hb2); (try clear z0 z1 z2 z3); obtain ⟨⟨z0, z1, z2, z3⟩, _⟩ := node_cells (HX2.out.box _ (List.Mem.head _)); clear hb2))
        go_ret
        exact ⟨rfl, HX4.out.below⟩
    · have iL : (300 : Int) < (mk : Int) := by omega
      go_enter Try.func6, Try.ntmps6
      go_wp2_with (first
        | (go_at_call 9; refine (HFW1.out w2 HX2.out.below).mono ?_; rintro e w3 ⟨rfl, hb3⟩; have HX3 := hide (HX2.out.keep hb3); (try clear z0 z1 z2 z3); obtain ⟨⟨z0, z1, z2, z3⟩, _⟩ := node_cells (HX3.out.box _ (List.Mem.head _)); have HLV3 := hide (HLV.out w3); clear HFW1 hb3)
        | (go_at_call 8; refine HLV3.out.mono ?_; rintro e w4 ⟨rfl, hb4⟩; have HX4 := hide (HX3.out.keep hb4); clear HLV3 hb4)
        | (go_at_call 8; refine (HLV.out w1).mono ?_; rintro e w2 ⟨rfl, hb2⟩; have HX2 := hide (HX1.out.keep hb2); (try clear z0 z1 z2 z3); obtain ⟨⟨z0, z1, z2, z3⟩, _⟩ := node_cells (HX2.out.box _ (List.Mem.head _)); clear hb2))
      go_ret
      exact ⟨rfl, HX4.out.below⟩

end Go.Proofs.Ytoamdbjailpgdaa
