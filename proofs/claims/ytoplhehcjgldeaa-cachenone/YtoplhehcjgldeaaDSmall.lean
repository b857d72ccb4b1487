/- Contracts: the small methods of package disk's device, over the struct's own cells. -/
import Derived.Test.YtoplhehcjgldeaaDBase
import Derived.Maps.OwnSet
namespace Go.Proofs.Ytoplhehcjgldeaa
open Go.RowKit
set_option linter.unusedVariables false

/-- the struct of a device -/
def DiskB (w : World) (b : Nat) (vs vw vm : Value) (on armed : Bool) (left ops : Int) : Prop := Blk w b 50 [vs, vw, vm, .bool on, .bool armed, .int .i64 left, .int .i64 ops]
abbrev dp (b : Nat) : Value := .pointer (some ⟨b, 0, none⟩)

section
variable {w : World} {b : Nat} {vs vw vm : Value} {on armed : Bool} {left ops : Int}
theorem DiskB.c0 (h : DiskB w b vs vw vm on armed left ops) : w.cell? ⟨b, 0, none⟩ = some vs := Blk.cell h 0
theorem DiskB.c1 (h : DiskB w b vs vw vm on armed left ops) : w.cell? ⟨b, 1, none⟩ = some vw := Blk.cell h 1
theorem DiskB.c2 (h : DiskB w b vs vw vm on armed left ops) : w.cell? ⟨b, 2, none⟩ = some vm := Blk.cell h 2
theorem DiskB.c3 (h : DiskB w b vs vw vm on armed left ops) : w.cell? ⟨b, 3, none⟩ = some (.bool on) := Blk.cell h 3
theorem DiskB.c4 (h : DiskB w b vs vw vm on armed left ops) : w.cell? ⟨b, 4, none⟩ = some (.bool armed) := Blk.cell h 4
theorem DiskB.c5 (h : DiskB w b vs vw vm on armed left ops) : w.cell? ⟨b, 5, none⟩ = some (.int .i64 left) := Blk.cell h 5
theorem DiskB.only {S : Nat → Prop} {w' : World} (h : DiskB w b vs vw vm on armed left ops) (ho : Only S w w') (hn : ¬ S b) : DiskB w' b vs vw vm on armed left ops := Blk.only h ho hn
theorem DiskB.c6 (h : DiskB w b vs vw vm on armed left ops) : w.cell? ⟨b, 6, none⟩ = some (.int .i64 ops) := Blk.cell h 6
end

theorem only_set2 (w : World) (b i j : Nat) (u v : Value) : Only (· = b) w ((w.setCell ⟨b, i, none⟩ u).setCell ⟨b, j, none⟩ v) := ((Only.refl (fun k => k = b) w).setCell ⟨b, i, none⟩ u (fun _ => rfl)).setCell ⟨b, j, none⟩ v (fun _ => rfl)

theorem made_nil (w : World) : Calls Try.prog 42 #[.pointer none] w fun e w' => e = .returned (.bool false) ∧ w' = w := by
  go_enter Try.func42, Try.ntmps42
  go_wp2
  go_ret
  exact ⟨rfl, rfl⟩

theorem made_any (w : World) (b n cap : Nat) (ao : Option Addr) (c0 : w.cell? ⟨b, 0, none⟩ = some (.slice ao n cap)) :
    Calls Try.prog 42 #[dp b] w fun e w' => e = .returned (.bool (decide (0 < n))) ∧ w' = w := by
  go_enter Try.func42, Try.ntmps42
  go_wp2
  go_ret
  exact ⟨ret_bool (by simp), rfl⟩

theorem has_yes (w : World) (b n cap : Nat) (ao : Option Addr) (p : Int) (c0 : w.cell? ⟨b, 0, none⟩ = some (.slice ao n cap)) (h0 : 0 ≤ p) (h1 : p < n) :
    Calls Try.prog 43 #[dp b, .int .i64 p] w fun e w' => e = .returned (.bool true) ∧ w' = w := by
  go_enter Try.func43, Try.ntmps43
  go_wp2
  go_ret
  exact ⟨rfl, rfl⟩

theorem has_no (w : World) (b n cap : Nat) (ao : Option Addr) (p : Int) (c0 : w.cell? ⟨b, 0, none⟩ = some (.slice ao n cap)) (h : ¬ (0 ≤ p ∧ p < n)) :
    Calls Try.prog 43 #[dp b, .int .i64 p] w fun e w' => e = .returned (.bool false) ∧ w' = w := by
  by_cases h0 : 0 ≤ p
  · have h1 : ¬ p < n := fun hh => h ⟨h0, hh⟩
    clear h
    go_enter Try.func43, Try.ntmps43
    go_wp2
    go_ret
    exact ⟨rfl, rfl⟩
  · clear h
    go_enter Try.func43, Try.ntmps43
    go_wp2
    go_ret
    exact ⟨rfl, rfl⟩

theorem powered_nil (w : World) : Calls Try.prog 38 #[.pointer none] w fun e w' => e = .returned (.int .i64 2) ∧ w' = w := by
  have HM := hide (made_nil w)
  go_enter Try.func38, Try.ntmps38
  go_wp2_with (go_at_call 42; refine HM.out.mono ?_; rintro e w1 ⟨rfl, hw⟩; subst w1; clear HM)
  go_ret
  exact ⟨rfl, rfl⟩
theorem powered_zero (w : World) (b cap : Nat) (ao : Option Addr) (c0 : w.cell? ⟨b, 0, none⟩ = some (.slice ao 0 cap)) : Calls Try.prog 38 #[dp b] w fun e w' => e = .returned (.int .i64 2) ∧ w' = w := by
  have HM := hide (made_any w b 0 cap ao c0)
  go_enter Try.func38, Try.ntmps38
  go_wp2_with (go_at_call 42; refine HM.out.mono ?_; rintro e w1 ⟨rfl, hw⟩; subst w1; clear HM)
  go_ret
  exact ⟨rfl, rfl⟩
theorem powered_any (w : World) (b n cap : Nat) (ao : Option Addr) (on : Bool) (c0 : w.cell? ⟨b, 0, none⟩ = some (.slice ao n cap)) (hn : 0 < n) (c3 : w.cell? ⟨b, 3, none⟩ = some (.bool on)) :
    Calls Try.prog 38 #[dp b] w fun e w' => e = .returned (.int .i64 (if on then 0 else 5)) ∧ w' = w := by
  have HM := made_any w b n cap ao c0
  rw [decide_eq_true hn] at HM
  have HM := hide HM
  cases on
  all_goals
    go_enter Try.func38, Try.ntmps38
    go_wp2_with (go_at_call 42; refine HM.out.mono ?_; rintro e w1 ⟨rfl, hw⟩; subst w1; clear HM)
    go_ret
    exact ⟨rfl, rfl⟩

/-- what a write or a sync leaves of the struct -/
theorem spend_dark (w : World) (b : Nat) (vs vw vm : Value) (on : Bool) (ops : Int) (h : DiskB w b vs vw vm on true 0 ops) :
    Calls Try.prog 39 #[dp b] w fun e w' => e = .returned (.int .i64 5) ∧ DiskB w' b vs vw vm false true 0 ops ∧ Only (· = b) w w' := by
  have c4 := h.c4
  have c5 := h.c5
  have c3 := h.c3
  have f3 := Blk.frozen h 3
  go_enter Try.func39, Try.ntmps39
  go_wp2
  go_ret
  exact ⟨rfl, Blk.set h 3 _, (Only.refl _ _).setCell _ _ (fun _ => rfl)⟩
theorem spend_armed (w : World) (b : Nat) (vs vw vm : Value) (on : Bool) (left ops : Int) (h : DiskB w b vs vw vm on true left ops) (hl : 0 < left) (hl2 : left ≤ 9223372036854775807) (ho : 0 ≤ ops) (ho2 : ops < 9000000000000000000) :
    Calls Try.prog 39 #[dp b] w fun e w' => e = .returned (.int .i64 0) ∧ DiskB w' b vs vw vm on true (left - 1) (ops + 1) ∧ Only (· = b) w w' := by
  have c4 := h.c4
  have c5 := h.c5
  have c6 := h.c6
  have f5 := Blk.frozen h 5
  have f6 := Blk.frozen h 6
  have hne : (left == 0) = false := by simp; omega
  go_enter Try.func39, Try.ntmps39
  go_wp2
  go_ret
  exact ⟨rfl, (Blk.set h 5 _).set 6 _, only_set2 w b 5 6 _ _⟩
theorem spend_calm (w : World) (b : Nat) (vs vw vm : Value) (on : Bool) (left ops : Int) (h : DiskB w b vs vw vm on false left ops) (ho : 0 ≤ ops) (ho2 : ops < 9000000000000000000) :
    Calls Try.prog 39 #[dp b] w fun e w' => e = .returned (.int .i64 0) ∧ DiskB w' b vs vw vm on false left (ops + 1) ∧ Only (· = b) w w' := by
  have c4 := h.c4
  have c6 := h.c6
  have f6 := Blk.frozen h 6
  go_enter Try.func39, Try.ntmps39
  go_wp2
  go_ret
  exact ⟨rfl, Blk.set h 6 _, (Only.refl _ _).setCell _ _ (fun _ => rfl)⟩

/-- 'clear' of a map -/
theorem run_clear_map {P : Program} (w : World) (t ty k e : TypeId) (ht : P.underlying t = some (.map k e)) (mb : Nat) (es : Array MapEntry) (clock : Nat) (hm : w.heap[mb]? = some (.map es clock)) :
    (Builtin.clear_ #[t] ty #[.map (some mb)]).run P w = .ok (.tuple #[]) (ChangeMaps.setBlock w mb (.map #[] clock)) := by
  simp [Builtin.clear_, run_underlying ht, MapKept.run_getObj_map hm, MapKept.run_setObj_map _ hm, Result.andThen, ChangeMaps.setBlock]
theorem wpList_clear_run {P : Program} (w : World) {ops : Array Oper} {rest : List Oper} {o : Oper} {a : Act} {Q : Exit → Act → World → Prop} (hgd : o.guard = none) (x : Operand) (t : TypeId)
    (ho : o.op = .call { callee := .builtin .clear, args := #[x], argTypes := #[t] }) (v : Value) (hx : a.eval x = v) (w' : World)
    (hr : (Builtin.clear_ #[t] o.type #[v]).run P w = .ok (.tuple #[]) w') (h : wpList P ops Q rest (a.put o.dst (.tuple #[])) w') : wpList P ops Q (o :: rest) a w := by
  refine wpList_plain hgd fun _ hK => ?_
  unfold Oper.wp execOp
  simp only [ho, resolve, invoke, builtin, Sem.run_bind, Sem.run_pure, Result.andThen_ok, List.map_toArray, List.map_cons, List.map_nil, hx, hr]
  exact hK _ _ h
theorem Only.setMap {S : Nat → Prop} {a w : World} (h : Only S a w) (g : Nat) (es : Array MapEntry) (clock : Nat) (es' : Array MapEntry) (clock' : Nat) (hg : w.heap[g]? = some (.map es clock)) (hp : g < a.heap.size → S g) : Only S a (ChangeMaps.setBlock w g (.map es' clock')) :=
  h.trans (T := fun k => k = g) ⟨rfl, rfl, rfl, by simp [ChangeMaps.setBlock], fun k _ hn => ChangeMaps.heap_setBlock_other hg _ hn⟩ (fun i hi e => by subst e; exact hp hi)
theorem Blk.setMap {w : World} {b : Nat} {e : TypeId} {cs : List Value} (h : Blk w b e cs) {g : Nat} {es : Array MapEntry} {clock : Nat} (hg : w.heap[g]? = some (.map es clock)) (o : Obj) : Blk (ChangeMaps.setBlock w g o) b e cs := by
  have hne : b ≠ g := by
    rintro rfl
    have := h.symm.trans hg
    simp at this
  exact (ChangeMaps.heap_setBlock_other hg _ hne).trans h


set_option maxRecDepth 100000 in
set_option maxHeartbeats 400000 in
theorem waitForNothing_any (w : World) (b mb : Nat) (vs vw : Value) (on armed : Bool) (left ops : Int) (es : Array MapEntry) (clock : Nat) (h : DiskB w b vs vw (.map (some mb)) on armed left ops) (hm : w.heap[mb]? = some (.map es clock)) :
    Calls Try.prog 40 #[dp b] w fun e w' => e = .returned (.tuple #[]) ∧ DiskB w' b vs (.slice none 0 0) (.map (some mb)) on armed left ops ∧ w'.heap[mb]? = some (.map #[] clock) ∧ Only (fun k => k = b ∨ k = mb) w w' := by
  have c1 := h.c1
  have c2 := h.c2
  have f1 := Blk.frozen h 1
  have hne : mb ≠ b := by
    rintro rfl
    have := (show w.heap[mb]? = _ from h).symm.trans hm
    simp at this
  have hm1 : (w.setCell ⟨b, 1, none⟩ (.slice none 0 0)).heap[mb]? = some (.map es clock) := (Below.heap_setCell w ⟨b, 1, none⟩ _ mb hne).trans hm
  have HR := hide (run_clear_map (P := Try.prog) _ 48 0 3 3 Try.underlying48 mb es clock hm1)
  have HM := hide hm1
  have HH := hide h
  clear hm hm1 h
  go_enter Try.func40, Try.ntmps40
  go_wp2_with (refine wpList_clear_run _ rfl (.tmp 8) 48 rfl _ rfl _ HR.out ?_)
  go_end0
  exact ⟨rfl, (Blk.set HH.out 1 _).setMap HM.out _, ChangeMaps.heap_setBlock_same HM.out _, ((Only.refl _ w).setCell ⟨b, 1, none⟩ _ (fun _ => .inl rfl)).setMap mb es clock _ _ HM.out (fun _ => .inr rfl)⟩


end Go.Proofs.Ytoplhehcjgldeaa
