/- Contracts: the small methods of package disk's device, over the struct's own cells. -/
import Derived.Test.YtoplhehcjgldeaaGreatDBase
import Derived.Maps.OwnSet
namespace Go.Proofs.YtoplhehcjgldeaaGreat
open Go.RowKit
set_option linter.unusedVariables false

/-- the struct of a device -/
def DiskB (w : World) (b : Nat) (vs vw vm : Value) (on armed : Bool) (left ops : Int) : Prop := Blk w b 55 [vs, vw, vm, .bool on, .bool armed, .int .i64 left, .int .i64 ops]
abbrev dp (b : Nat) : Value := .pointer (some ⟨b, 0, none⟩)

section
variable {w : World} {b : Nat} {vs vw vm : Value} {on armed : Bool} {left ops : Int}
theorem DiskB.c0 (h : DiskB w b vs vw vm on armed left ops) : w.cell? ⟨b, 0, none⟩ = some vs := Blk.cell h 0
theorem DiskB.c1 (h : DiskB w b vs vw vm on armed left ops) : w.cell? ⟨b, 1, none⟩ = some vw := Blk.cell h 1
theorem DiskB.c2 (h : DiskB w b vs vw vm on armed left ops) : w.cell? ⟨b, 2, none⟩ = some vm := Blk.cell h 2
theorem DiskB.c3 (h : DiskB w b vs vw vm on armed left ops) : w.cell? ⟨b, 3, none⟩ = some (.bool on) := Blk.cell h 3
theorem DiskB.c4 (h : DiskB w b vs vw vm on armed left ops) : w.cell? ⟨b, 4, none⟩ = some (.bool armed) := Blk.cell h 4
theorem DiskB.c5 (h : DiskB w b vs vw vm on armed left ops) : w.cell? ⟨b, 5, none⟩ = some (.int .i64 left) := Blk.cell h 5
theorem DiskB.only {S : Nat → Prop} {w' : World} (h : DiskB w b vs vw vm on armed left ops) (ho : Only S w w') (hn : ¬ S b) : DiskB w' b vs vw vm on armed left ops := Blk.only h ho hn
theorem DiskB.c6 (h : DiskB w b vs vw vm on armed left ops) : w.cell? ⟨b, 6, none⟩ = some (.int .i64 ops) := Blk.cell h 6
end

theorem only_set2 (w : World) (b i j : Nat) (u v : Value) : Only (· = b) w ((w.setCell ⟨b, i, none⟩ u).setCell ⟨b, j, none⟩ v) := ((Only.refl (fun k => k = b) w).setCell ⟨b, i, none⟩ u (fun _ => rfl)).setCell ⟨b, j, none⟩ v (fun _ => rfl)

theorem made_nil (w : World) : Calls Tryz.prog 47 #[.pointer none] w fun e w' => e = .returned (.bool false) ∧ w' = w := by
  go_enter Tryz.func47, Tryz.ntmps47
  go_wp2
  go_ret
  exact ⟨rfl, rfl⟩

theorem made_any (w : World) (b n cap : Nat) (ao : Option Addr) (c0 : w.cell? ⟨b, 0, none⟩ = some (.slice ao n cap)) :
    Calls Tryz.prog 47 #[dp b] w fun e w' => e = .returned (.bool (decide (0 < n))) ∧ w' = w := by
  go_enter Tryz.func47, Tryz.ntmps47
  go_wp2
  go_ret
  exact ⟨ret_bool (by simp), rfl⟩

theorem has_yes (w : World) (b n cap : Nat) (ao : Option Addr) (p : Int) (c0 : w.cell? ⟨b, 0, none⟩ = some (.slice ao n cap)) (h0 : 0 ≤ p) (h1 : p < n) :
    Calls Tryz.prog 48 #[dp b, .int .i64 p] w fun e w' => e = .returned (.bool true) ∧ w' = w := by
  go_enter Tryz.func48, Tryz.ntmps48
  go_wp2
  go_ret
  exact ⟨rfl, rfl⟩

theorem has_no (w : World) (b n cap : Nat) (ao : Option Addr) (p : Int) (c0 : w.cell? ⟨b, 0, none⟩ = some (.slice ao n cap)) (h : ¬ (0 ≤ p ∧ p < n)) :
    Calls Tryz.prog 48 #[dp b, .int .i64 p] w fun e w' => e = .returned (.bool false) ∧ w' = w := by
  by_cases h0 : 0 ≤ p
  · have h1 : ¬ p < n := fun hh => h ⟨h0, hh⟩
    clear h
    go_enter Tryz.func48, Tryz.ntmps48
    go_wp2
    go_ret
    exact ⟨rfl, rfl⟩
  · clear h
    go_enter Tryz.func48, Tryz.ntmps48
    go_wp2
    go_ret
    exact ⟨rfl, rfl⟩

theorem powered_nil (w : World) : Calls Tryz.prog 69 #[.pointer none] w fun e w' => e = .returned (.int .i64 2) ∧ w' = w := by
  have HM := hide (made_nil w)
  go_enter Tryz.func69, Tryz.ntmps69
  go_wp2_with (go_at_call 47; refine HM.out.mono ?_; rintro e w1 ⟨rfl, hw⟩; subst w1; clear HM)
  go_ret
  exact ⟨rfl, rfl⟩
theorem powered_zero (w : World) (b cap : Nat) (ao : Option Addr) (c0 : w.cell? ⟨b, 0, none⟩ = some (.slice ao 0 cap)) : Calls Tryz.prog 69 #[dp b] w fun e w' => e = .returned (.int .i64 2) ∧ w' = w := by
  have HM := hide (made_any w b 0 cap ao c0)
  go_enter Tryz.func69, Tryz.ntmps69
  go_wp2_with (go_at_call 47; refine HM.out.mono ?_; rintro e w1 ⟨rfl, hw⟩; subst w1; clear HM)
  go_ret
  exact ⟨rfl, rfl⟩
theorem powered_any (w : World) (b n cap : Nat) (ao : Option Addr) (on : Bool) (c0 : w.cell? ⟨b, 0, none⟩ = some (.slice ao n cap)) (hn : 0 < n) (c3 : w.cell? ⟨b, 3, none⟩ = some (.bool on)) :
    Calls Tryz.prog 69 #[dp b] w fun e w' => e = .returned (.int .i64 (if on then 0 else 5)) ∧ w' = w := by
  have HM := made_any w b n cap ao c0
  rw [decide_eq_true hn] at HM
  have HM := hide HM
  cases on
  all_goals
    go_enter Tryz.func69, Tryz.ntmps69
    go_wp2_with (go_at_call 47; refine HM.out.mono ?_; rintro e w1 ⟨rfl, hw⟩; subst w1; clear HM)
    go_ret
    exact ⟨rfl, rfl⟩

/-- what a write or a sync leaves of the struct -/
theorem spend_dark (w : World) (b : Nat) (vs vw vm : Value) (on : Bool) (ops : Int) (h : DiskB w b vs vw vm on true 0 ops) :
    Calls Tryz.prog 70 #[dp b] w fun e w' => e = .returned (.int .i64 5) ∧ DiskB w' b vs vw vm false true 0 ops ∧ Only (· = b) w w' := by
  have c4 := h.c4
  have c5 := h.c5
  have c3 := h.c3
  have f3 := Blk.frozen h 3
  go_enter Tryz.func70, Tryz.ntmps70
  go_wp2
  go_ret
  exact ⟨rfl, Blk.set h 3 _, (Only.refl _ _).setCell _ _ (fun _ => rfl)⟩
theorem spend_armed (w : World) (b : Nat) (vs vw vm : Value) (on : Bool) (left ops : Int) (h : DiskB w b vs vw vm on true left ops) (hl : 0 < left) (hl2 : left ≤ 9223372036854775807) (ho : 0 ≤ ops) (ho2 : ops < 9000000000000000000) :
    Calls Tryz.prog 70 #[dp b] w fun e w' => e = .returned (.int .i64 0) ∧ DiskB w' b vs vw vm on true (left - 1) (ops + 1) ∧ Only (· = b) w w' := by
  have c4 := h.c4
  have c5 := h.c5
  have c6 := h.c6
  have f5 := Blk.frozen h 5
  have f6 := Blk.frozen h 6
  have hne : (left == 0) = false := by simp; omega
  go_enter Tryz.func70, Tryz.ntmps70
  go_wp2
  go_ret
  exact ⟨rfl, (Blk.set h 5 _).set 6 _, only_set2 w b 5 6 _ _⟩
theorem spend_calm (w : World) (b : Nat) (vs vw vm : Value) (on : Bool) (left ops : Int) (h : DiskB w b vs vw vm on false left ops) (ho : 0 ≤ ops) (ho2 : ops < 9000000000000000000) :
    Calls Tryz.prog 70 #[dp b] w fun e w' => e = .returned (.int .i64 0) ∧ DiskB w' b vs vw vm on false left (ops + 1) ∧ Only (· = b) w w' := by
  have c4 := h.c4
  have c6 := h.c6
  have f6 := Blk.frozen h 6
  go_enter Tryz.func70, Tryz.ntmps70
  go_wp2
  go_ret
  exact ⟨rfl, Blk.set h 6 _, (Only.refl _ _).setCell _ _ (fun _ => rfl)⟩

/-- 'clear' of a map -/
theorem run_clear_map {P : Program} (w : World) (t ty k e : TypeId) (ht : P.underlying t = some (.map k e)) (mb : Nat) (es : Array MapEntry) (clock : Nat) (hm : w.heap[mb]? = some (.map es clock)) :
    (Builtin.clear_ #[t] ty #[.map (some mb)]).run P w = .ok (.tuple #[]) (ChangeMaps.setBlock w mb (.map #[] clock)) := by
  simp [Builtin.clear_, run_underlying ht, MapKept.run_getObj_map hm, MapKept.run_setObj_map _ hm, Result.andThen, ChangeMaps.setBlock]
theorem wpList_clear_run {P : Program} (w : World) {ops : Array Oper} {rest : List Oper} {o : Oper} {a : Act} {Q : Exit → Act → World → Prop} (hgd : o.guard = none) (x : Operand) (t : TypeId)
    (ho : o.op = .call { callee := .builtin .clear, args := #[x], argTypes := #[t] }) (v : Value) (hx : a.eval x = v) (w' : World)
    (hr : (Builtin.clear_ #[t] o.type #[v]).run P w = .ok (.tuple #[]) w') (h : wpList P ops Q rest (a.put o.dst (.tuple #[])) w') : wpList P ops Q (o :: rest) a w := by
  refine wpList_plain hgd fun _ hK => ?_
  unfold Oper.wp execOp
  simp only [ho, resolve, invoke, builtin, Sem.run_bind, Sem.run_pure, Result.andThen_ok, List.map_toArray, List.map_cons, List.map_nil, hx, hr]
  exact hK _ _ h
theorem Only.setMap {S : Nat → Prop} {a w : World} (h : Only S a w) (g : Nat) (es : Array MapEntry) (clock : Nat) (es' : Array MapEntry) (clock' : Nat) (hg : w.heap[g]? = some (.map es clock)) (hp : g < a.heap.size → S g) : Only S a (ChangeMaps.setBlock w g (.map es' clock')) :=
  h.trans (T := fun k => k = g) ⟨rfl, rfl, rfl, by simp [ChangeMaps.setBlock], fun k _ hn => ChangeMaps.heap_setBlock_other hg _ hn⟩ (fun i hi e => by subst e; exact hp hi)
theorem Blk.setMap {w : World} {b : Nat} {e : TypeId} {cs : List Value} (h : Blk w b e cs) {g : Nat} {es : Array MapEntry} {clock : Nat} (hg : w.heap[g]? = some (.map es clock)) (o : Obj) : Blk (ChangeMaps.setBlock w g o) b e cs := by
  have hne : b ≠ g := by
    rintro rfl
    have := h.symm.trans hg
    simp at this
  exact (ChangeMaps.heap_setBlock_other hg _ hne).trans h

theorem disarm_any (w : World) (b : Nat) (vs vw vm : Value) (on armed : Bool) (left ops : Int) (h : DiskB w b vs vw vm on armed left ops) :
    Calls Tryz.prog 83 #[dp b] w fun e w' => e = .returned (.tuple #[]) ∧ DiskB w' b vs vw vm on false 0 ops ∧ Only (· = b) w w' := by
  have c4 := h.c4
  have c5 := h.c5
  have f4 := Blk.frozen h 4
  have f5 := Blk.frozen h 5
  go_enter Tryz.func83, Tryz.ntmps83
  go_wp2
  go_end0
  exact ⟨rfl, (Blk.set h 4 _).set 5 _, only_set2 w b 4 5 _ _⟩

set_option maxRecDepth 100000 in
set_option maxHeartbeats 400000 in
theorem waitForNothing_any (w : World) (b mb : Nat) (vs vw : Value) (on armed : Bool) (left ops : Int) (es : Array MapEntry) (clock : Nat) (h : DiskB w b vs vw (.map (some mb)) on armed left ops) (hm : w.heap[mb]? = some (.map es clock)) :
    Calls Tryz.prog 71 #[dp b] w fun e w' => e = .returned (.tuple #[]) ∧ DiskB w' b vs (.slice none 0 0) (.map (some mb)) on armed left ops ∧ w'.heap[mb]? = some (.map #[] clock) ∧ Only (fun k => k = b ∨ k = mb) w w' := by
  have c1 := h.c1
  have c2 := h.c2
  have f1 := Blk.frozen h 1
  have hne : mb ≠ b := by
    rintro rfl
    have := (show w.heap[mb]? = _ from h).symm.trans hm
    simp at this
  have hm1 : (w.setCell ⟨b, 1, none⟩ (.slice none 0 0)).heap[mb]? = some (.map es clock) := (Below.heap_setCell w ⟨b, 1, none⟩ _ mb hne).trans hm
  have HR := hide (run_clear_map (P := Tryz.prog) _ 52 0 3 3 Tryz.underlying52 mb es clock hm1)
  have HM := hide hm1
  have HH := hide h
  clear hm hm1 h
  go_enter Tryz.func71, Tryz.ntmps71
  go_wp2_with (refine wpList_clear_run _ rfl (.tmp 8) 52 rfl _ rfl _ HR.out ?_)
  go_end0
  exact ⟨rfl, (Blk.set HH.out 1 _).setMap HM.out _, ChangeMaps.heap_setBlock_same HM.out _, ((Only.refl _ w).setCell ⟨b, 1, none⟩ _ (fun _ => .inl rfl)).setMap mb es clock _ _ HM.out (fun _ => .inr rfl)⟩

set_option maxHeartbeats 400000 in
theorem restart_any (w : World) (b mb : Nat) (vs vw : Value) (on armed : Bool) (left ops : Int) (es : Array MapEntry) (clock : Nat) (h : DiskB w b vs vw (.map (some mb)) on armed left ops) (hm : w.heap[mb]? = some (.map es clock)) :
    Calls Tryz.prog 73 #[dp b] w fun e w' => e = .returned (.tuple #[]) ∧ DiskB w' b vs (.slice none 0 0) (.map (some mb)) true false 0 ops ∧ w'.heap[mb]? = some (.map #[] clock) ∧ Only (fun k => k = b ∨ k = mb) w w' := by
  have HW := hide (waitForNothing_any w b mb vs vw on armed left ops es clock h hm)
  clear hm h
  go_enter Tryz.func73, Tryz.ntmps73
  go_wp2_with (first
    | (go_at_call 71; refine HW.out.mono ?_; rintro e w1 ⟨rfl, h1, hm1, ho1⟩; have c3 := h1.c3; have f3 := Blk.frozen h1 3; have HH := hide h1; have HM := hide hm1; clear HW h1 hm1)
    | (go_at_call 83; refine (disarm_any _ b vs (.slice none 0 0) (.map (some mb)) true armed left ops (Blk.set HH.out 3 _)).mono ?_; rintro e w2 ⟨rfl, h2, ho2⟩))
  go_end0
  have hne : mb ≠ b := by
    rintro rfl
    have := (show w1.heap[mb]? = _ from HH.out).symm.trans HM.out
    simp at this
  have hm2 := (Below.heap_setCell w1 ⟨b, 3, none⟩ (.bool true) mb hne).trans HM.out
  refine ⟨rfl, h2, (ho2.block mb (Array.getElem?_eq_some_iff.1 hm2).1 hne).trans hm2, ?_⟩
  exact (ho1.setCell ⟨b, 3, none⟩ _ (fun _ => .inl rfl)).trans ho2 (fun i _ hi => .inl hi)

end Go.Proofs.YtoplhehcjgldeaaGreat
/- A device: what the document says of it ('Dv'), and how package disk's struct, rows and map hold it ('Dev'). -/
namespace Go.Proofs.YtoplhehcjgldeaaGreat
open Go.RowKit
set_option linter.unusedVariables false

/-! ### what the document says -/
structure Dv where
  st : List (List Int)
  ws : List (Nat × List Int)
  off : Bool
  left : Option Nat
  done : Nat

def PageOk (r : List Int) : Prop := r.length = 256 ∧ ByteOk r
structure DvOk (d : Dv) : Prop where
  pos : 0 < d.st.length
  few : d.st.length ≤ 2048
  st : ∀ r ∈ d.st, PageOk r
  ws : ∀ x ∈ d.ws, x.1 < d.st.length ∧ PageOk x.2
  left : ∀ n, d.left = some n → n ≤ 9223372036854775807

/-- where the last write of a page stands -/
def lastIx : List (Nat × List Int) → Nat → Option Nat
  | [], _ => none
  | x :: r, p => match lastIx r p with
    | some i => some (i + 1)
    | none => if x.1 = p then some 0 else none
theorem lastIx_snoc (x : Nat × List Int) (p : Nat) : ∀ ws : List (Nat × List Int), lastIx (ws ++ [x]) p = if x.1 = p then some ws.length else lastIx ws p
  | [] => by simp [lastIx]
  | y :: r => by
    rw [List.cons_append, lastIx, lastIx_snoc x p r, lastIx]
    by_cases h : x.1 = p <;> simp [h]
theorem lastIx_lt : ∀ (ws : List (Nat × List Int)) (p i : Nat), lastIx ws p = some i → ∃ h : i < ws.length, ws[i].1 = p
  | [], _, _, h => by simp [lastIx] at h
  | x :: r, p, i, h => by
    rw [lastIx] at h
    cases hr : lastIx r p with
    | some j =>
      rw [hr] at h
      obtain rfl := Option.some.inj h
      obtain ⟨h1, h2⟩ := lastIx_lt r p j hr
      exact ⟨by simp; omega, by simpa using h2⟩
    | none =>
      rw [hr] at h
      by_cases hx : x.1 = p
      · simp [hx] at h; subst h; exact ⟨by simp, by simpa using hx⟩
      · simp [hx] at h

def wAt (ws : List (Nat × List Int)) (i : Nat) : Nat × List Int := ws.getD i (0, [])
theorem wAt_lt {ws : List (Nat × List Int)} {i : Nat} (h : i < ws.length) : wAt ws i = ws[i] := by simp [wAt, List.getD, h]
def sAt (st : List (List Int)) (p : Nat) : List Int := st.getD p []
theorem sAt_lt {st : List (List Int)} {i : Nat} (h : i < st.length) : sAt st i = st[i] := by simp [sAt, List.getD, h]

/-- what a page shows -/
def showsD (d : Dv) (p : Nat) : List Int := match lastIx d.ws p with
  | some i => (wAt d.ws i).2
  | none => sAt d.st p

def spendE (d : Dv) : Int := match d.left with
  | some 0 => 5
  | _ => 0
def spendD (d : Dv) : Dv := match d.left with
  | some 0 => { d with off := true }
  | some (n + 1) => { d with left := some n, done := d.done + 1 }
  | none => { d with done := d.done + 1 }

theorem DvOk.row {d : Dv} (h : DvOk d) {p : Nat} (hp : p < d.st.length) : PageOk (sAt d.st p) := by rw [sAt_lt hp]; exact h.st _ (List.getElem_mem hp)
theorem DvOk.wait {d : Dv} (h : DvOk d) {i : Nat} (hi : i < d.ws.length) : (wAt d.ws i).1 < d.st.length ∧ PageOk (wAt d.ws i).2 := by rw [wAt_lt hi]; exact h.ws _ (List.getElem_mem hi)
theorem DvOk.shows {d : Dv} (h : DvOk d) {p : Nat} (hp : p < d.st.length) : PageOk (showsD d p) := by
  unfold showsD
  split
  · rename_i i hi
    exact (h.wait (lastIx_lt _ _ _ hi).1).2
  · exact h.row hp
theorem DvOk.spend {d : Dv} (h : DvOk d) : DvOk (spendD d) := by
  unfold spendD
  split
  · exact ⟨h.pos, h.few, h.st, h.ws, h.left⟩
  · rename_i n hn
    exact ⟨h.pos, h.few, h.st, h.ws, fun m hm => by simp at hm; have := h.left _ hn; omega⟩
  · exact ⟨h.pos, h.few, h.st, h.ws, h.left⟩

/-! ### how it lies in memory -/
def pc (r : List Int) : List Value := r.map (Value.int .u8)
def wc (x : Nat × List Int) : List Value := .int .i64 x.1 :: pc x.2
def flatS (st : List (List Int)) : List Value := (st.map pc).flatten
def flatW (ws : List (Nat × List Int)) : List Value := (ws.map wc).flatten
theorem pc_len (r : List Int) : (pc r).length = r.length := by simp [pc]
theorem wc_len (x : Nat × List Int) : (wc x).length = x.2.length + 1 := by simp [wc, pc_len]
theorem pc_one (r : List Int) : ∀ v ∈ pc r, v.oneCell' = true := oneCell_bytes r
theorem wc_one (x : Nat × List Int) : ∀ v ∈ wc x, v.oneCell' = true := by
  intro v hv
  rcases List.mem_cons.1 hv with rfl | h
  · rfl
  · exact pc_one _ v h
theorem rows_pc {st : List (List Int)} (h : ∀ r ∈ st, PageOk r) : ∀ r ∈ st.map pc, r.length = 256 := by
  intro r hr
  obtain ⟨x, hx, rfl⟩ := List.mem_map.1 hr
  rw [pc_len]; exact (h x hx).1
theorem rows_wc {ws : List (Nat × List Int)} (h : ∀ x ∈ ws, PageOk x.2) : ∀ r ∈ ws.map wc, r.length = 257 := by
  intro r hr
  obtain ⟨x, hx, rfl⟩ := List.mem_map.1 hr
  rw [wc_len, (h x hx).1]
theorem flatS_get {st : List (List Int)} (h : ∀ r ∈ st, PageOk r) {p : Nat} (hp : p < st.length) (j : Nat) (hj : j < (pc (sAt st p)).length) : (flatS st)[p * 256 + j]? = (pc (sAt st p))[j]? := by
  have h1 : j < 256 := by rw [pc_len, sAt_lt hp, (h _ (List.getElem_mem hp)).1] at hj; exact hj
  have := flat_get (st.map pc) p (by simpa using hp) (rows_pc h) j h1
  unfold flatS
  rw [this, sAt_lt hp]
  simp
theorem flatW_get {ws : List (Nat × List Int)} (h : ∀ x ∈ ws, PageOk x.2) {i : Nat} (hi : i < ws.length) (j : Nat) (hj : j < (wc (wAt ws i)).length) : (flatW ws)[i * 257 + j]? = (wc (wAt ws i))[j]? := by
  have h1 : j < 257 := by rw [wc_len, wAt_lt hi, (h _ (List.getElem_mem hi)).1] at hj; exact hj
  have := flat_get (ws.map wc) i (by simpa using hi) (rows_wc h) j h1
  unfold flatW
  rw [this, wAt_lt hi]
  simp
theorem flatW_bytes {ws : List (Nat × List Int)} (h : ∀ x ∈ ws, PageOk x.2) {i : Nat} (hi : i < ws.length) (j : Nat) (hj : j < (pc (wAt ws i).2).length) : (flatW ws)[i * 257 + 1 + j]? = (pc (wAt ws i).2)[j]? := by
  have := flatW_get h hi (j + 1) (by rw [wc_len]; rw [pc_len] at hj; omega)
  rw [show i * 257 + 1 + j = i * 257 + (j + 1) by omega, this]
  simp [wc]
theorem flatS_set {st : List (List Int)} (h : ∀ r ∈ st, PageOk r) {p : Nat} (hp : p < st.length) (r : List Int) (hr : r.length = 256) : flatS (st.set p r) = splice (flatS st) (p * 256) (pc r) := by
  unfold flatS
  rw [List.map_set, flat_set (st.map pc) p (pc r) (by simpa using hp) (rows_pc h) (by rw [pc_len]; exact hr)]
theorem flatS_part {st : List (List Int)} (h : ∀ r ∈ st, PageOk r) {p : Nat} (hp : p < st.length) (r : List Int) (hr : r.length ≤ 256) : splice (flatS st) (p * 256) (pc r) = flatS (st.set p (r ++ (sAt st p).drop r.length)) := by
  unfold flatS
  rw [flat_part (st.map pc) p (pc r) (by simpa using hp) (rows_pc h) (by rw [pc_len]; exact hr), List.map_set, sAt_lt hp]
  simp [pc]
theorem flatS_len {st : List (List Int)} (h : ∀ r ∈ st, PageOk r) : (flatS st).length = st.length * 256 := by
  unfold flatS
  rw [flat_len (st.map pc) (rows_pc h)]; simp
theorem flatW_snoc (ws : List (Nat × List Int)) (x : Nat × List Int) : flatW (ws ++ [x]) = flatW ws ++ wc x := by simp [flatW]

/-- what the map of last writes says -/
def Shown (D : DataW Unit) (ws : List (Nat × List Int)) : Prop := ∀ p : Nat, Maps.has D (.int .i64 p) = (lastIx ws p).isSome ∧ ∀ i, lastIx ws p = some i → D.atKey (.int .i64 p) (.lit (.int .i64 0)) = .lit (.int .i64 i)
theorem shown_nil : Shown (.map []) [] := fun p => ⟨rfl, fun i hi => by simp [lastIx] at hi⟩
theorem shown_snoc {D : DataW Unit} {ws : List (Nat × List Int)} (h : Shown D ws) (hD : Maps.IsMap D) (x : Nat × List Int) : Shown (D.put (.int .i64 x.1) (.lit (.int .i64 ws.length))) (ws ++ [x]) := by
  intro p
  rw [lastIx_snoc]
  by_cases hp : x.1 = p
  · subst hp
    rw [if_pos rfl]
    refine ⟨?_, fun i hi => ?_⟩
    · rw [Maps.has_put_same hD (show WideAt.IsKeyLit (Lit.int .i64 (x.1 : Int)) from trivial)]; rfl
    · obtain rfl := Option.some.inj hi
      exact Maps.atKey_put_same hD (show WideAt.IsKeyLit (Lit.int .i64 (x.1 : Int)) from trivial) _ _
  · have hne : (Lit.int .i64 (p : Int)) ≠ .int .i64 (x.1 : Int) := by intro e; simp at e; omega
    rw [if_neg hp]
    refine ⟨?_, fun i hi => ?_⟩
    · rw [Maps.has_put_other hne]; exact (h p).1
    · rw [Maps.atKey_put_other hne]; exact (h p).2 i hi

/-- the device d lies at block b; its blocks are in F -/
structure DevAt (w : World) (b : Nat) (F : Nat → Prop) (d : Dv) (sb cap mb : Nat) (vw : Value) (lf : Int) (D : DataW Unit) : Prop where
  ok : DvOk d
  blk : DiskB w b (.slice (some ⟨sb, 0, none⟩) d.st.length cap) vw (.map (some mb)) (!d.off) d.left.isSome lf d.done
  lf : ∀ n : Nat, d.left = some n → lf = n
  st : w.ownsRow 0 85 256 (.slice (some ⟨sb, 0, none⟩) d.st.length cap) d.st.length (flatS d.st)
  ws : w.ownsRow 0 88 257 vw d.ws.length (flatW d.ws)
  map : w.ownsMap Tryz.prog 3 (plainElem Tryz.prog 3) mb d.ws.length D
  shown : Shown D d.ws
  fb : F b
  fs : F sb
  fm : F mb
  fw : ∀ k, vw.ownBlock = some k → F k
def Dev (w : World) (b : Nat) (F : Nat → Prop) (d : Dv) : Prop := ∃ sb cap mb vw lf D, DevAt w b F d sb cap mb vw lf D

theorem own_form {w : World} {base : Nat} {e : TypeId} {size n : Nat} {v : Value} {xs : List Value} (h : w.ownsRow base e size v n xs) :
    (v = .slice none 0 0 ∧ n = 0) ∨ ∃ g cap, v = .slice (some ⟨g, 0, none⟩) n cap := by
  rcases h.2 with h | ⟨g, cap, cur, h, _⟩
  · exact .inl h
  · exact .inr ⟨g, cap, h⟩
theorem Dev.keep {S : Nat → Prop} {w w' : World} {b : Nat} {F : Nat → Prop} {d : Dv} (h : Dev w b F d) (ho : Only S w w') (hn : ∀ k, F k → ¬ S k) : Dev w' b F d := by
  obtain ⟨sb, cap, mb, vw, lf, D, h⟩ := h
  exact ⟨sb, cap, mb, vw, lf, D, h.ok, Blk.only h.blk ho (hn b h.fb), h.lf, ownsRow_only h.st ho (fun k hk => by simp [Value.ownBlock] at hk; subst hk; exact hn _ h.fs), ownsRow_only h.ws ho (fun k hk => hn k (h.fw k hk)), ownsMap_only h.map ho (hn _ h.fm), h.shown, h.fb, h.fs, h.fm, h.fw⟩
theorem Dev.mono {w : World} {b : Nat} {F G : Nat → Prop} {d : Dv} (h : Dev w b F d) (hG : ∀ k, k < w.heap.size → F k → G k) : Dev w b G d := by
  obtain ⟨sb, cap, mb, vw, lf, D, h⟩ := h
  exact ⟨sb, cap, mb, vw, lf, D, h.ok, h.blk, h.lf, h.st, h.ws, h.map, h.shown, hG b (Blk.lt h.blk) h.fb, hG _ (h.st.lt sb rfl).2 h.fs, hG _ h.map.lt h.fm, fun k hk => hG k (h.ws.lt k hk).2 (h.fw k hk)⟩
theorem Dev.bound {w : World} {b : Nat} {F : Nat → Prop} {d : Dv} (h : Dev w b F d) : Dev w b (fun k => F k ∧ k < w.heap.size) d := h.mono (fun k hk hf => ⟨hf, hk⟩)
theorem Dev.ok {w : World} {b : Nat} {F : Nat → Prop} {d : Dv} (h : Dev w b F d) : DvOk d := by
  obtain ⟨_, _, _, _, _, _, h⟩ := h
  exact h.ok
theorem DevAt.sb_ne {w : World} {b : Nat} {F : Nat → Prop} {d : Dv} {sb cap mb : Nat} {vw : Value} {lf : Int} {D : DataW Unit} (h : DevAt w b F d sb cap mb vw lf D) : sb ≠ b := by
  obtain ⟨_, _, _, _, sp, hB, _⟩ := own_blk h.st
  exact Blk.ne hB h.blk (by decide)
theorem DevAt.wb_ne {w : World} {b : Nat} {F : Nat → Prop} {d : Dv} {sb cap mb : Nat} {vw : Value} {lf : Int} {D : DataW Unit} (h : DevAt w b F d sb cap mb vw lf D) (k : Nat) (hk : vw.ownBlock = some k) : k ≠ b ∧ k ≠ sb := by
  rcases own_form h.ws with ⟨rfl, _⟩ | ⟨g, c, rfl⟩
  · simp [Value.ownBlock] at hk
  · simp [Value.ownBlock] at hk
    subst hk
    obtain ⟨_, _, _, _, sp, hB, _⟩ := own_blk h.ws
    obtain ⟨_, _, _, _, sp', hB', _⟩ := own_blk h.st
    exact ⟨Blk.ne hB h.blk (by decide), Blk.ne hB hB' (by decide)⟩
theorem DevAt.mb_ne {w : World} {b : Nat} {F : Nat → Prop} {d : Dv} {sb cap mb : Nat} {vw : Value} {lf : Int} {D : DataW Unit} (h : DevAt w b F d sb cap mb vw lf D) : mb ≠ b ∧ mb ≠ sb ∧ vw.ownBlock ≠ some mb := by
  obtain ⟨es, clock, hm, _⟩ := h.map
  have key : ∀ {k : Nat} {e : TypeId} {cs : List Value}, Blk w k e cs → mb ≠ k := by
    rintro k e cs hB rfl
    have := (show w.heap[mb]? = _ from hB).symm.trans hm
    simp at this
  refine ⟨key h.blk, ?_, ?_⟩
  · obtain ⟨_, _, _, _, sp, hB, _⟩ := own_blk h.st
    exact key hB
  · intro hk
    rcases own_form h.ws with ⟨rfl, _⟩ | ⟨g, c, rfl⟩
    · simp [Value.ownBlock] at hk
    · simp [Value.ownBlock] at hk
      obtain ⟨_, _, _, _, sp, hB, _⟩ := own_blk h.ws
      exact key hB hk.symm

end Go.Proofs.YtoplhehcjgldeaaGreat
/- Contract: a new device. -/
namespace Go.Proofs.YtoplhehcjgldeaaGreat
open Go.RowKit
set_option linter.unusedVariables false

def zeroPage : List Int := List.replicate 256 0
def newD (n : Nat) : Dv := ⟨List.replicate n zeroPage, [], false, none, 0⟩
def pageZero : Array Value := Array.replicate 256 (.int .u8 0)
theorem zeroPage_ok : PageOk zeroPage := ⟨List.length_replicate, fun z hz => by rw [(List.mem_replicate.1 hz).2]; omega⟩
theorem newD_ok {n : Nat} (h : 0 < n) (h2 : n ≤ 2048) : DvOk (newD n) :=
  ⟨by simpa [newD] using h, by simpa [newD] using h2, fun r hr => by
    obtain rfl := (List.mem_replicate.1 hr).2
    exact zeroPage_ok, (fun x hx => by cases hx), (fun m hm => by cases hm)⟩

theorem infoPage : (Tryz.prog.info? 85).map (fun i => (i.zero, i.size, i.bytes)) = some (some (.agg pageZero), 256, 256) := by kernel_rfl

theorem flatS_zero (n : Nat) : flatS (List.replicate n zeroPage) = List.replicate (n * 256) (Value.int .u8 0) := by
  apply List.eq_replicate_iff.2
  constructor
  · rw [flatS_len (fun r hr => by obtain rfl := (List.mem_replicate.1 hr).2; exact zeroPage_ok)]; simp
  · intro v hv
    unfold flatS at hv
    obtain ⟨l, hl, hv⟩ := List.mem_flatten.1 hv
    obtain ⟨r, hr, rfl⟩ := List.mem_map.1 hl
    obtain rfl := (List.mem_replicate.1 hr).2
    unfold pc at hv
    obtain ⟨z, hz, rfl⟩ := List.mem_map.1 hv
    rw [(List.mem_replicate.1 hz).2]
theorem madeCells_rep (m : Nat) (z : Value) (hm : 0 < m) (n : Nat) : (madeCells (Array.replicate m z) n).toList = List.replicate n z := by
  apply List.eq_replicate_iff.2
  constructor
  · simp [madeCells]
  · intro v hv
    simp only [madeCells, Array.mem_toList_iff, Array.mem_map] at hv
    obtain ⟨i, _, rfl⟩ := hv
    have : i % m < m := Nat.mod_lt _ hm
    simp [this]
theorem made_page (n : Nat) : (madeCells (Value.agg pageZero).cells (n * 256)).toList = flatS (List.replicate n zeroPage) := by
  rw [flatS_zero]
  exact madeCells_rep 256 _ (by decide) _

theorem new_bad (w : World) (p : Int) (h : p < 8 ∨ 2048 < p) : Calls Tryz.prog 4 #[.int .i64 p] w fun e w' => e = .returned (.tuple #[.pointer none, .int .i64 1]) ∧ w' = w := by
  by_cases h1 : p < 8
  · go_enter Tryz.func4, Tryz.ntmps4
    go_wp2
    go_ret2
    exact ⟨rfl, rfl⟩
  · have h2 : 2048 < p := by omega
    clear h
    go_enter Tryz.func4, Tryz.ntmps4
    go_wp2
    go_ret2
    exact ⟨rfl, rfl⟩

set_option maxHeartbeats 400000 in
theorem new_ok (w : World) (n : Nat) (h1 : 8 ≤ n) (h2 : n ≤ 2048) : Calls Tryz.prog 4 #[.int .i64 n] w fun e w' => ∃ b, e = .returned (.tuple #[dp b, .int .i64 0]) ∧ Dev w' b (fun k => w.heap.size ≤ k) (newD n) ∧ Below w.heap.size w w' := by
  obtain ⟨i0, hi, hz0, hz1, hz2⟩ := info_parts infoPage
  have i1 : ¬ (n : Int) < 8 := by omega
  have i2 : ¬ (2048 : Int) < (n : Int) := by omega
  have hmm := @run_makeMap Tryz.prog
  go_enter Tryz.func4, Tryz.ntmps4
  go_wp2_with (at_make; refine wpList_make_full _ rfl _ _ 51 rfl 0 85 i0 (.agg pageZero) 256 Tryz.underlying51 hi hz0 hz1 _ _ _ _ n rfl rfl rfl rfl (by rw [hz2]; omega) (by unfold maxLen; omega) (Nat.zero_le _) ?_; intro w1 hown hg; rw [made_page] at hown; have HO := hide hown; clear hown)
  go_ret2
  have hs := hg.size
  have hlt := (HO.out.lt w.heap.size rfl).2
  have e : (newD n).st.length = n := List.length_replicate
  refine ⟨w1.heap.size + 1, rfl, ⟨w.heap.size, n, w1.heap.size, .slice none 0 0, 0, .map [], newD_ok (by omega) h2, ?_, (fun m hm => by cases hm), ?_, World.ownsRow_nil _ _ _ _, ?_, shown_nil, ?_, Nat.le_refl _, hs, (fun k hk => by cases hk)⟩, ?_⟩
  · rw [e]
    have := Blk.new (w1.alloc (.map #[] 0)) 55 [.slice (some ⟨w.heap.size, 0, none⟩) n n, .slice none 0 0, .map (some w1.heap.size), .bool true, .bool false, .int .i64 0, .int .i64 0]
    rw [World.size_alloc] at this
    exact this
  · rw [e]
    exact (HO.out.alloc _).alloc _
  · exact (World.ownsMap_made w1 Tryz.prog 3 (plainElem Tryz.prog 3)).alloc _
  · show w.heap.size ≤ w1.heap.size + 1
    omega
  · exact (((Below.refl _ w).grown hg (Nat.le_refl _) (fun k hk => by cases hk)).alloc hs _).alloc (by simp; omega) _

end Go.Proofs.YtoplhehcjgldeaaGreat
