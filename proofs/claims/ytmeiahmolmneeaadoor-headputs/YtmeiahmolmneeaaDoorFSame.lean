/- Contract: whether two frames are the same, but for noughts at the end of what they bear (frame.Same). -/
import Derived.Test.YtmeiahmolmneeaaDoorFShort
import Derived.Stop.BytesEq
namespace Go.Proofs.YtmeiahmolmneeaaDoor
set_option maxRecDepth 20000
open Go.RowKit
set_option linter.unusedVariables false

def u8s (zs : List Int) : List UInt8 := zs.map (fun z => UInt8.ofNat z.toNat)
theorem pc_u8s {zs : List Int} (h : ByteOk zs) : pc zs = (u8s zs).map Extern.Stop.cell := by
  unfold pc u8s
  rw [List.map_map]
  apply List.map_congr_left
  intro z hz
  have := h z hz
  simp only [Function.comp_def, Extern.Stop.cell, UInt8.toNat_ofNat']
  rw [Nat.mod_eq_of_lt (by omega)]
  exact congrArg (Value.int .u8) (Int.toNat_of_nonneg this.1).symm
theorem u8s_inj {xs ys : List Int} (hx : ByteOk xs) (hy : ByteOk ys) : u8s xs = u8s ys ↔ xs = ys := by
  constructor
  · intro h
    have hl : xs.length = ys.length := by simpa [u8s] using congrArg List.length h
    apply List.ext_getElem hl
    intro i h1 h2
    have := congrArg (fun l : List UInt8 => l[i]?) h
    simp [u8s, h1, h2] at this
    have a := hx xs[i] (List.getElem_mem h1)
    have b := hy ys[i] (List.getElem_mem h2)
    have := congrArg UInt8.toNat this
    simp at this
    omega
  · intro h; rw [h]
theorem sizeByte (w : World) : (Go.sizeOf 5).run Tryd.prog w = .ok 1 w := by kernel_rfl
theorem undLoad : Tryd.prog.underlying 79 = some (.array 240 5) := Tryd.underlying79
theorem guardLoad : Tryd.prog.eqGuardType Tryd.prog.depth 79 = false := by kernel_rfl
/-- two loads as arrays -/
theorem run_neq_load (w : World) (xs ys : List Int) (hx : ByteOk xs) (hy : ByteOk ys) (lx : xs.length = 240) (ly : ys.length = 240) :
    (binOp .neq 79 (.agg (pc xs).toArray) (.agg (pc ys).toArray)).run Tryd.prog w = .ok (.bool (!decide (xs = ys))) w := by
  rw [pc_u8s hx, pc_u8s hy, run_neq_struct, run_equalIn_bytes w 9998 79 5 240 undLoad Tryd.underlying5 sizeByte (u8s xs) (u8s ys) (by simpa [u8s] using lx) (by simpa [u8s] using ly)]
  simp only [Result.andThen_ok]
  congr 3
  rw [Bool.eq_iff_iff]
  simp [u8s_inj hx hy]
theorem exec_neq_agg {P : Program} {o : Oper} {a : Act} {w : World} (t t' : TypeId) (x y : Operand) (ho : o.op = .binOp .neq t x y t') (xs ys : Array Value) (hx : a.eval x = .agg xs) (hy : a.eval y = .agg ys) (hm : P.eqGuardType P.depth t = false) (b : Bool)
    (hr : (binOp .neq t (.agg xs) (.agg ys)).run P w = .ok (.bool b) w) : (execOp a.eval o).run P w = .ok (.value (.bool b)) w := by
  unfold execOp
  simp only [ho, hx, hy, Sem.run_bind, run_eqGuard_agg w .neq t x y xs ys hm, Result.andThen_ok, hr, Sem.run_pure]

def sameB (k p : Int) (e : Nat) (xs : List Int) (k' p' : Int) (e' : Nat) (ys : List Int) : Bool := decide (k = k' ∧ p = p' ∧ e = e' ∧ trimD xs = trimD ys)

/-- what the loads up to a place tell -/
theorem load_same (xs ys : List Int) (o : Nat) : loadS xs o = loadS ys o ↔ ∀ i, i < 240 → xs.getD (o + i) 0 = ys.getD (o + i) 0 := by
  constructor
  · intro h i hi
    rw [← loadS_getD xs o i hi, ← loadS_getD ys o i hi, h]
  · intro h
    apply List.ext_getElem (by rw [loadS_len, loadS_len])
    intro i h1 h2
    rw [loadS_len] at h1
    have := h i h1
    rw [← loadS_getD xs o i h1, ← loadS_getD ys o i h1] at this
    rwa [getD_lt _ (by rw [loadS_len]; exact h1), getD_lt _ (by rw [loadS_len]; exact h1)] at this

theorem load_call (w wx : World) (a : Option Addr) (n c : Nat) (zs : List Int) (at' : Nat) (h : Sl w (.slice a n c) zs) (hz : zs.length ≤ 1000000) (ha : at' ≤ 10000000) (hb : Below w.heap.size w wx) (F : Value → World → Prop) (hF : ∀ w', F (.agg (pc (loadS zs at')).toArray) w') :
    Calls Tryd.prog 52 #[.slice a n c, .int .i64 at'] wx fun e w' => ∃ v, e = .returned v ∧ Below wx.heap.size wx w' ∧ F v w' := by
  refine (loadFrom_any wx _ zs at' (h.below hb) hz ha).mono ?_
  rintro e w' ⟨rfl, hb2⟩
  exact ⟨_, rfl, hb2, hF w'⟩

end Go.Proofs.YtmeiahmolmneeaaDoor
