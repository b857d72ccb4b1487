/- Cuts of a slice of bytes that is read: b[l:h], b[:h], b[l:], as run equations whose values show their form. -/
import Derived.Test.YtimmfnjkknbofaaDoorOwn
namespace Go.Proofs.YtimmfnjkknbofaaDoor
set_option maxRecDepth 20000
open Go.RowKit

theorem sl_take' {w : World} {ao : Option Addr} {zs : List Int} {cap : Nat} (n : Nat) (h : Sl w (.slice ao zs.length cap) zs) (hn : n ≤ zs.length) : Sl w (.slice ao (zs.take n).length cap) (zs.take n) := by
  have := sl_take n h hn
  rwa [show (zs.take n).length = n by simp; omega]
theorem sl_drop0' {w : World} {ao : Option Addr} {zs : List Int} {cap : Nat} (n : Nat) (h : Sl w (.slice ao zs.length cap) zs) (hn : n ≤ zs.length) (hc : cap = n) : Sl w (.slice ao (zs.drop n).length 0) (zs.drop n) := by
  have := sl_cut0 n h hn hc
  rwa [show (zs.drop n).length = zs.length - n by simp]
theorem sl_drop' {w : World} {ao : Option Addr} {zs : List Int} {cap : Nat} (n : Nat) (h : Sl w (.slice ao zs.length cap) zs) (hn : n ≤ zs.length) : Sl w (.slice (Option.map (fun x => x.add n) ao) (zs.drop n).length (cap - n)) (zs.drop n) := by
  have := sl_cut n h hn
  rwa [show (zs.drop n).length = zs.length - n by simp]
theorem sl_cap {w : World} {ao : Option Addr} {n cap : Nat} {zs : List Int} (S : Sl w (.slice ao n cap) zs) : n = zs.length ∧ zs.length ≤ cap ∧ cap ≤ maxLen := by
  obtain ⟨_, ao', cap', he, h', h2, _⟩ := S
  simp at he
  exact ⟨he.2.1, by omega, by omega⟩

theorem tySl : Tryd.prog.underlying 26 = some (.slice (Tryd.prog.elem 26)) := by kernel_rfl
theorem szSl (wx : World) : (Go.sizeOf (Tryd.prog.elem 26)).run Tryd.prog wx = .ok 1 wx := by kernel_rfl

/-- b[l:h] -/
theorem cut_lh (w : World) (ao : Option Addr) (zs : List Int) (cap l h : Nat) (S : Sl w (.slice ao zs.length cap) zs) (h1 : l ≤ h) (h2 : h ≤ zs.length) :
    ∃ a' c', (∀ wx, (Instr.slice 26 (.slice ao zs.length cap) (some (.int .i64 l)) (some (.int .i64 h)) none).run Tryd.prog wx = .ok (.slice a' ((zs.take h).drop l).length c') wx) ∧
      ∀ wx, Sl wx (.slice ao zs.length cap) zs → Sl wx (.slice a' ((zs.take h).drop l).length c') ((zs.take h).drop l) := by
  have hle := (sl_cap S).2.1
  have hlen : ((zs.take h).drop l).length = h - l := by simp; omega
  have hlt : l ≤ (zs.take h).length := by simp; omega
  by_cases hc : cap = l
  · refine ⟨ao, 0, fun wx => ?_, fun wx hS => sl_drop0' l (sl_take' h hS h2) hlt hc⟩
    rw [run_slice_lh wx 26 ao zs.length cap tySl .i64 .i64 l h (by omega) (by omega) (by omega), szSl]
    simp only [Result.andThen, sliced, Int.toNat_natCast]
    rw [if_pos hc, hlen, show cap - l = 0 by omega]
  · refine ⟨Option.map (fun x => x.add l) ao, cap - l, fun wx => ?_, fun wx hS => sl_drop' l (sl_take' h hS h2) hlt⟩
    rw [run_slice_lh wx 26 ao zs.length cap tySl .i64 .i64 l h (by omega) (by omega) (by omega), szSl]
    simp only [Result.andThen, sliced, Int.toNat_natCast]
    rw [if_neg hc, hlen, Nat.mul_one]

/-- b[l:] -/
theorem cut_l (w : World) (ao : Option Addr) (zs : List Int) (cap l : Nat) (S : Sl w (.slice ao zs.length cap) zs) (h1 : l ≤ zs.length) :
    ∃ a' c', (∀ wx, (Instr.slice 26 (.slice ao zs.length cap) (some (.int .i64 l)) none none).run Tryd.prog wx = .ok (.slice a' (zs.drop l).length c') wx) ∧
      ∀ wx, Sl wx (.slice ao zs.length cap) zs → Sl wx (.slice a' (zs.drop l).length c') (zs.drop l) := by
  have hle := (sl_cap S).2.1
  have hlen : (zs.drop l).length = zs.length - l := by simp
  by_cases hc : cap = l
  · refine ⟨ao, 0, fun wx => ?_, fun wx hS => sl_drop0' l hS h1 hc⟩
    rw [run_slice_l wx 26 ao zs.length cap tySl .i64 l (by omega) (by omega), szSl]
    simp only [Result.andThen, sliced, Int.toNat_natCast]
    rw [if_pos hc, hlen, show cap - l = 0 by omega]
  · refine ⟨Option.map (fun x => x.add l) ao, cap - l, fun wx => ?_, fun wx hS => sl_drop' l hS h1⟩
    rw [run_slice_l wx 26 ao zs.length cap tySl .i64 l (by omega) (by omega), szSl]
    simp only [Result.andThen, sliced, Int.toNat_natCast]
    rw [if_neg hc, hlen, Nat.mul_one]

/-- b[:h] -/
theorem cut_h (w : World) (ao : Option Addr) (zs : List Int) (cap h : Nat) (S : Sl w (.slice ao zs.length cap) zs) (h2 : h ≤ zs.length) :
    ∃ a' c', (∀ wx, (Instr.slice 26 (.slice ao zs.length cap) none (some (.int .i64 h)) none).run Tryd.prog wx = .ok (.slice a' (zs.take h).length c') wx) ∧
      ∀ wx, Sl wx (.slice ao zs.length cap) zs → Sl wx (.slice a' (zs.take h).length c') (zs.take h) := by
  have hle := (sl_cap S).2.1
  have hlen : (zs.take h).length = h := by simp; omega
  refine ⟨ao, cap, fun wx => ?_, fun wx hS => sl_take' h hS h2⟩
  rw [run_slice_h wx 26 ao zs.length cap tySl .i64 h (by omega) (by omega), szSl]
  simp only [Result.andThen, sliced, Int.toNat_natCast]
  rw [hlen]
  by_cases hc : cap = 0
  · rw [if_pos hc]; rfl
  · rw [if_neg hc]
    cases ao with
    | none => rfl
    | some x => simp [Addr.add]

end Go.Proofs.YtimmfnjkknbofaaDoor
