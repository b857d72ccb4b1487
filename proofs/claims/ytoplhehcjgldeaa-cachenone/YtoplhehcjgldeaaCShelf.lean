/- What the shelf's contracts of slices' functions ask of the program: laid, each fact by the kernel. -/
import Derived.Shelf.Lays
import Derived.Shelf.Lays2
import Derived.Test.YtoplhehcjgldeaaOwn
namespace Go.Proofs.Ytoplhehcjgldeaa
open Go.RowKit Go.Shelf
set_option maxRecDepth 1000000

def renIndex : Ren := ⟨fun | 108 => 61 | n => n, fun | 0 => 0 | 3 => 3 | 4 => 4 | 28 => 38 | n => n, fun n => n⟩
theorem layIndex : Lays.n108 Try.prog renIndex := {
  mixed := by kernel_rfl,
  f108 := by kernel_rfl,
  t0 := by kernel_rfl,
  a0 := fun _ => by kernel_rfl,
  z0 := fun _ => by kernel_rfl,
  v0 := fun _ => by kernel_rfl,
  t3 := by kernel_rfl,
  a3 := fun _ => by kernel_rfl,
  z3 := fun _ => by kernel_rfl,
  v3 := fun _ => by kernel_rfl,
  t4 := by kernel_rfl,
  a4 := fun _ => by kernel_rfl,
  z4 := fun _ => by kernel_rfl,
  v4 := fun _ => by kernel_rfl,
  t28 := by kernel_rfl,
  a28 := fun _ => by kernel_rfl,
  z28 := fun _ => by kernel_rfl,
  v28 := fun _ => by kernel_rfl }

def renDelete : Ren := ⟨fun | 23 => 62 | n => n, fun | 0 => 0 | 3 => 3 | 4 => 4 | 22 => 38 | n => n, fun n => n⟩
theorem layDelete : Lays2.n23 Try.prog renDelete := {
  mixed := by kernel_rfl,
  f23 := by kernel_rfl,
  t0 := by kernel_rfl,
  a0 := fun _ => by kernel_rfl,
  z0 := fun _ => by kernel_rfl,
  v0 := fun _ => by kernel_rfl,
  t3 := by kernel_rfl,
  a3 := fun _ => by kernel_rfl,
  z3 := fun _ => by kernel_rfl,
  v3 := fun _ => by kernel_rfl,
  t4 := by kernel_rfl,
  a4 := fun _ => by kernel_rfl,
  z4 := fun _ => by kernel_rfl,
  v4 := fun _ => by kernel_rfl,
  t22 := by kernel_rfl,
  a22 := fun _ => by kernel_rfl,
  z22 := fun _ => by kernel_rfl,
  v22 := fun _ => by kernel_rfl,
  i3 := by kernel_rfl }

def renClone : Ren := ⟨fun | 15 => 45 | n => n, fun | 3 => 3 | 4 => 4 | 22 => 38 | n => n, fun n => n⟩
theorem layClone : Lays2.n15 Try.prog renClone := {
  mixed := by kernel_rfl,
  f15 := by kernel_rfl,
  t3 := by kernel_rfl,
  a3 := fun _ => by kernel_rfl,
  z3 := fun _ => by kernel_rfl,
  v3 := fun _ => by kernel_rfl,
  t4 := by kernel_rfl,
  a4 := fun _ => by kernel_rfl,
  z4 := fun _ => by kernel_rfl,
  v4 := fun _ => by kernel_rfl,
  t22 := by kernel_rfl,
  a22 := fun _ => by kernel_rfl,
  z22 := fun _ => by kernel_rfl,
  v22 := fun _ => by kernel_rfl,
  i3 := by kernel_rfl }

def renReverse : Ren := ⟨fun | 112 => 46 | n => n, fun | 0 => 0 | 3 => 3 | 4 => 4 | 28 => 38 | n => n, fun n => n⟩
theorem layReverse : Lays.n112 Try.prog renReverse := {
  mixed := by kernel_rfl,
  f112 := by kernel_rfl,
  t0 := by kernel_rfl,
  a0 := fun _ => by kernel_rfl,
  z0 := fun _ => by kernel_rfl,
  v0 := fun _ => by kernel_rfl,
  t3 := by kernel_rfl,
  a3 := fun _ => by kernel_rfl,
  z3 := fun _ => by kernel_rfl,
  v3 := fun _ => by kernel_rfl,
  t4 := by kernel_rfl,
  a4 := fun _ => by kernel_rfl,
  z4 := fun _ => by kernel_rfl,
  v4 := fun _ => by kernel_rfl,
  t28 := by kernel_rfl,
  a28 := fun _ => by kernel_rfl,
  z28 := fun _ => by kernel_rfl,
  v28 := fun _ => by kernel_rfl }

end Go.Proofs.Ytoplhehcjgldeaa
