/- What the shelf's contracts of slices' functions ask of the program: laid, each fact by the kernel. -/
import Derived.Shelf.Lays
import Derived.Shelf.Lays2
import Derived.Test.YtmjkpgmmfooajaaOwn
namespace Go.Proofs.Ytmjkpgmmfooajaa
set_option maxRecDepth 20000
open Go.RowKit Go.Shelf
set_option maxRecDepth 1000000

def renClone : Ren := ⟨fun | 15 => 34 | n => n, fun | 3 => 3 | 4 => 4 | 22 => 32 | n => n, fun n => n⟩
theorem layClone : Lays2.n15 Try.prog renClone := {
  mixed := by kernel_rfl,
  f15 := by kernel_rfl,
  t3 := by kernel_rfl,
  a3 := fun _ => by kernel_rfl,
  z3 := fun _ => by kernel_rfl,
  v3 := fun _ => by kernel_rfl,
  t4 := by kernel_rfl,
  a4 := fun _ => by kernel_rfl,
  z4 := fun _ => by kernel_rfl,
  v4 := fun _ => by kernel_rfl,
  t22 := by kernel_rfl,
  a22 := fun _ => by kernel_rfl,
  z22 := fun _ => by kernel_rfl,
  v22 := fun _ => by kernel_rfl,
  i3 := by kernel_rfl }

def renEqual : Ren := ⟨fun | 111 => 30 | n => n, fun | 0 => 0 | 3 => 3 | 4 => 4 | 28 => 32 | n => n, fun n => n⟩
theorem layEqual : Lays.n111 Try.prog renEqual := {
  mixed := by kernel_rfl,
  f111 := by kernel_rfl,
  t0 := by kernel_rfl,
  a0 := fun _ => by kernel_rfl,
  z0 := fun _ => by kernel_rfl,
  v0 := fun _ => by kernel_rfl,
  t3 := by kernel_rfl,
  a3 := fun _ => by kernel_rfl,
  z3 := fun _ => by kernel_rfl,
  v3 := fun _ => by kernel_rfl,
  t4 := by kernel_rfl,
  a4 := fun _ => by kernel_rfl,
  z4 := fun _ => by kernel_rfl,
  v4 := fun _ => by kernel_rfl,
  t28 := by kernel_rfl,
  a28 := fun _ => by kernel_rfl,
  z28 := fun _ => by kernel_rfl,
  v28 := fun _ => by kernel_rfl }


end Go.Proofs.Ytmjkpgmmfooajaa
