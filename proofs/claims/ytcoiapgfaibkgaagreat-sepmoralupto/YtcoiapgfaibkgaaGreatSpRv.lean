/-
  Proved here: a contract of the library (slices.Reverse) at this program: laid by the shelf's own tool, in its plain mode.
-/
import Derived.Shelf.Slices.Reverse
import Derived.Test.YtcoiapgfaibkgaaGreatProg
namespace Go.Proofs
open Go.Shelf
def Tryz.revA_ren : Go.Shelf.Ren := ⟨fun | 112 => 69 | n => n, fun | 28 => 23 | 3 => 3 | 4 => 4 | 0 => 0 | n => n, fun | n => n⟩
theorem Tryz.revA : Go.Proofs.Lays.n112 Tryz.prog Tryz.revA_ren := {
  mixed := by kernel_rfl
  f112 := Tryz.func69.trans (congrArg some (by kernel_rfl))
  t0 := Tryz.underlying0
  a0 := Tryz.isAgg0
  z0 := Tryz.sizeOf0
  v0 := Tryz.zeroValue0
  t3 := Tryz.underlying3
  a3 := Tryz.isAgg3
  z3 := Tryz.sizeOf3
  v3 := Tryz.zeroValue3
  t4 := Tryz.underlying4
  a4 := Tryz.isAgg4
  z4 := Tryz.sizeOf4
  v4 := Tryz.zeroValue4
  t28 := Tryz.underlying23
  a28 := Tryz.isAgg23
  z28 := Tryz.sizeOf23
  v28 := Tryz.zeroValue23 }
end Go.Proofs
