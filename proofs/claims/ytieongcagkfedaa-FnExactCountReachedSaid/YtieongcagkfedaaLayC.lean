/- The contracts of the library at this program: the table of numbers and one theorem each. -/
import Derived.Shelf.Spec.SlicesInsert
import Derived.Shelf.Slices.Cells
import Derived.Test.YtieongcagkfedaaProg
namespace Go.Proofs
open Go.Shelf
def Ytieongcagkfedaa.insLay_ren : Go.Shelf.Ren := ⟨fun | 21 => 152 | 27 => 154 | 28 => 155 | 35 => 156 | 39 => 94 | n => n, fun | 22 => 22 | 3 => 3 | 4 => 4 | 0 => 0 | n => n, fun | n => n⟩
theorem Ytieongcagkfedaa.insLay : Go.Proofs.Lays2.n21 Try.prog Ytieongcagkfedaa.insLay_ren := {
  mixed := by kernel_rfl
  f21 := Try.func152.trans (congrArg some (by kernel_rfl))
  f27 := Try.func154.trans (congrArg some (by kernel_rfl))
  f28 := Try.func155.trans (congrArg some (by kernel_rfl))
  f35 := Try.func156.trans (congrArg some (by kernel_rfl))
  f39 := Try.func94.trans (congrArg some (by kernel_rfl))
  t0 := Try.underlying0
  a0 := Try.isAgg0
  z0 := Try.sizeOf0
  v0 := Try.zeroValue0
  t3 := Try.underlying3
  a3 := Try.isAgg3
  z3 := Try.sizeOf3
  v3 := Try.zeroValue3
  t4 := Try.underlying4
  a4 := Try.isAgg4
  z4 := Try.sizeOf4
  v4 := Try.zeroValue4
  t22 := Try.underlying22
  a22 := Try.isAgg22
  z22 := Try.sizeOf22
  v22 := Try.zeroValue22
  i3 := by kernel_rfl }
def Ytieongcagkfedaa.delLay_ren : Go.Shelf.Ren := ⟨fun | 23 => 151 | n => n, fun | 22 => 22 | 3 => 3 | 4 => 4 | 0 => 0 | n => n, fun | n => n⟩
theorem Ytieongcagkfedaa.delLay : Go.Proofs.Lays2.n23 Try.prog Ytieongcagkfedaa.delLay_ren := {
  mixed := by kernel_rfl
  f23 := Try.func151.trans (congrArg some (by kernel_rfl))
  t0 := Try.underlying0
  a0 := Try.isAgg0
  z0 := Try.sizeOf0
  v0 := Try.zeroValue0
  t3 := Try.underlying3
  a3 := Try.isAgg3
  z3 := Try.sizeOf3
  v3 := Try.zeroValue3
  t4 := Try.underlying4
  a4 := Try.isAgg4
  z4 := Try.sizeOf4
  v4 := Try.zeroValue4
  t22 := Try.underlying22
  a22 := Try.isAgg22
  z22 := Try.sizeOf22
  v22 := Try.zeroValue22
  i3 := by kernel_rfl }
end Go.Proofs
