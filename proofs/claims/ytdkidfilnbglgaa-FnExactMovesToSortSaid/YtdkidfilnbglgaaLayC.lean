/- The contracts of the library at this program: the table of numbers and one theorem each. -/
import Derived.Shelf.Spec.SlicesInsert
import Derived.Shelf.Slices.Cells
import Derived.Test.YtdkidfilnbglgaaProg
namespace Go.Proofs
open Go.Shelf
def Ytdkidfilnbglgaa.insLay_ren : Go.Shelf.Ren := ⟨fun | 21 => 151 | 27 => 190 | 28 => 191 | 35 => 216 | 39 => 217 | n => n, fun | 22 => 22 | 3 => 3 | 4 => 4 | 0 => 0 | n => n, fun | n => n⟩
theorem Ytdkidfilnbglgaa.insLay : Go.Proofs.Lays2.n21 Try.prog Ytdkidfilnbglgaa.insLay_ren := {
  mixed := by kernel_rfl
  f21 := Try.func151.trans (congrArg some (by kernel_rfl))
  f27 := Try.func190.trans (congrArg some (by kernel_rfl))
  f28 := Try.func191.trans (congrArg some (by kernel_rfl))
  f35 := Try.func216.trans (congrArg some (by kernel_rfl))
  f39 := Try.func217.trans (congrArg some (by kernel_rfl))
  t0 := Try.underlying0
  a0 := Try.isAgg0
  z0 := Try.sizeOf0
  v0 := Try.zeroValue0
  t3 := Try.underlying3
  a3 := Try.isAgg3
  z3 := Try.sizeOf3
  v3 := Try.zeroValue3
  t4 := Try.underlying4
  a4 := Try.isAgg4
  z4 := Try.sizeOf4
  v4 := Try.zeroValue4
  t22 := Try.underlying22
  a22 := Try.isAgg22
  z22 := Try.sizeOf22
  v22 := Try.zeroValue22
  i3 := by kernel_rfl }
def Ytdkidfilnbglgaa.delLay_ren : Go.Shelf.Ren := ⟨fun | 23 => 150 | n => n, fun | 22 => 22 | 3 => 3 | 4 => 4 | 0 => 0 | n => n, fun | n => n⟩
theorem Ytdkidfilnbglgaa.delLay : Go.Proofs.Lays2.n23 Try.prog Ytdkidfilnbglgaa.delLay_ren := {
  mixed := by kernel_rfl
  f23 := Try.func150.trans (congrArg some (by kernel_rfl))
  t0 := Try.underlying0
  a0 := Try.isAgg0
  z0 := Try.sizeOf0
  v0 := Try.zeroValue0
  t3 := Try.underlying3
  a3 := Try.isAgg3
  z3 := Try.sizeOf3
  v3 := Try.zeroValue3
  t4 := Try.underlying4
  a4 := Try.isAgg4
  z4 := Try.sizeOf4
  v4 := Try.zeroValue4
  t22 := Try.underlying22
  a22 := Try.isAgg22
  z22 := Try.sizeOf22
  v22 := Try.zeroValue22
  i3 := by kernel_rfl }
end Go.Proofs
