/- What the rows of this seat ask of the head of the translation. -/
import Derived.Test.YtfbadpabefdleabRows
import Derived.Test.YtfbadpabefdleabHdLib
namespace Go.Proofs.Ytfbadpabefdleab.hd
open Go.PanHd
def front : List Char := [Char.ofNat 104, Char.ofNat 97, Char.ofNat 114, Char.ofNat 110, Char.ofNat 101, Char.ofNat 115, Char.ofNat 115, Char.ofNat 32, Char.ofNat 57, Char.ofNat 101, Char.ofNat 51, Char.ofNat 52, Char.ofNat 100, Char.ofNat 53, Char.ofNat 99, Char.ofNat 50, Char.ofNat 49, Char.ofNat 51, Char.ofNat 53, Char.ofNat 52, Char.ofNat 99, Char.ofNat 99, Char.ofNat 100, Char.ofNat 102, Char.ofNat 53, Char.ofNat 55, Char.ofNat 54, Char.ofNat 50, Char.ofNat 49, Char.ofNat 51, Char.ofNat 51, Char.ofNat 102, Char.ofNat 100, Char.ofNat 101, Char.ofNat 49, Char.ofNat 53, Char.ofNat 97, Char.ofNat 101, Char.ofNat 50, Char.ofNat 97, Char.ofNat 102, Char.ofNat 99, Char.ofNat 100, Char.ofNat 101, Char.ofNat 98, Char.ofNat 48, Char.ofNat 57, Char.ofNat 98, Char.ofNat 52, Char.ofNat 51, Char.ofNat 97, Char.ofNat 102, Char.ofNat 52, Char.ofNat 100, Char.ofNat 55, Char.ofNat 48, Char.ofNat 48, Char.ofNat 101, Char.ofNat 56, Char.ofNat 98, Char.ofNat 57, Char.ofNat 54, Char.ofNat 55, Char.ofNat 48, Char.ofNat 101, Char.ofNat 52, Char.ofNat 97, Char.ofNat 100, Char.ofNat 53, Char.ofNat 54, Char.ofNat 101, Char.ofNat 57, Char.ofNat 32, Char.ofNat 99, Char.ofNat 117, Char.ofNat 116]
def back : List Char := [Char.ofNat 97, Char.ofNat 116, Char.ofNat 32, Char.ofNat 108, Char.ofNat 111, Char.ofNat 111, Char.ofNat 112, Char.ofNat 46, Char.ofNat 101, Char.ofNat 120, Char.ofNat 97, Char.ofNat 109, Char.ofNat 112, Char.ofNat 108, Char.ofNat 101, Char.ofNat 47, Char.ofNat 103, Char.ofNat 48, Char.ofNat 49, Char.ofNat 50, Char.ofNat 50, Char.ofNat 49, Char.ofNat 47, Char.ofNat 108, Char.ofNat 97, Char.ofNat 119, Char.ofNat 115, Char.ofNat 46, Char.ofNat 70, Char.ofNat 110, Char.ofNat 69, Char.ofNat 120, Char.ofNat 97, Char.ofNat 99, Char.ofNat 116, Char.ofNat 73, Char.ofNat 115, Char.ofNat 70, Char.ofNat 97, Char.ofNat 108, Char.ofNat 108, Char.ofNat 105, Char.ofNat 110, Char.ofNat 103, Char.ofNat 83, Char.ofNat 116, Char.ofNat 114, Char.ofNat 105, Char.ofNat 112]
theorem order : Try.prog.initOrder = String.ofList (front ++ Char.ofNat 32 :: back) := by (simp only [Try.prog, Try.progTables]; kernel_rfl)
theorem list : wordsSigns Try.prog.initOrder.toList = wordsSigns front ++ wordsSigns back := by rw [order, String.toList_ofList, words_append]
theorem cutIs : behindMainWord (wordsSigns Try.prog.initOrder.toList) = cutL :: wordsSigns back := by
  rw [list]; generalize wordsSigns back = b; kernel_rfl
theorem mayE : Try.prog.mayEnter = true := may_of _ _ cutIs (by kernel_rfl) (by kernel_rfl) (by kernel_rfl)
theorem lifts : Try.prog.liftsFinal = false := lifts_of _ _ cutIs
theorem makeIs : Try.prog.make = some .cut := make_of _ _ cutIs
end Go.Proofs.Ytfbadpabefdleab.hd
