/- What the rows of this seat ask of the head of the translation. -/
import Derived.Test.YtpclomokljgphaaDoorRows
import Derived.Test.YtpclomokljgphaaDoorHdLib
namespace Go.Proofs.YtpclomokljgphaaDoor.hd
open Go.PanHd
def front : List Char := [Char.ofNat 104, Char.ofNat 97, Char.ofNat 114, Char.ofNat 110, Char.ofNat 101, Char.ofNat 115, Char.ofNat 115, Char.ofNat 32, Char.ofNat 54, Char.ofNat 49, Char.ofNat 97, Char.ofNat 101, Char.ofNat 57, Char.ofNat 99, Char.ofNat 55, Char.ofNat 52, Char.ofNat 56, Char.ofNat 99, Char.ofNat 55, Char.ofNat 99, Char.ofNat 48, Char.ofNat 102, Char.ofNat 56, Char.ofNat 52, Char.ofNat 97, Char.ofNat 56, Char.ofNat 102, Char.ofNat 50, Char.ofNat 56, Char.ofNat 99, Char.ofNat 55, Char.ofNat 57, Char.ofNat 98, Char.ofNat 51, Char.ofNat 57, Char.ofNat 50, Char.ofNat 48, Char.ofNat 98, Char.ofNat 49, Char.ofNat 49, Char.ofNat 102, Char.ofNat 56, Char.ofNat 52, Char.ofNat 52, Char.ofNat 55, Char.ofNat 55, Char.ofNat 101, Char.ofNat 49, Char.ofNat 54, Char.ofNat 100, Char.ofNat 55, Char.ofNat 49, Char.ofNat 53, Char.ofNat 98, Char.ofNat 50, Char.ofNat 102, Char.ofNat 48, Char.ofNat 48, Char.ofNat 53, Char.ofNat 49, Char.ofNat 50, Char.ofNat 101, Char.ofNat 56, Char.ofNat 51, Char.ofNat 52, Char.ofNat 50, Char.ofNat 51, Char.ofNat 100, Char.ofNat 50, Char.ofNat 56, Char.ofNat 100, Char.ofNat 57, Char.ofNat 32, Char.ofNat 99, Char.ofNat 117, Char.ofNat 116]
def back : List Char := [Char.ofNat 97, Char.ofNat 116, Char.ofNat 32, Char.ofNat 108, Char.ofNat 111, Char.ofNat 111, Char.ofNat 112, Char.ofNat 46, Char.ofNat 101, Char.ofNat 120, Char.ofNat 97, Char.ofNat 109, Char.ofNat 112, Char.ofNat 108, Char.ofNat 101, Char.ofNat 47, Char.ofNat 103, Char.ofNat 48, Char.ofNat 49, Char.ofNat 50, Char.ofNat 50, Char.ofNat 49, Char.ofNat 47, Char.ofNat 108, Char.ofNat 97, Char.ofNat 119, Char.ofNat 115, Char.ofNat 46, Char.ofNat 70, Char.ofNat 110, Char.ofNat 69, Char.ofNat 120, Char.ofNat 97, Char.ofNat 99, Char.ofNat 116, Char.ofNat 66, Char.ofNat 117, Char.ofNat 114, Char.ofNat 110, Char.ofNat 116, Char.ofNat 84, Char.ofNat 101, Char.ofNat 120, Char.ofNat 116]
theorem order : Tryd.prog.initOrder = String.ofList (front ++ Char.ofNat 32 :: back) := by (simp only [Tryd.prog, Tryd.progTables]; kernel_rfl)
theorem list : wordsSigns Tryd.prog.initOrder.toList = wordsSigns front ++ wordsSigns back := by rw [order, String.toList_ofList, words_append]
theorem cutIs : behindMainWord (wordsSigns Tryd.prog.initOrder.toList) = cutL :: wordsSigns back := by
  rw [list]; generalize wordsSigns back = b; kernel_rfl
theorem mayE : Tryd.prog.mayEnter = true := may_of _ _ cutIs (by kernel_rfl) (by kernel_rfl) (by kernel_rfl)
theorem lifts : Tryd.prog.liftsFinal = false := lifts_of _ _ cutIs
theorem makeIs : Tryd.prog.make = some .cut := make_of _ _ cutIs
end Go.Proofs.YtpclomokljgphaaDoor.hd
