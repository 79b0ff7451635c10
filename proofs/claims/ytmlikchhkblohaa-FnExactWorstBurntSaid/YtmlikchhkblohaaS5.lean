import Derived.Test.YtmlikchhkblohaaS4
namespace Go.Proofs.Ytmlikchhkblohaa
open Go Go.RowKit Go.Pan

theorem invTo_step (xs : List Int) (k j : Nat) (hlt : k < xs.length) (h : xs[k] = (j : Int) + 1) : (invTo xs k).set j ((k : Int) + 1) = invTo xs (k + 1) := by
  show _ = (invTo xs k).set (xs.getD k 0 - 1).toNat ((k : Int) + 1)
  rw [getD_eq hlt, h]
  congr 1
  omega

def SwapTo (xs : List Int) (k : Nat) : List Int := (swapL xs).take k
theorem swapL_length (xs : List Int) : (swapL xs).length = xs.length := by simp [swapL]
theorem SwapTo_step (xs : List Int) (k : Nat) (h : k < xs.length) : SwapTo xs k ++ [(xs.length : Int) + 1 - xs[k]] = SwapTo xs (k + 1) := by
  unfold SwapTo
  rw [List.take_succ_eq_append_getElem (by rw [swapL_length]; exact h)]
  simp [swapL]
theorem SwapTo_length (xs : List Int) (k : Nat) : (SwapTo xs k).length ≤ xs.length := by unfold SwapTo; rw [List.length_take, swapL_length]; omega

def okSame (n : Int) (a b : List Int) : Bool := planB n a && planB n b
theorem mSame_eq {n : Nat} {a b : List Int} (ha : planB n a = true) (hb : planB n b = true) : mSamePlans n a b = decide (playL (ramp 1 n) a = playL (ramp 1 n) b) := by
  unfold mSamePlans
  rw [ha, hb]
  simp

end Go.Proofs.Ytmlikchhkblohaa

