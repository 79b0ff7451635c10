import Derived.Test.YtdkidfilnbglgaaV2
namespace Go.Pan
def extL (xs : List Int) : List Int := [0] ++ xs ++ [(xs.length : Int) + 1]
theorem extL_length (xs : List Int) : (extL xs).length = xs.length + 2 := by simp [extL]
theorem extL_get (xs : List Int) (i : Nat) (h : i < xs.length + 2) : (extL xs)[i]? = some (extD xs i) := by
  unfold extL extD below
  cases i with
  | zero => simp
  | succ j =>
    rw [if_neg (by omega), Nat.add_sub_cancel, List.append_assoc, List.getElem?_append_right (by simp), List.length_singleton, Nat.add_sub_cancel]
    by_cases hj : j < xs.length
    · rw [if_pos hj, List.getElem?_append_left hj, List.getElem?_eq_getElem hj, getD_eq hj]
    · rw [if_neg hj, List.getElem?_append_right (by omega), show j - xs.length = 0 by omega]; rfl
theorem extD_bd {xs : List Int} (hg : Good xs) (i : Nat) : 0 ≤ extD xs i ∧ extD xs i ≤ 10 := by
  have h9 := hg.le9
  unfold extD
  split
  · omega
  · have := below_bd hg (i - 1); omega
end Go.Pan
namespace Go.Proofs.Ytdkidfilnbglgaa
open Go Go.RowKit Go.Pan