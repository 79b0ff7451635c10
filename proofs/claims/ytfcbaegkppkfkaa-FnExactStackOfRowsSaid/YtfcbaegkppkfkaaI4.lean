import Derived.Test.YtfcbaegkppkfkaaI3
namespace Go.Proofs.Ytfcbaegkppkfkaa
open Go Go.RowKit Go.Pan

theorem tower_eq (xs ys : List Int) (hx : xs.length ≤ 9) (hl : xs.length = ys.length) : ∀ W, (Op.equalIn 10000 53 (tw xs) (tw ys)).run Try.prog W = .ok (decide (xs = ys)) W := fun W => by
  obtain ⟨i0, hi, _⟩ := info_parts Try.info3
  have h := run_equalIn_ints W 9998 (xs ++ List.replicate (9 - xs.length) 0) (ys ++ List.replicate (9 - ys.length) 0) Try.underlying53 hi Try.underlying3 (by kernel_rfl) (by simp; omega) (by simp; omega)
  rw [show decide (xs = ys) = decide (xs ++ List.replicate (9 - xs.length) (0 : Int) = ys ++ List.replicate (9 - ys.length) 0) from by rw [decide_eq_decide]; exact (twl_inj hl).symm]
  exact h

theorem planB_nil {n : Int} : planB n [] = inB n 1 9 := by
  rw [Bool.eq_iff_iff, planB_iff, inB_iff]
  simp [Plan]
theorem okPlay_nil (xs : List Int) : okPlay xs [] = goodB xs := by
  unfold okPlay
  rw [planB_nil]
  cases h : goodB xs with
  | true =>
    have hg := goodB_iff.1 h
    rw [inB_true ⟨by have := hg.1; omega, by have := hg.2.1; omega⟩]
    rfl
  | false => rfl

end Go.Proofs.Ytfcbaegkppkfkaa

