import Derived.Test.YtkfpcnbpdlcnaaaS5
namespace Go.Proofs.Ytkfpcnbpdlcnaaa
open Go Go.RowKit Go.Pan

theorem okBring_iff {xs : List Int} {x k : Int} : okBring xs x k = true ↔ Go.Pan.Good xs ∧ (1 ≤ x ∧ x ≤ xs.length) ∧ 1 ≤ k ∧ k ≤ xs.length := by
  simp only [okBring, okPlace, Bool.and_eq_true, goodB_iff, inB_iff, and_assoc]

end Go.Proofs.Ytkfpcnbpdlcnaaa

