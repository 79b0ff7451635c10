import Derived.Test.YtocccocpacohaabS8
import Derived.Test.YtocccocpacohaabS15
namespace Go.Pan
open Go Go.RowKit
/-- is a strip's end behind the first k -/
def cutB (xs : List Int) (k : Nat) : Bool := decide (k = xs.length) || gapB xs k
/-- how far the strips told among the first k places reach, and they -/
def strips (xs : List Int) : Nat → Nat × List (List Int)
  | 0 => (0, [])
  | k + 1 => if cutB xs (k + 1) = true then (k + 1, (strips xs k).2 ++ [(xs.take (k + 1)).drop (strips xs k).1]) else strips xs k
def stripEnd (xs : List Int) (k : Nat) : Nat := (strips xs k).1
def stripTo (xs : List Int) (k : Nat) : List (List Int) := (strips xs k).2
theorem strip_yes {xs : List Int} {k : Nat} (h : cutB xs (k + 1) = true) : stripEnd xs (k + 1) = k + 1 ∧ stripTo xs (k + 1) = stripTo xs k ++ [(xs.take (k + 1)).drop (stripEnd xs k)] := by
  unfold stripEnd stripTo
  rw [strips, if_pos h]
  exact ⟨rfl, rfl⟩
theorem strip_no {xs : List Int} {k : Nat} (h : cutB xs (k + 1) = false) : stripEnd xs (k + 1) = stripEnd xs k ∧ stripTo xs (k + 1) = stripTo xs k := by
  unfold stripEnd stripTo
  rw [strips, if_neg (by rw [h]; exact Bool.false_ne_true)]
  exact ⟨rfl, rfl⟩
theorem strip_inv (xs : List Int) (k : Nat) (hk : k ≤ xs.length) : stripEnd xs k ≤ k ∧ (stripTo xs k).flatten = xs.take (stripEnd xs k) ∧ (stripTo xs k).length ≤ k ∧ ∀ l ∈ stripTo xs k, l.length ≤ xs.length := by
  induction k with
  | zero => exact ⟨Nat.le_refl _, rfl, Nat.le_refl _, fun l hl => by cases hl⟩
  | succ k ih =>
    obtain ⟨h1, h2, h3, h4⟩ := ih (by omega)
    cases hc : cutB xs (k + 1) with
    | true =>
      obtain ⟨e1, e2⟩ := strip_yes hc
      refine ⟨by rw [e1]; exact Nat.le_refl _, ?_, by rw [e2]; simp; omega, fun l hl => ?_⟩
      · rw [e1, e2, List.flatten_append, h2]
        simp only [List.flatten_cons, List.flatten_nil, List.append_nil]
        have ht : xs.take (stripEnd xs k) = (xs.take (k + 1)).take (stripEnd xs k) := by rw [List.take_take, Nat.min_eq_left (by omega)]
        rw [ht, List.take_append_drop]
      · rw [e2] at hl
        rcases List.mem_append.1 hl with hl | hl
        · exact h4 l hl
        · simp at hl
          subst hl
          simp
          omega
    | false =>
      obtain ⟨e1, e2⟩ := strip_no hc
      exact ⟨by rw [e1]; omega, by rw [e1, e2]; exact h2, by rw [e2]; omega, by rw [e2]; exact h4⟩
def mStripsOf (xs : List Int) : List (List Int) := if goodB xs = true then stripTo xs xs.length else []
theorem mStripsOf_bd (xs : List Int) : (mStripsOf xs).length ≤ 9 ∧ ∀ l ∈ mStripsOf xs, l.length ≤ 9 := by
  unfold mStripsOf
  split
  · rename_i h
    have h9 := (goodB_iff.1 h).le9
    obtain ⟨_, _, h3, h4⟩ := strip_inv xs xs.length (Nat.le_refl _)
    exact ⟨by omega, fun l hl => Nat.le_trans (h4 l hl) h9⟩
  · simp
theorem strip_last (xs : List Int) (h : 1 ≤ xs.length) : stripEnd xs xs.length = xs.length := by
  obtain ⟨m, hm⟩ : ∃ m, xs.length = m + 1 := ⟨xs.length - 1, by omega⟩
  rw [hm]
  exact (strip_yes (by unfold cutB; rw [hm]; simp)).1
end Go.Pan
