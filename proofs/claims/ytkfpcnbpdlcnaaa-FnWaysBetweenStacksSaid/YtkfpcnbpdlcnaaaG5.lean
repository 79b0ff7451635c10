import Derived.Test.YtkfpcnbpdlcnaaaG1
namespace Go.Pan
/-- the rank as it is reckoned, the first k looked at -/
def rankTo (xs : List Int) : Nat → Nat
  | 0 => 0
  | k + 1 => rankTo xs k * (xs.length - k) + (xs.drop (k + 1)).countP (fun y => decide (y < xs.getD k 0))
theorem rankTo_inv (xs : List Int) (k : Nat) (h : k ≤ xs.length) : rankTo xs k * fact (xs.length - k) + rankL (xs.drop k) = rankL xs := by
  induction k with
  | zero => simp [rankTo]
  | succ k ih =>
    have ih := ih (by omega)
    obtain ⟨m, hm⟩ : ∃ m, xs.length - k = m + 1 := ⟨xs.length - k - 1, by omega⟩
    have hm' : xs.length - (k + 1) = m := by omega
    rw [hm, fact] at ih
    rw [hm', rankTo, hm]
    rw [List.drop_eq_getElem_cons (by omega), rankL] at ih
    have hl : (xs.drop (k + 1)).length = m := by simp; omega
    rw [hl] at ih
    rw [getD_eq (by omega), Nat.add_mul, Nat.mul_assoc]
    omega
theorem rankTo_all (xs : List Int) : rankTo xs xs.length = rankL xs := by
  have := rankTo_inv xs xs.length (Nat.le_refl _)
  rw [List.drop_length, Nat.sub_self] at this
  simpa [fact, rankL] using this
theorem rankTo_le (xs : List Int) (h9 : xs.length ≤ 9) (k : Nat) (h : k ≤ xs.length) : rankTo xs k ≤ 362880 := by
  have h1 := rankTo_inv xs k h
  have h2 := rankL_lt xs
  have h3 := fact_le h9
  have h4 := Nat.le_mul_of_pos_right (rankTo xs k) (fact_pos (xs.length - k))
  omega
/-- how many of the first j behind the place k are less -/
def lessTo (xs : List Int) (k j : Nat) : Nat := ((xs.drop (k + 1)).take j).countP (fun y => decide (y < xs.getD k 0))
theorem lessTo_zero (xs : List Int) (k : Nat) : lessTo xs k 0 = 0 := rfl
theorem lessTo_succ (xs : List Int) (k j : Nat) (hj : j < (xs.drop (k + 1)).length) : lessTo xs k (j + 1) = lessTo xs k j + if (xs.drop (k + 1))[j] < xs.getD k 0 then 1 else 0 := by
  unfold lessTo
  rw [List.take_succ_eq_append_getElem hj, List.countP_append]
  congr 1
  by_cases h : (xs.drop (k + 1))[j] < xs.getD k 0 <;> simp only [List.countP_singleton, h, decide_true, decide_false, if_true, if_false, Bool.false_eq_true]
theorem lessTo_le (xs : List Int) (k j : Nat) : lessTo xs k j ≤ j := by
  unfold lessTo
  exact Nat.le_trans List.countP_le_length (by simp; omega)
theorem rankTo_succ (xs : List Int) (k : Nat) : rankTo xs (k + 1) = rankTo xs k * (xs.length - k) + lessTo xs k (xs.drop (k + 1)).length := by
  unfold lessTo
  rw [List.take_length]
  rfl

end Go.Pan

