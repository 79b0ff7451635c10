import Derived.Test.YtmlikchhkblohaaI20
namespace Go.Proofs.Ytmlikchhkblohaa
open Go Go.RowKit Go.Pan

theorem StTo_bturn (xs p : List Int) (k : Nat) : StTo bturnL xs p k = bplayL xs (p.take k) := by
  have : ∀ (q : List Int) (ys : List Int), q.foldl (fun r j => bturnL r j.toNat) ys = bplayL ys q := by
    intro q
    induction q with
    | nil => intro ys; rfl
    | cons a q ih => intro ys; exact ih _
  exact this _ _
theorem Burnt.nine {xs : List Int} (h : Burnt xs) : ∀ x ∈ xs, -9 ≤ x ∧ x ≤ 9 := fun x hx => by have := h.bd hx; omega

theorem twN_length (st : List Int → Nat → List Int) (xs p : List Int) (h : ∀ k, (StTo st xs p k).length ≤ 9) : ∀ m, (twN st xs p m).length = m * 9
  | 0 => rfl
  | m + 1 => by rw [twN_succ, List.length_append, twN_length st xs p h m, twl_length _ (h m)]; omega
theorem twN_get (st : List Int → Nat → List Int) (xs p : List Int) (h : ∀ k, (StTo st xs p k).length ≤ 9) (k j : Nat) (hj : j < 9) : ∀ m, k < m → (twN st xs p m)[k * 9 + j]? = (twl (StTo st xs p k))[j]?
  | 0, h0 => by omega
  | m + 1, h0 => by
    rw [twN_succ]
    by_cases hk : k < m
    · rw [List.getElem?_append_left (by rw [twN_length st xs p h]; omega), twN_get st xs p h k j hj m hk]
    · obtain rfl : k = m := by omega
      rw [List.getElem?_append_right (by rw [twN_length st xs p h]; omega), twN_length st xs p h, Nat.add_sub_cancel_left]

end Go.Proofs.Ytmlikchhkblohaa

