import Derived.Test.YtmlikchhkblohaaI4
import Derived.Test.YtmlikchhkblohaaS5
import Derived.Test.YtmlikchhkblohaaTw
namespace Go.Proofs.Ytmlikchhkblohaa
open Go Go.RowKit Go.Pan

/-- a list as far as it has been filled, zeros behind -/
def fillTo (ys : List Int) (k : Nat) : List Int := ys.take k ++ List.replicate (ys.length - k) 0
theorem fillTo_length (ys : List Int) (k : Nat) (h : k ≤ ys.length) : (fillTo ys k).length = ys.length := by simp [fillTo]; omega
theorem fillTo_zero (ys : List Int) : fillTo ys 0 = List.replicate ys.length 0 := by simp [fillTo]
theorem fillTo_all (ys : List Int) : fillTo ys ys.length = ys := by simp [fillTo]
theorem fillTo_step (ys : List Int) (k : Nat) (h : k < ys.length) (x : Int) (hx : ys[k] = x) : (fillTo ys k).set k x = fillTo ys (k + 1) := by
  unfold fillTo
  have e : List.replicate (ys.length - k) (0 : Int) = 0 :: List.replicate (ys.length - (k + 1)) 0 := by
    rw [← List.replicate_succ]; congr 1; omega
  have e2 : k - (ys.take k).length = 0 := by simp; omega
  rw [e, List.set_append_right _ _ (by simp; omega), e2, List.set_cons_zero, List.take_succ_eq_append_getElem h, List.append_assoc, hx]
  rfl

theorem thenL_length (xs ys : List Int) : (thenL xs ys).length = ys.length := by simp [thenL]
theorem thenL_at (xs ys : List Int) (k j : Nat) (h : k < ys.length) (hj : ys[k] = (j : Int) + 1) (hl : j < xs.length) : (thenL xs ys)[k]'(by rw [thenL_length]; exact h) = xs[j] := by
  simp only [thenL, List.getElem_map]
  rw [hj, Int.add_sub_cancel, Int.toNat_natCast, getD_eq hl]

end Go.Proofs.Ytmlikchhkblohaa

