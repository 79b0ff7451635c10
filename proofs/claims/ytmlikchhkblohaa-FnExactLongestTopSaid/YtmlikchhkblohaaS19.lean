import Derived.Test.YtmlikchhkblohaaM9
import Derived.Test.YtmlikchhkblohaaS8
namespace Go.Proofs.Ytmlikchhkblohaa
open Go Go.RowKit Go.Pan

theorem headD_app (A B : List (List Int)) (h : A.length ≠ 0) : (A ++ B).headD [] = A.headD [] := by
  cases A with
  | nil => simp at h
  | cons a r => rfl
theorem headD_nil {A : List (List Int)} (h : A.length = 0) : A.headD [] = [] := by rw [List.length_eq_zero_iff.1 h]; rfl
theorem app_nil {A B : List (List Int)} (h : A.length = 0) : A ++ B = B := by rw [List.length_eq_zero_iff.1 h]; rfl

theorem lastD_eq (bs : List Int) (q : Nat) (h : bs.length = q + 1) : bs.getLastD 0 = bs[q]'(by omega) := by
  have e : bs.length - 1 = q := by omega
  rw [List.getLastD_eq_getLast?, List.getLast?_eq_getElem?, e, List.getElem?_eq_getElem (by omega)]
  rfl
theorem mayB_last (bs : List Int) (x y : Int) (hin : ¬ x ∈ bs) (hn : bs.length ≠ 0) (hy : bs.getLastD 0 = y) : mayB bs x = !(decide (absI (y - x) ≤ 1)) := by
  unfold mayB
  rw [decide_eq_false hin, decide_eq_false (fun e => hn (by rw [e]; rfl)), hy]
  rfl

end Go.Proofs.Ytmlikchhkblohaa

