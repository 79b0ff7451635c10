import Derived.Test.YtmlikchhkblohaaI8
import Derived.Test.YtmlikchhkblohaaS2
import Derived.Test.YtmlikchhkblohaaTwB
import Derived.Deep.AppendLies
namespace Go.Proofs.Ytmlikchhkblohaa
open Go Go.RowKit Go.Pan

/-- what the first k steps make of it -/
def StTo (st : List Int → Nat → List Int) (xs p : List Int) (k : Nat) : List Int := (p.take k).foldl (fun q j => st q j.toNat) xs
theorem StTo_step (st : List Int → Nat → List Int) (xs p : List Int) (k : Nat) (h : k < p.length) (j : Nat) (hj : p[k] = (j : Int)) : st (StTo st xs p k) j = StTo st xs p (k + 1) := by
  unfold StTo
  rw [List.take_succ_eq_append_getElem h, List.foldl_append, hj]
  simp
theorem StTo_turn (xs p : List Int) (k : Nat) : StTo turnL xs p k = PlayTo xs p k := by
  have : ∀ (q : List Int) (ys : List Int), q.foldl (fun r j => turnL r j.toNat) ys = playL ys q := by
    intro q
    induction q with
    | nil => intro ys; rfl
    | cons a q ih => intro ys; exact ih _
  exact this _ _
def twN (st : List Int → Nat → List Int) (xs p : List Int) (k : Nat) : List Value := (List.range k).flatMap fun j => twl (StTo st xs p j)
theorem twN_one (st : List Int → Nat → List Int) (xs p : List Int) : twN st xs p 1 = twl xs := by simp [twN, StTo]
theorem twN_succ (st : List Int → Nat → List Int) (xs p : List Int) (k : Nat) : twN st xs p (k + 1) = twN st xs p k ++ twl (StTo st xs p k) := by simp [twN, List.range_succ]



end Go.Proofs.Ytmlikchhkblohaa

