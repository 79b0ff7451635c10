import Derived.Test.YtdlnniciccpchaaGE
import Derived.Test.YtdlnniciccpchaaG9
namespace Go.Pan
theorem pnearC (n : Nat) (s : List Int) (i : Nat) : gnearC (pG n) s i = nearC n s i := by
  funext q
  unfold gnearC nearC
  rw [pfar, pways]
theorem pwayC (n : Nat) (s t : List Int) (i j : Nat) : gwayC (pG n) s t i j = wayC n s t i j := by
  funext q
  unfold gwayC wayC
  rw [pfar, pfar, pways]
theorem pclo (n : Nat) (t q : List Int) : gclo (pG n) t q = clo n t q := by
  funext k
  unfold gclo clo
  rw [pfar, pfar]
  rfl
theorem pfirK (n : Nat) (t q : List Int) : gfirK (pG n) t q = firK n t q := by
  unfold gfirK firK
  rw [pclo]
  rfl
theorem pgoL (n : Nat) (t : List Int) (e : Nat) (q : List Int) : ggoL (pG n) t e q = goL n t e q := by
  induction e generalizing q with
  | zero => rfl
  | succ e ih =>
    rw [ggoL, goL, pfirK, ih]
    rfl
theorem ppickL (n : Nat) (P : Nat → Bool) : gpickL (pG n) P = pickL P n := rfl

end Go.Pan
