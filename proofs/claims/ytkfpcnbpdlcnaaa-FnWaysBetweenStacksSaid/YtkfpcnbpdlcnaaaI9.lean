import Derived.Test.YtkfpcnbpdlcnaaaI8
namespace Go.Proofs.Ytkfpcnbpdlcnaaa
open Go Go.RowKit Go.Pan

theorem mCount_eq (xs : List Int) : mCountGaps xs = ((mGapsOf xs).length : Int) := by
  unfold mCountGaps mGapsOf
  split <;> rfl

theorem quiet_left {f : FuncId} {args : Array Value} {w : World} {n : Nat} {v : Value} (h : Calls Try.prog f args (w.drewN n) fun e w' => e = .returned v ∧ w.drewN n = w') :
    Calls Try.prog f args (w.drewN n) fun e w' => e = .returned v ∧ ∃ m, w' = w.drewN m :=
  h.mono fun _ _ ⟨he, hw⟩ => ⟨he, n, hw.symm⟩

end Go.Proofs.Ytkfpcnbpdlcnaaa

