import Derived.Test.YtdlnniciccpchaaI4
import Derived.Test.YtdlnniciccpchaaS8
import Derived.Test.YtdlnniciccpchaaTw
import Derived.Test.YtdlnniciccpchaaM10
import Derived.IntWalk
namespace Go.Proofs.Ytdlnniciccpchaa
open Go Go.RowKit Go.Pan

theorem twl_get (xs : List Int) (k : Nat) (h : k < xs.length) : (twl xs)[k]? = some (iv xs[k]) := by
  unfold twl
  rw [List.getElem?_map, List.getElem?_append_left h, List.getElem?_eq_getElem h]
  rfl

def takenL (xs : List Int) (k : Nat) : Int := ((gapsL xs).length : Int) - (gapsL (turnL xs k)).length


end Go.Proofs.Ytdlnniciccpchaa

namespace Go.Proofs.Ytdlnniciccpchaa
open Go Go.RowKit Go.Pan

theorem mCount_eq (xs : List Int) : mCountGaps xs = ((mGapsOf xs).length : Int) := by
  unfold mCountGaps mGapsOf
  split <;> rfl

theorem quiet_left {f : FuncId} {args : Array Value} {w : World} {n : Nat} {v : Value} (h : Calls Try.prog f args (w.drewN n) fun e w' => e = .returned v ∧ w.drewN n = w') :
    Calls Try.prog f args (w.drewN n) fun e w' => e = .returned v ∧ ∃ m, w' = w.drewN m :=
  h.mono fun _ _ ⟨he, hw⟩ => ⟨he, n, hw.symm⟩

end Go.Proofs.Ytdlnniciccpchaa
