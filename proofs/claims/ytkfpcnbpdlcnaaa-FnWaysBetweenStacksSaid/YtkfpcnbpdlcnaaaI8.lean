import Derived.Test.YtkfpcnbpdlcnaaaI4
import Derived.Test.YtkfpcnbpdlcnaaaS8
import Derived.Test.YtkfpcnbpdlcnaaaTw
import Derived.Test.YtkfpcnbpdlcnaaaM10
import Derived.IntWalk
namespace Go.Proofs.Ytkfpcnbpdlcnaaa
open Go Go.RowKit Go.Pan

theorem twl_get (xs : List Int) (k : Nat) (h : k < xs.length) : (twl xs)[k]? = some (iv xs[k]) := by
  unfold twl
  rw [List.getElem?_map, List.getElem?_append_left h, List.getElem?_eq_getElem h]
  rfl

def takenL (xs : List Int) (k : Nat) : Int := ((gapsL xs).length : Int) - (gapsL (turnL xs k)).length


end Go.Proofs.Ytkfpcnbpdlcnaaa

