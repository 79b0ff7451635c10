import Derived.Test.YtakgmcfpdbeajaaI4
import Derived.Test.YtakgmcfpdbeajaaTw
import Derived.Test.YtakgmcfpdbeajaaS16
namespace Go.Pan
open Go Go.RowKit
theorem SS.made {w : World} {B : Nat} {ty : TypeId} {v : Value} (h : w.ownsRow B ty 1 v 0 []) : SS w B w.heap.size v [] [] :=
  ⟨rfl, (Own.of_row h).1, fun g hg => h.lt g hg, fun i u xs hu => by simp at hu, fun i j u u' _ hu => by simp at hu⟩
end Go.Pan
namespace Go.Proofs.Ytakgmcfpdbeajaa
open Go Go.RowKit Go.Pan

end Go.Proofs.Ytakgmcfpdbeajaa
