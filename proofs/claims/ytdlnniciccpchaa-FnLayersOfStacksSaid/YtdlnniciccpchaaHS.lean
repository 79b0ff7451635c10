import Derived.Test.YtdlnniciccpchaaSS
import Derived.Test.YtdlnniciccpchaaH
namespace Go.Proofs.Ytdlnniciccpchaa
open Go Go.RowKit Go.Pan

theorem pre_le (xss : List (List Int)) : ∀ i, pre xss i ≤ pre xss xss.length := by
  intro i
  unfold pre
  rw [List.take_length]
  conv => rhs; rw [← List.take_append_drop i xss, List.map_append, List.sum_append]
  omega

end Go.Proofs.Ytdlnniciccpchaa

