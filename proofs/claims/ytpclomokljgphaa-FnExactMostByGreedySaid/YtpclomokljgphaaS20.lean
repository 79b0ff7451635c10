import Derived.Test.YtpclomokljgphaaS19
namespace Go.Proofs.Ytpclomokljgphaa
open Go Go.RowKit Go.Pan

/-- the stacks of n without a good pair, in order -/
def noPairs (n : Int) : List (List Int) := lookL n.toNat n.toNat []
def mCountNoPairs (n : Int) : Int := if inB n 1 9 = true then ((noPairs n).length : Int) else 0
def okFirst (n : Int) : Bool := inB n 1 9 && decide ((noPairs n).length ≠ 0)
def mFirstNoPair (n : Int) : List Int := if inB n 1 9 = true then (noPairs n).headD [] else []

end Go.Proofs.Ytpclomokljgphaa
