import Derived.Test.YtmlikchhkblohaaWE
namespace Go.Proofs.Ytmlikchhkblohaa
open Go Go.RowKit Go.Pan

end Go.Proofs.Ytmlikchhkblohaa

