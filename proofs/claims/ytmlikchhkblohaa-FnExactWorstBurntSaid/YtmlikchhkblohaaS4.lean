import Derived.Test.YtmlikchhkblohaaS3
namespace Go.Proofs.Ytmlikchhkblohaa
open Go Go.RowKit Go.Pan

end Go.Proofs.Ytmlikchhkblohaa

