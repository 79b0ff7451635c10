import Derived.Test.YtkfpcnbpdlcnaaaS3
namespace Go.Proofs.Ytkfpcnbpdlcnaaa
open Go Go.RowKit Go.Pan

end Go.Proofs.Ytkfpcnbpdlcnaaa

