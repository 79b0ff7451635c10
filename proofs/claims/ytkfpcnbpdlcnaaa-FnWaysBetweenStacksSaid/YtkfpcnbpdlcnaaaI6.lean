import Derived.Test.YtkfpcnbpdlcnaaaI4
import Derived.Test.YtkfpcnbpdlcnaaaS6
namespace Go.Proofs.Ytkfpcnbpdlcnaaa
open Go Go.RowKit Go.Pan

end Go.Proofs.Ytkfpcnbpdlcnaaa

