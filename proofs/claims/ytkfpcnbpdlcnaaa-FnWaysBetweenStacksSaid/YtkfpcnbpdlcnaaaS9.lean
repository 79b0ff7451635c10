import Derived.Test.YtkfpcnbpdlcnaaaS8
import Derived.Test.YtkfpcnbpdlcnaaaS6
import Derived.Test.YtkfpcnbpdlcnaaaM6
namespace Go.Proofs.Ytkfpcnbpdlcnaaa
open Go Go.RowKit Go.Pan

end Go.Proofs.Ytkfpcnbpdlcnaaa

