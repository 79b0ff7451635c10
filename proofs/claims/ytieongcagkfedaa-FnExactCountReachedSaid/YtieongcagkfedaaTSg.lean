import Derived.Test.YtieongcagkfedaaCe
import Derived.Test.YtieongcagkfedaaI2
import Derived.Test.YtieongcagkfedaaTw
namespace Go.Proofs.Ytieongcagkfedaa
open Go Go.RowKit Go.Pan

end Go.Proofs.Ytieongcagkfedaa

