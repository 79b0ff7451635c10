import Derived.Test.YtdkidfilnbglgaaS1
import Derived.Test.YtdkidfilnbglgaaI1
import Derived.Test.YtdkidfilnbglgaaQ6
namespace Go.Proofs.Ytdkidfilnbglgaa
open Go Go.RowKit Go.Pan

end Go.Proofs.Ytdkidfilnbglgaa
