import Derived.Test.YtdkidfilnbglgaaS3
namespace Go.Proofs.Ytdkidfilnbglgaa
open Go Go.RowKit Go.Pan

end Go.Proofs.Ytdkidfilnbglgaa
