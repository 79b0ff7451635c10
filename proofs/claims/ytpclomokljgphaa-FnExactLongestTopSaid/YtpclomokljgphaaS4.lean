import Derived.Test.YtpclomokljgphaaS3
namespace Go.Proofs.Ytpclomokljgphaa
open Go Go.RowKit Go.Pan

end Go.Proofs.Ytpclomokljgphaa
