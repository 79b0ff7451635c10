import Derived.Test.YtpclomokljgphaaDoorS3
namespace Go.Proofs.YtpclomokljgphaaDoor
open Go Go.RowKit Go.Pan

end Go.Proofs.YtpclomokljgphaaDoor
