import Derived.Test.YtdlnniciccpchaaS3
namespace Go.Proofs.Ytdlnniciccpchaa
open Go Go.RowKit Go.Pan

end Go.Proofs.Ytdlnniciccpchaa

