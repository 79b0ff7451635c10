import Derived.Test.YtfbadpabefdleaaS3
namespace Go.Proofs.Ytfbadpabefdleaa
open Go Go.RowKit Go.Pan

end Go.Proofs.Ytfbadpabefdleaa
