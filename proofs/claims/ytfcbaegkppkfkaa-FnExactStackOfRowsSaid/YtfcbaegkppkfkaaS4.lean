import Derived.Test.YtfcbaegkppkfkaaS3
namespace Go.Proofs.Ytfcbaegkppkfkaa
open Go Go.RowKit Go.Pan

end Go.Proofs.Ytfcbaegkppkfkaa

