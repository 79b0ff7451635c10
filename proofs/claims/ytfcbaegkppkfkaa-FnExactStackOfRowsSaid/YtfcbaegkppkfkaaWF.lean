import Derived.Test.YtfcbaegkppkfkaaWE
namespace Go.Proofs.Ytfcbaegkppkfkaa
open Go Go.RowKit Go.Pan

end Go.Proofs.Ytfcbaegkppkfkaa

