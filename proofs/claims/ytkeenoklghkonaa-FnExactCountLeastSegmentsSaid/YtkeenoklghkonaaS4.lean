import Derived.Test.YtkeenoklghkonaaS3
namespace Go.Proofs.Ytkeenoklghkonaa
open Go Go.RowKit Go.Pan

end Go.Proofs.Ytkeenoklghkonaa
