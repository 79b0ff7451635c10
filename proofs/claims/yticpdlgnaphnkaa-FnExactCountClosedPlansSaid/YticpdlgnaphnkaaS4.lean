import Derived.Test.YticpdlgnaphnkaaS3
namespace Go.Proofs.Yticpdlgnaphnkaa
open Go Go.RowKit Go.Pan

end Go.Proofs.Yticpdlgnaphnkaa
