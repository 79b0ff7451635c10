import Derived.Test.YtieongcagkfedaaS3
namespace Go.Proofs.Ytieongcagkfedaa
open Go Go.RowKit Go.Pan

end Go.Proofs.Ytieongcagkfedaa

