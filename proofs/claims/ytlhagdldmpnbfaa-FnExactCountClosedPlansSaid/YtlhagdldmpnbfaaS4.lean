import Derived.Test.YtlhagdldmpnbfaaS3
namespace Go.Proofs.Ytlhagdldmpnbfaa
open Go Go.RowKit Go.Pan

end Go.Proofs.Ytlhagdldmpnbfaa

