import Derived.Test.YtakgmcfpdbeajaaS3
namespace Go.Proofs.Ytakgmcfpdbeajaa
open Go Go.RowKit Go.Pan

end Go.Proofs.Ytakgmcfpdbeajaa
