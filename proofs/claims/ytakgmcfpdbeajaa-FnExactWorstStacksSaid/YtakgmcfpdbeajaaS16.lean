import Derived.Test.YtakgmcfpdbeajaaS15
namespace Go.Proofs.Ytakgmcfpdbeajaa
open Go Go.RowKit Go.Pan

end Go.Proofs.Ytakgmcfpdbeajaa
