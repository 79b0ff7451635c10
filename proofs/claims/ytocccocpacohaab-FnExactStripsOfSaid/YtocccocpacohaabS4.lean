import Derived.Test.YtocccocpacohaabS3
namespace Go.Proofs.Ytocccocpacohaab
open Go Go.RowKit Go.Pan

end Go.Proofs.Ytocccocpacohaab
