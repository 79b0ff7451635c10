import Derived.Test.YtajdlioojibmdaaI2
namespace Go.Proofs.Ytajdlioojibmdaa
open Go Go.RowKit Go.Pan

end Go.Proofs.Ytajdlioojibmdaa

