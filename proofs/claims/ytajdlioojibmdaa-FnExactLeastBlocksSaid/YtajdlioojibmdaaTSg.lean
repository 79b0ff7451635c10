import Derived.Test.YtajdlioojibmdaaCe
import Derived.Test.YtajdlioojibmdaaI2
import Derived.Test.YtajdlioojibmdaaTw
namespace Go.Proofs.Ytajdlioojibmdaa
open Go Go.RowKit Go.Pan


theorem infoSegment : (Try.prog.info? 108).map (·.size) = some 2 := by kernel_rfl

theorem infoSegment3 : (Try.prog.info? 108).map (fun i => (i.zero, i.size, i.bytes)) = some (some (.agg #[.int .i64 0, .int .i64 0]), 2, 16) := by kernel_rfl

end Go.Proofs.Ytajdlioojibmdaa

