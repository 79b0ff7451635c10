import Derived.Test.YtieongcagkfedaaCe
import Derived.Test.YtieongcagkfedaaI2
import Derived.Test.YtieongcagkfedaaTw
namespace Go.Proofs.Ytieongcagkfedaa
open Go Go.RowKit Go.Pan


theorem infoInsertion : (Try.prog.info? 126).map (·.size) = some 2 := by kernel_rfl

theorem infoInsertion3 : (Try.prog.info? 126).map (fun i => (i.zero, i.size, i.bytes)) = some (some (.agg #[.int .i64 0, .int .i64 0]), 2, 16) := by kernel_rfl

end Go.Proofs.Ytieongcagkfedaa

