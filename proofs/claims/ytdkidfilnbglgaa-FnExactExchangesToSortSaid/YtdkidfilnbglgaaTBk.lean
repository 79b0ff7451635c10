import Derived.Test.YtdkidfilnbglgaaCe
import Derived.Test.YtdkidfilnbglgaaI2
import Derived.Test.YtdkidfilnbglgaaTw
namespace Go.Proofs.Ytdkidfilnbglgaa
open Go Go.RowKit Go.Pan

theorem infoBlock : (Try.prog.info? 169).map (·.size) = some 3 := by kernel_rfl

theorem infoBlock3 : (Try.prog.info? 169).map (fun i => (i.zero, i.size, i.bytes)) = some (some (.agg #[.int .i64 0, .int .i64 0, .int .i64 0]), 3, 24) := by kernel_rfl