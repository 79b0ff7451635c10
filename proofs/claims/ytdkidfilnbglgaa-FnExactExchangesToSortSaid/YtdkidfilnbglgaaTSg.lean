import Derived.Test.YtdkidfilnbglgaaCe
import Derived.Test.YtdkidfilnbglgaaI2
import Derived.Test.YtdkidfilnbglgaaTw
namespace Go.Proofs.Ytdkidfilnbglgaa
open Go Go.RowKit Go.Pan


theorem infoSegment : (Try.prog.info? 151).map (·.size) = some 2 := by kernel_rfl

theorem infoSegment3 : (Try.prog.info? 151).map (fun i => (i.zero, i.size, i.bytes)) = some (some (.agg #[.int .i64 0, .int .i64 0]), 2, 16) := by kernel_rfl