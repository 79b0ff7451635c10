/-
  No cell of these rows narrows 'for every input' (looked for: loops, veiled, ifaces, maps, wideKeys, modest, calm, conditions, laid).
  DERIVED. THE GIVEN ROWS OF THIS SEAT. 20 by the template 'for every input the law returns true; each argument reads behind the call as it read before'; 0 by the template 'total and deterministic' (their statements: YtmlikchhkblohaaTotals.lean).
  GIVEN WITH THE SEED: the statements are not yours to turn. If you find one false, say at which input.
  Laid BY PROGRAM, IN A SANDBOX (cutbox-rows.mjs): the forced cells as the released guide's own fill.sh prints them over the translation 2302a6cb4ca0d334… (all of the seat's roots in one cut). By AI agents, Wed Nov 11 2026. No macro, syntax, notation, axiom, sorry.
-/
import Derived.Test.YtmlikchhkblohaaChecked
import GoSem.Claim
import GoSem.ClaimJoined
import GoSem.ClaimMapViews
import Derived.JoinedTies
import Derived.KernelRfl
namespace Go.Proofs.Ytmlikchhkblohaa
/- THE CELL 'sum', in the pinned program and in every row, IS THE sha256 OF THE DUMP (.gsa) THAT YtmlikchhkblohaaProg.lean LOADS. Nothing in Lean hashes anything: it is a label: what it is worth is what the hold of that sum in a sandbox is worth. -/
noncomputable def Try.pinned : Pinned := { name := "ytmlikchhkblohaa", sum := "2302a6cb4ca0d33490a38aa1fbdf7927ac3b1c87a82cc297709e00c07f46bd8d", checked := Try.checked }
namespace Rows
def none {H : Type} : Left H := { results := [], args := [] }

/-- 'laws.FnExactFirstDesk': WHATEVER THE INPUT: true; the input reads as it did. -/
def fnExactFirstDeskSpec : ChangeSpec := { name := "fnExactFirstDesk", fn := fun _ => fun
  | [] => { results := [.lit (.bool true)], args := [] }
  | _ => none }
def fnExactFirstDeskRow : OpenClaim := { program := "ytmlikchhkblohaa", sum := "2302a6cb4ca0d33490a38aa1fbdf7927ac3b1c87a82cc297709e00c07f46bd8d", func := "loop.example/g01221/laws.FnExactFirstDesk", spec := "fnExactFirstDesk", plainKeys := false, apart := false }
def FnExactFirstDeskSaid : Prop := fnExactFirstDeskRow.holds Try.pinned (OpenSpec.ofChange fnExactFirstDeskSpec)

/-- ITS FALSE NEIGHBOUR: 'it returns false'. Refute it at one input. -/
def fnExactFirstDeskWrong : ChangeSpec := { name := "fnExactFirstDesk", fn := fun _ => fun
  | [] => { results := [.lit (.bool false)], args := [] }
  | _ => none }
def FnExactFirstDeskWrongFalsely : Prop := fnExactFirstDeskRow.holds Try.pinned (OpenSpec.ofChange fnExactFirstDeskWrong)

/-- 'laws.FnExactIsDesk': WHATEVER THE INPUT: true; the input reads as it did. -/
def fnExactIsDeskSpec : ChangeSpec := { name := "fnExactIsDesk", fn := fun _ => fun
  | [d] => { results := [.lit (.bool true)], args := [d] }
  | _ => none }
def fnExactIsDeskRow : OpenClaim := { program := "ytmlikchhkblohaa", sum := "2302a6cb4ca0d33490a38aa1fbdf7927ac3b1c87a82cc297709e00c07f46bd8d", func := "loop.example/g01221/laws.FnExactIsDesk", spec := "fnExactIsDesk", plainKeys := false, apart := false }
def FnExactIsDeskSaid : Prop := fnExactIsDeskRow.holds Try.pinned (OpenSpec.ofChange fnExactIsDeskSpec)

/-- ITS FALSE NEIGHBOUR: 'it returns false'. Refute it at one input. -/
def fnExactIsDeskWrong : ChangeSpec := { name := "fnExactIsDesk", fn := fun _ => fun
  | [d] => { results := [.lit (.bool false)], args := [d] }
  | _ => none }
def FnExactIsDeskWrongFalsely : Prop := fnExactIsDeskRow.holds Try.pinned (OpenSpec.ofChange fnExactIsDeskWrong)

/-- 'laws.FnExactAreRows': WHATEVER THE INPUT: true; the input reads as it did. -/
def fnExactAreRowsSpec : ChangeSpec := { name := "fnExactAreRows", fn := fun _ => fun
  | [d] => { results := [.lit (.bool true)], args := [d] }
  | _ => none }
def fnExactAreRowsRow : OpenClaim := { program := "ytmlikchhkblohaa", sum := "2302a6cb4ca0d33490a38aa1fbdf7927ac3b1c87a82cc297709e00c07f46bd8d", func := "loop.example/g01221/laws.FnExactAreRows", spec := "fnExactAreRows", plainKeys := false, apart := false }
def FnExactAreRowsSaid : Prop := fnExactAreRowsRow.holds Try.pinned (OpenSpec.ofChange fnExactAreRowsSpec)

/-- ITS FALSE NEIGHBOUR: 'it returns false'. Refute it at one input. -/
def fnExactAreRowsWrong : ChangeSpec := { name := "fnExactAreRows", fn := fun _ => fun
  | [d] => { results := [.lit (.bool false)], args := [d] }
  | _ => none }
def FnExactAreRowsWrongFalsely : Prop := fnExactAreRowsRow.holds Try.pinned (OpenSpec.ofChange fnExactAreRowsWrong)

/-- 'laws.FnExactTreeSize': WHATEVER THE INPUT: true; the input reads as it did. -/
def fnExactTreeSizeSpec : ChangeSpec := { name := "fnExactTreeSize", fn := fun _ => fun
  | [d] => { results := [.lit (.bool true)], args := [d] }
  | _ => none }
def fnExactTreeSizeRow : OpenClaim := { program := "ytmlikchhkblohaa", sum := "2302a6cb4ca0d33490a38aa1fbdf7927ac3b1c87a82cc297709e00c07f46bd8d", func := "loop.example/g01221/laws.FnExactTreeSize", spec := "fnExactTreeSize", unfollowed := true, recurses := true, plainKeys := false, apart := false }
def FnExactTreeSizeSaid : Prop := fnExactTreeSizeRow.holds Try.pinned (OpenSpec.ofChange fnExactTreeSizeSpec)

/-- ITS FALSE NEIGHBOUR: 'it returns false'. Refute it at one input. -/
def fnExactTreeSizeWrong : ChangeSpec := { name := "fnExactTreeSize", fn := fun _ => fun
  | [d] => { results := [.lit (.bool false)], args := [d] }
  | _ => none }
def FnExactTreeSizeWrongFalsely : Prop := fnExactTreeSizeRow.holds Try.pinned (OpenSpec.ofChange fnExactTreeSizeWrong)

/-- 'laws.FnExactDepthBefore': WHATEVER THE INPUT: true; the input reads as it did. -/
def fnExactDepthBeforeSpec : ChangeSpec := { name := "fnExactDepthBefore", fn := fun _ => fun
  | [d] => { results := [.lit (.bool true)], args := [d] }
  | _ => none }
def fnExactDepthBeforeRow : OpenClaim := { program := "ytmlikchhkblohaa", sum := "2302a6cb4ca0d33490a38aa1fbdf7927ac3b1c87a82cc297709e00c07f46bd8d", func := "loop.example/g01221/laws.FnExactDepthBefore", spec := "fnExactDepthBefore", unfollowed := true, recurses := true, plainKeys := false, apart := false }
def FnExactDepthBeforeSaid : Prop := fnExactDepthBeforeRow.holds Try.pinned (OpenSpec.ofChange fnExactDepthBeforeSpec)

/-- ITS FALSE NEIGHBOUR: 'it returns false'. Refute it at one input. -/
def fnExactDepthBeforeWrong : ChangeSpec := { name := "fnExactDepthBefore", fn := fun _ => fun
  | [d] => { results := [.lit (.bool false)], args := [d] }
  | _ => none }
def FnExactDepthBeforeWrongFalsely : Prop := fnExactDepthBeforeRow.holds Try.pinned (OpenSpec.ofChange fnExactDepthBeforeWrong)

/-- 'laws.FnExactLongestTop': WHATEVER THE INPUT: true; the input reads as it did. -/
def fnExactLongestTopSpec : ChangeSpec := { name := "fnExactLongestTop", fn := fun _ => fun
  | [d] => { results := [.lit (.bool true)], args := [d] }
  | _ => none }
def fnExactLongestTopRow : OpenClaim := { program := "ytmlikchhkblohaa", sum := "2302a6cb4ca0d33490a38aa1fbdf7927ac3b1c87a82cc297709e00c07f46bd8d", func := "loop.example/g01221/laws.FnExactLongestTop", spec := "fnExactLongestTop", unfollowed := true, recurses := true, plainKeys := false, apart := false }
def FnExactLongestTopSaid : Prop := fnExactLongestTopRow.holds Try.pinned (OpenSpec.ofChange fnExactLongestTopSpec)

/-- ITS FALSE NEIGHBOUR: 'it returns false'. Refute it at one input. -/
def fnExactLongestTopWrong : ChangeSpec := { name := "fnExactLongestTop", fn := fun _ => fun
  | [d] => { results := [.lit (.bool false)], args := [d] }
  | _ => none }
def FnExactLongestTopWrongFalsely : Prop := fnExactLongestTopRow.holds Try.pinned (OpenSpec.ofChange fnExactLongestTopWrong)

/-- 'laws.FnExactCountLongest': WHATEVER THE INPUT: true; the input reads as it did. -/
def fnExactCountLongestSpec : ChangeSpec := { name := "fnExactCountLongest", fn := fun _ => fun
  | [d] => { results := [.lit (.bool true)], args := [d] }
  | _ => none }
def fnExactCountLongestRow : OpenClaim := { program := "ytmlikchhkblohaa", sum := "2302a6cb4ca0d33490a38aa1fbdf7927ac3b1c87a82cc297709e00c07f46bd8d", func := "loop.example/g01221/laws.FnExactCountLongest", spec := "fnExactCountLongest", unfollowed := true, recurses := true, plainKeys := false, apart := false }
def FnExactCountLongestSaid : Prop := fnExactCountLongestRow.holds Try.pinned (OpenSpec.ofChange fnExactCountLongestSpec)

/-- ITS FALSE NEIGHBOUR: 'it returns false'. Refute it at one input. -/
def fnExactCountLongestWrong : ChangeSpec := { name := "fnExactCountLongest", fn := fun _ => fun
  | [d] => { results := [.lit (.bool false)], args := [d] }
  | _ => none }
def FnExactCountLongestWrongFalsely : Prop := fnExactCountLongestRow.holds Try.pinned (OpenSpec.ofChange fnExactCountLongestWrong)

/-- 'laws.FnExactCountBySteps': WHATEVER THE INPUT: true; the input reads as it did. -/
def fnExactCountByStepsSpec : ChangeSpec := { name := "fnExactCountBySteps", fn := fun _ => fun
  | [d] => { results := [.lit (.bool true)], args := [d] }
  | _ => none }
def fnExactCountByStepsRow : OpenClaim := { program := "ytmlikchhkblohaa", sum := "2302a6cb4ca0d33490a38aa1fbdf7927ac3b1c87a82cc297709e00c07f46bd8d", func := "loop.example/g01221/laws.FnExactCountBySteps", spec := "fnExactCountBySteps", unfollowed := true, recurses := true, plainKeys := false, apart := false }
def FnExactCountByStepsSaid : Prop := fnExactCountByStepsRow.holds Try.pinned (OpenSpec.ofChange fnExactCountByStepsSpec)

/-- ITS FALSE NEIGHBOUR: 'it returns false'. Refute it at one input. -/
def fnExactCountByStepsWrong : ChangeSpec := { name := "fnExactCountBySteps", fn := fun _ => fun
  | [d] => { results := [.lit (.bool false)], args := [d] }
  | _ => none }
def FnExactCountByStepsWrongFalsely : Prop := fnExactCountByStepsRow.holds Try.pinned (OpenSpec.ofChange fnExactCountByStepsWrong)

/-- 'laws.FnExactPlaySegments': WHATEVER THE INPUT: true; the input reads as it did. -/
def fnExactPlaySegmentsSpec : ChangeSpec := { name := "fnExactPlaySegments", fn := fun _ => fun
  | [d1, d2] => { results := [.lit (.bool true)], args := [d1, d2] }
  | _ => none }
def fnExactPlaySegmentsRow : OpenClaim := { program := "ytmlikchhkblohaa", sum := "2302a6cb4ca0d33490a38aa1fbdf7927ac3b1c87a82cc297709e00c07f46bd8d", func := "loop.example/g01221/laws.FnExactPlaySegments", spec := "fnExactPlaySegments", unfollowed := true, recurses := true, plainKeys := false, apart := false }
def FnExactPlaySegmentsSaid : Prop := fnExactPlaySegmentsRow.holds Try.pinned (OpenSpec.ofChange fnExactPlaySegmentsSpec)

/-- ITS FALSE NEIGHBOUR: 'it returns false'. Refute it at one input. -/
def fnExactPlaySegmentsWrong : ChangeSpec := { name := "fnExactPlaySegments", fn := fun _ => fun
  | [d1, d2] => { results := [.lit (.bool false)], args := [d1, d2] }
  | _ => none }
def FnExactPlaySegmentsWrongFalsely : Prop := fnExactPlaySegmentsRow.holds Try.pinned (OpenSpec.ofChange fnExactPlaySegmentsWrong)

/-- 'laws.FnExactTurnSegment': WHATEVER THE INPUT: true; the input reads as it did. -/
def fnExactTurnSegmentSpec : ChangeSpec := { name := "fnExactTurnSegment", fn := fun _ => fun
  | [d1, d2] => { results := [.lit (.bool true)], args := [d1, d2] }
  | _ => none }
def fnExactTurnSegmentRow : OpenClaim := { program := "ytmlikchhkblohaa", sum := "2302a6cb4ca0d33490a38aa1fbdf7927ac3b1c87a82cc297709e00c07f46bd8d", func := "loop.example/g01221/laws.FnExactTurnSegment", spec := "fnExactTurnSegment", unfollowed := true, recurses := true, plainKeys := false, apart := false }
def FnExactTurnSegmentSaid : Prop := fnExactTurnSegmentRow.holds Try.pinned (OpenSpec.ofChange fnExactTurnSegmentSpec)

/-- ITS FALSE NEIGHBOUR: 'it returns false'. Refute it at one input. -/
def fnExactTurnSegmentWrong : ChangeSpec := { name := "fnExactTurnSegment", fn := fun _ => fun
  | [d1, d2] => { results := [.lit (.bool false)], args := [d1, d2] }
  | _ => none }
def FnExactTurnSegmentWrongFalsely : Prop := fnExactTurnSegmentRow.holds Try.pinned (OpenSpec.ofChange fnExactTurnSegmentWrong)

/-- 'laws.FnExactBreakPoints': WHATEVER THE INPUT: true; the input reads as it did. -/
def fnExactBreakPointsSpec : ChangeSpec := { name := "fnExactBreakPoints", fn := fun _ => fun
  | [d] => { results := [.lit (.bool true)], args := [d] }
  | _ => none }
def fnExactBreakPointsRow : OpenClaim := { program := "ytmlikchhkblohaa", sum := "2302a6cb4ca0d33490a38aa1fbdf7927ac3b1c87a82cc297709e00c07f46bd8d", func := "loop.example/g01221/laws.FnExactBreakPoints", spec := "fnExactBreakPoints", unfollowed := true, recurses := true, plainKeys := false, apart := false }
def FnExactBreakPointsSaid : Prop := fnExactBreakPointsRow.holds Try.pinned (OpenSpec.ofChange fnExactBreakPointsSpec)

/-- ITS FALSE NEIGHBOUR: 'it returns false'. Refute it at one input. -/
def fnExactBreakPointsWrong : ChangeSpec := { name := "fnExactBreakPoints", fn := fun _ => fun
  | [d] => { results := [.lit (.bool false)], args := [d] }
  | _ => none }
def FnExactBreakPointsWrongFalsely : Prop := fnExactBreakPointsRow.holds Try.pinned (OpenSpec.ofChange fnExactBreakPointsWrong)

/-- 'laws.FnExactSegmentBound': WHATEVER THE INPUT: true; the input reads as it did. -/
def fnExactSegmentBoundSpec : ChangeSpec := { name := "fnExactSegmentBound", fn := fun _ => fun
  | [d] => { results := [.lit (.bool true)], args := [d] }
  | _ => none }
def fnExactSegmentBoundRow : OpenClaim := { program := "ytmlikchhkblohaa", sum := "2302a6cb4ca0d33490a38aa1fbdf7927ac3b1c87a82cc297709e00c07f46bd8d", func := "loop.example/g01221/laws.FnExactSegmentBound", spec := "fnExactSegmentBound", unfollowed := true, recurses := true, plainKeys := false, apart := false }
def FnExactSegmentBoundSaid : Prop := fnExactSegmentBoundRow.holds Try.pinned (OpenSpec.ofChange fnExactSegmentBoundSpec)

/-- ITS FALSE NEIGHBOUR: 'it returns false'. Refute it at one input. -/
def fnExactSegmentBoundWrong : ChangeSpec := { name := "fnExactSegmentBound", fn := fun _ => fun
  | [d] => { results := [.lit (.bool false)], args := [d] }
  | _ => none }
def FnExactSegmentBoundWrongFalsely : Prop := fnExactSegmentBoundRow.holds Try.pinned (OpenSpec.ofChange fnExactSegmentBoundWrong)

/-- 'laws.FnExactBestTurns': WHATEVER THE INPUT: true; the input reads as it did. -/
def fnExactBestTurnsSpec : ChangeSpec := { name := "fnExactBestTurns", fn := fun _ => fun
  | [d] => { results := [.lit (.bool true)], args := [d] }
  | _ => none }
def fnExactBestTurnsRow : OpenClaim := { program := "ytmlikchhkblohaa", sum := "2302a6cb4ca0d33490a38aa1fbdf7927ac3b1c87a82cc297709e00c07f46bd8d", func := "loop.example/g01221/laws.FnExactBestTurns", spec := "fnExactBestTurns", unfollowed := true, recurses := true, plainKeys := false, apart := false }
def FnExactBestTurnsSaid : Prop := fnExactBestTurnsRow.holds Try.pinned (OpenSpec.ofChange fnExactBestTurnsSpec)

/-- ITS FALSE NEIGHBOUR: 'it returns false'. Refute it at one input. -/
def fnExactBestTurnsWrong : ChangeSpec := { name := "fnExactBestTurns", fn := fun _ => fun
  | [d] => { results := [.lit (.bool false)], args := [d] }
  | _ => none }
def FnExactBestTurnsWrongFalsely : Prop := fnExactBestTurnsRow.holds Try.pinned (OpenSpec.ofChange fnExactBestTurnsWrong)

/-- 'laws.FnExactGreedySegments': WHATEVER THE INPUT: true; the input reads as it did. -/
def fnExactGreedySegmentsSpec : ChangeSpec := { name := "fnExactGreedySegments", fn := fun _ => fun
  | [d] => { results := [.lit (.bool true)], args := [d] }
  | _ => none }
def fnExactGreedySegmentsRow : OpenClaim := { program := "ytmlikchhkblohaa", sum := "2302a6cb4ca0d33490a38aa1fbdf7927ac3b1c87a82cc297709e00c07f46bd8d", func := "loop.example/g01221/laws.FnExactGreedySegments", spec := "fnExactGreedySegments", unfollowed := true, recurses := true, plainKeys := false, apart := false }
def FnExactGreedySegmentsSaid : Prop := fnExactGreedySegmentsRow.holds Try.pinned (OpenSpec.ofChange fnExactGreedySegmentsSpec)

/-- ITS FALSE NEIGHBOUR: 'it returns false'. Refute it at one input. -/
def fnExactGreedySegmentsWrong : ChangeSpec := { name := "fnExactGreedySegments", fn := fun _ => fun
  | [d] => { results := [.lit (.bool false)], args := [d] }
  | _ => none }
def FnExactGreedySegmentsWrongFalsely : Prop := fnExactGreedySegmentsRow.holds Try.pinned (OpenSpec.ofChange fnExactGreedySegmentsWrong)

/-- 'laws.FnExactBurntDistance': WHATEVER THE INPUT: true; the input reads as it did. -/
def fnExactBurntDistanceSpec : ChangeSpec := { name := "fnExactBurntDistance", fn := fun _ => fun
  | [d] => { results := [.lit (.bool true)], args := [d] }
  | _ => none }
def fnExactBurntDistanceRow : OpenClaim := { program := "ytmlikchhkblohaa", sum := "2302a6cb4ca0d33490a38aa1fbdf7927ac3b1c87a82cc297709e00c07f46bd8d", func := "loop.example/g01221/laws.FnExactBurntDistance", spec := "fnExactBurntDistance", unfollowed := true, recurses := true, plainKeys := false, apart := false }
def FnExactBurntDistanceSaid : Prop := fnExactBurntDistanceRow.holds Try.pinned (OpenSpec.ofChange fnExactBurntDistanceSpec)

/-- ITS FALSE NEIGHBOUR: 'it returns false'. Refute it at one input. -/
def fnExactBurntDistanceWrong : ChangeSpec := { name := "fnExactBurntDistance", fn := fun _ => fun
  | [d] => { results := [.lit (.bool false)], args := [d] }
  | _ => none }
def FnExactBurntDistanceWrongFalsely : Prop := fnExactBurntDistanceRow.holds Try.pinned (OpenSpec.ofChange fnExactBurntDistanceWrong)

/-- 'laws.FnExactLeastBurnt': WHATEVER THE INPUT: true; the input reads as it did. -/
def fnExactLeastBurntSpec : ChangeSpec := { name := "fnExactLeastBurnt", fn := fun _ => fun
  | [d] => { results := [.lit (.bool true)], args := [d] }
  | _ => none }
def fnExactLeastBurntRow : OpenClaim := { program := "ytmlikchhkblohaa", sum := "2302a6cb4ca0d33490a38aa1fbdf7927ac3b1c87a82cc297709e00c07f46bd8d", func := "loop.example/g01221/laws.FnExactLeastBurnt", spec := "fnExactLeastBurnt", unfollowed := true, recurses := true, plainKeys := false, apart := false }
def FnExactLeastBurntSaid : Prop := fnExactLeastBurntRow.holds Try.pinned (OpenSpec.ofChange fnExactLeastBurntSpec)

/-- ITS FALSE NEIGHBOUR: 'it returns false'. Refute it at one input. -/
def fnExactLeastBurntWrong : ChangeSpec := { name := "fnExactLeastBurnt", fn := fun _ => fun
  | [d] => { results := [.lit (.bool false)], args := [d] }
  | _ => none }
def FnExactLeastBurntWrongFalsely : Prop := fnExactLeastBurntRow.holds Try.pinned (OpenSpec.ofChange fnExactLeastBurntWrong)

/-- 'laws.FnExactCountBurntBy': WHATEVER THE INPUT: true; the input reads as it did. -/
def fnExactCountBurntBySpec : ChangeSpec := { name := "fnExactCountBurntBy", fn := fun _ => fun
  | [d] => { results := [.lit (.bool true)], args := [d] }
  | _ => none }
def fnExactCountBurntByRow : OpenClaim := { program := "ytmlikchhkblohaa", sum := "2302a6cb4ca0d33490a38aa1fbdf7927ac3b1c87a82cc297709e00c07f46bd8d", func := "loop.example/g01221/laws.FnExactCountBurntBy", spec := "fnExactCountBurntBy", unfollowed := true, recurses := true, plainKeys := false, apart := false }
def FnExactCountBurntBySaid : Prop := fnExactCountBurntByRow.holds Try.pinned (OpenSpec.ofChange fnExactCountBurntBySpec)

/-- ITS FALSE NEIGHBOUR: 'it returns false'. Refute it at one input. -/
def fnExactCountBurntByWrong : ChangeSpec := { name := "fnExactCountBurntBy", fn := fun _ => fun
  | [d] => { results := [.lit (.bool false)], args := [d] }
  | _ => none }
def FnExactCountBurntByWrongFalsely : Prop := fnExactCountBurntByRow.holds Try.pinned (OpenSpec.ofChange fnExactCountBurntByWrong)

/-- 'laws.FnExactFarthestStacks': WHATEVER THE INPUT: true; the input reads as it did. -/
def fnExactFarthestStacksSpec : ChangeSpec := { name := "fnExactFarthestStacks", fn := fun _ => fun
  | [d] => { results := [.lit (.bool true)], args := [d] }
  | _ => none }
def fnExactFarthestStacksRow : OpenClaim := { program := "ytmlikchhkblohaa", sum := "2302a6cb4ca0d33490a38aa1fbdf7927ac3b1c87a82cc297709e00c07f46bd8d", func := "loop.example/g01221/laws.FnExactFarthestStacks", spec := "fnExactFarthestStacks", unfollowed := true, recurses := true, plainKeys := false, apart := false }
def FnExactFarthestStacksSaid : Prop := fnExactFarthestStacksRow.holds Try.pinned (OpenSpec.ofChange fnExactFarthestStacksSpec)

/-- ITS FALSE NEIGHBOUR: 'it returns false'. Refute it at one input. -/
def fnExactFarthestStacksWrong : ChangeSpec := { name := "fnExactFarthestStacks", fn := fun _ => fun
  | [d] => { results := [.lit (.bool false)], args := [d] }
  | _ => none }
def FnExactFarthestStacksWrongFalsely : Prop := fnExactFarthestStacksRow.holds Try.pinned (OpenSpec.ofChange fnExactFarthestStacksWrong)

/-- 'laws.FnExactWorstStacks': WHATEVER THE INPUT: true; the input reads as it did. -/
def fnExactWorstStacksSpec : ChangeSpec := { name := "fnExactWorstStacks", fn := fun _ => fun
  | [d] => { results := [.lit (.bool true)], args := [d] }
  | _ => none }
def fnExactWorstStacksRow : OpenClaim := { program := "ytmlikchhkblohaa", sum := "2302a6cb4ca0d33490a38aa1fbdf7927ac3b1c87a82cc297709e00c07f46bd8d", func := "loop.example/g01221/laws.FnExactWorstStacks", spec := "fnExactWorstStacks", unfollowed := true, recurses := true, plainKeys := false, apart := false }
def FnExactWorstStacksSaid : Prop := fnExactWorstStacksRow.holds Try.pinned (OpenSpec.ofChange fnExactWorstStacksSpec)

/-- ITS FALSE NEIGHBOUR: 'it returns false'. Refute it at one input. -/
def fnExactWorstStacksWrong : ChangeSpec := { name := "fnExactWorstStacks", fn := fun _ => fun
  | [d] => { results := [.lit (.bool false)], args := [d] }
  | _ => none }
def FnExactWorstStacksWrongFalsely : Prop := fnExactWorstStacksRow.holds Try.pinned (OpenSpec.ofChange fnExactWorstStacksWrong)

/-- 'laws.FnExactWorstBurnt': WHATEVER THE INPUT: true; the input reads as it did. -/
def fnExactWorstBurntSpec : ChangeSpec := { name := "fnExactWorstBurnt", fn := fun _ => fun
  | [d] => { results := [.lit (.bool true)], args := [d] }
  | _ => none }
def fnExactWorstBurntRow : OpenClaim := { program := "ytmlikchhkblohaa", sum := "2302a6cb4ca0d33490a38aa1fbdf7927ac3b1c87a82cc297709e00c07f46bd8d", func := "loop.example/g01221/laws.FnExactWorstBurnt", spec := "fnExactWorstBurnt", unfollowed := true, recurses := true, plainKeys := false, apart := false }
def FnExactWorstBurntSaid : Prop := fnExactWorstBurntRow.holds Try.pinned (OpenSpec.ofChange fnExactWorstBurntSpec)

/-- ITS FALSE NEIGHBOUR: 'it returns false'. Refute it at one input. -/
def fnExactWorstBurntWrong : ChangeSpec := { name := "fnExactWorstBurnt", fn := fun _ => fun
  | [d] => { results := [.lit (.bool false)], args := [d] }
  | _ => none }
def FnExactWorstBurntWrongFalsely : Prop := fnExactWorstBurntRow.holds Try.pinned (OpenSpec.ofChange fnExactWorstBurntWrong)

/- THE SECOND FORM. 'bulk': how many values and letters a reading holds, each counted each time it is reached (what is shared counts as often as it is met; a slice's spare places count too). A statement '..UptoSaid' is the law's where the arguments, and the package variables that the reading takes, are together of bulk at most 1048576: NARROWER than '..Said'. Prove '..Said' where nothing that the law and all that it calls make is longer than what came in: it says more and counts as full. Else prove '..UptoSaid'. A law counts once. -/
mutual
def uptoBulk {H : Type} : DataW H → Nat
  | .lit (.string bytes) => bytes.length + 1
  | .lit _ => 1
  | .nil => 1
  | .ptr d => uptoBulk d + 1
  | .slice elems spare => uptoBulkAll elems + uptoBulkAll spare + 1
  | .agg parts => uptoBulkAll parts + 1
  | .iface _ d => uptoBulk d + 1
  | .map entries => uptoBulkEntries entries + 1
  | .held _ => 1
def uptoBulkAll {H : Type} : List (DataW H) → Nat
  | [] => 0
  | d :: r => uptoBulk d + uptoBulkAll r
def uptoBulkEntries {H : Type} : List (Lit × DataW H) → Nat
  | [] => 0
  | x :: r => uptoBulkEntry x + uptoBulkEntries r
def uptoBulkEntry {H : Type} : Lit × DataW H → Nat
  | (.string bytes, d) => bytes.length + uptoBulk d + 1
  | (_, d) => uptoBulk d + 1
 end
def uptoSmall : (H : Type) → List (DataW H) → Bool := fun _ ds => decide (uptoBulkAll ds ≤ 1048576)
def OpenSpec.upto (s : _root_.Go.ChangeSpec) : _root_.Go.OpenSpec := { _root_.Go.OpenSpec.ofChange s with cond := some uptoSmall }

/-- 'laws.FnExactFirstDesk', WHERE WHAT IT READS IS OF BULK AT MOST 1048576: true; the input reads as it did. -/
def fnExactFirstDeskUptoRow : OpenClaim := { program := "ytmlikchhkblohaa", sum := "2302a6cb4ca0d33490a38aa1fbdf7927ac3b1c87a82cc297709e00c07f46bd8d", func := "loop.example/g01221/laws.FnExactFirstDesk", spec := "fnExactFirstDesk", plainKeys := false, apart := false, narrowed := true }
def FnExactFirstDeskUptoSaid : Prop := fnExactFirstDeskUptoRow.holds Try.pinned (OpenSpec.upto fnExactFirstDeskSpec)

/-- 'laws.FnExactIsDesk', WHERE WHAT IT READS IS OF BULK AT MOST 1048576: true; the input reads as it did. -/
def fnExactIsDeskUptoRow : OpenClaim := { program := "ytmlikchhkblohaa", sum := "2302a6cb4ca0d33490a38aa1fbdf7927ac3b1c87a82cc297709e00c07f46bd8d", func := "loop.example/g01221/laws.FnExactIsDesk", spec := "fnExactIsDesk", plainKeys := false, apart := false, narrowed := true }
def FnExactIsDeskUptoSaid : Prop := fnExactIsDeskUptoRow.holds Try.pinned (OpenSpec.upto fnExactIsDeskSpec)

/-- 'laws.FnExactAreRows', WHERE WHAT IT READS IS OF BULK AT MOST 1048576: true; the input reads as it did. -/
def fnExactAreRowsUptoRow : OpenClaim := { program := "ytmlikchhkblohaa", sum := "2302a6cb4ca0d33490a38aa1fbdf7927ac3b1c87a82cc297709e00c07f46bd8d", func := "loop.example/g01221/laws.FnExactAreRows", spec := "fnExactAreRows", plainKeys := false, apart := false, narrowed := true }
def FnExactAreRowsUptoSaid : Prop := fnExactAreRowsUptoRow.holds Try.pinned (OpenSpec.upto fnExactAreRowsSpec)

/-- 'laws.FnExactTreeSize', WHERE WHAT IT READS IS OF BULK AT MOST 1048576: true; the input reads as it did. -/
def fnExactTreeSizeUptoRow : OpenClaim := { program := "ytmlikchhkblohaa", sum := "2302a6cb4ca0d33490a38aa1fbdf7927ac3b1c87a82cc297709e00c07f46bd8d", func := "loop.example/g01221/laws.FnExactTreeSize", spec := "fnExactTreeSize", unfollowed := true, recurses := true, plainKeys := false, apart := false, narrowed := true }
def FnExactTreeSizeUptoSaid : Prop := fnExactTreeSizeUptoRow.holds Try.pinned (OpenSpec.upto fnExactTreeSizeSpec)

/-- 'laws.FnExactDepthBefore', WHERE WHAT IT READS IS OF BULK AT MOST 1048576: true; the input reads as it did. -/
def fnExactDepthBeforeUptoRow : OpenClaim := { program := "ytmlikchhkblohaa", sum := "2302a6cb4ca0d33490a38aa1fbdf7927ac3b1c87a82cc297709e00c07f46bd8d", func := "loop.example/g01221/laws.FnExactDepthBefore", spec := "fnExactDepthBefore", unfollowed := true, recurses := true, plainKeys := false, apart := false, narrowed := true }
def FnExactDepthBeforeUptoSaid : Prop := fnExactDepthBeforeUptoRow.holds Try.pinned (OpenSpec.upto fnExactDepthBeforeSpec)

/-- 'laws.FnExactLongestTop', WHERE WHAT IT READS IS OF BULK AT MOST 1048576: true; the input reads as it did. -/
def fnExactLongestTopUptoRow : OpenClaim := { program := "ytmlikchhkblohaa", sum := "2302a6cb4ca0d33490a38aa1fbdf7927ac3b1c87a82cc297709e00c07f46bd8d", func := "loop.example/g01221/laws.FnExactLongestTop", spec := "fnExactLongestTop", unfollowed := true, recurses := true, plainKeys := false, apart := false, narrowed := true }
def FnExactLongestTopUptoSaid : Prop := fnExactLongestTopUptoRow.holds Try.pinned (OpenSpec.upto fnExactLongestTopSpec)

/-- 'laws.FnExactCountLongest', WHERE WHAT IT READS IS OF BULK AT MOST 1048576: true; the input reads as it did. -/
def fnExactCountLongestUptoRow : OpenClaim := { program := "ytmlikchhkblohaa", sum := "2302a6cb4ca0d33490a38aa1fbdf7927ac3b1c87a82cc297709e00c07f46bd8d", func := "loop.example/g01221/laws.FnExactCountLongest", spec := "fnExactCountLongest", unfollowed := true, recurses := true, plainKeys := false, apart := false, narrowed := true }
def FnExactCountLongestUptoSaid : Prop := fnExactCountLongestUptoRow.holds Try.pinned (OpenSpec.upto fnExactCountLongestSpec)

/-- 'laws.FnExactCountBySteps', WHERE WHAT IT READS IS OF BULK AT MOST 1048576: true; the input reads as it did. -/
def fnExactCountByStepsUptoRow : OpenClaim := { program := "ytmlikchhkblohaa", sum := "2302a6cb4ca0d33490a38aa1fbdf7927ac3b1c87a82cc297709e00c07f46bd8d", func := "loop.example/g01221/laws.FnExactCountBySteps", spec := "fnExactCountBySteps", unfollowed := true, recurses := true, plainKeys := false, apart := false, narrowed := true }
def FnExactCountByStepsUptoSaid : Prop := fnExactCountByStepsUptoRow.holds Try.pinned (OpenSpec.upto fnExactCountByStepsSpec)

/-- 'laws.FnExactPlaySegments', WHERE WHAT IT READS IS OF BULK AT MOST 1048576: true; the input reads as it did. -/
def fnExactPlaySegmentsUptoRow : OpenClaim := { program := "ytmlikchhkblohaa", sum := "2302a6cb4ca0d33490a38aa1fbdf7927ac3b1c87a82cc297709e00c07f46bd8d", func := "loop.example/g01221/laws.FnExactPlaySegments", spec := "fnExactPlaySegments", unfollowed := true, recurses := true, plainKeys := false, apart := false, narrowed := true }
def FnExactPlaySegmentsUptoSaid : Prop := fnExactPlaySegmentsUptoRow.holds Try.pinned (OpenSpec.upto fnExactPlaySegmentsSpec)

/-- 'laws.FnExactTurnSegment', WHERE WHAT IT READS IS OF BULK AT MOST 1048576: true; the input reads as it did. -/
def fnExactTurnSegmentUptoRow : OpenClaim := { program := "ytmlikchhkblohaa", sum := "2302a6cb4ca0d33490a38aa1fbdf7927ac3b1c87a82cc297709e00c07f46bd8d", func := "loop.example/g01221/laws.FnExactTurnSegment", spec := "fnExactTurnSegment", unfollowed := true, recurses := true, plainKeys := false, apart := false, narrowed := true }
def FnExactTurnSegmentUptoSaid : Prop := fnExactTurnSegmentUptoRow.holds Try.pinned (OpenSpec.upto fnExactTurnSegmentSpec)

/-- 'laws.FnExactBreakPoints', WHERE WHAT IT READS IS OF BULK AT MOST 1048576: true; the input reads as it did. -/
def fnExactBreakPointsUptoRow : OpenClaim := { program := "ytmlikchhkblohaa", sum := "2302a6cb4ca0d33490a38aa1fbdf7927ac3b1c87a82cc297709e00c07f46bd8d", func := "loop.example/g01221/laws.FnExactBreakPoints", spec := "fnExactBreakPoints", unfollowed := true, recurses := true, plainKeys := false, apart := false, narrowed := true }
def FnExactBreakPointsUptoSaid : Prop := fnExactBreakPointsUptoRow.holds Try.pinned (OpenSpec.upto fnExactBreakPointsSpec)

/-- 'laws.FnExactSegmentBound', WHERE WHAT IT READS IS OF BULK AT MOST 1048576: true; the input reads as it did. -/
def fnExactSegmentBoundUptoRow : OpenClaim := { program := "ytmlikchhkblohaa", sum := "2302a6cb4ca0d33490a38aa1fbdf7927ac3b1c87a82cc297709e00c07f46bd8d", func := "loop.example/g01221/laws.FnExactSegmentBound", spec := "fnExactSegmentBound", unfollowed := true, recurses := true, plainKeys := false, apart := false, narrowed := true }
def FnExactSegmentBoundUptoSaid : Prop := fnExactSegmentBoundUptoRow.holds Try.pinned (OpenSpec.upto fnExactSegmentBoundSpec)

/-- 'laws.FnExactBestTurns', WHERE WHAT IT READS IS OF BULK AT MOST 1048576: true; the input reads as it did. -/
def fnExactBestTurnsUptoRow : OpenClaim := { program := "ytmlikchhkblohaa", sum := "2302a6cb4ca0d33490a38aa1fbdf7927ac3b1c87a82cc297709e00c07f46bd8d", func := "loop.example/g01221/laws.FnExactBestTurns", spec := "fnExactBestTurns", unfollowed := true, recurses := true, plainKeys := false, apart := false, narrowed := true }
def FnExactBestTurnsUptoSaid : Prop := fnExactBestTurnsUptoRow.holds Try.pinned (OpenSpec.upto fnExactBestTurnsSpec)

/-- 'laws.FnExactGreedySegments', WHERE WHAT IT READS IS OF BULK AT MOST 1048576: true; the input reads as it did. -/
def fnExactGreedySegmentsUptoRow : OpenClaim := { program := "ytmlikchhkblohaa", sum := "2302a6cb4ca0d33490a38aa1fbdf7927ac3b1c87a82cc297709e00c07f46bd8d", func := "loop.example/g01221/laws.FnExactGreedySegments", spec := "fnExactGreedySegments", unfollowed := true, recurses := true, plainKeys := false, apart := false, narrowed := true }
def FnExactGreedySegmentsUptoSaid : Prop := fnExactGreedySegmentsUptoRow.holds Try.pinned (OpenSpec.upto fnExactGreedySegmentsSpec)

/-- 'laws.FnExactBurntDistance', WHERE WHAT IT READS IS OF BULK AT MOST 1048576: true; the input reads as it did. -/
def fnExactBurntDistanceUptoRow : OpenClaim := { program := "ytmlikchhkblohaa", sum := "2302a6cb4ca0d33490a38aa1fbdf7927ac3b1c87a82cc297709e00c07f46bd8d", func := "loop.example/g01221/laws.FnExactBurntDistance", spec := "fnExactBurntDistance", unfollowed := true, recurses := true, plainKeys := false, apart := false, narrowed := true }
def FnExactBurntDistanceUptoSaid : Prop := fnExactBurntDistanceUptoRow.holds Try.pinned (OpenSpec.upto fnExactBurntDistanceSpec)

/-- 'laws.FnExactLeastBurnt', WHERE WHAT IT READS IS OF BULK AT MOST 1048576: true; the input reads as it did. -/
def fnExactLeastBurntUptoRow : OpenClaim := { program := "ytmlikchhkblohaa", sum := "2302a6cb4ca0d33490a38aa1fbdf7927ac3b1c87a82cc297709e00c07f46bd8d", func := "loop.example/g01221/laws.FnExactLeastBurnt", spec := "fnExactLeastBurnt", unfollowed := true, recurses := true, plainKeys := false, apart := false, narrowed := true }
def FnExactLeastBurntUptoSaid : Prop := fnExactLeastBurntUptoRow.holds Try.pinned (OpenSpec.upto fnExactLeastBurntSpec)

/-- 'laws.FnExactCountBurntBy', WHERE WHAT IT READS IS OF BULK AT MOST 1048576: true; the input reads as it did. -/
def fnExactCountBurntByUptoRow : OpenClaim := { program := "ytmlikchhkblohaa", sum := "2302a6cb4ca0d33490a38aa1fbdf7927ac3b1c87a82cc297709e00c07f46bd8d", func := "loop.example/g01221/laws.FnExactCountBurntBy", spec := "fnExactCountBurntBy", unfollowed := true, recurses := true, plainKeys := false, apart := false, narrowed := true }
def FnExactCountBurntByUptoSaid : Prop := fnExactCountBurntByUptoRow.holds Try.pinned (OpenSpec.upto fnExactCountBurntBySpec)

/-- 'laws.FnExactFarthestStacks', WHERE WHAT IT READS IS OF BULK AT MOST 1048576: true; the input reads as it did. -/
def fnExactFarthestStacksUptoRow : OpenClaim := { program := "ytmlikchhkblohaa", sum := "2302a6cb4ca0d33490a38aa1fbdf7927ac3b1c87a82cc297709e00c07f46bd8d", func := "loop.example/g01221/laws.FnExactFarthestStacks", spec := "fnExactFarthestStacks", unfollowed := true, recurses := true, plainKeys := false, apart := false, narrowed := true }
def FnExactFarthestStacksUptoSaid : Prop := fnExactFarthestStacksUptoRow.holds Try.pinned (OpenSpec.upto fnExactFarthestStacksSpec)

/-- 'laws.FnExactWorstStacks', WHERE WHAT IT READS IS OF BULK AT MOST 1048576: true; the input reads as it did. -/
def fnExactWorstStacksUptoRow : OpenClaim := { program := "ytmlikchhkblohaa", sum := "2302a6cb4ca0d33490a38aa1fbdf7927ac3b1c87a82cc297709e00c07f46bd8d", func := "loop.example/g01221/laws.FnExactWorstStacks", spec := "fnExactWorstStacks", unfollowed := true, recurses := true, plainKeys := false, apart := false, narrowed := true }
def FnExactWorstStacksUptoSaid : Prop := fnExactWorstStacksUptoRow.holds Try.pinned (OpenSpec.upto fnExactWorstStacksSpec)

/-- 'laws.FnExactWorstBurnt', WHERE WHAT IT READS IS OF BULK AT MOST 1048576: true; the input reads as it did. -/
def fnExactWorstBurntUptoRow : OpenClaim := { program := "ytmlikchhkblohaa", sum := "2302a6cb4ca0d33490a38aa1fbdf7927ac3b1c87a82cc297709e00c07f46bd8d", func := "loop.example/g01221/laws.FnExactWorstBurnt", spec := "fnExactWorstBurnt", unfollowed := true, recurses := true, plainKeys := false, apart := false, narrowed := true }
def FnExactWorstBurntUptoSaid : Prop := fnExactWorstBurntUptoRow.holds Try.pinned (OpenSpec.upto fnExactWorstBurntSpec)

end Rows
end Go.Proofs.Ytmlikchhkblohaa
