/-
  No cell of these rows narrows 'for every input' (looked for: loops, veiled, ifaces, maps, wideKeys, modest, calm, conditions, laid).
  DERIVED. THE GIVEN ROWS OF THIS SEAT. 19 by the template 'for every input the law returns true; each argument reads behind the call as it read before'; 0 by the template 'total and deterministic' (their statements: YtfbadpabefdleaaTotals.lean).
  GIVEN WITH THE SEED: the statements are not yours to turn. If you find one false, say at which input.
  Laid BY PROGRAM, IN A SANDBOX (cutbox-rows.mjs): the forced cells as the released guide's own fill.sh prints them over the translation a017b33083db619c… (all of the seat's roots in one cut). By AI agents, Wed Nov 11 2026. No macro, syntax, notation, axiom, sorry.
-/
import Derived.Test.YtfbadpabefdleaaChecked
import GoSem.Claim
import GoSem.ClaimJoined
import GoSem.ClaimMapViews
import Derived.JoinedTies
import Derived.KernelRfl
namespace Go.Proofs.Ytfbadpabefdleaa
/- THE CELL 'sum', in the pinned program and in every row, IS THE sha256 OF THE DUMP (.gsa) THAT YtfbadpabefdleaaProg.lean LOADS. Nothing in Lean hashes anything: it is a label: what it is worth is what the hold of that sum in a sandbox is worth. -/
noncomputable def Try.pinned : Pinned := { name := "ytfbadpabefdleaa", sum := "a017b33083db619c9b7784be67c8654d67910af01b9636492f3ea9457870ea65", checked := Try.checked }
namespace Rows
def none {H : Type} : Left H := { results := [], args := [] }

/-- 'laws.FnExactWorstBurnt': WHATEVER THE INPUT: true; the input reads as it did. -/
def fnExactWorstBurntSpec : ChangeSpec := { name := "fnExactWorstBurnt", fn := fun _ => fun
  | [d] => { results := [.lit (.bool true)], args := [d] }
  | _ => none }
def fnExactWorstBurntRow : OpenClaim := { program := "ytfbadpabefdleaa", sum := "a017b33083db619c9b7784be67c8654d67910af01b9636492f3ea9457870ea65", func := "loop.example/g01221/laws.FnExactWorstBurnt", spec := "fnExactWorstBurnt", unfollowed := true, recurses := true, plainKeys := false, leaving := true, apart := false }
def FnExactWorstBurntSaid : Prop := fnExactWorstBurntRow.holds Try.pinned (OpenSpec.ofChange fnExactWorstBurntSpec)

/-- ITS FALSE NEIGHBOUR: 'it returns false'. Refute it at one input. -/
def fnExactWorstBurntWrong : ChangeSpec := { name := "fnExactWorstBurnt", fn := fun _ => fun
  | [d] => { results := [.lit (.bool false)], args := [d] }
  | _ => none }
def FnExactWorstBurntWrongFalsely : Prop := fnExactWorstBurntRow.holds Try.pinned (OpenSpec.ofChange fnExactWorstBurntWrong)

/-- 'laws.FnExactTopGame': WHATEVER THE INPUT: true; the input reads as it did. -/
def fnExactTopGameSpec : ChangeSpec := { name := "fnExactTopGame", fn := fun _ => fun
  | [d] => { results := [.lit (.bool true)], args := [d] }
  | _ => none }
def fnExactTopGameRow : OpenClaim := { program := "ytfbadpabefdleaa", sum := "a017b33083db619c9b7784be67c8654d67910af01b9636492f3ea9457870ea65", func := "loop.example/g01221/laws.FnExactTopGame", spec := "fnExactTopGame", plainKeys := false, leaving := true, apart := false }
def FnExactTopGameSaid : Prop := fnExactTopGameRow.holds Try.pinned (OpenSpec.ofChange fnExactTopGameSpec)

/-- ITS FALSE NEIGHBOUR: 'it returns false'. Refute it at one input. -/
def fnExactTopGameWrong : ChangeSpec := { name := "fnExactTopGame", fn := fun _ => fun
  | [d] => { results := [.lit (.bool false)], args := [d] }
  | _ => none }
def FnExactTopGameWrongFalsely : Prop := fnExactTopGameRow.holds Try.pinned (OpenSpec.ofChange fnExactTopGameWrong)

/-- 'laws.FnExactTopSteps': WHATEVER THE INPUT: true; the input reads as it did. -/
def fnExactTopStepsSpec : ChangeSpec := { name := "fnExactTopSteps", fn := fun _ => fun
  | [d] => { results := [.lit (.bool true)], args := [d] }
  | _ => none }
def fnExactTopStepsRow : OpenClaim := { program := "ytfbadpabefdleaa", sum := "a017b33083db619c9b7784be67c8654d67910af01b9636492f3ea9457870ea65", func := "loop.example/g01221/laws.FnExactTopSteps", spec := "fnExactTopSteps", plainKeys := false, leaving := true, apart := false }
def FnExactTopStepsSaid : Prop := fnExactTopStepsRow.holds Try.pinned (OpenSpec.ofChange fnExactTopStepsSpec)

/-- ITS FALSE NEIGHBOUR: 'it returns false'. Refute it at one input. -/
def fnExactTopStepsWrong : ChangeSpec := { name := "fnExactTopSteps", fn := fun _ => fun
  | [d] => { results := [.lit (.bool false)], args := [d] }
  | _ => none }
def FnExactTopStepsWrongFalsely : Prop := fnExactTopStepsRow.holds Try.pinned (OpenSpec.ofChange fnExactTopStepsWrong)

/-- 'laws.FnExactTopEnd': WHATEVER THE INPUT: true; the input reads as it did. -/
def fnExactTopEndSpec : ChangeSpec := { name := "fnExactTopEnd", fn := fun _ => fun
  | [d] => { results := [.lit (.bool true)], args := [d] }
  | _ => none }
def fnExactTopEndRow : OpenClaim := { program := "ytfbadpabefdleaa", sum := "a017b33083db619c9b7784be67c8654d67910af01b9636492f3ea9457870ea65", func := "loop.example/g01221/laws.FnExactTopEnd", spec := "fnExactTopEnd", plainKeys := false, leaving := true, apart := false }
def FnExactTopEndSaid : Prop := fnExactTopEndRow.holds Try.pinned (OpenSpec.ofChange fnExactTopEndSpec)

/-- ITS FALSE NEIGHBOUR: 'it returns false'. Refute it at one input. -/
def fnExactTopEndWrong : ChangeSpec := { name := "fnExactTopEnd", fn := fun _ => fun
  | [d] => { results := [.lit (.bool false)], args := [d] }
  | _ => none }
def FnExactTopEndWrongFalsely : Prop := fnExactTopEndRow.holds Try.pinned (OpenSpec.ofChange fnExactTopEndWrong)

/-- 'laws.FnExactTopsSeen': WHATEVER THE INPUT: true; the input reads as it did. -/
def fnExactTopsSeenSpec : ChangeSpec := { name := "fnExactTopsSeen", fn := fun _ => fun
  | [d] => { results := [.lit (.bool true)], args := [d] }
  | _ => none }
def fnExactTopsSeenRow : OpenClaim := { program := "ytfbadpabefdleaa", sum := "a017b33083db619c9b7784be67c8654d67910af01b9636492f3ea9457870ea65", func := "loop.example/g01221/laws.FnExactTopsSeen", spec := "fnExactTopsSeen", plainKeys := false, leaving := true, apart := false }
def FnExactTopsSeenSaid : Prop := fnExactTopsSeenRow.holds Try.pinned (OpenSpec.ofChange fnExactTopsSeenSpec)

/-- ITS FALSE NEIGHBOUR: 'it returns false'. Refute it at one input. -/
def fnExactTopsSeenWrong : ChangeSpec := { name := "fnExactTopsSeen", fn := fun _ => fun
  | [d] => { results := [.lit (.bool false)], args := [d] }
  | _ => none }
def FnExactTopsSeenWrongFalsely : Prop := fnExactTopsSeenRow.holds Try.pinned (OpenSpec.ofChange fnExactTopsSeenWrong)

/-- 'laws.FnExactIsSegment': WHATEVER THE INPUT: true; the input reads as it did. -/
def fnExactIsSegmentSpec : ChangeSpec := { name := "fnExactIsSegment", fn := fun _ => fun
  | [d1, d2] => { results := [.lit (.bool true)], args := [d1, d2] }
  | _ => none }
def fnExactIsSegmentRow : OpenClaim := { program := "ytfbadpabefdleaa", sum := "a017b33083db619c9b7784be67c8654d67910af01b9636492f3ea9457870ea65", func := "loop.example/g01221/laws.FnExactIsSegment", spec := "fnExactIsSegment", plainKeys := false, apart := false }
def FnExactIsSegmentSaid : Prop := fnExactIsSegmentRow.holds Try.pinned (OpenSpec.ofChange fnExactIsSegmentSpec)

/-- ITS FALSE NEIGHBOUR: 'it returns false'. Refute it at one input. -/
def fnExactIsSegmentWrong : ChangeSpec := { name := "fnExactIsSegment", fn := fun _ => fun
  | [d1, d2] => { results := [.lit (.bool false)], args := [d1, d2] }
  | _ => none }
def FnExactIsSegmentWrongFalsely : Prop := fnExactIsSegmentRow.holds Try.pinned (OpenSpec.ofChange fnExactIsSegmentWrong)

/-- 'laws.FnExactTurnSegment': WHATEVER THE INPUT: true; the input reads as it did. -/
def fnExactTurnSegmentSpec : ChangeSpec := { name := "fnExactTurnSegment", fn := fun _ => fun
  | [d1, d2] => { results := [.lit (.bool true)], args := [d1, d2] }
  | _ => none }
def fnExactTurnSegmentRow : OpenClaim := { program := "ytfbadpabefdleaa", sum := "a017b33083db619c9b7784be67c8654d67910af01b9636492f3ea9457870ea65", func := "loop.example/g01221/laws.FnExactTurnSegment", spec := "fnExactTurnSegment", plainKeys := false, apart := false }
def FnExactTurnSegmentSaid : Prop := fnExactTurnSegmentRow.holds Try.pinned (OpenSpec.ofChange fnExactTurnSegmentSpec)

/-- ITS FALSE NEIGHBOUR: 'it returns false'. Refute it at one input. -/
def fnExactTurnSegmentWrong : ChangeSpec := { name := "fnExactTurnSegment", fn := fun _ => fun
  | [d1, d2] => { results := [.lit (.bool false)], args := [d1, d2] }
  | _ => none }
def FnExactTurnSegmentWrongFalsely : Prop := fnExactTurnSegmentRow.holds Try.pinned (OpenSpec.ofChange fnExactTurnSegmentWrong)

/-- 'laws.FnExactPlaySegments': WHATEVER THE INPUT: true; the input reads as it did. -/
def fnExactPlaySegmentsSpec : ChangeSpec := { name := "fnExactPlaySegments", fn := fun _ => fun
  | [d1, d2] => { results := [.lit (.bool true)], args := [d1, d2] }
  | _ => none }
def fnExactPlaySegmentsRow : OpenClaim := { program := "ytfbadpabefdleaa", sum := "a017b33083db619c9b7784be67c8654d67910af01b9636492f3ea9457870ea65", func := "loop.example/g01221/laws.FnExactPlaySegments", spec := "fnExactPlaySegments", plainKeys := false, apart := false }
def FnExactPlaySegmentsSaid : Prop := fnExactPlaySegmentsRow.holds Try.pinned (OpenSpec.ofChange fnExactPlaySegmentsSpec)

/-- ITS FALSE NEIGHBOUR: 'it returns false'. Refute it at one input. -/
def fnExactPlaySegmentsWrong : ChangeSpec := { name := "fnExactPlaySegments", fn := fun _ => fun
  | [d1, d2] => { results := [.lit (.bool false)], args := [d1, d2] }
  | _ => none }
def FnExactPlaySegmentsWrongFalsely : Prop := fnExactPlaySegmentsRow.holds Try.pinned (OpenSpec.ofChange fnExactPlaySegmentsWrong)

/-- 'laws.FnExactBreakPoints': WHATEVER THE INPUT: true; the input reads as it did. -/
def fnExactBreakPointsSpec : ChangeSpec := { name := "fnExactBreakPoints", fn := fun _ => fun
  | [d] => { results := [.lit (.bool true)], args := [d] }
  | _ => none }
def fnExactBreakPointsRow : OpenClaim := { program := "ytfbadpabefdleaa", sum := "a017b33083db619c9b7784be67c8654d67910af01b9636492f3ea9457870ea65", func := "loop.example/g01221/laws.FnExactBreakPoints", spec := "fnExactBreakPoints", unfollowed := true, recurses := true, plainKeys := false, leaving := true, apart := false }
def FnExactBreakPointsSaid : Prop := fnExactBreakPointsRow.holds Try.pinned (OpenSpec.ofChange fnExactBreakPointsSpec)

/-- ITS FALSE NEIGHBOUR: 'it returns false'. Refute it at one input. -/
def fnExactBreakPointsWrong : ChangeSpec := { name := "fnExactBreakPoints", fn := fun _ => fun
  | [d] => { results := [.lit (.bool false)], args := [d] }
  | _ => none }
def FnExactBreakPointsWrongFalsely : Prop := fnExactBreakPointsRow.holds Try.pinned (OpenSpec.ofChange fnExactBreakPointsWrong)

/-- 'laws.FnExactSegmentBound': WHATEVER THE INPUT: true; the input reads as it did. -/
def fnExactSegmentBoundSpec : ChangeSpec := { name := "fnExactSegmentBound", fn := fun _ => fun
  | [d] => { results := [.lit (.bool true)], args := [d] }
  | _ => none }
def fnExactSegmentBoundRow : OpenClaim := { program := "ytfbadpabefdleaa", sum := "a017b33083db619c9b7784be67c8654d67910af01b9636492f3ea9457870ea65", func := "loop.example/g01221/laws.FnExactSegmentBound", spec := "fnExactSegmentBound", unfollowed := true, recurses := true, plainKeys := false, leaving := true, apart := false }
def FnExactSegmentBoundSaid : Prop := fnExactSegmentBoundRow.holds Try.pinned (OpenSpec.ofChange fnExactSegmentBoundSpec)

/-- ITS FALSE NEIGHBOUR: 'it returns false'. Refute it at one input. -/
def fnExactSegmentBoundWrong : ChangeSpec := { name := "fnExactSegmentBound", fn := fun _ => fun
  | [d] => { results := [.lit (.bool false)], args := [d] }
  | _ => none }
def FnExactSegmentBoundWrongFalsely : Prop := fnExactSegmentBoundRow.holds Try.pinned (OpenSpec.ofChange fnExactSegmentBoundWrong)

/-- 'laws.FnExactBestTurns': WHATEVER THE INPUT: true; the input reads as it did. -/
def fnExactBestTurnsSpec : ChangeSpec := { name := "fnExactBestTurns", fn := fun _ => fun
  | [d] => { results := [.lit (.bool true)], args := [d] }
  | _ => none }
def fnExactBestTurnsRow : OpenClaim := { program := "ytfbadpabefdleaa", sum := "a017b33083db619c9b7784be67c8654d67910af01b9636492f3ea9457870ea65", func := "loop.example/g01221/laws.FnExactBestTurns", spec := "fnExactBestTurns", unfollowed := true, recurses := true, plainKeys := false, leaving := true, apart := false }
def FnExactBestTurnsSaid : Prop := fnExactBestTurnsRow.holds Try.pinned (OpenSpec.ofChange fnExactBestTurnsSpec)

/-- ITS FALSE NEIGHBOUR: 'it returns false'. Refute it at one input. -/
def fnExactBestTurnsWrong : ChangeSpec := { name := "fnExactBestTurns", fn := fun _ => fun
  | [d] => { results := [.lit (.bool false)], args := [d] }
  | _ => none }
def FnExactBestTurnsWrongFalsely : Prop := fnExactBestTurnsRow.holds Try.pinned (OpenSpec.ofChange fnExactBestTurnsWrong)

/-- 'laws.FnExactGreedySegments': WHATEVER THE INPUT: true; the input reads as it did. -/
def fnExactGreedySegmentsSpec : ChangeSpec := { name := "fnExactGreedySegments", fn := fun _ => fun
  | [d] => { results := [.lit (.bool true)], args := [d] }
  | _ => none }
def fnExactGreedySegmentsRow : OpenClaim := { program := "ytfbadpabefdleaa", sum := "a017b33083db619c9b7784be67c8654d67910af01b9636492f3ea9457870ea65", func := "loop.example/g01221/laws.FnExactGreedySegments", spec := "fnExactGreedySegments", unfollowed := true, recurses := true, plainKeys := false, leaving := true, apart := false }
def FnExactGreedySegmentsSaid : Prop := fnExactGreedySegmentsRow.holds Try.pinned (OpenSpec.ofChange fnExactGreedySegmentsSpec)

/-- ITS FALSE NEIGHBOUR: 'it returns false'. Refute it at one input. -/
def fnExactGreedySegmentsWrong : ChangeSpec := { name := "fnExactGreedySegments", fn := fun _ => fun
  | [d] => { results := [.lit (.bool false)], args := [d] }
  | _ => none }
def FnExactGreedySegmentsWrongFalsely : Prop := fnExactGreedySegmentsRow.holds Try.pinned (OpenSpec.ofChange fnExactGreedySegmentsWrong)

/-- 'laws.FnExactSelectionSegments': WHATEVER THE INPUT: true; the input reads as it did. -/
def fnExactSelectionSegmentsSpec : ChangeSpec := { name := "fnExactSelectionSegments", fn := fun _ => fun
  | [d] => { results := [.lit (.bool true)], args := [d] }
  | _ => none }
def fnExactSelectionSegmentsRow : OpenClaim := { program := "ytfbadpabefdleaa", sum := "a017b33083db619c9b7784be67c8654d67910af01b9636492f3ea9457870ea65", func := "loop.example/g01221/laws.FnExactSelectionSegments", spec := "fnExactSelectionSegments", plainKeys := false, apart := false }
def FnExactSelectionSegmentsSaid : Prop := fnExactSelectionSegmentsRow.holds Try.pinned (OpenSpec.ofChange fnExactSelectionSegmentsSpec)

/-- ITS FALSE NEIGHBOUR: 'it returns false'. Refute it at one input. -/
def fnExactSelectionSegmentsWrong : ChangeSpec := { name := "fnExactSelectionSegments", fn := fun _ => fun
  | [d] => { results := [.lit (.bool false)], args := [d] }
  | _ => none }
def FnExactSelectionSegmentsWrongFalsely : Prop := fnExactSelectionSegmentsRow.holds Try.pinned (OpenSpec.ofChange fnExactSelectionSegmentsWrong)

/-- 'laws.FnExactSegmentDistance': WHATEVER THE INPUT: true; the input reads as it did. -/
def fnExactSegmentDistanceSpec : ChangeSpec := { name := "fnExactSegmentDistance", fn := fun _ => fun
  | [d] => { results := [.lit (.bool true)], args := [d] }
  | _ => none }
def fnExactSegmentDistanceRow : OpenClaim := { program := "ytfbadpabefdleaa", sum := "a017b33083db619c9b7784be67c8654d67910af01b9636492f3ea9457870ea65", func := "loop.example/g01221/laws.FnExactSegmentDistance", spec := "fnExactSegmentDistance", unfollowed := true, recurses := true, plainKeys := false, leaving := true, apart := false }
def FnExactSegmentDistanceSaid : Prop := fnExactSegmentDistanceRow.holds Try.pinned (OpenSpec.ofChange fnExactSegmentDistanceSpec)

/-- ITS FALSE NEIGHBOUR: 'it returns false'. Refute it at one input. -/
def fnExactSegmentDistanceWrong : ChangeSpec := { name := "fnExactSegmentDistance", fn := fun _ => fun
  | [d] => { results := [.lit (.bool false)], args := [d] }
  | _ => none }
def FnExactSegmentDistanceWrongFalsely : Prop := fnExactSegmentDistanceRow.holds Try.pinned (OpenSpec.ofChange fnExactSegmentDistanceWrong)

/-- 'laws.FnExactLeastSegments': WHATEVER THE INPUT: true; the input reads as it did. -/
def fnExactLeastSegmentsSpec : ChangeSpec := { name := "fnExactLeastSegments", fn := fun _ => fun
  | [d] => { results := [.lit (.bool true)], args := [d] }
  | _ => none }
def fnExactLeastSegmentsRow : OpenClaim := { program := "ytfbadpabefdleaa", sum := "a017b33083db619c9b7784be67c8654d67910af01b9636492f3ea9457870ea65", func := "loop.example/g01221/laws.FnExactLeastSegments", spec := "fnExactLeastSegments", unfollowed := true, recurses := true, plainKeys := false, leaving := true, apart := false }
def FnExactLeastSegmentsSaid : Prop := fnExactLeastSegmentsRow.holds Try.pinned (OpenSpec.ofChange fnExactLeastSegmentsSpec)

/-- ITS FALSE NEIGHBOUR: 'it returns false'. Refute it at one input. -/
def fnExactLeastSegmentsWrong : ChangeSpec := { name := "fnExactLeastSegments", fn := fun _ => fun
  | [d] => { results := [.lit (.bool false)], args := [d] }
  | _ => none }
def FnExactLeastSegmentsWrongFalsely : Prop := fnExactLeastSegmentsRow.holds Try.pinned (OpenSpec.ofChange fnExactLeastSegmentsWrong)

/-- 'laws.FnExactCountLeastSegments': WHATEVER THE INPUT: true; the input reads as it did. -/
def fnExactCountLeastSegmentsSpec : ChangeSpec := { name := "fnExactCountLeastSegments", fn := fun _ => fun
  | [d] => { results := [.lit (.bool true)], args := [d] }
  | _ => none }
def fnExactCountLeastSegmentsRow : OpenClaim := { program := "ytfbadpabefdleaa", sum := "a017b33083db619c9b7784be67c8654d67910af01b9636492f3ea9457870ea65", func := "loop.example/g01221/laws.FnExactCountLeastSegments", spec := "fnExactCountLeastSegments", unfollowed := true, recurses := true, plainKeys := false, leaving := true, apart := false }
def FnExactCountLeastSegmentsSaid : Prop := fnExactCountLeastSegmentsRow.holds Try.pinned (OpenSpec.ofChange fnExactCountLeastSegmentsSpec)

/-- ITS FALSE NEIGHBOUR: 'it returns false'. Refute it at one input. -/
def fnExactCountLeastSegmentsWrong : ChangeSpec := { name := "fnExactCountLeastSegments", fn := fun _ => fun
  | [d] => { results := [.lit (.bool false)], args := [d] }
  | _ => none }
def FnExactCountLeastSegmentsWrongFalsely : Prop := fnExactCountLeastSegmentsRow.holds Try.pinned (OpenSpec.ofChange fnExactCountLeastSegmentsWrong)

/-- 'laws.FnExactCountByDistance': WHATEVER THE INPUT: true; the input reads as it did. -/
def fnExactCountByDistanceSpec : ChangeSpec := { name := "fnExactCountByDistance", fn := fun _ => fun
  | [d] => { results := [.lit (.bool true)], args := [d] }
  | _ => none }
def fnExactCountByDistanceRow : OpenClaim := { program := "ytfbadpabefdleaa", sum := "a017b33083db619c9b7784be67c8654d67910af01b9636492f3ea9457870ea65", func := "loop.example/g01221/laws.FnExactCountByDistance", spec := "fnExactCountByDistance", unfollowed := true, recurses := true, plainKeys := false, leaving := true, apart := false }
def FnExactCountByDistanceSaid : Prop := fnExactCountByDistanceRow.holds Try.pinned (OpenSpec.ofChange fnExactCountByDistanceSpec)

/-- ITS FALSE NEIGHBOUR: 'it returns false'. Refute it at one input. -/
def fnExactCountByDistanceWrong : ChangeSpec := { name := "fnExactCountByDistance", fn := fun _ => fun
  | [d] => { results := [.lit (.bool false)], args := [d] }
  | _ => none }
def FnExactCountByDistanceWrongFalsely : Prop := fnExactCountByDistanceRow.holds Try.pinned (OpenSpec.ofChange fnExactCountByDistanceWrong)

/-- 'laws.FnExactFarthestStacks': WHATEVER THE INPUT: true; the input reads as it did. -/
def fnExactFarthestStacksSpec : ChangeSpec := { name := "fnExactFarthestStacks", fn := fun _ => fun
  | [d] => { results := [.lit (.bool true)], args := [d] }
  | _ => none }
def fnExactFarthestStacksRow : OpenClaim := { program := "ytfbadpabefdleaa", sum := "a017b33083db619c9b7784be67c8654d67910af01b9636492f3ea9457870ea65", func := "loop.example/g01221/laws.FnExactFarthestStacks", spec := "fnExactFarthestStacks", unfollowed := true, recurses := true, plainKeys := false, leaving := true, apart := false }
def FnExactFarthestStacksSaid : Prop := fnExactFarthestStacksRow.holds Try.pinned (OpenSpec.ofChange fnExactFarthestStacksSpec)

/-- ITS FALSE NEIGHBOUR: 'it returns false'. Refute it at one input. -/
def fnExactFarthestStacksWrong : ChangeSpec := { name := "fnExactFarthestStacks", fn := fun _ => fun
  | [d] => { results := [.lit (.bool false)], args := [d] }
  | _ => none }
def FnExactFarthestStacksWrongFalsely : Prop := fnExactFarthestStacksRow.holds Try.pinned (OpenSpec.ofChange fnExactFarthestStacksWrong)

/-- 'laws.FnExactSegmentsOfPlan': WHATEVER THE INPUT: true; the input reads as it did. -/
def fnExactSegmentsOfPlanSpec : ChangeSpec := { name := "fnExactSegmentsOfPlan", fn := fun _ => fun
  | [d1, d2] => { results := [.lit (.bool true)], args := [d1, d2] }
  | _ => none }
def fnExactSegmentsOfPlanRow : OpenClaim := { program := "ytfbadpabefdleaa", sum := "a017b33083db619c9b7784be67c8654d67910af01b9636492f3ea9457870ea65", func := "loop.example/g01221/laws.FnExactSegmentsOfPlan", spec := "fnExactSegmentsOfPlan", plainKeys := false, apart := false }
def FnExactSegmentsOfPlanSaid : Prop := fnExactSegmentsOfPlanRow.holds Try.pinned (OpenSpec.ofChange fnExactSegmentsOfPlanSpec)

/-- ITS FALSE NEIGHBOUR: 'it returns false'. Refute it at one input. -/
def fnExactSegmentsOfPlanWrong : ChangeSpec := { name := "fnExactSegmentsOfPlan", fn := fun _ => fun
  | [d1, d2] => { results := [.lit (.bool false)], args := [d1, d2] }
  | _ => none }
def FnExactSegmentsOfPlanWrongFalsely : Prop := fnExactSegmentsOfPlanRow.holds Try.pinned (OpenSpec.ofChange fnExactSegmentsOfPlanWrong)

/- THE SECOND FORM. 'bulk': how many values and letters a reading holds, each counted each time it is reached (what is shared counts as often as it is met; a slice's spare places count too). A statement '..UptoSaid' is the law's where the arguments, and the package variables that the reading takes, are together of bulk at most 1048576: NARROWER than '..Said'. Prove '..Said' where nothing that the law and all that it calls make is longer than what came in: it says more and counts as full. Else prove '..UptoSaid'. A law counts once. -/
mutual
def uptoBulk {H : Type} : DataW H → Nat
  | .lit (.string bytes) => bytes.length + 1
  | .lit _ => 1
  | .nil => 1
  | .ptr d => uptoBulk d + 1
  | .slice elems spare => uptoBulkAll elems + uptoBulkAll spare + 1
  | .agg parts => uptoBulkAll parts + 1
  | .iface _ d => uptoBulk d + 1
  | .map entries => uptoBulkEntries entries + 1
  | .held _ => 1
def uptoBulkAll {H : Type} : List (DataW H) → Nat
  | [] => 0
  | d :: r => uptoBulk d + uptoBulkAll r
def uptoBulkEntries {H : Type} : List (Lit × DataW H) → Nat
  | [] => 0
  | x :: r => uptoBulkEntry x + uptoBulkEntries r
def uptoBulkEntry {H : Type} : Lit × DataW H → Nat
  | (.string bytes, d) => bytes.length + uptoBulk d + 1
  | (_, d) => uptoBulk d + 1
 end
def uptoSmall : (H : Type) → List (DataW H) → Bool := fun _ ds => decide (uptoBulkAll ds ≤ 1048576)
def OpenSpec.upto (s : _root_.Go.ChangeSpec) : _root_.Go.OpenSpec := { _root_.Go.OpenSpec.ofChange s with cond := some uptoSmall }

/-- 'laws.FnExactWorstBurnt', WHERE WHAT IT READS IS OF BULK AT MOST 1048576: true; the input reads as it did. -/
def fnExactWorstBurntUptoRow : OpenClaim := { program := "ytfbadpabefdleaa", sum := "a017b33083db619c9b7784be67c8654d67910af01b9636492f3ea9457870ea65", func := "loop.example/g01221/laws.FnExactWorstBurnt", spec := "fnExactWorstBurnt", unfollowed := true, recurses := true, plainKeys := false, leaving := true, apart := false, narrowed := true }
def FnExactWorstBurntUptoSaid : Prop := fnExactWorstBurntUptoRow.holds Try.pinned (OpenSpec.upto fnExactWorstBurntSpec)

/-- 'laws.FnExactTopGame', WHERE WHAT IT READS IS OF BULK AT MOST 1048576: true; the input reads as it did. -/
def fnExactTopGameUptoRow : OpenClaim := { program := "ytfbadpabefdleaa", sum := "a017b33083db619c9b7784be67c8654d67910af01b9636492f3ea9457870ea65", func := "loop.example/g01221/laws.FnExactTopGame", spec := "fnExactTopGame", plainKeys := false, leaving := true, apart := false, narrowed := true }
def FnExactTopGameUptoSaid : Prop := fnExactTopGameUptoRow.holds Try.pinned (OpenSpec.upto fnExactTopGameSpec)

/-- 'laws.FnExactTopSteps', WHERE WHAT IT READS IS OF BULK AT MOST 1048576: true; the input reads as it did. -/
def fnExactTopStepsUptoRow : OpenClaim := { program := "ytfbadpabefdleaa", sum := "a017b33083db619c9b7784be67c8654d67910af01b9636492f3ea9457870ea65", func := "loop.example/g01221/laws.FnExactTopSteps", spec := "fnExactTopSteps", plainKeys := false, leaving := true, apart := false, narrowed := true }
def FnExactTopStepsUptoSaid : Prop := fnExactTopStepsUptoRow.holds Try.pinned (OpenSpec.upto fnExactTopStepsSpec)

/-- 'laws.FnExactTopEnd', WHERE WHAT IT READS IS OF BULK AT MOST 1048576: true; the input reads as it did. -/
def fnExactTopEndUptoRow : OpenClaim := { program := "ytfbadpabefdleaa", sum := "a017b33083db619c9b7784be67c8654d67910af01b9636492f3ea9457870ea65", func := "loop.example/g01221/laws.FnExactTopEnd", spec := "fnExactTopEnd", plainKeys := false, leaving := true, apart := false, narrowed := true }
def FnExactTopEndUptoSaid : Prop := fnExactTopEndUptoRow.holds Try.pinned (OpenSpec.upto fnExactTopEndSpec)

/-- 'laws.FnExactTopsSeen', WHERE WHAT IT READS IS OF BULK AT MOST 1048576: true; the input reads as it did. -/
def fnExactTopsSeenUptoRow : OpenClaim := { program := "ytfbadpabefdleaa", sum := "a017b33083db619c9b7784be67c8654d67910af01b9636492f3ea9457870ea65", func := "loop.example/g01221/laws.FnExactTopsSeen", spec := "fnExactTopsSeen", plainKeys := false, leaving := true, apart := false, narrowed := true }
def FnExactTopsSeenUptoSaid : Prop := fnExactTopsSeenUptoRow.holds Try.pinned (OpenSpec.upto fnExactTopsSeenSpec)

/-- 'laws.FnExactIsSegment', WHERE WHAT IT READS IS OF BULK AT MOST 1048576: true; the input reads as it did. -/
def fnExactIsSegmentUptoRow : OpenClaim := { program := "ytfbadpabefdleaa", sum := "a017b33083db619c9b7784be67c8654d67910af01b9636492f3ea9457870ea65", func := "loop.example/g01221/laws.FnExactIsSegment", spec := "fnExactIsSegment", plainKeys := false, apart := false, narrowed := true }
def FnExactIsSegmentUptoSaid : Prop := fnExactIsSegmentUptoRow.holds Try.pinned (OpenSpec.upto fnExactIsSegmentSpec)

/-- 'laws.FnExactTurnSegment', WHERE WHAT IT READS IS OF BULK AT MOST 1048576: true; the input reads as it did. -/
def fnExactTurnSegmentUptoRow : OpenClaim := { program := "ytfbadpabefdleaa", sum := "a017b33083db619c9b7784be67c8654d67910af01b9636492f3ea9457870ea65", func := "loop.example/g01221/laws.FnExactTurnSegment", spec := "fnExactTurnSegment", plainKeys := false, apart := false, narrowed := true }
def FnExactTurnSegmentUptoSaid : Prop := fnExactTurnSegmentUptoRow.holds Try.pinned (OpenSpec.upto fnExactTurnSegmentSpec)

/-- 'laws.FnExactPlaySegments', WHERE WHAT IT READS IS OF BULK AT MOST 1048576: true; the input reads as it did. -/
def fnExactPlaySegmentsUptoRow : OpenClaim := { program := "ytfbadpabefdleaa", sum := "a017b33083db619c9b7784be67c8654d67910af01b9636492f3ea9457870ea65", func := "loop.example/g01221/laws.FnExactPlaySegments", spec := "fnExactPlaySegments", plainKeys := false, apart := false, narrowed := true }
def FnExactPlaySegmentsUptoSaid : Prop := fnExactPlaySegmentsUptoRow.holds Try.pinned (OpenSpec.upto fnExactPlaySegmentsSpec)

/-- 'laws.FnExactBreakPoints', WHERE WHAT IT READS IS OF BULK AT MOST 1048576: true; the input reads as it did. -/
def fnExactBreakPointsUptoRow : OpenClaim := { program := "ytfbadpabefdleaa", sum := "a017b33083db619c9b7784be67c8654d67910af01b9636492f3ea9457870ea65", func := "loop.example/g01221/laws.FnExactBreakPoints", spec := "fnExactBreakPoints", unfollowed := true, recurses := true, plainKeys := false, leaving := true, apart := false, narrowed := true }
def FnExactBreakPointsUptoSaid : Prop := fnExactBreakPointsUptoRow.holds Try.pinned (OpenSpec.upto fnExactBreakPointsSpec)

/-- 'laws.FnExactSegmentBound', WHERE WHAT IT READS IS OF BULK AT MOST 1048576: true; the input reads as it did. -/
def fnExactSegmentBoundUptoRow : OpenClaim := { program := "ytfbadpabefdleaa", sum := "a017b33083db619c9b7784be67c8654d67910af01b9636492f3ea9457870ea65", func := "loop.example/g01221/laws.FnExactSegmentBound", spec := "fnExactSegmentBound", unfollowed := true, recurses := true, plainKeys := false, leaving := true, apart := false, narrowed := true }
def FnExactSegmentBoundUptoSaid : Prop := fnExactSegmentBoundUptoRow.holds Try.pinned (OpenSpec.upto fnExactSegmentBoundSpec)

/-- 'laws.FnExactBestTurns', WHERE WHAT IT READS IS OF BULK AT MOST 1048576: true; the input reads as it did. -/
def fnExactBestTurnsUptoRow : OpenClaim := { program := "ytfbadpabefdleaa", sum := "a017b33083db619c9b7784be67c8654d67910af01b9636492f3ea9457870ea65", func := "loop.example/g01221/laws.FnExactBestTurns", spec := "fnExactBestTurns", unfollowed := true, recurses := true, plainKeys := false, leaving := true, apart := false, narrowed := true }
def FnExactBestTurnsUptoSaid : Prop := fnExactBestTurnsUptoRow.holds Try.pinned (OpenSpec.upto fnExactBestTurnsSpec)

/-- 'laws.FnExactGreedySegments', WHERE WHAT IT READS IS OF BULK AT MOST 1048576: true; the input reads as it did. -/
def fnExactGreedySegmentsUptoRow : OpenClaim := { program := "ytfbadpabefdleaa", sum := "a017b33083db619c9b7784be67c8654d67910af01b9636492f3ea9457870ea65", func := "loop.example/g01221/laws.FnExactGreedySegments", spec := "fnExactGreedySegments", unfollowed := true, recurses := true, plainKeys := false, leaving := true, apart := false, narrowed := true }
def FnExactGreedySegmentsUptoSaid : Prop := fnExactGreedySegmentsUptoRow.holds Try.pinned (OpenSpec.upto fnExactGreedySegmentsSpec)

/-- 'laws.FnExactSelectionSegments', WHERE WHAT IT READS IS OF BULK AT MOST 1048576: true; the input reads as it did. -/
def fnExactSelectionSegmentsUptoRow : OpenClaim := { program := "ytfbadpabefdleaa", sum := "a017b33083db619c9b7784be67c8654d67910af01b9636492f3ea9457870ea65", func := "loop.example/g01221/laws.FnExactSelectionSegments", spec := "fnExactSelectionSegments", plainKeys := false, apart := false, narrowed := true }
def FnExactSelectionSegmentsUptoSaid : Prop := fnExactSelectionSegmentsUptoRow.holds Try.pinned (OpenSpec.upto fnExactSelectionSegmentsSpec)

/-- 'laws.FnExactSegmentDistance', WHERE WHAT IT READS IS OF BULK AT MOST 1048576: true; the input reads as it did. -/
def fnExactSegmentDistanceUptoRow : OpenClaim := { program := "ytfbadpabefdleaa", sum := "a017b33083db619c9b7784be67c8654d67910af01b9636492f3ea9457870ea65", func := "loop.example/g01221/laws.FnExactSegmentDistance", spec := "fnExactSegmentDistance", unfollowed := true, recurses := true, plainKeys := false, leaving := true, apart := false, narrowed := true }
def FnExactSegmentDistanceUptoSaid : Prop := fnExactSegmentDistanceUptoRow.holds Try.pinned (OpenSpec.upto fnExactSegmentDistanceSpec)

/-- 'laws.FnExactLeastSegments', WHERE WHAT IT READS IS OF BULK AT MOST 1048576: true; the input reads as it did. -/
def fnExactLeastSegmentsUptoRow : OpenClaim := { program := "ytfbadpabefdleaa", sum := "a017b33083db619c9b7784be67c8654d67910af01b9636492f3ea9457870ea65", func := "loop.example/g01221/laws.FnExactLeastSegments", spec := "fnExactLeastSegments", unfollowed := true, recurses := true, plainKeys := false, leaving := true, apart := false, narrowed := true }
def FnExactLeastSegmentsUptoSaid : Prop := fnExactLeastSegmentsUptoRow.holds Try.pinned (OpenSpec.upto fnExactLeastSegmentsSpec)

/-- 'laws.FnExactCountLeastSegments', WHERE WHAT IT READS IS OF BULK AT MOST 1048576: true; the input reads as it did. -/
def fnExactCountLeastSegmentsUptoRow : OpenClaim := { program := "ytfbadpabefdleaa", sum := "a017b33083db619c9b7784be67c8654d67910af01b9636492f3ea9457870ea65", func := "loop.example/g01221/laws.FnExactCountLeastSegments", spec := "fnExactCountLeastSegments", unfollowed := true, recurses := true, plainKeys := false, leaving := true, apart := false, narrowed := true }
def FnExactCountLeastSegmentsUptoSaid : Prop := fnExactCountLeastSegmentsUptoRow.holds Try.pinned (OpenSpec.upto fnExactCountLeastSegmentsSpec)

/-- 'laws.FnExactCountByDistance', WHERE WHAT IT READS IS OF BULK AT MOST 1048576: true; the input reads as it did. -/
def fnExactCountByDistanceUptoRow : OpenClaim := { program := "ytfbadpabefdleaa", sum := "a017b33083db619c9b7784be67c8654d67910af01b9636492f3ea9457870ea65", func := "loop.example/g01221/laws.FnExactCountByDistance", spec := "fnExactCountByDistance", unfollowed := true, recurses := true, plainKeys := false, leaving := true, apart := false, narrowed := true }
def FnExactCountByDistanceUptoSaid : Prop := fnExactCountByDistanceUptoRow.holds Try.pinned (OpenSpec.upto fnExactCountByDistanceSpec)

/-- 'laws.FnExactFarthestStacks', WHERE WHAT IT READS IS OF BULK AT MOST 1048576: true; the input reads as it did. -/
def fnExactFarthestStacksUptoRow : OpenClaim := { program := "ytfbadpabefdleaa", sum := "a017b33083db619c9b7784be67c8654d67910af01b9636492f3ea9457870ea65", func := "loop.example/g01221/laws.FnExactFarthestStacks", spec := "fnExactFarthestStacks", unfollowed := true, recurses := true, plainKeys := false, leaving := true, apart := false, narrowed := true }
def FnExactFarthestStacksUptoSaid : Prop := fnExactFarthestStacksUptoRow.holds Try.pinned (OpenSpec.upto fnExactFarthestStacksSpec)

/-- 'laws.FnExactSegmentsOfPlan', WHERE WHAT IT READS IS OF BULK AT MOST 1048576: true; the input reads as it did. -/
def fnExactSegmentsOfPlanUptoRow : OpenClaim := { program := "ytfbadpabefdleaa", sum := "a017b33083db619c9b7784be67c8654d67910af01b9636492f3ea9457870ea65", func := "loop.example/g01221/laws.FnExactSegmentsOfPlan", spec := "fnExactSegmentsOfPlan", plainKeys := false, apart := false, narrowed := true }
def FnExactSegmentsOfPlanUptoSaid : Prop := fnExactSegmentsOfPlanUptoRow.holds Try.pinned (OpenSpec.upto fnExactSegmentsOfPlanSpec)

end Rows
end Go.Proofs.Ytfbadpabefdleaa
