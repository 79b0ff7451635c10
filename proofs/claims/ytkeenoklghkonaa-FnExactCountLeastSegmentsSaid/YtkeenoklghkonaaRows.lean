/-
  No cell of these rows narrows 'for every input' (looked for: loops, veiled, ifaces, maps, wideKeys, modest, calm, conditions, laid).
  DERIVED. THE GIVEN ROWS OF THIS SEAT. 21 by the template 'for every input the law returns true; each argument reads behind the call as it read before'; 0 by the template 'total and deterministic' (their statements: YtkeenoklghkonaaTotals.lean).
  GIVEN WITH THE SEED: the statements are not yours to turn. If you find one false, say at which input.
  Laid BY PROGRAM, IN A SANDBOX (cutbox-rows.mjs): the forced cells as the released guide's own fill.sh prints them over the translation ac332322bf62254c… (all of the seat's roots in one cut). By AI agents, Wed Nov 11 2026. No macro, syntax, notation, axiom, sorry.
-/
import Derived.Test.YtkeenoklghkonaaChecked
import GoSem.Claim
import GoSem.ClaimJoined
import GoSem.ClaimMapViews
import Derived.JoinedTies
import Derived.KernelRfl
namespace Go.Proofs.Ytkeenoklghkonaa
/- THE CELL 'sum', in the pinned program and in every row, IS THE sha256 OF THE DUMP (.gsa) THAT YtkeenoklghkonaaProg.lean LOADS. Nothing in Lean hashes anything: it is a label: what it is worth is what the hold of that sum in a sandbox is worth. -/
noncomputable def Try.pinned : Pinned := { name := "ytkeenoklghkonaa", sum := "ac332322bf62254c3aa1c6bf2b6727a30756fbde191d038fc896ee891bf38e9d", checked := Try.checked }
namespace Rows
def none {H : Type} : Left H := { results := [], args := [] }

/-- 'laws.FnExactSegmentDistance': WHATEVER THE INPUT: true; the input reads as it did. -/
def fnExactSegmentDistanceSpec : ChangeSpec := { name := "fnExactSegmentDistance", fn := fun _ => fun
  | [d] => { results := [.lit (.bool true)], args := [d] }
  | _ => none }
def fnExactSegmentDistanceRow : OpenClaim := { program := "ytkeenoklghkonaa", sum := "ac332322bf62254c3aa1c6bf2b6727a30756fbde191d038fc896ee891bf38e9d", func := "loop.example/g01221/laws.FnExactSegmentDistance", spec := "fnExactSegmentDistance", unfollowed := true, recurses := true, plainKeys := false, apart := false }
def FnExactSegmentDistanceSaid : Prop := fnExactSegmentDistanceRow.holds Try.pinned (OpenSpec.ofChange fnExactSegmentDistanceSpec)

/-- ITS FALSE NEIGHBOUR: 'it returns false'. Refute it at one input. -/
def fnExactSegmentDistanceWrong : ChangeSpec := { name := "fnExactSegmentDistance", fn := fun _ => fun
  | [d] => { results := [.lit (.bool false)], args := [d] }
  | _ => none }
def FnExactSegmentDistanceWrongFalsely : Prop := fnExactSegmentDistanceRow.holds Try.pinned (OpenSpec.ofChange fnExactSegmentDistanceWrong)

/-- 'laws.FnExactLeastSegments': WHATEVER THE INPUT: true; the input reads as it did. -/
def fnExactLeastSegmentsSpec : ChangeSpec := { name := "fnExactLeastSegments", fn := fun _ => fun
  | [d] => { results := [.lit (.bool true)], args := [d] }
  | _ => none }
def fnExactLeastSegmentsRow : OpenClaim := { program := "ytkeenoklghkonaa", sum := "ac332322bf62254c3aa1c6bf2b6727a30756fbde191d038fc896ee891bf38e9d", func := "loop.example/g01221/laws.FnExactLeastSegments", spec := "fnExactLeastSegments", unfollowed := true, recurses := true, plainKeys := false, apart := false }
def FnExactLeastSegmentsSaid : Prop := fnExactLeastSegmentsRow.holds Try.pinned (OpenSpec.ofChange fnExactLeastSegmentsSpec)

/-- ITS FALSE NEIGHBOUR: 'it returns false'. Refute it at one input. -/
def fnExactLeastSegmentsWrong : ChangeSpec := { name := "fnExactLeastSegments", fn := fun _ => fun
  | [d] => { results := [.lit (.bool false)], args := [d] }
  | _ => none }
def FnExactLeastSegmentsWrongFalsely : Prop := fnExactLeastSegmentsRow.holds Try.pinned (OpenSpec.ofChange fnExactLeastSegmentsWrong)

/-- 'laws.FnExactCountLeastSegments': WHATEVER THE INPUT: true; the input reads as it did. -/
def fnExactCountLeastSegmentsSpec : ChangeSpec := { name := "fnExactCountLeastSegments", fn := fun _ => fun
  | [d] => { results := [.lit (.bool true)], args := [d] }
  | _ => none }
def fnExactCountLeastSegmentsRow : OpenClaim := { program := "ytkeenoklghkonaa", sum := "ac332322bf62254c3aa1c6bf2b6727a30756fbde191d038fc896ee891bf38e9d", func := "loop.example/g01221/laws.FnExactCountLeastSegments", spec := "fnExactCountLeastSegments", unfollowed := true, recurses := true, plainKeys := false, apart := false }
def FnExactCountLeastSegmentsSaid : Prop := fnExactCountLeastSegmentsRow.holds Try.pinned (OpenSpec.ofChange fnExactCountLeastSegmentsSpec)

/-- ITS FALSE NEIGHBOUR: 'it returns false'. Refute it at one input. -/
def fnExactCountLeastSegmentsWrong : ChangeSpec := { name := "fnExactCountLeastSegments", fn := fun _ => fun
  | [d] => { results := [.lit (.bool false)], args := [d] }
  | _ => none }
def FnExactCountLeastSegmentsWrongFalsely : Prop := fnExactCountLeastSegmentsRow.holds Try.pinned (OpenSpec.ofChange fnExactCountLeastSegmentsWrong)

/-- 'laws.FnExactCountByDistance': WHATEVER THE INPUT: true; the input reads as it did. -/
def fnExactCountByDistanceSpec : ChangeSpec := { name := "fnExactCountByDistance", fn := fun _ => fun
  | [d] => { results := [.lit (.bool true)], args := [d] }
  | _ => none }
def fnExactCountByDistanceRow : OpenClaim := { program := "ytkeenoklghkonaa", sum := "ac332322bf62254c3aa1c6bf2b6727a30756fbde191d038fc896ee891bf38e9d", func := "loop.example/g01221/laws.FnExactCountByDistance", spec := "fnExactCountByDistance", unfollowed := true, recurses := true, plainKeys := false, apart := false }
def FnExactCountByDistanceSaid : Prop := fnExactCountByDistanceRow.holds Try.pinned (OpenSpec.ofChange fnExactCountByDistanceSpec)

/-- ITS FALSE NEIGHBOUR: 'it returns false'. Refute it at one input. -/
def fnExactCountByDistanceWrong : ChangeSpec := { name := "fnExactCountByDistance", fn := fun _ => fun
  | [d] => { results := [.lit (.bool false)], args := [d] }
  | _ => none }
def FnExactCountByDistanceWrongFalsely : Prop := fnExactCountByDistanceRow.holds Try.pinned (OpenSpec.ofChange fnExactCountByDistanceWrong)

/-- 'laws.FnExactFarthestStacks': WHATEVER THE INPUT: true; the input reads as it did. -/
def fnExactFarthestStacksSpec : ChangeSpec := { name := "fnExactFarthestStacks", fn := fun _ => fun
  | [d] => { results := [.lit (.bool true)], args := [d] }
  | _ => none }
def fnExactFarthestStacksRow : OpenClaim := { program := "ytkeenoklghkonaa", sum := "ac332322bf62254c3aa1c6bf2b6727a30756fbde191d038fc896ee891bf38e9d", func := "loop.example/g01221/laws.FnExactFarthestStacks", spec := "fnExactFarthestStacks", unfollowed := true, recurses := true, plainKeys := false, apart := false }
def FnExactFarthestStacksSaid : Prop := fnExactFarthestStacksRow.holds Try.pinned (OpenSpec.ofChange fnExactFarthestStacksSpec)

/-- ITS FALSE NEIGHBOUR: 'it returns false'. Refute it at one input. -/
def fnExactFarthestStacksWrong : ChangeSpec := { name := "fnExactFarthestStacks", fn := fun _ => fun
  | [d] => { results := [.lit (.bool false)], args := [d] }
  | _ => none }
def FnExactFarthestStacksWrongFalsely : Prop := fnExactFarthestStacksRow.holds Try.pinned (OpenSpec.ofChange fnExactFarthestStacksWrong)

/-- 'laws.FnExactIsBlock': WHATEVER THE INPUT: true; the input reads as it did. -/
def fnExactIsBlockSpec : ChangeSpec := { name := "fnExactIsBlock", fn := fun _ => fun
  | [d1, d2] => { results := [.lit (.bool true)], args := [d1, d2] }
  | _ => none }
def fnExactIsBlockRow : OpenClaim := { program := "ytkeenoklghkonaa", sum := "ac332322bf62254c3aa1c6bf2b6727a30756fbde191d038fc896ee891bf38e9d", func := "loop.example/g01221/laws.FnExactIsBlock", spec := "fnExactIsBlock", plainKeys := false, apart := false }
def FnExactIsBlockSaid : Prop := fnExactIsBlockRow.holds Try.pinned (OpenSpec.ofChange fnExactIsBlockSpec)

/-- ITS FALSE NEIGHBOUR: 'it returns false'. Refute it at one input. -/
def fnExactIsBlockWrong : ChangeSpec := { name := "fnExactIsBlock", fn := fun _ => fun
  | [d1, d2] => { results := [.lit (.bool false)], args := [d1, d2] }
  | _ => none }
def FnExactIsBlockWrongFalsely : Prop := fnExactIsBlockRow.holds Try.pinned (OpenSpec.ofChange fnExactIsBlockWrong)

/-- 'laws.FnExactMoveBlock': WHATEVER THE INPUT: true; the input reads as it did. -/
def fnExactMoveBlockSpec : ChangeSpec := { name := "fnExactMoveBlock", fn := fun _ => fun
  | [d1, d2] => { results := [.lit (.bool true)], args := [d1, d2] }
  | _ => none }
def fnExactMoveBlockRow : OpenClaim := { program := "ytkeenoklghkonaa", sum := "ac332322bf62254c3aa1c6bf2b6727a30756fbde191d038fc896ee891bf38e9d", func := "loop.example/g01221/laws.FnExactMoveBlock", spec := "fnExactMoveBlock", plainKeys := false, apart := false }
def FnExactMoveBlockSaid : Prop := fnExactMoveBlockRow.holds Try.pinned (OpenSpec.ofChange fnExactMoveBlockSpec)

/-- ITS FALSE NEIGHBOUR: 'it returns false'. Refute it at one input. -/
def fnExactMoveBlockWrong : ChangeSpec := { name := "fnExactMoveBlock", fn := fun _ => fun
  | [d1, d2] => { results := [.lit (.bool false)], args := [d1, d2] }
  | _ => none }
def FnExactMoveBlockWrongFalsely : Prop := fnExactMoveBlockRow.holds Try.pinned (OpenSpec.ofChange fnExactMoveBlockWrong)

/-- 'laws.FnExactBackBlock': WHATEVER THE INPUT: true; the input reads as it did. -/
def fnExactBackBlockSpec : ChangeSpec := { name := "fnExactBackBlock", fn := fun _ => fun
  | [d] => { results := [.lit (.bool true)], args := [d] }
  | _ => none }
def fnExactBackBlockRow : OpenClaim := { program := "ytkeenoklghkonaa", sum := "ac332322bf62254c3aa1c6bf2b6727a30756fbde191d038fc896ee891bf38e9d", func := "loop.example/g01221/laws.FnExactBackBlock", spec := "fnExactBackBlock", plainKeys := false, apart := false }
def FnExactBackBlockSaid : Prop := fnExactBackBlockRow.holds Try.pinned (OpenSpec.ofChange fnExactBackBlockSpec)

/-- ITS FALSE NEIGHBOUR: 'it returns false'. Refute it at one input. -/
def fnExactBackBlockWrong : ChangeSpec := { name := "fnExactBackBlock", fn := fun _ => fun
  | [d] => { results := [.lit (.bool false)], args := [d] }
  | _ => none }
def FnExactBackBlockWrongFalsely : Prop := fnExactBackBlockRow.holds Try.pinned (OpenSpec.ofChange fnExactBackBlockWrong)

/-- 'laws.FnExactBlockBreaks': WHATEVER THE INPUT: true; the input reads as it did. -/
def fnExactBlockBreaksSpec : ChangeSpec := { name := "fnExactBlockBreaks", fn := fun _ => fun
  | [d] => { results := [.lit (.bool true)], args := [d] }
  | _ => none }
def fnExactBlockBreaksRow : OpenClaim := { program := "ytkeenoklghkonaa", sum := "ac332322bf62254c3aa1c6bf2b6727a30756fbde191d038fc896ee891bf38e9d", func := "loop.example/g01221/laws.FnExactBlockBreaks", spec := "fnExactBlockBreaks", unfollowed := true, recurses := true, plainKeys := false, apart := false }
def FnExactBlockBreaksSaid : Prop := fnExactBlockBreaksRow.holds Try.pinned (OpenSpec.ofChange fnExactBlockBreaksSpec)

/-- ITS FALSE NEIGHBOUR: 'it returns false'. Refute it at one input. -/
def fnExactBlockBreaksWrong : ChangeSpec := { name := "fnExactBlockBreaks", fn := fun _ => fun
  | [d] => { results := [.lit (.bool false)], args := [d] }
  | _ => none }
def FnExactBlockBreaksWrongFalsely : Prop := fnExactBlockBreaksRow.holds Try.pinned (OpenSpec.ofChange fnExactBlockBreaksWrong)

/-- 'laws.FnExactBlockBound': WHATEVER THE INPUT: true; the input reads as it did. -/
def fnExactBlockBoundSpec : ChangeSpec := { name := "fnExactBlockBound", fn := fun _ => fun
  | [d] => { results := [.lit (.bool true)], args := [d] }
  | _ => none }
def fnExactBlockBoundRow : OpenClaim := { program := "ytkeenoklghkonaa", sum := "ac332322bf62254c3aa1c6bf2b6727a30756fbde191d038fc896ee891bf38e9d", func := "loop.example/g01221/laws.FnExactBlockBound", spec := "fnExactBlockBound", unfollowed := true, recurses := true, plainKeys := false, apart := false }
def FnExactBlockBoundSaid : Prop := fnExactBlockBoundRow.holds Try.pinned (OpenSpec.ofChange fnExactBlockBoundSpec)

/-- ITS FALSE NEIGHBOUR: 'it returns false'. Refute it at one input. -/
def fnExactBlockBoundWrong : ChangeSpec := { name := "fnExactBlockBound", fn := fun _ => fun
  | [d] => { results := [.lit (.bool false)], args := [d] }
  | _ => none }
def FnExactBlockBoundWrongFalsely : Prop := fnExactBlockBoundRow.holds Try.pinned (OpenSpec.ofChange fnExactBlockBoundWrong)

/-- 'laws.FnExactBlockDistance': WHATEVER THE INPUT: true; the input reads as it did. -/
def fnExactBlockDistanceSpec : ChangeSpec := { name := "fnExactBlockDistance", fn := fun _ => fun
  | [d] => { results := [.lit (.bool true)], args := [d] }
  | _ => none }
def fnExactBlockDistanceRow : OpenClaim := { program := "ytkeenoklghkonaa", sum := "ac332322bf62254c3aa1c6bf2b6727a30756fbde191d038fc896ee891bf38e9d", func := "loop.example/g01221/laws.FnExactBlockDistance", spec := "fnExactBlockDistance", unfollowed := true, recurses := true, plainKeys := false, apart := false }
def FnExactBlockDistanceSaid : Prop := fnExactBlockDistanceRow.holds Try.pinned (OpenSpec.ofChange fnExactBlockDistanceSpec)

/-- ITS FALSE NEIGHBOUR: 'it returns false'. Refute it at one input. -/
def fnExactBlockDistanceWrong : ChangeSpec := { name := "fnExactBlockDistance", fn := fun _ => fun
  | [d] => { results := [.lit (.bool false)], args := [d] }
  | _ => none }
def FnExactBlockDistanceWrongFalsely : Prop := fnExactBlockDistanceRow.holds Try.pinned (OpenSpec.ofChange fnExactBlockDistanceWrong)

/-- 'laws.FnExactLeastBlocks': WHATEVER THE INPUT: true; the input reads as it did. -/
def fnExactLeastBlocksSpec : ChangeSpec := { name := "fnExactLeastBlocks", fn := fun _ => fun
  | [d] => { results := [.lit (.bool true)], args := [d] }
  | _ => none }
def fnExactLeastBlocksRow : OpenClaim := { program := "ytkeenoklghkonaa", sum := "ac332322bf62254c3aa1c6bf2b6727a30756fbde191d038fc896ee891bf38e9d", func := "loop.example/g01221/laws.FnExactLeastBlocks", spec := "fnExactLeastBlocks", unfollowed := true, recurses := true, plainKeys := false, apart := false }
def FnExactLeastBlocksSaid : Prop := fnExactLeastBlocksRow.holds Try.pinned (OpenSpec.ofChange fnExactLeastBlocksSpec)

/-- ITS FALSE NEIGHBOUR: 'it returns false'. Refute it at one input. -/
def fnExactLeastBlocksWrong : ChangeSpec := { name := "fnExactLeastBlocks", fn := fun _ => fun
  | [d] => { results := [.lit (.bool false)], args := [d] }
  | _ => none }
def FnExactLeastBlocksWrongFalsely : Prop := fnExactLeastBlocksRow.holds Try.pinned (OpenSpec.ofChange fnExactLeastBlocksWrong)

/-- 'laws.FnExactCountByBlocks': WHATEVER THE INPUT: true; the input reads as it did. -/
def fnExactCountByBlocksSpec : ChangeSpec := { name := "fnExactCountByBlocks", fn := fun _ => fun
  | [d] => { results := [.lit (.bool true)], args := [d] }
  | _ => none }
def fnExactCountByBlocksRow : OpenClaim := { program := "ytkeenoklghkonaa", sum := "ac332322bf62254c3aa1c6bf2b6727a30756fbde191d038fc896ee891bf38e9d", func := "loop.example/g01221/laws.FnExactCountByBlocks", spec := "fnExactCountByBlocks", unfollowed := true, recurses := true, plainKeys := false, apart := false }
def FnExactCountByBlocksSaid : Prop := fnExactCountByBlocksRow.holds Try.pinned (OpenSpec.ofChange fnExactCountByBlocksSpec)

/-- ITS FALSE NEIGHBOUR: 'it returns false'. Refute it at one input. -/
def fnExactCountByBlocksWrong : ChangeSpec := { name := "fnExactCountByBlocks", fn := fun _ => fun
  | [d] => { results := [.lit (.bool false)], args := [d] }
  | _ => none }
def FnExactCountByBlocksWrongFalsely : Prop := fnExactCountByBlocksRow.holds Try.pinned (OpenSpec.ofChange fnExactCountByBlocksWrong)

/-- 'laws.FnExactIsExchange': WHATEVER THE INPUT: true; the input reads as it did. -/
def fnExactIsExchangeSpec : ChangeSpec := { name := "fnExactIsExchange", fn := fun _ => fun
  | [d1, d2] => { results := [.lit (.bool true)], args := [d1, d2] }
  | _ => none }
def fnExactIsExchangeRow : OpenClaim := { program := "ytkeenoklghkonaa", sum := "ac332322bf62254c3aa1c6bf2b6727a30756fbde191d038fc896ee891bf38e9d", func := "loop.example/g01221/laws.FnExactIsExchange", spec := "fnExactIsExchange", plainKeys := false, apart := false }
def FnExactIsExchangeSaid : Prop := fnExactIsExchangeRow.holds Try.pinned (OpenSpec.ofChange fnExactIsExchangeSpec)

/-- ITS FALSE NEIGHBOUR: 'it returns false'. Refute it at one input. -/
def fnExactIsExchangeWrong : ChangeSpec := { name := "fnExactIsExchange", fn := fun _ => fun
  | [d1, d2] => { results := [.lit (.bool false)], args := [d1, d2] }
  | _ => none }
def FnExactIsExchangeWrongFalsely : Prop := fnExactIsExchangeRow.holds Try.pinned (OpenSpec.ofChange fnExactIsExchangeWrong)

/-- 'laws.FnExactExchangeBlocks': WHATEVER THE INPUT: true; the input reads as it did. -/
def fnExactExchangeBlocksSpec : ChangeSpec := { name := "fnExactExchangeBlocks", fn := fun _ => fun
  | [d1, d2] => { results := [.lit (.bool true)], args := [d1, d2] }
  | _ => none }
def fnExactExchangeBlocksRow : OpenClaim := { program := "ytkeenoklghkonaa", sum := "ac332322bf62254c3aa1c6bf2b6727a30756fbde191d038fc896ee891bf38e9d", func := "loop.example/g01221/laws.FnExactExchangeBlocks", spec := "fnExactExchangeBlocks", plainKeys := false, apart := false }
def FnExactExchangeBlocksSaid : Prop := fnExactExchangeBlocksRow.holds Try.pinned (OpenSpec.ofChange fnExactExchangeBlocksSpec)

/-- ITS FALSE NEIGHBOUR: 'it returns false'. Refute it at one input. -/
def fnExactExchangeBlocksWrong : ChangeSpec := { name := "fnExactExchangeBlocks", fn := fun _ => fun
  | [d1, d2] => { results := [.lit (.bool false)], args := [d1, d2] }
  | _ => none }
def FnExactExchangeBlocksWrongFalsely : Prop := fnExactExchangeBlocksRow.holds Try.pinned (OpenSpec.ofChange fnExactExchangeBlocksWrong)

/-- 'laws.FnExactCyclesOfStack': WHATEVER THE INPUT: true; the input reads as it did. -/
def fnExactCyclesOfStackSpec : ChangeSpec := { name := "fnExactCyclesOfStack", fn := fun _ => fun
  | [d] => { results := [.lit (.bool true)], args := [d] }
  | _ => none }
def fnExactCyclesOfStackRow : OpenClaim := { program := "ytkeenoklghkonaa", sum := "ac332322bf62254c3aa1c6bf2b6727a30756fbde191d038fc896ee891bf38e9d", func := "loop.example/g01221/laws.FnExactCyclesOfStack", spec := "fnExactCyclesOfStack", plainKeys := false, apart := false }
def FnExactCyclesOfStackSaid : Prop := fnExactCyclesOfStackRow.holds Try.pinned (OpenSpec.ofChange fnExactCyclesOfStackSpec)

/-- ITS FALSE NEIGHBOUR: 'it returns false'. Refute it at one input. -/
def fnExactCyclesOfStackWrong : ChangeSpec := { name := "fnExactCyclesOfStack", fn := fun _ => fun
  | [d] => { results := [.lit (.bool false)], args := [d] }
  | _ => none }
def FnExactCyclesOfStackWrongFalsely : Prop := fnExactCyclesOfStackRow.holds Try.pinned (OpenSpec.ofChange fnExactCyclesOfStackWrong)

/-- 'laws.FnExactCountCycles': WHATEVER THE INPUT: true; the input reads as it did. -/
def fnExactCountCyclesSpec : ChangeSpec := { name := "fnExactCountCycles", fn := fun _ => fun
  | [d] => { results := [.lit (.bool true)], args := [d] }
  | _ => none }
def fnExactCountCyclesRow : OpenClaim := { program := "ytkeenoklghkonaa", sum := "ac332322bf62254c3aa1c6bf2b6727a30756fbde191d038fc896ee891bf38e9d", func := "loop.example/g01221/laws.FnExactCountCycles", spec := "fnExactCountCycles", plainKeys := false, apart := false }
def FnExactCountCyclesSaid : Prop := fnExactCountCyclesRow.holds Try.pinned (OpenSpec.ofChange fnExactCountCyclesSpec)

/-- ITS FALSE NEIGHBOUR: 'it returns false'. Refute it at one input. -/
def fnExactCountCyclesWrong : ChangeSpec := { name := "fnExactCountCycles", fn := fun _ => fun
  | [d] => { results := [.lit (.bool false)], args := [d] }
  | _ => none }
def FnExactCountCyclesWrongFalsely : Prop := fnExactCountCyclesRow.holds Try.pinned (OpenSpec.ofChange fnExactCountCyclesWrong)

/-- 'laws.FnExactExchangeDistance': WHATEVER THE INPUT: true; the input reads as it did. -/
def fnExactExchangeDistanceSpec : ChangeSpec := { name := "fnExactExchangeDistance", fn := fun _ => fun
  | [d] => { results := [.lit (.bool true)], args := [d] }
  | _ => none }
def fnExactExchangeDistanceRow : OpenClaim := { program := "ytkeenoklghkonaa", sum := "ac332322bf62254c3aa1c6bf2b6727a30756fbde191d038fc896ee891bf38e9d", func := "loop.example/g01221/laws.FnExactExchangeDistance", spec := "fnExactExchangeDistance", plainKeys := false, apart := false }
def FnExactExchangeDistanceSaid : Prop := fnExactExchangeDistanceRow.holds Try.pinned (OpenSpec.ofChange fnExactExchangeDistanceSpec)

/-- ITS FALSE NEIGHBOUR: 'it returns false'. Refute it at one input. -/
def fnExactExchangeDistanceWrong : ChangeSpec := { name := "fnExactExchangeDistance", fn := fun _ => fun
  | [d] => { results := [.lit (.bool false)], args := [d] }
  | _ => none }
def FnExactExchangeDistanceWrongFalsely : Prop := fnExactExchangeDistanceRow.holds Try.pinned (OpenSpec.ofChange fnExactExchangeDistanceWrong)

/-- 'laws.FnExactExchangesToSort': WHATEVER THE INPUT: true; the input reads as it did. -/
def fnExactExchangesToSortSpec : ChangeSpec := { name := "fnExactExchangesToSort", fn := fun _ => fun
  | [d] => { results := [.lit (.bool true)], args := [d] }
  | _ => none }
def fnExactExchangesToSortRow : OpenClaim := { program := "ytkeenoklghkonaa", sum := "ac332322bf62254c3aa1c6bf2b6727a30756fbde191d038fc896ee891bf38e9d", func := "loop.example/g01221/laws.FnExactExchangesToSort", spec := "fnExactExchangesToSort", unfollowed := true, recurses := true, plainKeys := false, apart := false }
def FnExactExchangesToSortSaid : Prop := fnExactExchangesToSortRow.holds Try.pinned (OpenSpec.ofChange fnExactExchangesToSortSpec)

/-- ITS FALSE NEIGHBOUR: 'it returns false'. Refute it at one input. -/
def fnExactExchangesToSortWrong : ChangeSpec := { name := "fnExactExchangesToSort", fn := fun _ => fun
  | [d] => { results := [.lit (.bool false)], args := [d] }
  | _ => none }
def FnExactExchangesToSortWrongFalsely : Prop := fnExactExchangesToSortRow.holds Try.pinned (OpenSpec.ofChange fnExactExchangesToSortWrong)

/-- 'laws.FnExactLeastExchanges': WHATEVER THE INPUT: true; the input reads as it did. -/
def fnExactLeastExchangesSpec : ChangeSpec := { name := "fnExactLeastExchanges", fn := fun _ => fun
  | [d] => { results := [.lit (.bool true)], args := [d] }
  | _ => none }
def fnExactLeastExchangesRow : OpenClaim := { program := "ytkeenoklghkonaa", sum := "ac332322bf62254c3aa1c6bf2b6727a30756fbde191d038fc896ee891bf38e9d", func := "loop.example/g01221/laws.FnExactLeastExchanges", spec := "fnExactLeastExchanges", unfollowed := true, recurses := true, plainKeys := false, apart := false }
def FnExactLeastExchangesSaid : Prop := fnExactLeastExchangesRow.holds Try.pinned (OpenSpec.ofChange fnExactLeastExchangesSpec)

/-- ITS FALSE NEIGHBOUR: 'it returns false'. Refute it at one input. -/
def fnExactLeastExchangesWrong : ChangeSpec := { name := "fnExactLeastExchanges", fn := fun _ => fun
  | [d] => { results := [.lit (.bool false)], args := [d] }
  | _ => none }
def FnExactLeastExchangesWrongFalsely : Prop := fnExactLeastExchangesRow.holds Try.pinned (OpenSpec.ofChange fnExactLeastExchangesWrong)

/-- 'laws.FnExactCountByExchanges': WHATEVER THE INPUT: true; the input reads as it did. -/
def fnExactCountByExchangesSpec : ChangeSpec := { name := "fnExactCountByExchanges", fn := fun _ => fun
  | [d] => { results := [.lit (.bool true)], args := [d] }
  | _ => none }
def fnExactCountByExchangesRow : OpenClaim := { program := "ytkeenoklghkonaa", sum := "ac332322bf62254c3aa1c6bf2b6727a30756fbde191d038fc896ee891bf38e9d", func := "loop.example/g01221/laws.FnExactCountByExchanges", spec := "fnExactCountByExchanges", unfollowed := true, recurses := true, plainKeys := false, apart := false }
def FnExactCountByExchangesSaid : Prop := fnExactCountByExchangesRow.holds Try.pinned (OpenSpec.ofChange fnExactCountByExchangesSpec)

/-- ITS FALSE NEIGHBOUR: 'it returns false'. Refute it at one input. -/
def fnExactCountByExchangesWrong : ChangeSpec := { name := "fnExactCountByExchanges", fn := fun _ => fun
  | [d] => { results := [.lit (.bool false)], args := [d] }
  | _ => none }
def FnExactCountByExchangesWrongFalsely : Prop := fnExactCountByExchangesRow.holds Try.pinned (OpenSpec.ofChange fnExactCountByExchangesWrong)

/- THE SECOND FORM. 'bulk': how many values and letters a reading holds, each counted each time it is reached (what is shared counts as often as it is met; a slice's spare places count too). A statement '..UptoSaid' is the law's where the arguments, and the package variables that the reading takes, are together of bulk at most 1048576: NARROWER than '..Said'. Prove '..Said' where nothing that the law and all that it calls make is longer than what came in: it says more and counts as full. Else prove '..UptoSaid'. A law counts once. -/
mutual
def uptoBulk {H : Type} : DataW H → Nat
  | .lit (.string bytes) => bytes.length + 1
  | .lit _ => 1
  | .nil => 1
  | .ptr d => uptoBulk d + 1
  | .slice elems spare => uptoBulkAll elems + uptoBulkAll spare + 1
  | .agg parts => uptoBulkAll parts + 1
  | .iface _ d => uptoBulk d + 1
  | .map entries => uptoBulkEntries entries + 1
  | .held _ => 1
def uptoBulkAll {H : Type} : List (DataW H) → Nat
  | [] => 0
  | d :: r => uptoBulk d + uptoBulkAll r
def uptoBulkEntries {H : Type} : List (Lit × DataW H) → Nat
  | [] => 0
  | x :: r => uptoBulkEntry x + uptoBulkEntries r
def uptoBulkEntry {H : Type} : Lit × DataW H → Nat
  | (.string bytes, d) => bytes.length + uptoBulk d + 1
  | (_, d) => uptoBulk d + 1
 end
def uptoSmall : (H : Type) → List (DataW H) → Bool := fun _ ds => decide (uptoBulkAll ds ≤ 1048576)
def OpenSpec.upto (s : _root_.Go.ChangeSpec) : _root_.Go.OpenSpec := { _root_.Go.OpenSpec.ofChange s with cond := some uptoSmall }

/-- 'laws.FnExactSegmentDistance', WHERE WHAT IT READS IS OF BULK AT MOST 1048576: true; the input reads as it did. -/
def fnExactSegmentDistanceUptoRow : OpenClaim := { program := "ytkeenoklghkonaa", sum := "ac332322bf62254c3aa1c6bf2b6727a30756fbde191d038fc896ee891bf38e9d", func := "loop.example/g01221/laws.FnExactSegmentDistance", spec := "fnExactSegmentDistance", unfollowed := true, recurses := true, plainKeys := false, apart := false, narrowed := true }
def FnExactSegmentDistanceUptoSaid : Prop := fnExactSegmentDistanceUptoRow.holds Try.pinned (OpenSpec.upto fnExactSegmentDistanceSpec)

/-- 'laws.FnExactLeastSegments', WHERE WHAT IT READS IS OF BULK AT MOST 1048576: true; the input reads as it did. -/
def fnExactLeastSegmentsUptoRow : OpenClaim := { program := "ytkeenoklghkonaa", sum := "ac332322bf62254c3aa1c6bf2b6727a30756fbde191d038fc896ee891bf38e9d", func := "loop.example/g01221/laws.FnExactLeastSegments", spec := "fnExactLeastSegments", unfollowed := true, recurses := true, plainKeys := false, apart := false, narrowed := true }
def FnExactLeastSegmentsUptoSaid : Prop := fnExactLeastSegmentsUptoRow.holds Try.pinned (OpenSpec.upto fnExactLeastSegmentsSpec)

/-- 'laws.FnExactCountLeastSegments', WHERE WHAT IT READS IS OF BULK AT MOST 1048576: true; the input reads as it did. -/
def fnExactCountLeastSegmentsUptoRow : OpenClaim := { program := "ytkeenoklghkonaa", sum := "ac332322bf62254c3aa1c6bf2b6727a30756fbde191d038fc896ee891bf38e9d", func := "loop.example/g01221/laws.FnExactCountLeastSegments", spec := "fnExactCountLeastSegments", unfollowed := true, recurses := true, plainKeys := false, apart := false, narrowed := true }
def FnExactCountLeastSegmentsUptoSaid : Prop := fnExactCountLeastSegmentsUptoRow.holds Try.pinned (OpenSpec.upto fnExactCountLeastSegmentsSpec)

/-- 'laws.FnExactCountByDistance', WHERE WHAT IT READS IS OF BULK AT MOST 1048576: true; the input reads as it did. -/
def fnExactCountByDistanceUptoRow : OpenClaim := { program := "ytkeenoklghkonaa", sum := "ac332322bf62254c3aa1c6bf2b6727a30756fbde191d038fc896ee891bf38e9d", func := "loop.example/g01221/laws.FnExactCountByDistance", spec := "fnExactCountByDistance", unfollowed := true, recurses := true, plainKeys := false, apart := false, narrowed := true }
def FnExactCountByDistanceUptoSaid : Prop := fnExactCountByDistanceUptoRow.holds Try.pinned (OpenSpec.upto fnExactCountByDistanceSpec)

/-- 'laws.FnExactFarthestStacks', WHERE WHAT IT READS IS OF BULK AT MOST 1048576: true; the input reads as it did. -/
def fnExactFarthestStacksUptoRow : OpenClaim := { program := "ytkeenoklghkonaa", sum := "ac332322bf62254c3aa1c6bf2b6727a30756fbde191d038fc896ee891bf38e9d", func := "loop.example/g01221/laws.FnExactFarthestStacks", spec := "fnExactFarthestStacks", unfollowed := true, recurses := true, plainKeys := false, apart := false, narrowed := true }
def FnExactFarthestStacksUptoSaid : Prop := fnExactFarthestStacksUptoRow.holds Try.pinned (OpenSpec.upto fnExactFarthestStacksSpec)

/-- 'laws.FnExactIsBlock', WHERE WHAT IT READS IS OF BULK AT MOST 1048576: true; the input reads as it did. -/
def fnExactIsBlockUptoRow : OpenClaim := { program := "ytkeenoklghkonaa", sum := "ac332322bf62254c3aa1c6bf2b6727a30756fbde191d038fc896ee891bf38e9d", func := "loop.example/g01221/laws.FnExactIsBlock", spec := "fnExactIsBlock", plainKeys := false, apart := false, narrowed := true }
def FnExactIsBlockUptoSaid : Prop := fnExactIsBlockUptoRow.holds Try.pinned (OpenSpec.upto fnExactIsBlockSpec)

/-- 'laws.FnExactMoveBlock', WHERE WHAT IT READS IS OF BULK AT MOST 1048576: true; the input reads as it did. -/
def fnExactMoveBlockUptoRow : OpenClaim := { program := "ytkeenoklghkonaa", sum := "ac332322bf62254c3aa1c6bf2b6727a30756fbde191d038fc896ee891bf38e9d", func := "loop.example/g01221/laws.FnExactMoveBlock", spec := "fnExactMoveBlock", plainKeys := false, apart := false, narrowed := true }
def FnExactMoveBlockUptoSaid : Prop := fnExactMoveBlockUptoRow.holds Try.pinned (OpenSpec.upto fnExactMoveBlockSpec)

/-- 'laws.FnExactBackBlock', WHERE WHAT IT READS IS OF BULK AT MOST 1048576: true; the input reads as it did. -/
def fnExactBackBlockUptoRow : OpenClaim := { program := "ytkeenoklghkonaa", sum := "ac332322bf62254c3aa1c6bf2b6727a30756fbde191d038fc896ee891bf38e9d", func := "loop.example/g01221/laws.FnExactBackBlock", spec := "fnExactBackBlock", plainKeys := false, apart := false, narrowed := true }
def FnExactBackBlockUptoSaid : Prop := fnExactBackBlockUptoRow.holds Try.pinned (OpenSpec.upto fnExactBackBlockSpec)

/-- 'laws.FnExactBlockBreaks', WHERE WHAT IT READS IS OF BULK AT MOST 1048576: true; the input reads as it did. -/
def fnExactBlockBreaksUptoRow : OpenClaim := { program := "ytkeenoklghkonaa", sum := "ac332322bf62254c3aa1c6bf2b6727a30756fbde191d038fc896ee891bf38e9d", func := "loop.example/g01221/laws.FnExactBlockBreaks", spec := "fnExactBlockBreaks", unfollowed := true, recurses := true, plainKeys := false, apart := false, narrowed := true }
def FnExactBlockBreaksUptoSaid : Prop := fnExactBlockBreaksUptoRow.holds Try.pinned (OpenSpec.upto fnExactBlockBreaksSpec)

/-- 'laws.FnExactBlockBound', WHERE WHAT IT READS IS OF BULK AT MOST 1048576: true; the input reads as it did. -/
def fnExactBlockBoundUptoRow : OpenClaim := { program := "ytkeenoklghkonaa", sum := "ac332322bf62254c3aa1c6bf2b6727a30756fbde191d038fc896ee891bf38e9d", func := "loop.example/g01221/laws.FnExactBlockBound", spec := "fnExactBlockBound", unfollowed := true, recurses := true, plainKeys := false, apart := false, narrowed := true }
def FnExactBlockBoundUptoSaid : Prop := fnExactBlockBoundUptoRow.holds Try.pinned (OpenSpec.upto fnExactBlockBoundSpec)

/-- 'laws.FnExactBlockDistance', WHERE WHAT IT READS IS OF BULK AT MOST 1048576: true; the input reads as it did. -/
def fnExactBlockDistanceUptoRow : OpenClaim := { program := "ytkeenoklghkonaa", sum := "ac332322bf62254c3aa1c6bf2b6727a30756fbde191d038fc896ee891bf38e9d", func := "loop.example/g01221/laws.FnExactBlockDistance", spec := "fnExactBlockDistance", unfollowed := true, recurses := true, plainKeys := false, apart := false, narrowed := true }
def FnExactBlockDistanceUptoSaid : Prop := fnExactBlockDistanceUptoRow.holds Try.pinned (OpenSpec.upto fnExactBlockDistanceSpec)

/-- 'laws.FnExactLeastBlocks', WHERE WHAT IT READS IS OF BULK AT MOST 1048576: true; the input reads as it did. -/
def fnExactLeastBlocksUptoRow : OpenClaim := { program := "ytkeenoklghkonaa", sum := "ac332322bf62254c3aa1c6bf2b6727a30756fbde191d038fc896ee891bf38e9d", func := "loop.example/g01221/laws.FnExactLeastBlocks", spec := "fnExactLeastBlocks", unfollowed := true, recurses := true, plainKeys := false, apart := false, narrowed := true }
def FnExactLeastBlocksUptoSaid : Prop := fnExactLeastBlocksUptoRow.holds Try.pinned (OpenSpec.upto fnExactLeastBlocksSpec)

/-- 'laws.FnExactCountByBlocks', WHERE WHAT IT READS IS OF BULK AT MOST 1048576: true; the input reads as it did. -/
def fnExactCountByBlocksUptoRow : OpenClaim := { program := "ytkeenoklghkonaa", sum := "ac332322bf62254c3aa1c6bf2b6727a30756fbde191d038fc896ee891bf38e9d", func := "loop.example/g01221/laws.FnExactCountByBlocks", spec := "fnExactCountByBlocks", unfollowed := true, recurses := true, plainKeys := false, apart := false, narrowed := true }
def FnExactCountByBlocksUptoSaid : Prop := fnExactCountByBlocksUptoRow.holds Try.pinned (OpenSpec.upto fnExactCountByBlocksSpec)

/-- 'laws.FnExactIsExchange', WHERE WHAT IT READS IS OF BULK AT MOST 1048576: true; the input reads as it did. -/
def fnExactIsExchangeUptoRow : OpenClaim := { program := "ytkeenoklghkonaa", sum := "ac332322bf62254c3aa1c6bf2b6727a30756fbde191d038fc896ee891bf38e9d", func := "loop.example/g01221/laws.FnExactIsExchange", spec := "fnExactIsExchange", plainKeys := false, apart := false, narrowed := true }
def FnExactIsExchangeUptoSaid : Prop := fnExactIsExchangeUptoRow.holds Try.pinned (OpenSpec.upto fnExactIsExchangeSpec)

/-- 'laws.FnExactExchangeBlocks', WHERE WHAT IT READS IS OF BULK AT MOST 1048576: true; the input reads as it did. -/
def fnExactExchangeBlocksUptoRow : OpenClaim := { program := "ytkeenoklghkonaa", sum := "ac332322bf62254c3aa1c6bf2b6727a30756fbde191d038fc896ee891bf38e9d", func := "loop.example/g01221/laws.FnExactExchangeBlocks", spec := "fnExactExchangeBlocks", plainKeys := false, apart := false, narrowed := true }
def FnExactExchangeBlocksUptoSaid : Prop := fnExactExchangeBlocksUptoRow.holds Try.pinned (OpenSpec.upto fnExactExchangeBlocksSpec)

/-- 'laws.FnExactCyclesOfStack', WHERE WHAT IT READS IS OF BULK AT MOST 1048576: true; the input reads as it did. -/
def fnExactCyclesOfStackUptoRow : OpenClaim := { program := "ytkeenoklghkonaa", sum := "ac332322bf62254c3aa1c6bf2b6727a30756fbde191d038fc896ee891bf38e9d", func := "loop.example/g01221/laws.FnExactCyclesOfStack", spec := "fnExactCyclesOfStack", plainKeys := false, apart := false, narrowed := true }
def FnExactCyclesOfStackUptoSaid : Prop := fnExactCyclesOfStackUptoRow.holds Try.pinned (OpenSpec.upto fnExactCyclesOfStackSpec)

/-- 'laws.FnExactCountCycles', WHERE WHAT IT READS IS OF BULK AT MOST 1048576: true; the input reads as it did. -/
def fnExactCountCyclesUptoRow : OpenClaim := { program := "ytkeenoklghkonaa", sum := "ac332322bf62254c3aa1c6bf2b6727a30756fbde191d038fc896ee891bf38e9d", func := "loop.example/g01221/laws.FnExactCountCycles", spec := "fnExactCountCycles", plainKeys := false, apart := false, narrowed := true }
def FnExactCountCyclesUptoSaid : Prop := fnExactCountCyclesUptoRow.holds Try.pinned (OpenSpec.upto fnExactCountCyclesSpec)

/-- 'laws.FnExactExchangeDistance', WHERE WHAT IT READS IS OF BULK AT MOST 1048576: true; the input reads as it did. -/
def fnExactExchangeDistanceUptoRow : OpenClaim := { program := "ytkeenoklghkonaa", sum := "ac332322bf62254c3aa1c6bf2b6727a30756fbde191d038fc896ee891bf38e9d", func := "loop.example/g01221/laws.FnExactExchangeDistance", spec := "fnExactExchangeDistance", plainKeys := false, apart := false, narrowed := true }
def FnExactExchangeDistanceUptoSaid : Prop := fnExactExchangeDistanceUptoRow.holds Try.pinned (OpenSpec.upto fnExactExchangeDistanceSpec)

/-- 'laws.FnExactExchangesToSort', WHERE WHAT IT READS IS OF BULK AT MOST 1048576: true; the input reads as it did. -/
def fnExactExchangesToSortUptoRow : OpenClaim := { program := "ytkeenoklghkonaa", sum := "ac332322bf62254c3aa1c6bf2b6727a30756fbde191d038fc896ee891bf38e9d", func := "loop.example/g01221/laws.FnExactExchangesToSort", spec := "fnExactExchangesToSort", unfollowed := true, recurses := true, plainKeys := false, apart := false, narrowed := true }
def FnExactExchangesToSortUptoSaid : Prop := fnExactExchangesToSortUptoRow.holds Try.pinned (OpenSpec.upto fnExactExchangesToSortSpec)

/-- 'laws.FnExactLeastExchanges', WHERE WHAT IT READS IS OF BULK AT MOST 1048576: true; the input reads as it did. -/
def fnExactLeastExchangesUptoRow : OpenClaim := { program := "ytkeenoklghkonaa", sum := "ac332322bf62254c3aa1c6bf2b6727a30756fbde191d038fc896ee891bf38e9d", func := "loop.example/g01221/laws.FnExactLeastExchanges", spec := "fnExactLeastExchanges", unfollowed := true, recurses := true, plainKeys := false, apart := false, narrowed := true }
def FnExactLeastExchangesUptoSaid : Prop := fnExactLeastExchangesUptoRow.holds Try.pinned (OpenSpec.upto fnExactLeastExchangesSpec)

/-- 'laws.FnExactCountByExchanges', WHERE WHAT IT READS IS OF BULK AT MOST 1048576: true; the input reads as it did. -/
def fnExactCountByExchangesUptoRow : OpenClaim := { program := "ytkeenoklghkonaa", sum := "ac332322bf62254c3aa1c6bf2b6727a30756fbde191d038fc896ee891bf38e9d", func := "loop.example/g01221/laws.FnExactCountByExchanges", spec := "fnExactCountByExchanges", unfollowed := true, recurses := true, plainKeys := false, apart := false, narrowed := true }
def FnExactCountByExchangesUptoSaid : Prop := fnExactCountByExchangesUptoRow.holds Try.pinned (OpenSpec.upto fnExactCountByExchangesSpec)

end Rows
end Go.Proofs.Ytkeenoklghkonaa
