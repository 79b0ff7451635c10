/-
  No cell of these rows narrows 'for every input' (looked for: loops, veiled, ifaces, maps, wideKeys, modest, calm, conditions, laid).
  DERIVED. THE GIVEN ROWS OF THIS SEAT. 20 by the template 'for every input the law returns true; each argument reads behind the call as it read before'; 0 by the template 'total and deterministic' (their statements: YtdkidfilnbglgaaTotals.lean).
  GIVEN WITH THE SEED: the statements are not yours to turn. If you find one false, say at which input.
  Laid BY PROGRAM, IN A SANDBOX (cutbox-rows.mjs): the forced cells as the released guide's own fill.sh prints them over the translation 46613efcf6e6d2e6… (all of the seat's roots in one cut). By AI agents, Wed Nov 11 2026. No macro, syntax, notation, axiom, sorry.
-/
import Derived.Test.YtdkidfilnbglgaaChecked
import GoSem.Claim
import GoSem.ClaimJoined
import GoSem.ClaimMapViews
import Derived.JoinedTies
import Derived.KernelRfl
namespace Go.Proofs.Ytdkidfilnbglgaa
/- THE CELL 'sum', in the pinned program and in every row, IS THE sha256 OF THE DUMP (.gsa) THAT YtdkidfilnbglgaaProg.lean LOADS. Nothing in Lean hashes anything: it is a label: what it is worth is what the hold of that sum in a sandbox is worth. -/
noncomputable def Try.pinned : Pinned := { name := "ytdkidfilnbglgaa", sum := "46613efcf6e6d2e663f4974cba1994bdf5b117f4bf808cd6931220acd8126525", checked := Try.checked }
namespace Rows
def none {H : Type} : Left H := { results := [], args := [] }

/-- 'laws.FnExactMoveOne': WHATEVER THE INPUT: true; the input reads as it did. -/
def fnExactMoveOneSpec : ChangeSpec := { name := "fnExactMoveOne", fn := fun _ => fun
  | [d1, d2] => { results := [.lit (.bool true)], args := [d1, d2] }
  | _ => none }
def fnExactMoveOneRow : OpenClaim := { program := "ytdkidfilnbglgaa", sum := "46613efcf6e6d2e663f4974cba1994bdf5b117f4bf808cd6931220acd8126525", func := "loop.example/g01221/laws.FnExactMoveOne", spec := "fnExactMoveOne", inPlace := ["slices.overlaps[int]"], unfollowed := true, recurses := true, plainKeys := false, apart := false }
def FnExactMoveOneSaid : Prop := fnExactMoveOneRow.holds Try.pinned (OpenSpec.ofChange fnExactMoveOneSpec)

/-- ITS FALSE NEIGHBOUR: 'it returns false'. Refute it at one input. -/
def fnExactMoveOneWrong : ChangeSpec := { name := "fnExactMoveOne", fn := fun _ => fun
  | [d1, d2] => { results := [.lit (.bool false)], args := [d1, d2] }
  | _ => none }
def FnExactMoveOneWrongFalsely : Prop := fnExactMoveOneRow.holds Try.pinned (OpenSpec.ofChange fnExactMoveOneWrong)

/-- 'laws.FnExactPlayMoves': WHATEVER THE INPUT: true; the input reads as it did. -/
def fnExactPlayMovesSpec : ChangeSpec := { name := "fnExactPlayMoves", fn := fun _ => fun
  | [d1, d2] => { results := [.lit (.bool true)], args := [d1, d2] }
  | _ => none }
def fnExactPlayMovesRow : OpenClaim := { program := "ytdkidfilnbglgaa", sum := "46613efcf6e6d2e663f4974cba1994bdf5b117f4bf808cd6931220acd8126525", func := "loop.example/g01221/laws.FnExactPlayMoves", spec := "fnExactPlayMoves", inPlace := ["slices.overlaps[int]"], unfollowed := true, recurses := true, plainKeys := false, apart := false }
def FnExactPlayMovesSaid : Prop := fnExactPlayMovesRow.holds Try.pinned (OpenSpec.ofChange fnExactPlayMovesSpec)

/-- ITS FALSE NEIGHBOUR: 'it returns false'. Refute it at one input. -/
def fnExactPlayMovesWrong : ChangeSpec := { name := "fnExactPlayMoves", fn := fun _ => fun
  | [d1, d2] => { results := [.lit (.bool false)], args := [d1, d2] }
  | _ => none }
def FnExactPlayMovesWrongFalsely : Prop := fnExactPlayMovesRow.holds Try.pinned (OpenSpec.ofChange fnExactPlayMovesWrong)

/-- 'laws.FnExactLongestRising': WHATEVER THE INPUT: true; the input reads as it did. -/
def fnExactLongestRisingSpec : ChangeSpec := { name := "fnExactLongestRising", fn := fun _ => fun
  | [d] => { results := [.lit (.bool true)], args := [d] }
  | _ => none }
def fnExactLongestRisingRow : OpenClaim := { program := "ytdkidfilnbglgaa", sum := "46613efcf6e6d2e663f4974cba1994bdf5b117f4bf808cd6931220acd8126525", func := "loop.example/g01221/laws.FnExactLongestRising", spec := "fnExactLongestRising", unfollowed := true, recurses := true, plainKeys := false, apart := false }
def FnExactLongestRisingSaid : Prop := fnExactLongestRisingRow.holds Try.pinned (OpenSpec.ofChange fnExactLongestRisingSpec)

/-- ITS FALSE NEIGHBOUR: 'it returns false'. Refute it at one input. -/
def fnExactLongestRisingWrong : ChangeSpec := { name := "fnExactLongestRising", fn := fun _ => fun
  | [d] => { results := [.lit (.bool false)], args := [d] }
  | _ => none }
def FnExactLongestRisingWrongFalsely : Prop := fnExactLongestRisingRow.holds Try.pinned (OpenSpec.ofChange fnExactLongestRisingWrong)

/-- 'laws.FnExactRisingLength': WHATEVER THE INPUT: true; the input reads as it did. -/
def fnExactRisingLengthSpec : ChangeSpec := { name := "fnExactRisingLength", fn := fun _ => fun
  | [d] => { results := [.lit (.bool true)], args := [d] }
  | _ => none }
def fnExactRisingLengthRow : OpenClaim := { program := "ytdkidfilnbglgaa", sum := "46613efcf6e6d2e663f4974cba1994bdf5b117f4bf808cd6931220acd8126525", func := "loop.example/g01221/laws.FnExactRisingLength", spec := "fnExactRisingLength", unfollowed := true, recurses := true, plainKeys := false, apart := false }
def FnExactRisingLengthSaid : Prop := fnExactRisingLengthRow.holds Try.pinned (OpenSpec.ofChange fnExactRisingLengthSpec)

/-- ITS FALSE NEIGHBOUR: 'it returns false'. Refute it at one input. -/
def fnExactRisingLengthWrong : ChangeSpec := { name := "fnExactRisingLength", fn := fun _ => fun
  | [d] => { results := [.lit (.bool false)], args := [d] }
  | _ => none }
def FnExactRisingLengthWrongFalsely : Prop := fnExactRisingLengthRow.holds Try.pinned (OpenSpec.ofChange fnExactRisingLengthWrong)

/-- 'laws.FnExactFallingLength': WHATEVER THE INPUT: true; the input reads as it did. -/
def fnExactFallingLengthSpec : ChangeSpec := { name := "fnExactFallingLength", fn := fun _ => fun
  | [d] => { results := [.lit (.bool true)], args := [d] }
  | _ => none }
def fnExactFallingLengthRow : OpenClaim := { program := "ytdkidfilnbglgaa", sum := "46613efcf6e6d2e663f4974cba1994bdf5b117f4bf808cd6931220acd8126525", func := "loop.example/g01221/laws.FnExactFallingLength", spec := "fnExactFallingLength", unfollowed := true, recurses := true, plainKeys := false, apart := false }
def FnExactFallingLengthSaid : Prop := fnExactFallingLengthRow.holds Try.pinned (OpenSpec.ofChange fnExactFallingLengthSpec)

/-- ITS FALSE NEIGHBOUR: 'it returns false'. Refute it at one input. -/
def fnExactFallingLengthWrong : ChangeSpec := { name := "fnExactFallingLength", fn := fun _ => fun
  | [d] => { results := [.lit (.bool false)], args := [d] }
  | _ => none }
def FnExactFallingLengthWrongFalsely : Prop := fnExactFallingLengthRow.holds Try.pinned (OpenSpec.ofChange fnExactFallingLengthWrong)

/-- 'laws.FnExactCountRising': WHATEVER THE INPUT: true; the input reads as it did. -/
def fnExactCountRisingSpec : ChangeSpec := { name := "fnExactCountRising", fn := fun _ => fun
  | [d] => { results := [.lit (.bool true)], args := [d] }
  | _ => none }
def fnExactCountRisingRow : OpenClaim := { program := "ytdkidfilnbglgaa", sum := "46613efcf6e6d2e663f4974cba1994bdf5b117f4bf808cd6931220acd8126525", func := "loop.example/g01221/laws.FnExactCountRising", spec := "fnExactCountRising", unfollowed := true, recurses := true, plainKeys := false, apart := false }
def FnExactCountRisingSaid : Prop := fnExactCountRisingRow.holds Try.pinned (OpenSpec.ofChange fnExactCountRisingSpec)

/-- ITS FALSE NEIGHBOUR: 'it returns false'. Refute it at one input. -/
def fnExactCountRisingWrong : ChangeSpec := { name := "fnExactCountRising", fn := fun _ => fun
  | [d] => { results := [.lit (.bool false)], args := [d] }
  | _ => none }
def FnExactCountRisingWrongFalsely : Prop := fnExactCountRisingRow.holds Try.pinned (OpenSpec.ofChange fnExactCountRisingWrong)

/-- 'laws.FnExactLeastMoves': WHATEVER THE INPUT: true; the input reads as it did. -/
def fnExactLeastMovesSpec : ChangeSpec := { name := "fnExactLeastMoves", fn := fun _ => fun
  | [d] => { results := [.lit (.bool true)], args := [d] }
  | _ => none }
def fnExactLeastMovesRow : OpenClaim := { program := "ytdkidfilnbglgaa", sum := "46613efcf6e6d2e663f4974cba1994bdf5b117f4bf808cd6931220acd8126525", func := "loop.example/g01221/laws.FnExactLeastMoves", spec := "fnExactLeastMoves", unfollowed := true, recurses := true, plainKeys := false, apart := false }
def FnExactLeastMovesSaid : Prop := fnExactLeastMovesRow.holds Try.pinned (OpenSpec.ofChange fnExactLeastMovesSpec)

/-- ITS FALSE NEIGHBOUR: 'it returns false'. Refute it at one input. -/
def fnExactLeastMovesWrong : ChangeSpec := { name := "fnExactLeastMoves", fn := fun _ => fun
  | [d] => { results := [.lit (.bool false)], args := [d] }
  | _ => none }
def FnExactLeastMovesWrongFalsely : Prop := fnExactLeastMovesRow.holds Try.pinned (OpenSpec.ofChange fnExactLeastMovesWrong)

/-- 'laws.FnExactMovesToSort': WHATEVER THE INPUT: true; the input reads as it did. -/
def fnExactMovesToSortSpec : ChangeSpec := { name := "fnExactMovesToSort", fn := fun _ => fun
  | [d] => { results := [.lit (.bool true)], args := [d] }
  | _ => none }
def fnExactMovesToSortRow : OpenClaim := { program := "ytdkidfilnbglgaa", sum := "46613efcf6e6d2e663f4974cba1994bdf5b117f4bf808cd6931220acd8126525", func := "loop.example/g01221/laws.FnExactMovesToSort", spec := "fnExactMovesToSort", inPlace := ["slices.overlaps[int]"], unfollowed := true, recurses := true, plainKeys := false, apart := false }
def FnExactMovesToSortSaid : Prop := fnExactMovesToSortRow.holds Try.pinned (OpenSpec.ofChange fnExactMovesToSortSpec)

/-- ITS FALSE NEIGHBOUR: 'it returns false'. Refute it at one input. -/
def fnExactMovesToSortWrong : ChangeSpec := { name := "fnExactMovesToSort", fn := fun _ => fun
  | [d] => { results := [.lit (.bool false)], args := [d] }
  | _ => none }
def FnExactMovesToSortWrongFalsely : Prop := fnExactMovesToSortRow.holds Try.pinned (OpenSpec.ofChange fnExactMovesToSortWrong)

/-- 'laws.FnExactPilesOf': WHATEVER THE INPUT: true; the input reads as it did. -/
def fnExactPilesOfSpec : ChangeSpec := { name := "fnExactPilesOf", fn := fun _ => fun
  | [d] => { results := [.lit (.bool true)], args := [d] }
  | _ => none }
def fnExactPilesOfRow : OpenClaim := { program := "ytdkidfilnbglgaa", sum := "46613efcf6e6d2e663f4974cba1994bdf5b117f4bf808cd6931220acd8126525", func := "loop.example/g01221/laws.FnExactPilesOf", spec := "fnExactPilesOf", unfollowed := true, recurses := true, plainKeys := false, apart := false }
def FnExactPilesOfSaid : Prop := fnExactPilesOfRow.holds Try.pinned (OpenSpec.ofChange fnExactPilesOfSpec)

/-- ITS FALSE NEIGHBOUR: 'it returns false'. Refute it at one input. -/
def fnExactPilesOfWrong : ChangeSpec := { name := "fnExactPilesOf", fn := fun _ => fun
  | [d] => { results := [.lit (.bool false)], args := [d] }
  | _ => none }
def FnExactPilesOfWrongFalsely : Prop := fnExactPilesOfRow.holds Try.pinned (OpenSpec.ofChange fnExactPilesOfWrong)

/-- 'laws.FnExactRowsOf': WHATEVER THE INPUT: true; the input reads as it did. -/
def fnExactRowsOfSpec : ChangeSpec := { name := "fnExactRowsOf", fn := fun _ => fun
  | [d] => { results := [.lit (.bool true)], args := [d] }
  | _ => none }
def fnExactRowsOfRow : OpenClaim := { program := "ytdkidfilnbglgaa", sum := "46613efcf6e6d2e663f4974cba1994bdf5b117f4bf808cd6931220acd8126525", func := "loop.example/g01221/laws.FnExactRowsOf", spec := "fnExactRowsOf", unfollowed := true, recurses := true, plainKeys := false, apart := false }
def FnExactRowsOfSaid : Prop := fnExactRowsOfRow.holds Try.pinned (OpenSpec.ofChange fnExactRowsOfSpec)

/-- ITS FALSE NEIGHBOUR: 'it returns false'. Refute it at one input. -/
def fnExactRowsOfWrong : ChangeSpec := { name := "fnExactRowsOf", fn := fun _ => fun
  | [d] => { results := [.lit (.bool false)], args := [d] }
  | _ => none }
def FnExactRowsOfWrongFalsely : Prop := fnExactRowsOfRow.holds Try.pinned (OpenSpec.ofChange fnExactRowsOfWrong)

/-- 'laws.FnExactPlacesOfRows': WHATEVER THE INPUT: true; the input reads as it did. -/
def fnExactPlacesOfRowsSpec : ChangeSpec := { name := "fnExactPlacesOfRows", fn := fun _ => fun
  | [d] => { results := [.lit (.bool true)], args := [d] }
  | _ => none }
def fnExactPlacesOfRowsRow : OpenClaim := { program := "ytdkidfilnbglgaa", sum := "46613efcf6e6d2e663f4974cba1994bdf5b117f4bf808cd6931220acd8126525", func := "loop.example/g01221/laws.FnExactPlacesOfRows", spec := "fnExactPlacesOfRows", unfollowed := true, recurses := true, plainKeys := false, apart := false }
def FnExactPlacesOfRowsSaid : Prop := fnExactPlacesOfRowsRow.holds Try.pinned (OpenSpec.ofChange fnExactPlacesOfRowsSpec)

/-- ITS FALSE NEIGHBOUR: 'it returns false'. Refute it at one input. -/
def fnExactPlacesOfRowsWrong : ChangeSpec := { name := "fnExactPlacesOfRows", fn := fun _ => fun
  | [d] => { results := [.lit (.bool false)], args := [d] }
  | _ => none }
def FnExactPlacesOfRowsWrongFalsely : Prop := fnExactPlacesOfRowsRow.holds Try.pinned (OpenSpec.ofChange fnExactPlacesOfRowsWrong)

/-- 'laws.FnExactStackOfRows': WHATEVER THE INPUT: true; the input reads as it did. -/
def fnExactStackOfRowsSpec : ChangeSpec := { name := "fnExactStackOfRows", fn := fun _ => fun
  | [d1, d2] => { results := [.lit (.bool true)], args := [d1, d2] }
  | _ => none }
def fnExactStackOfRowsRow : OpenClaim := { program := "ytdkidfilnbglgaa", sum := "46613efcf6e6d2e663f4974cba1994bdf5b117f4bf808cd6931220acd8126525", func := "loop.example/g01221/laws.FnExactStackOfRows", spec := "fnExactStackOfRows", unfollowed := true, recurses := true, plainKeys := false, apart := false }
def FnExactStackOfRowsSaid : Prop := fnExactStackOfRowsRow.holds Try.pinned (OpenSpec.ofChange fnExactStackOfRowsSpec)

/-- ITS FALSE NEIGHBOUR: 'it returns false'. Refute it at one input. -/
def fnExactStackOfRowsWrong : ChangeSpec := { name := "fnExactStackOfRows", fn := fun _ => fun
  | [d1, d2] => { results := [.lit (.bool false)], args := [d1, d2] }
  | _ => none }
def FnExactStackOfRowsWrongFalsely : Prop := fnExactStackOfRowsRow.holds Try.pinned (OpenSpec.ofChange fnExactStackOfRowsWrong)

/-- 'laws.FnExactShapeOf': WHATEVER THE INPUT: true; the input reads as it did. -/
def fnExactShapeOfSpec : ChangeSpec := { name := "fnExactShapeOf", fn := fun _ => fun
  | [d] => { results := [.lit (.bool true)], args := [d] }
  | _ => none }
def fnExactShapeOfRow : OpenClaim := { program := "ytdkidfilnbglgaa", sum := "46613efcf6e6d2e663f4974cba1994bdf5b117f4bf808cd6931220acd8126525", func := "loop.example/g01221/laws.FnExactShapeOf", spec := "fnExactShapeOf", unfollowed := true, recurses := true, plainKeys := false, apart := false }
def FnExactShapeOfSaid : Prop := fnExactShapeOfRow.holds Try.pinned (OpenSpec.ofChange fnExactShapeOfSpec)

/-- ITS FALSE NEIGHBOUR: 'it returns false'. Refute it at one input. -/
def fnExactShapeOfWrong : ChangeSpec := { name := "fnExactShapeOf", fn := fun _ => fun
  | [d] => { results := [.lit (.bool false)], args := [d] }
  | _ => none }
def FnExactShapeOfWrongFalsely : Prop := fnExactShapeOfRow.holds Try.pinned (OpenSpec.ofChange fnExactShapeOfWrong)

/-- 'laws.FnExactCountTables': WHATEVER THE INPUT: true; the input reads as it did. -/
def fnExactCountTablesSpec : ChangeSpec := { name := "fnExactCountTables", fn := fun _ => fun
  | [d] => { results := [.lit (.bool true)], args := [d] }
  | _ => none }
def fnExactCountTablesRow : OpenClaim := { program := "ytdkidfilnbglgaa", sum := "46613efcf6e6d2e663f4974cba1994bdf5b117f4bf808cd6931220acd8126525", func := "loop.example/g01221/laws.FnExactCountTables", spec := "fnExactCountTables", unfollowed := true, recurses := true, plainKeys := false, apart := false }
def FnExactCountTablesSaid : Prop := fnExactCountTablesRow.holds Try.pinned (OpenSpec.ofChange fnExactCountTablesSpec)

/-- ITS FALSE NEIGHBOUR: 'it returns false'. Refute it at one input. -/
def fnExactCountTablesWrong : ChangeSpec := { name := "fnExactCountTables", fn := fun _ => fun
  | [d] => { results := [.lit (.bool false)], args := [d] }
  | _ => none }
def FnExactCountTablesWrongFalsely : Prop := fnExactCountTablesRow.holds Try.pinned (OpenSpec.ofChange fnExactCountTablesWrong)

/-- 'laws.FnExactCountByRising': WHATEVER THE INPUT: true; the input reads as it did. -/
def fnExactCountByRisingSpec : ChangeSpec := { name := "fnExactCountByRising", fn := fun _ => fun
  | [d] => { results := [.lit (.bool true)], args := [d] }
  | _ => none }
def fnExactCountByRisingRow : OpenClaim := { program := "ytdkidfilnbglgaa", sum := "46613efcf6e6d2e663f4974cba1994bdf5b117f4bf808cd6931220acd8126525", func := "loop.example/g01221/laws.FnExactCountByRising", spec := "fnExactCountByRising", unfollowed := true, recurses := true, plainKeys := false, apart := false }
def FnExactCountByRisingSaid : Prop := fnExactCountByRisingRow.holds Try.pinned (OpenSpec.ofChange fnExactCountByRisingSpec)

/-- ITS FALSE NEIGHBOUR: 'it returns false'. Refute it at one input. -/
def fnExactCountByRisingWrong : ChangeSpec := { name := "fnExactCountByRising", fn := fun _ => fun
  | [d] => { results := [.lit (.bool false)], args := [d] }
  | _ => none }
def FnExactCountByRisingWrongFalsely : Prop := fnExactCountByRisingRow.holds Try.pinned (OpenSpec.ofChange fnExactCountByRisingWrong)

/-- 'laws.FnExactAreRows': WHATEVER THE INPUT: true; the input reads as it did. -/
def fnExactAreRowsSpec : ChangeSpec := { name := "fnExactAreRows", fn := fun _ => fun
  | [d] => { results := [.lit (.bool true)], args := [d] }
  | _ => none }
def fnExactAreRowsRow : OpenClaim := { program := "ytdkidfilnbglgaa", sum := "46613efcf6e6d2e663f4974cba1994bdf5b117f4bf808cd6931220acd8126525", func := "loop.example/g01221/laws.FnExactAreRows", spec := "fnExactAreRows", plainKeys := false, apart := false }
def FnExactAreRowsSaid : Prop := fnExactAreRowsRow.holds Try.pinned (OpenSpec.ofChange fnExactAreRowsSpec)

/-- ITS FALSE NEIGHBOUR: 'it returns false'. Refute it at one input. -/
def fnExactAreRowsWrong : ChangeSpec := { name := "fnExactAreRows", fn := fun _ => fun
  | [d] => { results := [.lit (.bool false)], args := [d] }
  | _ => none }
def FnExactAreRowsWrongFalsely : Prop := fnExactAreRowsRow.holds Try.pinned (OpenSpec.ofChange fnExactAreRowsWrong)

/-- 'laws.FnExactExchangesToSort': WHATEVER THE INPUT: true; the input reads as it did. -/
def fnExactExchangesToSortSpec : ChangeSpec := { name := "fnExactExchangesToSort", fn := fun _ => fun
  | [d] => { results := [.lit (.bool true)], args := [d] }
  | _ => none }
def fnExactExchangesToSortRow : OpenClaim := { program := "ytdkidfilnbglgaa", sum := "46613efcf6e6d2e663f4974cba1994bdf5b117f4bf808cd6931220acd8126525", func := "loop.example/g01221/laws.FnExactExchangesToSort", spec := "fnExactExchangesToSort", unfollowed := true, recurses := true, plainKeys := false, apart := false }
def FnExactExchangesToSortSaid : Prop := fnExactExchangesToSortRow.holds Try.pinned (OpenSpec.ofChange fnExactExchangesToSortSpec)

/-- ITS FALSE NEIGHBOUR: 'it returns false'. Refute it at one input. -/
def fnExactExchangesToSortWrong : ChangeSpec := { name := "fnExactExchangesToSort", fn := fun _ => fun
  | [d] => { results := [.lit (.bool false)], args := [d] }
  | _ => none }
def FnExactExchangesToSortWrongFalsely : Prop := fnExactExchangesToSortRow.holds Try.pinned (OpenSpec.ofChange fnExactExchangesToSortWrong)

/-- 'laws.FnExactLeastExchanges': WHATEVER THE INPUT: true; the input reads as it did. -/
def fnExactLeastExchangesSpec : ChangeSpec := { name := "fnExactLeastExchanges", fn := fun _ => fun
  | [d] => { results := [.lit (.bool true)], args := [d] }
  | _ => none }
def fnExactLeastExchangesRow : OpenClaim := { program := "ytdkidfilnbglgaa", sum := "46613efcf6e6d2e663f4974cba1994bdf5b117f4bf808cd6931220acd8126525", func := "loop.example/g01221/laws.FnExactLeastExchanges", spec := "fnExactLeastExchanges", unfollowed := true, recurses := true, plainKeys := false, apart := false }
def FnExactLeastExchangesSaid : Prop := fnExactLeastExchangesRow.holds Try.pinned (OpenSpec.ofChange fnExactLeastExchangesSpec)

/-- ITS FALSE NEIGHBOUR: 'it returns false'. Refute it at one input. -/
def fnExactLeastExchangesWrong : ChangeSpec := { name := "fnExactLeastExchanges", fn := fun _ => fun
  | [d] => { results := [.lit (.bool false)], args := [d] }
  | _ => none }
def FnExactLeastExchangesWrongFalsely : Prop := fnExactLeastExchangesRow.holds Try.pinned (OpenSpec.ofChange fnExactLeastExchangesWrong)

/-- 'laws.FnExactCountByExchanges': WHATEVER THE INPUT: true; the input reads as it did. -/
def fnExactCountByExchangesSpec : ChangeSpec := { name := "fnExactCountByExchanges", fn := fun _ => fun
  | [d] => { results := [.lit (.bool true)], args := [d] }
  | _ => none }
def fnExactCountByExchangesRow : OpenClaim := { program := "ytdkidfilnbglgaa", sum := "46613efcf6e6d2e663f4974cba1994bdf5b117f4bf808cd6931220acd8126525", func := "loop.example/g01221/laws.FnExactCountByExchanges", spec := "fnExactCountByExchanges", unfollowed := true, recurses := true, plainKeys := false, apart := false }
def FnExactCountByExchangesSaid : Prop := fnExactCountByExchangesRow.holds Try.pinned (OpenSpec.ofChange fnExactCountByExchangesSpec)

/-- ITS FALSE NEIGHBOUR: 'it returns false'. Refute it at one input. -/
def fnExactCountByExchangesWrong : ChangeSpec := { name := "fnExactCountByExchanges", fn := fun _ => fun
  | [d] => { results := [.lit (.bool false)], args := [d] }
  | _ => none }
def FnExactCountByExchangesWrongFalsely : Prop := fnExactCountByExchangesRow.holds Try.pinned (OpenSpec.ofChange fnExactCountByExchangesWrong)

/-- 'laws.FnExactFarthestStacks': WHATEVER THE INPUT: true; the input reads as it did. -/
def fnExactFarthestStacksSpec : ChangeSpec := { name := "fnExactFarthestStacks", fn := fun _ => fun
  | [d] => { results := [.lit (.bool true)], args := [d] }
  | _ => none }
def fnExactFarthestStacksRow : OpenClaim := { program := "ytdkidfilnbglgaa", sum := "46613efcf6e6d2e663f4974cba1994bdf5b117f4bf808cd6931220acd8126525", func := "loop.example/g01221/laws.FnExactFarthestStacks", spec := "fnExactFarthestStacks", unfollowed := true, recurses := true, plainKeys := false, apart := false }
def FnExactFarthestStacksSaid : Prop := fnExactFarthestStacksRow.holds Try.pinned (OpenSpec.ofChange fnExactFarthestStacksSpec)

/-- ITS FALSE NEIGHBOUR: 'it returns false'. Refute it at one input. -/
def fnExactFarthestStacksWrong : ChangeSpec := { name := "fnExactFarthestStacks", fn := fun _ => fun
  | [d] => { results := [.lit (.bool false)], args := [d] }
  | _ => none }
def FnExactFarthestStacksWrongFalsely : Prop := fnExactFarthestStacksRow.holds Try.pinned (OpenSpec.ofChange fnExactFarthestStacksWrong)

/- THE SECOND FORM. 'bulk': how many values and letters a reading holds, each counted each time it is reached (what is shared counts as often as it is met; a slice's spare places count too). A statement '..UptoSaid' is the law's where the arguments, and the package variables that the reading takes, are together of bulk at most 1048576: NARROWER than '..Said'. Prove '..Said' where nothing that the law and all that it calls make is longer than what came in: it says more and counts as full. Else prove '..UptoSaid'. A law counts once. -/
mutual
def uptoBulk {H : Type} : DataW H → Nat
  | .lit (.string bytes) => bytes.length + 1
  | .lit _ => 1
  | .nil => 1
  | .ptr d => uptoBulk d + 1
  | .slice elems spare => uptoBulkAll elems + uptoBulkAll spare + 1
  | .agg parts => uptoBulkAll parts + 1
  | .iface _ d => uptoBulk d + 1
  | .map entries => uptoBulkEntries entries + 1
  | .held _ => 1
def uptoBulkAll {H : Type} : List (DataW H) → Nat
  | [] => 0
  | d :: r => uptoBulk d + uptoBulkAll r
def uptoBulkEntries {H : Type} : List (Lit × DataW H) → Nat
  | [] => 0
  | x :: r => uptoBulkEntry x + uptoBulkEntries r
def uptoBulkEntry {H : Type} : Lit × DataW H → Nat
  | (.string bytes, d) => bytes.length + uptoBulk d + 1
  | (_, d) => uptoBulk d + 1
 end
def uptoSmall : (H : Type) → List (DataW H) → Bool := fun _ ds => decide (uptoBulkAll ds ≤ 1048576)
def OpenSpec.upto (s : _root_.Go.ChangeSpec) : _root_.Go.OpenSpec := { _root_.Go.OpenSpec.ofChange s with cond := some uptoSmall }

/-- 'laws.FnExactMoveOne', WHERE WHAT IT READS IS OF BULK AT MOST 1048576: true; the input reads as it did. -/
def fnExactMoveOneUptoRow : OpenClaim := { program := "ytdkidfilnbglgaa", sum := "46613efcf6e6d2e663f4974cba1994bdf5b117f4bf808cd6931220acd8126525", func := "loop.example/g01221/laws.FnExactMoveOne", spec := "fnExactMoveOne", inPlace := ["slices.overlaps[int]"], unfollowed := true, recurses := true, plainKeys := false, apart := false, narrowed := true }
def FnExactMoveOneUptoSaid : Prop := fnExactMoveOneUptoRow.holds Try.pinned (OpenSpec.upto fnExactMoveOneSpec)

/-- 'laws.FnExactPlayMoves', WHERE WHAT IT READS IS OF BULK AT MOST 1048576: true; the input reads as it did. -/
def fnExactPlayMovesUptoRow : OpenClaim := { program := "ytdkidfilnbglgaa", sum := "46613efcf6e6d2e663f4974cba1994bdf5b117f4bf808cd6931220acd8126525", func := "loop.example/g01221/laws.FnExactPlayMoves", spec := "fnExactPlayMoves", inPlace := ["slices.overlaps[int]"], unfollowed := true, recurses := true, plainKeys := false, apart := false, narrowed := true }
def FnExactPlayMovesUptoSaid : Prop := fnExactPlayMovesUptoRow.holds Try.pinned (OpenSpec.upto fnExactPlayMovesSpec)

/-- 'laws.FnExactLongestRising', WHERE WHAT IT READS IS OF BULK AT MOST 1048576: true; the input reads as it did. -/
def fnExactLongestRisingUptoRow : OpenClaim := { program := "ytdkidfilnbglgaa", sum := "46613efcf6e6d2e663f4974cba1994bdf5b117f4bf808cd6931220acd8126525", func := "loop.example/g01221/laws.FnExactLongestRising", spec := "fnExactLongestRising", unfollowed := true, recurses := true, plainKeys := false, apart := false, narrowed := true }
def FnExactLongestRisingUptoSaid : Prop := fnExactLongestRisingUptoRow.holds Try.pinned (OpenSpec.upto fnExactLongestRisingSpec)

/-- 'laws.FnExactRisingLength', WHERE WHAT IT READS IS OF BULK AT MOST 1048576: true; the input reads as it did. -/
def fnExactRisingLengthUptoRow : OpenClaim := { program := "ytdkidfilnbglgaa", sum := "46613efcf6e6d2e663f4974cba1994bdf5b117f4bf808cd6931220acd8126525", func := "loop.example/g01221/laws.FnExactRisingLength", spec := "fnExactRisingLength", unfollowed := true, recurses := true, plainKeys := false, apart := false, narrowed := true }
def FnExactRisingLengthUptoSaid : Prop := fnExactRisingLengthUptoRow.holds Try.pinned (OpenSpec.upto fnExactRisingLengthSpec)

/-- 'laws.FnExactFallingLength', WHERE WHAT IT READS IS OF BULK AT MOST 1048576: true; the input reads as it did. -/
def fnExactFallingLengthUptoRow : OpenClaim := { program := "ytdkidfilnbglgaa", sum := "46613efcf6e6d2e663f4974cba1994bdf5b117f4bf808cd6931220acd8126525", func := "loop.example/g01221/laws.FnExactFallingLength", spec := "fnExactFallingLength", unfollowed := true, recurses := true, plainKeys := false, apart := false, narrowed := true }
def FnExactFallingLengthUptoSaid : Prop := fnExactFallingLengthUptoRow.holds Try.pinned (OpenSpec.upto fnExactFallingLengthSpec)

/-- 'laws.FnExactCountRising', WHERE WHAT IT READS IS OF BULK AT MOST 1048576: true; the input reads as it did. -/
def fnExactCountRisingUptoRow : OpenClaim := { program := "ytdkidfilnbglgaa", sum := "46613efcf6e6d2e663f4974cba1994bdf5b117f4bf808cd6931220acd8126525", func := "loop.example/g01221/laws.FnExactCountRising", spec := "fnExactCountRising", unfollowed := true, recurses := true, plainKeys := false, apart := false, narrowed := true }
def FnExactCountRisingUptoSaid : Prop := fnExactCountRisingUptoRow.holds Try.pinned (OpenSpec.upto fnExactCountRisingSpec)

/-- 'laws.FnExactLeastMoves', WHERE WHAT IT READS IS OF BULK AT MOST 1048576: true; the input reads as it did. -/
def fnExactLeastMovesUptoRow : OpenClaim := { program := "ytdkidfilnbglgaa", sum := "46613efcf6e6d2e663f4974cba1994bdf5b117f4bf808cd6931220acd8126525", func := "loop.example/g01221/laws.FnExactLeastMoves", spec := "fnExactLeastMoves", unfollowed := true, recurses := true, plainKeys := false, apart := false, narrowed := true }
def FnExactLeastMovesUptoSaid : Prop := fnExactLeastMovesUptoRow.holds Try.pinned (OpenSpec.upto fnExactLeastMovesSpec)

/-- 'laws.FnExactMovesToSort', WHERE WHAT IT READS IS OF BULK AT MOST 1048576: true; the input reads as it did. -/
def fnExactMovesToSortUptoRow : OpenClaim := { program := "ytdkidfilnbglgaa", sum := "46613efcf6e6d2e663f4974cba1994bdf5b117f4bf808cd6931220acd8126525", func := "loop.example/g01221/laws.FnExactMovesToSort", spec := "fnExactMovesToSort", inPlace := ["slices.overlaps[int]"], unfollowed := true, recurses := true, plainKeys := false, apart := false, narrowed := true }
def FnExactMovesToSortUptoSaid : Prop := fnExactMovesToSortUptoRow.holds Try.pinned (OpenSpec.upto fnExactMovesToSortSpec)

/-- 'laws.FnExactPilesOf', WHERE WHAT IT READS IS OF BULK AT MOST 1048576: true; the input reads as it did. -/
def fnExactPilesOfUptoRow : OpenClaim := { program := "ytdkidfilnbglgaa", sum := "46613efcf6e6d2e663f4974cba1994bdf5b117f4bf808cd6931220acd8126525", func := "loop.example/g01221/laws.FnExactPilesOf", spec := "fnExactPilesOf", unfollowed := true, recurses := true, plainKeys := false, apart := false, narrowed := true }
def FnExactPilesOfUptoSaid : Prop := fnExactPilesOfUptoRow.holds Try.pinned (OpenSpec.upto fnExactPilesOfSpec)

/-- 'laws.FnExactRowsOf', WHERE WHAT IT READS IS OF BULK AT MOST 1048576: true; the input reads as it did. -/
def fnExactRowsOfUptoRow : OpenClaim := { program := "ytdkidfilnbglgaa", sum := "46613efcf6e6d2e663f4974cba1994bdf5b117f4bf808cd6931220acd8126525", func := "loop.example/g01221/laws.FnExactRowsOf", spec := "fnExactRowsOf", unfollowed := true, recurses := true, plainKeys := false, apart := false, narrowed := true }
def FnExactRowsOfUptoSaid : Prop := fnExactRowsOfUptoRow.holds Try.pinned (OpenSpec.upto fnExactRowsOfSpec)

/-- 'laws.FnExactPlacesOfRows', WHERE WHAT IT READS IS OF BULK AT MOST 1048576: true; the input reads as it did. -/
def fnExactPlacesOfRowsUptoRow : OpenClaim := { program := "ytdkidfilnbglgaa", sum := "46613efcf6e6d2e663f4974cba1994bdf5b117f4bf808cd6931220acd8126525", func := "loop.example/g01221/laws.FnExactPlacesOfRows", spec := "fnExactPlacesOfRows", unfollowed := true, recurses := true, plainKeys := false, apart := false, narrowed := true }
def FnExactPlacesOfRowsUptoSaid : Prop := fnExactPlacesOfRowsUptoRow.holds Try.pinned (OpenSpec.upto fnExactPlacesOfRowsSpec)

/-- 'laws.FnExactStackOfRows', WHERE WHAT IT READS IS OF BULK AT MOST 1048576: true; the input reads as it did. -/
def fnExactStackOfRowsUptoRow : OpenClaim := { program := "ytdkidfilnbglgaa", sum := "46613efcf6e6d2e663f4974cba1994bdf5b117f4bf808cd6931220acd8126525", func := "loop.example/g01221/laws.FnExactStackOfRows", spec := "fnExactStackOfRows", unfollowed := true, recurses := true, plainKeys := false, apart := false, narrowed := true }
def FnExactStackOfRowsUptoSaid : Prop := fnExactStackOfRowsUptoRow.holds Try.pinned (OpenSpec.upto fnExactStackOfRowsSpec)

/-- 'laws.FnExactShapeOf', WHERE WHAT IT READS IS OF BULK AT MOST 1048576: true; the input reads as it did. -/
def fnExactShapeOfUptoRow : OpenClaim := { program := "ytdkidfilnbglgaa", sum := "46613efcf6e6d2e663f4974cba1994bdf5b117f4bf808cd6931220acd8126525", func := "loop.example/g01221/laws.FnExactShapeOf", spec := "fnExactShapeOf", unfollowed := true, recurses := true, plainKeys := false, apart := false, narrowed := true }
def FnExactShapeOfUptoSaid : Prop := fnExactShapeOfUptoRow.holds Try.pinned (OpenSpec.upto fnExactShapeOfSpec)

/-- 'laws.FnExactCountTables', WHERE WHAT IT READS IS OF BULK AT MOST 1048576: true; the input reads as it did. -/
def fnExactCountTablesUptoRow : OpenClaim := { program := "ytdkidfilnbglgaa", sum := "46613efcf6e6d2e663f4974cba1994bdf5b117f4bf808cd6931220acd8126525", func := "loop.example/g01221/laws.FnExactCountTables", spec := "fnExactCountTables", unfollowed := true, recurses := true, plainKeys := false, apart := false, narrowed := true }
def FnExactCountTablesUptoSaid : Prop := fnExactCountTablesUptoRow.holds Try.pinned (OpenSpec.upto fnExactCountTablesSpec)

/-- 'laws.FnExactCountByRising', WHERE WHAT IT READS IS OF BULK AT MOST 1048576: true; the input reads as it did. -/
def fnExactCountByRisingUptoRow : OpenClaim := { program := "ytdkidfilnbglgaa", sum := "46613efcf6e6d2e663f4974cba1994bdf5b117f4bf808cd6931220acd8126525", func := "loop.example/g01221/laws.FnExactCountByRising", spec := "fnExactCountByRising", unfollowed := true, recurses := true, plainKeys := false, apart := false, narrowed := true }
def FnExactCountByRisingUptoSaid : Prop := fnExactCountByRisingUptoRow.holds Try.pinned (OpenSpec.upto fnExactCountByRisingSpec)

/-- 'laws.FnExactAreRows', WHERE WHAT IT READS IS OF BULK AT MOST 1048576: true; the input reads as it did. -/
def fnExactAreRowsUptoRow : OpenClaim := { program := "ytdkidfilnbglgaa", sum := "46613efcf6e6d2e663f4974cba1994bdf5b117f4bf808cd6931220acd8126525", func := "loop.example/g01221/laws.FnExactAreRows", spec := "fnExactAreRows", plainKeys := false, apart := false, narrowed := true }
def FnExactAreRowsUptoSaid : Prop := fnExactAreRowsUptoRow.holds Try.pinned (OpenSpec.upto fnExactAreRowsSpec)

/-- 'laws.FnExactExchangesToSort', WHERE WHAT IT READS IS OF BULK AT MOST 1048576: true; the input reads as it did. -/
def fnExactExchangesToSortUptoRow : OpenClaim := { program := "ytdkidfilnbglgaa", sum := "46613efcf6e6d2e663f4974cba1994bdf5b117f4bf808cd6931220acd8126525", func := "loop.example/g01221/laws.FnExactExchangesToSort", spec := "fnExactExchangesToSort", unfollowed := true, recurses := true, plainKeys := false, apart := false, narrowed := true }
def FnExactExchangesToSortUptoSaid : Prop := fnExactExchangesToSortUptoRow.holds Try.pinned (OpenSpec.upto fnExactExchangesToSortSpec)

/-- 'laws.FnExactLeastExchanges', WHERE WHAT IT READS IS OF BULK AT MOST 1048576: true; the input reads as it did. -/
def fnExactLeastExchangesUptoRow : OpenClaim := { program := "ytdkidfilnbglgaa", sum := "46613efcf6e6d2e663f4974cba1994bdf5b117f4bf808cd6931220acd8126525", func := "loop.example/g01221/laws.FnExactLeastExchanges", spec := "fnExactLeastExchanges", unfollowed := true, recurses := true, plainKeys := false, apart := false, narrowed := true }
def FnExactLeastExchangesUptoSaid : Prop := fnExactLeastExchangesUptoRow.holds Try.pinned (OpenSpec.upto fnExactLeastExchangesSpec)

/-- 'laws.FnExactCountByExchanges', WHERE WHAT IT READS IS OF BULK AT MOST 1048576: true; the input reads as it did. -/
def fnExactCountByExchangesUptoRow : OpenClaim := { program := "ytdkidfilnbglgaa", sum := "46613efcf6e6d2e663f4974cba1994bdf5b117f4bf808cd6931220acd8126525", func := "loop.example/g01221/laws.FnExactCountByExchanges", spec := "fnExactCountByExchanges", unfollowed := true, recurses := true, plainKeys := false, apart := false, narrowed := true }
def FnExactCountByExchangesUptoSaid : Prop := fnExactCountByExchangesUptoRow.holds Try.pinned (OpenSpec.upto fnExactCountByExchangesSpec)

/-- 'laws.FnExactFarthestStacks', WHERE WHAT IT READS IS OF BULK AT MOST 1048576: true; the input reads as it did. -/
def fnExactFarthestStacksUptoRow : OpenClaim := { program := "ytdkidfilnbglgaa", sum := "46613efcf6e6d2e663f4974cba1994bdf5b117f4bf808cd6931220acd8126525", func := "loop.example/g01221/laws.FnExactFarthestStacks", spec := "fnExactFarthestStacks", unfollowed := true, recurses := true, plainKeys := false, apart := false, narrowed := true }
def FnExactFarthestStacksUptoSaid : Prop := fnExactFarthestStacksUptoRow.holds Try.pinned (OpenSpec.upto fnExactFarthestStacksSpec)

end Rows
end Go.Proofs.Ytdkidfilnbglgaa
