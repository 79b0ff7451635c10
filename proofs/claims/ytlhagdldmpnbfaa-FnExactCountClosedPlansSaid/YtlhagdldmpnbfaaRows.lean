/-
  No cell of these rows narrows 'for every input' (looked for: loops, veiled, ifaces, maps, wideKeys, modest, calm, conditions, laid).
  DERIVED. THE GIVEN ROWS OF THIS SEAT. 20 by the template 'for every input the law returns true; each argument reads behind the call as it read before'; 0 by the template 'total and deterministic' (their statements: YtlhagdldmpnbfaaTotals.lean).
  GIVEN WITH THE SEED: the statements are not yours to turn. If you find one false, say at which input.
  Laid BY PROGRAM, IN A SANDBOX (cutbox-rows.mjs): the forced cells as the released guide's own fill.sh prints them over the translation f37e83a2180cdbb9… (all of the seat's roots in one cut). By AI agents, Wed Nov 11 2026. No macro, syntax, notation, axiom, sorry.
-/
import Derived.Test.YtlhagdldmpnbfaaChecked
import GoSem.Claim
import GoSem.ClaimJoined
import GoSem.ClaimMapViews
import Derived.JoinedTies
import Derived.KernelRfl
namespace Go.Proofs.Ytlhagdldmpnbfaa
/- THE CELL 'sum', in the pinned program and in every row, IS THE sha256 OF THE DUMP (.gsa) THAT YtlhagdldmpnbfaaProg.lean LOADS. Nothing in Lean hashes anything: it is a label: what it is worth is what the hold of that sum in a sandbox is worth. -/
noncomputable def Try.pinned : Pinned := { name := "ytlhagdldmpnbfaa", sum := "f37e83a2180cdbb92e584a09bdd3860e2b190bccf5211d338caaf0c0ad8c95e6", checked := Try.checked }
namespace Rows
def none {H : Type} : Left H := { results := [], args := [] }

/-- 'laws.FnExactGapsOf': WHATEVER THE INPUT: true; the input reads as it did. -/
def fnExactGapsOfSpec : ChangeSpec := { name := "fnExactGapsOf", fn := fun _ => fun
  | [d] => { results := [.lit (.bool true)], args := [d] }
  | _ => none }
def fnExactGapsOfRow : OpenClaim := { program := "ytlhagdldmpnbfaa", sum := "f37e83a2180cdbb92e584a09bdd3860e2b190bccf5211d338caaf0c0ad8c95e6", func := "loop.example/g01221/laws.FnExactGapsOf", spec := "fnExactGapsOf", unfollowed := true, recurses := true, plainKeys := false, apart := false }
def FnExactGapsOfSaid : Prop := fnExactGapsOfRow.holds Try.pinned (OpenSpec.ofChange fnExactGapsOfSpec)

/-- ITS FALSE NEIGHBOUR: 'it returns false'. Refute it at one input. -/
def fnExactGapsOfWrong : ChangeSpec := { name := "fnExactGapsOf", fn := fun _ => fun
  | [d] => { results := [.lit (.bool false)], args := [d] }
  | _ => none }
def FnExactGapsOfWrongFalsely : Prop := fnExactGapsOfRow.holds Try.pinned (OpenSpec.ofChange fnExactGapsOfWrong)

/-- 'laws.FnExactCountGaps': WHATEVER THE INPUT: true; the input reads as it did. -/
def fnExactCountGapsSpec : ChangeSpec := { name := "fnExactCountGaps", fn := fun _ => fun
  | [d] => { results := [.lit (.bool true)], args := [d] }
  | _ => none }
def fnExactCountGapsRow : OpenClaim := { program := "ytlhagdldmpnbfaa", sum := "f37e83a2180cdbb92e584a09bdd3860e2b190bccf5211d338caaf0c0ad8c95e6", func := "loop.example/g01221/laws.FnExactCountGaps", spec := "fnExactCountGaps", unfollowed := true, recurses := true, plainKeys := false, apart := false }
def FnExactCountGapsSaid : Prop := fnExactCountGapsRow.holds Try.pinned (OpenSpec.ofChange fnExactCountGapsSpec)

/-- ITS FALSE NEIGHBOUR: 'it returns false'. Refute it at one input. -/
def fnExactCountGapsWrong : ChangeSpec := { name := "fnExactCountGaps", fn := fun _ => fun
  | [d] => { results := [.lit (.bool false)], args := [d] }
  | _ => none }
def FnExactCountGapsWrongFalsely : Prop := fnExactCountGapsRow.holds Try.pinned (OpenSpec.ofChange fnExactCountGapsWrong)

/-- 'laws.FnExactLowerBound': WHATEVER THE INPUT: true; the input reads as it did. -/
def fnExactLowerBoundSpec : ChangeSpec := { name := "fnExactLowerBound", fn := fun _ => fun
  | [d] => { results := [.lit (.bool true)], args := [d] }
  | _ => none }
def fnExactLowerBoundRow : OpenClaim := { program := "ytlhagdldmpnbfaa", sum := "f37e83a2180cdbb92e584a09bdd3860e2b190bccf5211d338caaf0c0ad8c95e6", func := "loop.example/g01221/laws.FnExactLowerBound", spec := "fnExactLowerBound", unfollowed := true, recurses := true, plainKeys := false, apart := false }
def FnExactLowerBoundSaid : Prop := fnExactLowerBoundRow.holds Try.pinned (OpenSpec.ofChange fnExactLowerBoundSpec)

/-- ITS FALSE NEIGHBOUR: 'it returns false'. Refute it at one input. -/
def fnExactLowerBoundWrong : ChangeSpec := { name := "fnExactLowerBound", fn := fun _ => fun
  | [d] => { results := [.lit (.bool false)], args := [d] }
  | _ => none }
def FnExactLowerBoundWrongFalsely : Prop := fnExactLowerBoundRow.holds Try.pinned (OpenSpec.ofChange fnExactLowerBoundWrong)

/-- 'laws.FnExactGapTurns': WHATEVER THE INPUT: true; the input reads as it did. -/
def fnExactGapTurnsSpec : ChangeSpec := { name := "fnExactGapTurns", fn := fun _ => fun
  | [d] => { results := [.lit (.bool true)], args := [d] }
  | _ => none }
def fnExactGapTurnsRow : OpenClaim := { program := "ytlhagdldmpnbfaa", sum := "f37e83a2180cdbb92e584a09bdd3860e2b190bccf5211d338caaf0c0ad8c95e6", func := "loop.example/g01221/laws.FnExactGapTurns", spec := "fnExactGapTurns", unfollowed := true, recurses := true, plainKeys := false, apart := false }
def FnExactGapTurnsSaid : Prop := fnExactGapTurnsRow.holds Try.pinned (OpenSpec.ofChange fnExactGapTurnsSpec)

/-- ITS FALSE NEIGHBOUR: 'it returns false'. Refute it at one input. -/
def fnExactGapTurnsWrong : ChangeSpec := { name := "fnExactGapTurns", fn := fun _ => fun
  | [d] => { results := [.lit (.bool false)], args := [d] }
  | _ => none }
def FnExactGapTurnsWrongFalsely : Prop := fnExactGapTurnsRow.holds Try.pinned (OpenSpec.ofChange fnExactGapTurnsWrong)

/-- 'laws.FnExactGapPlan': WHATEVER THE INPUT: true; the input reads as it did. -/
def fnExactGapPlanSpec : ChangeSpec := { name := "fnExactGapPlan", fn := fun _ => fun
  | [d] => { results := [.lit (.bool true)], args := [d] }
  | _ => none }
def fnExactGapPlanRow : OpenClaim := { program := "ytlhagdldmpnbfaa", sum := "f37e83a2180cdbb92e584a09bdd3860e2b190bccf5211d338caaf0c0ad8c95e6", func := "loop.example/g01221/laws.FnExactGapPlan", spec := "fnExactGapPlan", unfollowed := true, recurses := true, plainKeys := false, apart := false }
def FnExactGapPlanSaid : Prop := fnExactGapPlanRow.holds Try.pinned (OpenSpec.ofChange fnExactGapPlanSpec)

/-- ITS FALSE NEIGHBOUR: 'it returns false'. Refute it at one input. -/
def fnExactGapPlanWrong : ChangeSpec := { name := "fnExactGapPlan", fn := fun _ => fun
  | [d] => { results := [.lit (.bool false)], args := [d] }
  | _ => none }
def FnExactGapPlanWrongFalsely : Prop := fnExactGapPlanRow.holds Try.pinned (OpenSpec.ofChange fnExactGapPlanWrong)

/-- 'laws.FnExactIsWaste': WHATEVER THE INPUT: true; the input reads as it did. -/
def fnExactIsWasteSpec : ChangeSpec := { name := "fnExactIsWaste", fn := fun _ => fun
  | [d1, d2] => { results := [.lit (.bool true)], args := [d1, d2] }
  | _ => none }
def fnExactIsWasteRow : OpenClaim := { program := "ytlhagdldmpnbfaa", sum := "f37e83a2180cdbb92e584a09bdd3860e2b190bccf5211d338caaf0c0ad8c95e6", func := "loop.example/g01221/laws.FnExactIsWaste", spec := "fnExactIsWaste", unfollowed := true, recurses := true, plainKeys := false, apart := false }
def FnExactIsWasteSaid : Prop := fnExactIsWasteRow.holds Try.pinned (OpenSpec.ofChange fnExactIsWasteSpec)

/-- ITS FALSE NEIGHBOUR: 'it returns false'. Refute it at one input. -/
def fnExactIsWasteWrong : ChangeSpec := { name := "fnExactIsWaste", fn := fun _ => fun
  | [d1, d2] => { results := [.lit (.bool false)], args := [d1, d2] }
  | _ => none }
def FnExactIsWasteWrongFalsely : Prop := fnExactIsWasteRow.holds Try.pinned (OpenSpec.ofChange fnExactIsWasteWrong)

/-- 'laws.FnExactGapsAlong': WHATEVER THE INPUT: true; the input reads as it did. -/
def fnExactGapsAlongSpec : ChangeSpec := { name := "fnExactGapsAlong", fn := fun _ => fun
  | [d1, d2] => { results := [.lit (.bool true)], args := [d1, d2] }
  | _ => none }
def fnExactGapsAlongRow : OpenClaim := { program := "ytlhagdldmpnbfaa", sum := "f37e83a2180cdbb92e584a09bdd3860e2b190bccf5211d338caaf0c0ad8c95e6", func := "loop.example/g01221/laws.FnExactGapsAlong", spec := "fnExactGapsAlong", unfollowed := true, recurses := true, plainKeys := false, apart := false }
def FnExactGapsAlongSaid : Prop := fnExactGapsAlongRow.holds Try.pinned (OpenSpec.ofChange fnExactGapsAlongSpec)

/-- ITS FALSE NEIGHBOUR: 'it returns false'. Refute it at one input. -/
def fnExactGapsAlongWrong : ChangeSpec := { name := "fnExactGapsAlong", fn := fun _ => fun
  | [d1, d2] => { results := [.lit (.bool false)], args := [d1, d2] }
  | _ => none }
def FnExactGapsAlongWrongFalsely : Prop := fnExactGapsAlongRow.holds Try.pinned (OpenSpec.ofChange fnExactGapsAlongWrong)

/-- 'laws.FnExactStackDistance': WHATEVER THE INPUT: true; the input reads as it did. -/
def fnExactStackDistanceSpec : ChangeSpec := { name := "fnExactStackDistance", fn := fun _ => fun
  | [d] => { results := [.lit (.bool true)], args := [d] }
  | _ => none }
def fnExactStackDistanceRow : OpenClaim := { program := "ytlhagdldmpnbfaa", sum := "f37e83a2180cdbb92e584a09bdd3860e2b190bccf5211d338caaf0c0ad8c95e6", func := "loop.example/g01221/laws.FnExactStackDistance", spec := "fnExactStackDistance", unfollowed := true, recurses := true, plainKeys := false, apart := false }
def FnExactStackDistanceSaid : Prop := fnExactStackDistanceRow.holds Try.pinned (OpenSpec.ofChange fnExactStackDistanceSpec)

/-- ITS FALSE NEIGHBOUR: 'it returns false'. Refute it at one input. -/
def fnExactStackDistanceWrong : ChangeSpec := { name := "fnExactStackDistance", fn := fun _ => fun
  | [d] => { results := [.lit (.bool false)], args := [d] }
  | _ => none }
def FnExactStackDistanceWrongFalsely : Prop := fnExactStackDistanceRow.holds Try.pinned (OpenSpec.ofChange fnExactStackDistanceWrong)

/-- 'laws.FnExactLeastPlan': WHATEVER THE INPUT: true; the input reads as it did. -/
def fnExactLeastPlanSpec : ChangeSpec := { name := "fnExactLeastPlan", fn := fun _ => fun
  | [d] => { results := [.lit (.bool true)], args := [d] }
  | _ => none }
def fnExactLeastPlanRow : OpenClaim := { program := "ytlhagdldmpnbfaa", sum := "f37e83a2180cdbb92e584a09bdd3860e2b190bccf5211d338caaf0c0ad8c95e6", func := "loop.example/g01221/laws.FnExactLeastPlan", spec := "fnExactLeastPlan", unfollowed := true, recurses := true, plainKeys := false, apart := false }
def FnExactLeastPlanSaid : Prop := fnExactLeastPlanRow.holds Try.pinned (OpenSpec.ofChange fnExactLeastPlanSpec)

/-- ITS FALSE NEIGHBOUR: 'it returns false'. Refute it at one input. -/
def fnExactLeastPlanWrong : ChangeSpec := { name := "fnExactLeastPlan", fn := fun _ => fun
  | [d] => { results := [.lit (.bool false)], args := [d] }
  | _ => none }
def FnExactLeastPlanWrongFalsely : Prop := fnExactLeastPlanRow.holds Try.pinned (OpenSpec.ofChange fnExactLeastPlanWrong)

/-- 'laws.FnExactCountLeastPlans': WHATEVER THE INPUT: true; the input reads as it did. -/
def fnExactCountLeastPlansSpec : ChangeSpec := { name := "fnExactCountLeastPlans", fn := fun _ => fun
  | [d] => { results := [.lit (.bool true)], args := [d] }
  | _ => none }
def fnExactCountLeastPlansRow : OpenClaim := { program := "ytlhagdldmpnbfaa", sum := "f37e83a2180cdbb92e584a09bdd3860e2b190bccf5211d338caaf0c0ad8c95e6", func := "loop.example/g01221/laws.FnExactCountLeastPlans", spec := "fnExactCountLeastPlans", unfollowed := true, recurses := true, plainKeys := false, apart := false }
def FnExactCountLeastPlansSaid : Prop := fnExactCountLeastPlansRow.holds Try.pinned (OpenSpec.ofChange fnExactCountLeastPlansSpec)

/-- ITS FALSE NEIGHBOUR: 'it returns false'. Refute it at one input. -/
def fnExactCountLeastPlansWrong : ChangeSpec := { name := "fnExactCountLeastPlans", fn := fun _ => fun
  | [d] => { results := [.lit (.bool false)], args := [d] }
  | _ => none }
def FnExactCountLeastPlansWrongFalsely : Prop := fnExactCountLeastPlansRow.holds Try.pinned (OpenSpec.ofChange fnExactCountLeastPlansWrong)

/-- 'laws.FnExactCloserTurns': WHATEVER THE INPUT: true; the input reads as it did. -/
def fnExactCloserTurnsSpec : ChangeSpec := { name := "fnExactCloserTurns", fn := fun _ => fun
  | [d] => { results := [.lit (.bool true)], args := [d] }
  | _ => none }
def fnExactCloserTurnsRow : OpenClaim := { program := "ytlhagdldmpnbfaa", sum := "f37e83a2180cdbb92e584a09bdd3860e2b190bccf5211d338caaf0c0ad8c95e6", func := "loop.example/g01221/laws.FnExactCloserTurns", spec := "fnExactCloserTurns", unfollowed := true, recurses := true, plainKeys := false, apart := false }
def FnExactCloserTurnsSaid : Prop := fnExactCloserTurnsRow.holds Try.pinned (OpenSpec.ofChange fnExactCloserTurnsSpec)

/-- ITS FALSE NEIGHBOUR: 'it returns false'. Refute it at one input. -/
def fnExactCloserTurnsWrong : ChangeSpec := { name := "fnExactCloserTurns", fn := fun _ => fun
  | [d] => { results := [.lit (.bool false)], args := [d] }
  | _ => none }
def FnExactCloserTurnsWrongFalsely : Prop := fnExactCloserTurnsRow.holds Try.pinned (OpenSpec.ofChange fnExactCloserTurnsWrong)

/-- 'laws.FnExactCountByTurns': WHATEVER THE INPUT: true; the input reads as it did. -/
def fnExactCountByTurnsSpec : ChangeSpec := { name := "fnExactCountByTurns", fn := fun _ => fun
  | [d] => { results := [.lit (.bool true)], args := [d] }
  | _ => none }
def fnExactCountByTurnsRow : OpenClaim := { program := "ytlhagdldmpnbfaa", sum := "f37e83a2180cdbb92e584a09bdd3860e2b190bccf5211d338caaf0c0ad8c95e6", func := "loop.example/g01221/laws.FnExactCountByTurns", spec := "fnExactCountByTurns", unfollowed := true, recurses := true, plainKeys := false, apart := false }
def FnExactCountByTurnsSaid : Prop := fnExactCountByTurnsRow.holds Try.pinned (OpenSpec.ofChange fnExactCountByTurnsSpec)

/-- ITS FALSE NEIGHBOUR: 'it returns false'. Refute it at one input. -/
def fnExactCountByTurnsWrong : ChangeSpec := { name := "fnExactCountByTurns", fn := fun _ => fun
  | [d] => { results := [.lit (.bool false)], args := [d] }
  | _ => none }
def FnExactCountByTurnsWrongFalsely : Prop := fnExactCountByTurnsRow.holds Try.pinned (OpenSpec.ofChange fnExactCountByTurnsWrong)

/-- 'laws.FnExactWorstDistance': WHATEVER THE INPUT: true; the input reads as it did. -/
def fnExactWorstDistanceSpec : ChangeSpec := { name := "fnExactWorstDistance", fn := fun _ => fun
  | [d] => { results := [.lit (.bool true)], args := [d] }
  | _ => none }
def fnExactWorstDistanceRow : OpenClaim := { program := "ytlhagdldmpnbfaa", sum := "f37e83a2180cdbb92e584a09bdd3860e2b190bccf5211d338caaf0c0ad8c95e6", func := "loop.example/g01221/laws.FnExactWorstDistance", spec := "fnExactWorstDistance", unfollowed := true, recurses := true, plainKeys := false, apart := false }
def FnExactWorstDistanceSaid : Prop := fnExactWorstDistanceRow.holds Try.pinned (OpenSpec.ofChange fnExactWorstDistanceSpec)

/-- ITS FALSE NEIGHBOUR: 'it returns false'. Refute it at one input. -/
def fnExactWorstDistanceWrong : ChangeSpec := { name := "fnExactWorstDistance", fn := fun _ => fun
  | [d] => { results := [.lit (.bool false)], args := [d] }
  | _ => none }
def FnExactWorstDistanceWrongFalsely : Prop := fnExactWorstDistanceRow.holds Try.pinned (OpenSpec.ofChange fnExactWorstDistanceWrong)

/-- 'laws.FnExactDistanceBetween': WHATEVER THE INPUT: true; the input reads as it did. -/
def fnExactDistanceBetweenSpec : ChangeSpec := { name := "fnExactDistanceBetween", fn := fun _ => fun
  | [d1, d2] => { results := [.lit (.bool true)], args := [d1, d2] }
  | _ => none }
def fnExactDistanceBetweenRow : OpenClaim := { program := "ytlhagdldmpnbfaa", sum := "f37e83a2180cdbb92e584a09bdd3860e2b190bccf5211d338caaf0c0ad8c95e6", func := "loop.example/g01221/laws.FnExactDistanceBetween", spec := "fnExactDistanceBetween", unfollowed := true, recurses := true, plainKeys := false, apart := false }
def FnExactDistanceBetweenSaid : Prop := fnExactDistanceBetweenRow.holds Try.pinned (OpenSpec.ofChange fnExactDistanceBetweenSpec)

/-- ITS FALSE NEIGHBOUR: 'it returns false'. Refute it at one input. -/
def fnExactDistanceBetweenWrong : ChangeSpec := { name := "fnExactDistanceBetween", fn := fun _ => fun
  | [d1, d2] => { results := [.lit (.bool false)], args := [d1, d2] }
  | _ => none }
def FnExactDistanceBetweenWrongFalsely : Prop := fnExactDistanceBetweenRow.holds Try.pinned (OpenSpec.ofChange fnExactDistanceBetweenWrong)

/-- 'laws.FnExactPlanBetween': WHATEVER THE INPUT: true; the input reads as it did. -/
def fnExactPlanBetweenSpec : ChangeSpec := { name := "fnExactPlanBetween", fn := fun _ => fun
  | [d1, d2] => { results := [.lit (.bool true)], args := [d1, d2] }
  | _ => none }
def fnExactPlanBetweenRow : OpenClaim := { program := "ytlhagdldmpnbfaa", sum := "f37e83a2180cdbb92e584a09bdd3860e2b190bccf5211d338caaf0c0ad8c95e6", func := "loop.example/g01221/laws.FnExactPlanBetween", spec := "fnExactPlanBetween", unfollowed := true, recurses := true, plainKeys := false, apart := false }
def FnExactPlanBetweenSaid : Prop := fnExactPlanBetweenRow.holds Try.pinned (OpenSpec.ofChange fnExactPlanBetweenSpec)

/-- ITS FALSE NEIGHBOUR: 'it returns false'. Refute it at one input. -/
def fnExactPlanBetweenWrong : ChangeSpec := { name := "fnExactPlanBetween", fn := fun _ => fun
  | [d1, d2] => { results := [.lit (.bool false)], args := [d1, d2] }
  | _ => none }
def FnExactPlanBetweenWrongFalsely : Prop := fnExactPlanBetweenRow.holds Try.pinned (OpenSpec.ofChange fnExactPlanBetweenWrong)

/-- 'laws.FnExactGapExcess': WHATEVER THE INPUT: true; the input reads as it did. -/
def fnExactGapExcessSpec : ChangeSpec := { name := "fnExactGapExcess", fn := fun _ => fun
  | [d] => { results := [.lit (.bool true)], args := [d] }
  | _ => none }
def fnExactGapExcessRow : OpenClaim := { program := "ytlhagdldmpnbfaa", sum := "f37e83a2180cdbb92e584a09bdd3860e2b190bccf5211d338caaf0c0ad8c95e6", func := "loop.example/g01221/laws.FnExactGapExcess", spec := "fnExactGapExcess", unfollowed := true, recurses := true, plainKeys := false, apart := false }
def FnExactGapExcessSaid : Prop := fnExactGapExcessRow.holds Try.pinned (OpenSpec.ofChange fnExactGapExcessSpec)

/-- ITS FALSE NEIGHBOUR: 'it returns false'. Refute it at one input. -/
def fnExactGapExcessWrong : ChangeSpec := { name := "fnExactGapExcess", fn := fun _ => fun
  | [d] => { results := [.lit (.bool false)], args := [d] }
  | _ => none }
def FnExactGapExcessWrongFalsely : Prop := fnExactGapExcessRow.holds Try.pinned (OpenSpec.ofChange fnExactGapExcessWrong)

/-- 'laws.FnExactGreedyExcess': WHATEVER THE INPUT: true; the input reads as it did. -/
def fnExactGreedyExcessSpec : ChangeSpec := { name := "fnExactGreedyExcess", fn := fun _ => fun
  | [d] => { results := [.lit (.bool true)], args := [d] }
  | _ => none }
def fnExactGreedyExcessRow : OpenClaim := { program := "ytlhagdldmpnbfaa", sum := "f37e83a2180cdbb92e584a09bdd3860e2b190bccf5211d338caaf0c0ad8c95e6", func := "loop.example/g01221/laws.FnExactGreedyExcess", spec := "fnExactGreedyExcess", unfollowed := true, recurses := true, plainKeys := false, apart := false }
def FnExactGreedyExcessSaid : Prop := fnExactGreedyExcessRow.holds Try.pinned (OpenSpec.ofChange fnExactGreedyExcessSpec)

/-- ITS FALSE NEIGHBOUR: 'it returns false'. Refute it at one input. -/
def fnExactGreedyExcessWrong : ChangeSpec := { name := "fnExactGreedyExcess", fn := fun _ => fun
  | [d] => { results := [.lit (.bool false)], args := [d] }
  | _ => none }
def FnExactGreedyExcessWrongFalsely : Prop := fnExactGreedyExcessRow.holds Try.pinned (OpenSpec.ofChange fnExactGreedyExcessWrong)

/-- 'laws.FnExactIsLeastPlan': WHATEVER THE INPUT: true; the input reads as it did. -/
def fnExactIsLeastPlanSpec : ChangeSpec := { name := "fnExactIsLeastPlan", fn := fun _ => fun
  | [d1, d2] => { results := [.lit (.bool true)], args := [d1, d2] }
  | _ => none }
def fnExactIsLeastPlanRow : OpenClaim := { program := "ytlhagdldmpnbfaa", sum := "f37e83a2180cdbb92e584a09bdd3860e2b190bccf5211d338caaf0c0ad8c95e6", func := "loop.example/g01221/laws.FnExactIsLeastPlan", spec := "fnExactIsLeastPlan", unfollowed := true, recurses := true, plainKeys := false, apart := false }
def FnExactIsLeastPlanSaid : Prop := fnExactIsLeastPlanRow.holds Try.pinned (OpenSpec.ofChange fnExactIsLeastPlanSpec)

/-- ITS FALSE NEIGHBOUR: 'it returns false'. Refute it at one input. -/
def fnExactIsLeastPlanWrong : ChangeSpec := { name := "fnExactIsLeastPlan", fn := fun _ => fun
  | [d1, d2] => { results := [.lit (.bool false)], args := [d1, d2] }
  | _ => none }
def FnExactIsLeastPlanWrongFalsely : Prop := fnExactIsLeastPlanRow.holds Try.pinned (OpenSpec.ofChange fnExactIsLeastPlanWrong)

/-- 'laws.FnExactCountClosedPlans': WHATEVER THE INPUT: true; the input reads as it did. -/
def fnExactCountClosedPlansSpec : ChangeSpec := { name := "fnExactCountClosedPlans", fn := fun _ => fun
  | [d1, d2] => { results := [.lit (.bool true)], args := [d1, d2] }
  | _ => none }
def fnExactCountClosedPlansRow : OpenClaim := { program := "ytlhagdldmpnbfaa", sum := "f37e83a2180cdbb92e584a09bdd3860e2b190bccf5211d338caaf0c0ad8c95e6", func := "loop.example/g01221/laws.FnExactCountClosedPlans", spec := "fnExactCountClosedPlans", unfollowed := true, recurses := true, plainKeys := false, apart := false }
def FnExactCountClosedPlansSaid : Prop := fnExactCountClosedPlansRow.holds Try.pinned (OpenSpec.ofChange fnExactCountClosedPlansSpec)

/-- ITS FALSE NEIGHBOUR: 'it returns false'. Refute it at one input. -/
def fnExactCountClosedPlansWrong : ChangeSpec := { name := "fnExactCountClosedPlans", fn := fun _ => fun
  | [d1, d2] => { results := [.lit (.bool false)], args := [d1, d2] }
  | _ => none }
def FnExactCountClosedPlansWrongFalsely : Prop := fnExactCountClosedPlansRow.holds Try.pinned (OpenSpec.ofChange fnExactCountClosedPlansWrong)

/-- 'laws.FnExactMiddleStacks': WHATEVER THE INPUT: true; the input reads as it did. -/
def fnExactMiddleStacksSpec : ChangeSpec := { name := "fnExactMiddleStacks", fn := fun _ => fun
  | [d1, d2] => { results := [.lit (.bool true)], args := [d1, d2] }
  | _ => none }
def fnExactMiddleStacksRow : OpenClaim := { program := "ytlhagdldmpnbfaa", sum := "f37e83a2180cdbb92e584a09bdd3860e2b190bccf5211d338caaf0c0ad8c95e6", func := "loop.example/g01221/laws.FnExactMiddleStacks", spec := "fnExactMiddleStacks", unfollowed := true, recurses := true, plainKeys := false, apart := false }
def FnExactMiddleStacksSaid : Prop := fnExactMiddleStacksRow.holds Try.pinned (OpenSpec.ofChange fnExactMiddleStacksSpec)

/-- ITS FALSE NEIGHBOUR: 'it returns false'. Refute it at one input. -/
def fnExactMiddleStacksWrong : ChangeSpec := { name := "fnExactMiddleStacks", fn := fun _ => fun
  | [d1, d2] => { results := [.lit (.bool false)], args := [d1, d2] }
  | _ => none }
def FnExactMiddleStacksWrongFalsely : Prop := fnExactMiddleStacksRow.holds Try.pinned (OpenSpec.ofChange fnExactMiddleStacksWrong)

/- THE SECOND FORM. 'bulk': how many values and letters a reading holds, each counted each time it is reached (what is shared counts as often as it is met; a slice's spare places count too). A statement '..UptoSaid' is the law's where the arguments, and the package variables that the reading takes, are together of bulk at most 1048576: NARROWER than '..Said'. Prove '..Said' where nothing that the law and all that it calls make is longer than what came in: it says more and counts as full. Else prove '..UptoSaid'. A law counts once. -/
mutual
def uptoBulk {H : Type} : DataW H → Nat
  | .lit (.string bytes) => bytes.length + 1
  | .lit _ => 1
  | .nil => 1
  | .ptr d => uptoBulk d + 1
  | .slice elems spare => uptoBulkAll elems + uptoBulkAll spare + 1
  | .agg parts => uptoBulkAll parts + 1
  | .iface _ d => uptoBulk d + 1
  | .map entries => uptoBulkEntries entries + 1
  | .held _ => 1
def uptoBulkAll {H : Type} : List (DataW H) → Nat
  | [] => 0
  | d :: r => uptoBulk d + uptoBulkAll r
def uptoBulkEntries {H : Type} : List (Lit × DataW H) → Nat
  | [] => 0
  | x :: r => uptoBulkEntry x + uptoBulkEntries r
def uptoBulkEntry {H : Type} : Lit × DataW H → Nat
  | (.string bytes, d) => bytes.length + uptoBulk d + 1
  | (_, d) => uptoBulk d + 1
 end
def uptoSmall : (H : Type) → List (DataW H) → Bool := fun _ ds => decide (uptoBulkAll ds ≤ 1048576)
def OpenSpec.upto (s : _root_.Go.ChangeSpec) : _root_.Go.OpenSpec := { _root_.Go.OpenSpec.ofChange s with cond := some uptoSmall }

/-- 'laws.FnExactGapsOf', WHERE WHAT IT READS IS OF BULK AT MOST 1048576: true; the input reads as it did. -/
def fnExactGapsOfUptoRow : OpenClaim := { program := "ytlhagdldmpnbfaa", sum := "f37e83a2180cdbb92e584a09bdd3860e2b190bccf5211d338caaf0c0ad8c95e6", func := "loop.example/g01221/laws.FnExactGapsOf", spec := "fnExactGapsOf", unfollowed := true, recurses := true, plainKeys := false, apart := false, narrowed := true }
def FnExactGapsOfUptoSaid : Prop := fnExactGapsOfUptoRow.holds Try.pinned (OpenSpec.upto fnExactGapsOfSpec)

/-- 'laws.FnExactCountGaps', WHERE WHAT IT READS IS OF BULK AT MOST 1048576: true; the input reads as it did. -/
def fnExactCountGapsUptoRow : OpenClaim := { program := "ytlhagdldmpnbfaa", sum := "f37e83a2180cdbb92e584a09bdd3860e2b190bccf5211d338caaf0c0ad8c95e6", func := "loop.example/g01221/laws.FnExactCountGaps", spec := "fnExactCountGaps", unfollowed := true, recurses := true, plainKeys := false, apart := false, narrowed := true }
def FnExactCountGapsUptoSaid : Prop := fnExactCountGapsUptoRow.holds Try.pinned (OpenSpec.upto fnExactCountGapsSpec)

/-- 'laws.FnExactLowerBound', WHERE WHAT IT READS IS OF BULK AT MOST 1048576: true; the input reads as it did. -/
def fnExactLowerBoundUptoRow : OpenClaim := { program := "ytlhagdldmpnbfaa", sum := "f37e83a2180cdbb92e584a09bdd3860e2b190bccf5211d338caaf0c0ad8c95e6", func := "loop.example/g01221/laws.FnExactLowerBound", spec := "fnExactLowerBound", unfollowed := true, recurses := true, plainKeys := false, apart := false, narrowed := true }
def FnExactLowerBoundUptoSaid : Prop := fnExactLowerBoundUptoRow.holds Try.pinned (OpenSpec.upto fnExactLowerBoundSpec)

/-- 'laws.FnExactGapTurns', WHERE WHAT IT READS IS OF BULK AT MOST 1048576: true; the input reads as it did. -/
def fnExactGapTurnsUptoRow : OpenClaim := { program := "ytlhagdldmpnbfaa", sum := "f37e83a2180cdbb92e584a09bdd3860e2b190bccf5211d338caaf0c0ad8c95e6", func := "loop.example/g01221/laws.FnExactGapTurns", spec := "fnExactGapTurns", unfollowed := true, recurses := true, plainKeys := false, apart := false, narrowed := true }
def FnExactGapTurnsUptoSaid : Prop := fnExactGapTurnsUptoRow.holds Try.pinned (OpenSpec.upto fnExactGapTurnsSpec)

/-- 'laws.FnExactGapPlan', WHERE WHAT IT READS IS OF BULK AT MOST 1048576: true; the input reads as it did. -/
def fnExactGapPlanUptoRow : OpenClaim := { program := "ytlhagdldmpnbfaa", sum := "f37e83a2180cdbb92e584a09bdd3860e2b190bccf5211d338caaf0c0ad8c95e6", func := "loop.example/g01221/laws.FnExactGapPlan", spec := "fnExactGapPlan", unfollowed := true, recurses := true, plainKeys := false, apart := false, narrowed := true }
def FnExactGapPlanUptoSaid : Prop := fnExactGapPlanUptoRow.holds Try.pinned (OpenSpec.upto fnExactGapPlanSpec)

/-- 'laws.FnExactIsWaste', WHERE WHAT IT READS IS OF BULK AT MOST 1048576: true; the input reads as it did. -/
def fnExactIsWasteUptoRow : OpenClaim := { program := "ytlhagdldmpnbfaa", sum := "f37e83a2180cdbb92e584a09bdd3860e2b190bccf5211d338caaf0c0ad8c95e6", func := "loop.example/g01221/laws.FnExactIsWaste", spec := "fnExactIsWaste", unfollowed := true, recurses := true, plainKeys := false, apart := false, narrowed := true }
def FnExactIsWasteUptoSaid : Prop := fnExactIsWasteUptoRow.holds Try.pinned (OpenSpec.upto fnExactIsWasteSpec)

/-- 'laws.FnExactGapsAlong', WHERE WHAT IT READS IS OF BULK AT MOST 1048576: true; the input reads as it did. -/
def fnExactGapsAlongUptoRow : OpenClaim := { program := "ytlhagdldmpnbfaa", sum := "f37e83a2180cdbb92e584a09bdd3860e2b190bccf5211d338caaf0c0ad8c95e6", func := "loop.example/g01221/laws.FnExactGapsAlong", spec := "fnExactGapsAlong", unfollowed := true, recurses := true, plainKeys := false, apart := false, narrowed := true }
def FnExactGapsAlongUptoSaid : Prop := fnExactGapsAlongUptoRow.holds Try.pinned (OpenSpec.upto fnExactGapsAlongSpec)

/-- 'laws.FnExactStackDistance', WHERE WHAT IT READS IS OF BULK AT MOST 1048576: true; the input reads as it did. -/
def fnExactStackDistanceUptoRow : OpenClaim := { program := "ytlhagdldmpnbfaa", sum := "f37e83a2180cdbb92e584a09bdd3860e2b190bccf5211d338caaf0c0ad8c95e6", func := "loop.example/g01221/laws.FnExactStackDistance", spec := "fnExactStackDistance", unfollowed := true, recurses := true, plainKeys := false, apart := false, narrowed := true }
def FnExactStackDistanceUptoSaid : Prop := fnExactStackDistanceUptoRow.holds Try.pinned (OpenSpec.upto fnExactStackDistanceSpec)

/-- 'laws.FnExactLeastPlan', WHERE WHAT IT READS IS OF BULK AT MOST 1048576: true; the input reads as it did. -/
def fnExactLeastPlanUptoRow : OpenClaim := { program := "ytlhagdldmpnbfaa", sum := "f37e83a2180cdbb92e584a09bdd3860e2b190bccf5211d338caaf0c0ad8c95e6", func := "loop.example/g01221/laws.FnExactLeastPlan", spec := "fnExactLeastPlan", unfollowed := true, recurses := true, plainKeys := false, apart := false, narrowed := true }
def FnExactLeastPlanUptoSaid : Prop := fnExactLeastPlanUptoRow.holds Try.pinned (OpenSpec.upto fnExactLeastPlanSpec)

/-- 'laws.FnExactCountLeastPlans', WHERE WHAT IT READS IS OF BULK AT MOST 1048576: true; the input reads as it did. -/
def fnExactCountLeastPlansUptoRow : OpenClaim := { program := "ytlhagdldmpnbfaa", sum := "f37e83a2180cdbb92e584a09bdd3860e2b190bccf5211d338caaf0c0ad8c95e6", func := "loop.example/g01221/laws.FnExactCountLeastPlans", spec := "fnExactCountLeastPlans", unfollowed := true, recurses := true, plainKeys := false, apart := false, narrowed := true }
def FnExactCountLeastPlansUptoSaid : Prop := fnExactCountLeastPlansUptoRow.holds Try.pinned (OpenSpec.upto fnExactCountLeastPlansSpec)

/-- 'laws.FnExactCloserTurns', WHERE WHAT IT READS IS OF BULK AT MOST 1048576: true; the input reads as it did. -/
def fnExactCloserTurnsUptoRow : OpenClaim := { program := "ytlhagdldmpnbfaa", sum := "f37e83a2180cdbb92e584a09bdd3860e2b190bccf5211d338caaf0c0ad8c95e6", func := "loop.example/g01221/laws.FnExactCloserTurns", spec := "fnExactCloserTurns", unfollowed := true, recurses := true, plainKeys := false, apart := false, narrowed := true }
def FnExactCloserTurnsUptoSaid : Prop := fnExactCloserTurnsUptoRow.holds Try.pinned (OpenSpec.upto fnExactCloserTurnsSpec)

/-- 'laws.FnExactCountByTurns', WHERE WHAT IT READS IS OF BULK AT MOST 1048576: true; the input reads as it did. -/
def fnExactCountByTurnsUptoRow : OpenClaim := { program := "ytlhagdldmpnbfaa", sum := "f37e83a2180cdbb92e584a09bdd3860e2b190bccf5211d338caaf0c0ad8c95e6", func := "loop.example/g01221/laws.FnExactCountByTurns", spec := "fnExactCountByTurns", unfollowed := true, recurses := true, plainKeys := false, apart := false, narrowed := true }
def FnExactCountByTurnsUptoSaid : Prop := fnExactCountByTurnsUptoRow.holds Try.pinned (OpenSpec.upto fnExactCountByTurnsSpec)

/-- 'laws.FnExactWorstDistance', WHERE WHAT IT READS IS OF BULK AT MOST 1048576: true; the input reads as it did. -/
def fnExactWorstDistanceUptoRow : OpenClaim := { program := "ytlhagdldmpnbfaa", sum := "f37e83a2180cdbb92e584a09bdd3860e2b190bccf5211d338caaf0c0ad8c95e6", func := "loop.example/g01221/laws.FnExactWorstDistance", spec := "fnExactWorstDistance", unfollowed := true, recurses := true, plainKeys := false, apart := false, narrowed := true }
def FnExactWorstDistanceUptoSaid : Prop := fnExactWorstDistanceUptoRow.holds Try.pinned (OpenSpec.upto fnExactWorstDistanceSpec)

/-- 'laws.FnExactDistanceBetween', WHERE WHAT IT READS IS OF BULK AT MOST 1048576: true; the input reads as it did. -/
def fnExactDistanceBetweenUptoRow : OpenClaim := { program := "ytlhagdldmpnbfaa", sum := "f37e83a2180cdbb92e584a09bdd3860e2b190bccf5211d338caaf0c0ad8c95e6", func := "loop.example/g01221/laws.FnExactDistanceBetween", spec := "fnExactDistanceBetween", unfollowed := true, recurses := true, plainKeys := false, apart := false, narrowed := true }
def FnExactDistanceBetweenUptoSaid : Prop := fnExactDistanceBetweenUptoRow.holds Try.pinned (OpenSpec.upto fnExactDistanceBetweenSpec)

/-- 'laws.FnExactPlanBetween', WHERE WHAT IT READS IS OF BULK AT MOST 1048576: true; the input reads as it did. -/
def fnExactPlanBetweenUptoRow : OpenClaim := { program := "ytlhagdldmpnbfaa", sum := "f37e83a2180cdbb92e584a09bdd3860e2b190bccf5211d338caaf0c0ad8c95e6", func := "loop.example/g01221/laws.FnExactPlanBetween", spec := "fnExactPlanBetween", unfollowed := true, recurses := true, plainKeys := false, apart := false, narrowed := true }
def FnExactPlanBetweenUptoSaid : Prop := fnExactPlanBetweenUptoRow.holds Try.pinned (OpenSpec.upto fnExactPlanBetweenSpec)

/-- 'laws.FnExactGapExcess', WHERE WHAT IT READS IS OF BULK AT MOST 1048576: true; the input reads as it did. -/
def fnExactGapExcessUptoRow : OpenClaim := { program := "ytlhagdldmpnbfaa", sum := "f37e83a2180cdbb92e584a09bdd3860e2b190bccf5211d338caaf0c0ad8c95e6", func := "loop.example/g01221/laws.FnExactGapExcess", spec := "fnExactGapExcess", unfollowed := true, recurses := true, plainKeys := false, apart := false, narrowed := true }
def FnExactGapExcessUptoSaid : Prop := fnExactGapExcessUptoRow.holds Try.pinned (OpenSpec.upto fnExactGapExcessSpec)

/-- 'laws.FnExactGreedyExcess', WHERE WHAT IT READS IS OF BULK AT MOST 1048576: true; the input reads as it did. -/
def fnExactGreedyExcessUptoRow : OpenClaim := { program := "ytlhagdldmpnbfaa", sum := "f37e83a2180cdbb92e584a09bdd3860e2b190bccf5211d338caaf0c0ad8c95e6", func := "loop.example/g01221/laws.FnExactGreedyExcess", spec := "fnExactGreedyExcess", unfollowed := true, recurses := true, plainKeys := false, apart := false, narrowed := true }
def FnExactGreedyExcessUptoSaid : Prop := fnExactGreedyExcessUptoRow.holds Try.pinned (OpenSpec.upto fnExactGreedyExcessSpec)

/-- 'laws.FnExactIsLeastPlan', WHERE WHAT IT READS IS OF BULK AT MOST 1048576: true; the input reads as it did. -/
def fnExactIsLeastPlanUptoRow : OpenClaim := { program := "ytlhagdldmpnbfaa", sum := "f37e83a2180cdbb92e584a09bdd3860e2b190bccf5211d338caaf0c0ad8c95e6", func := "loop.example/g01221/laws.FnExactIsLeastPlan", spec := "fnExactIsLeastPlan", unfollowed := true, recurses := true, plainKeys := false, apart := false, narrowed := true }
def FnExactIsLeastPlanUptoSaid : Prop := fnExactIsLeastPlanUptoRow.holds Try.pinned (OpenSpec.upto fnExactIsLeastPlanSpec)

/-- 'laws.FnExactCountClosedPlans', WHERE WHAT IT READS IS OF BULK AT MOST 1048576: true; the input reads as it did. -/
def fnExactCountClosedPlansUptoRow : OpenClaim := { program := "ytlhagdldmpnbfaa", sum := "f37e83a2180cdbb92e584a09bdd3860e2b190bccf5211d338caaf0c0ad8c95e6", func := "loop.example/g01221/laws.FnExactCountClosedPlans", spec := "fnExactCountClosedPlans", unfollowed := true, recurses := true, plainKeys := false, apart := false, narrowed := true }
def FnExactCountClosedPlansUptoSaid : Prop := fnExactCountClosedPlansUptoRow.holds Try.pinned (OpenSpec.upto fnExactCountClosedPlansSpec)

/-- 'laws.FnExactMiddleStacks', WHERE WHAT IT READS IS OF BULK AT MOST 1048576: true; the input reads as it did. -/
def fnExactMiddleStacksUptoRow : OpenClaim := { program := "ytlhagdldmpnbfaa", sum := "f37e83a2180cdbb92e584a09bdd3860e2b190bccf5211d338caaf0c0ad8c95e6", func := "loop.example/g01221/laws.FnExactMiddleStacks", spec := "fnExactMiddleStacks", unfollowed := true, recurses := true, plainKeys := false, apart := false, narrowed := true }
def FnExactMiddleStacksUptoSaid : Prop := fnExactMiddleStacksUptoRow.holds Try.pinned (OpenSpec.upto fnExactMiddleStacksSpec)

end Rows
end Go.Proofs.Ytlhagdldmpnbfaa
