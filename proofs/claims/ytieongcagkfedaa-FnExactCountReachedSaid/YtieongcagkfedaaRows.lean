/-
  No cell of these rows narrows 'for every input' (looked for: loops, veiled, ifaces, maps, wideKeys, modest, calm, conditions, laid).
  DERIVED. THE GIVEN ROWS OF THIS SEAT. 20 by the template 'for every input the law returns true; each argument reads behind the call as it read before'; 0 by the template 'total and deterministic' (their statements: YtieongcagkfedaaTotals.lean).
  GIVEN WITH THE SEED: the statements are not yours to turn. If you find one false, say at which input.
  Laid BY PROGRAM, IN A SANDBOX (cutbox-rows.mjs): the forced cells as the released guide's own fill.sh prints them over the translation 91c9268af3622d0c… (all of the seat's roots in one cut). By AI agents, Wed Nov 11 2026. No macro, syntax, notation, axiom, sorry.
-/
import Derived.Test.YtieongcagkfedaaChecked
import GoSem.Claim
import GoSem.ClaimJoined
import GoSem.ClaimMapViews
import Derived.JoinedTies
import Derived.KernelRfl
namespace Go.Proofs.Ytieongcagkfedaa
/- THE CELL 'sum', in the pinned program and in every row, IS THE sha256 OF THE DUMP (.gsa) THAT YtieongcagkfedaaProg.lean LOADS. Nothing in Lean hashes anything: it is a label: what it is worth is what the hold of that sum in a sandbox is worth. -/
noncomputable def Try.pinned : Pinned := { name := "ytieongcagkfedaa", sum := "91c9268af3622d0c89a6c45bf6e79fde470488ce0eee6cadca1632035e732799", checked := Try.checked }
namespace Rows
def none {H : Type} : Left H := { results := [], args := [] }

/-- 'laws.FnExactAreAsked': WHATEVER THE INPUT: true; the input reads as it did. -/
def fnExactAreAskedSpec : ChangeSpec := { name := "fnExactAreAsked", fn := fun _ => fun
  | [d1, d2] => { results := [.lit (.bool true)], args := [d1, d2] }
  | _ => none }
def fnExactAreAskedRow : OpenClaim := { program := "ytieongcagkfedaa", sum := "91c9268af3622d0c89a6c45bf6e79fde470488ce0eee6cadca1632035e732799", func := "loop.example/g01221/laws.FnExactAreAsked", spec := "fnExactAreAsked", unfollowed := true, recurses := true, plainKeys := false, leaving := true, apart := false }
def FnExactAreAskedSaid : Prop := fnExactAreAskedRow.holds Try.pinned (OpenSpec.ofChange fnExactAreAskedSpec)

/-- ITS FALSE NEIGHBOUR: 'it returns false'. Refute it at one input. -/
def fnExactAreAskedWrong : ChangeSpec := { name := "fnExactAreAsked", fn := fun _ => fun
  | [d1, d2] => { results := [.lit (.bool false)], args := [d1, d2] }
  | _ => none }
def FnExactAreAskedWrongFalsely : Prop := fnExactAreAskedRow.holds Try.pinned (OpenSpec.ofChange fnExactAreAskedWrong)

/-- 'laws.FnExactShelfAfter': WHATEVER THE INPUT: true; the input reads as it did. -/
def fnExactShelfAfterSpec : ChangeSpec := { name := "fnExactShelfAfter", fn := fun _ => fun
  | [d1, d2, d3] => { results := [.lit (.bool true)], args := [d1, d2, d3] }
  | _ => none }
def fnExactShelfAfterRow : OpenClaim := { program := "ytieongcagkfedaa", sum := "91c9268af3622d0c89a6c45bf6e79fde470488ce0eee6cadca1632035e732799", func := "loop.example/g01221/laws.FnExactShelfAfter", spec := "fnExactShelfAfter", inPlace := ["slices.overlaps[int]"], unfollowed := true, recurses := true, plainKeys := false, leaving := true, apart := false }
def FnExactShelfAfterSaid : Prop := fnExactShelfAfterRow.holds Try.pinned (OpenSpec.ofChange fnExactShelfAfterSpec)

/-- ITS FALSE NEIGHBOUR: 'it returns false'. Refute it at one input. -/
def fnExactShelfAfterWrong : ChangeSpec := { name := "fnExactShelfAfter", fn := fun _ => fun
  | [d1, d2, d3] => { results := [.lit (.bool false)], args := [d1, d2, d3] }
  | _ => none }
def FnExactShelfAfterWrongFalsely : Prop := fnExactShelfAfterRow.holds Try.pinned (OpenSpec.ofChange fnExactShelfAfterWrong)

/-- 'laws.FnExactPlacesAsked': WHATEVER THE INPUT: true; the input reads as it did. -/
def fnExactPlacesAskedSpec : ChangeSpec := { name := "fnExactPlacesAsked", fn := fun _ => fun
  | [d1, d2, d3] => { results := [.lit (.bool true)], args := [d1, d2, d3] }
  | _ => none }
def fnExactPlacesAskedRow : OpenClaim := { program := "ytieongcagkfedaa", sum := "91c9268af3622d0c89a6c45bf6e79fde470488ce0eee6cadca1632035e732799", func := "loop.example/g01221/laws.FnExactPlacesAsked", spec := "fnExactPlacesAsked", inPlace := ["slices.overlaps[int]"], unfollowed := true, recurses := true, plainKeys := false, leaving := true, apart := false }
def FnExactPlacesAskedSaid : Prop := fnExactPlacesAskedRow.holds Try.pinned (OpenSpec.ofChange fnExactPlacesAskedSpec)

/-- ITS FALSE NEIGHBOUR: 'it returns false'. Refute it at one input. -/
def fnExactPlacesAskedWrong : ChangeSpec := { name := "fnExactPlacesAsked", fn := fun _ => fun
  | [d1, d2, d3] => { results := [.lit (.bool false)], args := [d1, d2, d3] }
  | _ => none }
def FnExactPlacesAskedWrongFalsely : Prop := fnExactPlacesAskedRow.holds Try.pinned (OpenSpec.ofChange fnExactPlacesAskedWrong)

/-- 'laws.FnExactShelfCost': WHATEVER THE INPUT: true; the input reads as it did. -/
def fnExactShelfCostSpec : ChangeSpec := { name := "fnExactShelfCost", fn := fun _ => fun
  | [d1, d2, d3] => { results := [.lit (.bool true)], args := [d1, d2, d3] }
  | _ => none }
def fnExactShelfCostRow : OpenClaim := { program := "ytieongcagkfedaa", sum := "91c9268af3622d0c89a6c45bf6e79fde470488ce0eee6cadca1632035e732799", func := "loop.example/g01221/laws.FnExactShelfCost", spec := "fnExactShelfCost", inPlace := ["slices.overlaps[int]"], unfollowed := true, recurses := true, plainKeys := false, leaving := true, apart := false }
def FnExactShelfCostSaid : Prop := fnExactShelfCostRow.holds Try.pinned (OpenSpec.ofChange fnExactShelfCostSpec)

/-- ITS FALSE NEIGHBOUR: 'it returns false'. Refute it at one input. -/
def fnExactShelfCostWrong : ChangeSpec := { name := "fnExactShelfCost", fn := fun _ => fun
  | [d1, d2, d3] => { results := [.lit (.bool false)], args := [d1, d2, d3] }
  | _ => none }
def FnExactShelfCostWrongFalsely : Prop := fnExactShelfCostRow.holds Try.pinned (OpenSpec.ofChange fnExactShelfCostWrong)

/-- 'laws.FnExactAskedByPlaces': WHATEVER THE INPUT: true; the input reads as it did. -/
def fnExactAskedByPlacesSpec : ChangeSpec := { name := "fnExactAskedByPlaces", fn := fun _ => fun
  | [d1, d2, d3] => { results := [.lit (.bool true)], args := [d1, d2, d3] }
  | _ => none }
def fnExactAskedByPlacesRow : OpenClaim := { program := "ytieongcagkfedaa", sum := "91c9268af3622d0c89a6c45bf6e79fde470488ce0eee6cadca1632035e732799", func := "loop.example/g01221/laws.FnExactAskedByPlaces", spec := "fnExactAskedByPlaces", inPlace := ["slices.overlaps[int]"], unfollowed := true, recurses := true, plainKeys := false, leaving := true, apart := false }
def FnExactAskedByPlacesSaid : Prop := fnExactAskedByPlacesRow.holds Try.pinned (OpenSpec.ofChange fnExactAskedByPlacesSpec)

/-- ITS FALSE NEIGHBOUR: 'it returns false'. Refute it at one input. -/
def fnExactAskedByPlacesWrong : ChangeSpec := { name := "fnExactAskedByPlaces", fn := fun _ => fun
  | [d1, d2, d3] => { results := [.lit (.bool false)], args := [d1, d2, d3] }
  | _ => none }
def FnExactAskedByPlacesWrongFalsely : Prop := fnExactAskedByPlacesRow.holds Try.pinned (OpenSpec.ofChange fnExactAskedByPlacesWrong)

/-- 'laws.FnExactBestFixed': WHATEVER THE INPUT: true; the input reads as it did. -/
def fnExactBestFixedSpec : ChangeSpec := { name := "fnExactBestFixed", fn := fun _ => fun
  | [d1, d2] => { results := [.lit (.bool true)], args := [d1, d2] }
  | _ => none }
def fnExactBestFixedRow : OpenClaim := { program := "ytieongcagkfedaa", sum := "91c9268af3622d0c89a6c45bf6e79fde470488ce0eee6cadca1632035e732799", func := "loop.example/g01221/laws.FnExactBestFixed", spec := "fnExactBestFixed", unfollowed := true, recurses := true, plainKeys := false, leaving := true, apart := false }
def FnExactBestFixedSaid : Prop := fnExactBestFixedRow.holds Try.pinned (OpenSpec.ofChange fnExactBestFixedSpec)

/-- ITS FALSE NEIGHBOUR: 'it returns false'. Refute it at one input. -/
def fnExactBestFixedWrong : ChangeSpec := { name := "fnExactBestFixed", fn := fun _ => fun
  | [d1, d2] => { results := [.lit (.bool false)], args := [d1, d2] }
  | _ => none }
def FnExactBestFixedWrongFalsely : Prop := fnExactBestFixedRow.holds Try.pinned (OpenSpec.ofChange fnExactBestFixedWrong)

/-- 'laws.FnExactFixedCost': WHATEVER THE INPUT: true; the input reads as it did. -/
def fnExactFixedCostSpec : ChangeSpec := { name := "fnExactFixedCost", fn := fun _ => fun
  | [d1, d2] => { results := [.lit (.bool true)], args := [d1, d2] }
  | _ => none }
def fnExactFixedCostRow : OpenClaim := { program := "ytieongcagkfedaa", sum := "91c9268af3622d0c89a6c45bf6e79fde470488ce0eee6cadca1632035e732799", func := "loop.example/g01221/laws.FnExactFixedCost", spec := "fnExactFixedCost", inPlace := ["slices.overlaps[int]"], unfollowed := true, recurses := true, plainKeys := false, leaving := true, apart := false }
def FnExactFixedCostSaid : Prop := fnExactFixedCostRow.holds Try.pinned (OpenSpec.ofChange fnExactFixedCostSpec)

/-- ITS FALSE NEIGHBOUR: 'it returns false'. Refute it at one input. -/
def fnExactFixedCostWrong : ChangeSpec := { name := "fnExactFixedCost", fn := fun _ => fun
  | [d1, d2] => { results := [.lit (.bool false)], args := [d1, d2] }
  | _ => none }
def FnExactFixedCostWrongFalsely : Prop := fnExactFixedCostRow.holds Try.pinned (OpenSpec.ofChange fnExactFixedCostWrong)

/-- 'laws.FnExactFrontBound': WHATEVER THE INPUT: true; the input reads as it did. -/
def fnExactFrontBoundSpec : ChangeSpec := { name := "fnExactFrontBound", fn := fun _ => fun
  | [d1, d2] => { results := [.lit (.bool true)], args := [d1, d2] }
  | _ => none }
def fnExactFrontBoundRow : OpenClaim := { program := "ytieongcagkfedaa", sum := "91c9268af3622d0c89a6c45bf6e79fde470488ce0eee6cadca1632035e732799", func := "loop.example/g01221/laws.FnExactFrontBound", spec := "fnExactFrontBound", inPlace := ["slices.overlaps[int]"], unfollowed := true, recurses := true, plainKeys := false, leaving := true, apart := false }
def FnExactFrontBoundSaid : Prop := fnExactFrontBoundRow.holds Try.pinned (OpenSpec.ofChange fnExactFrontBoundSpec)

/-- ITS FALSE NEIGHBOUR: 'it returns false'. Refute it at one input. -/
def fnExactFrontBoundWrong : ChangeSpec := { name := "fnExactFrontBound", fn := fun _ => fun
  | [d1, d2] => { results := [.lit (.bool false)], args := [d1, d2] }
  | _ => none }
def FnExactFrontBoundWrongFalsely : Prop := fnExactFrontBoundRow.holds Try.pinned (OpenSpec.ofChange fnExactFrontBoundWrong)

/-- 'laws.FnExactCheapestRule': WHATEVER THE INPUT: true; the input reads as it did. -/
def fnExactCheapestRuleSpec : ChangeSpec := { name := "fnExactCheapestRule", fn := fun _ => fun
  | [d1, d2] => { results := [.lit (.bool true)], args := [d1, d2] }
  | _ => none }
def fnExactCheapestRuleRow : OpenClaim := { program := "ytieongcagkfedaa", sum := "91c9268af3622d0c89a6c45bf6e79fde470488ce0eee6cadca1632035e732799", func := "loop.example/g01221/laws.FnExactCheapestRule", spec := "fnExactCheapestRule", inPlace := ["slices.overlaps[int]"], unfollowed := true, recurses := true, plainKeys := false, leaving := true, apart := false }
def FnExactCheapestRuleSaid : Prop := fnExactCheapestRuleRow.holds Try.pinned (OpenSpec.ofChange fnExactCheapestRuleSpec)

/-- ITS FALSE NEIGHBOUR: 'it returns false'. Refute it at one input. -/
def fnExactCheapestRuleWrong : ChangeSpec := { name := "fnExactCheapestRule", fn := fun _ => fun
  | [d1, d2] => { results := [.lit (.bool false)], args := [d1, d2] }
  | _ => none }
def FnExactCheapestRuleWrongFalsely : Prop := fnExactCheapestRuleRow.holds Try.pinned (OpenSpec.ofChange fnExactCheapestRuleWrong)

/-- 'laws.FnExactLastAsked': WHATEVER THE INPUT: true; the input reads as it did. -/
def fnExactLastAskedSpec : ChangeSpec := { name := "fnExactLastAsked", fn := fun _ => fun
  | [d1, d2] => { results := [.lit (.bool true)], args := [d1, d2] }
  | _ => none }
def fnExactLastAskedRow : OpenClaim := { program := "ytieongcagkfedaa", sum := "91c9268af3622d0c89a6c45bf6e79fde470488ce0eee6cadca1632035e732799", func := "loop.example/g01221/laws.FnExactLastAsked", spec := "fnExactLastAsked", unfollowed := true, recurses := true, plainKeys := false, leaving := true, apart := false }
def FnExactLastAskedSaid : Prop := fnExactLastAskedRow.holds Try.pinned (OpenSpec.ofChange fnExactLastAskedSpec)

/-- ITS FALSE NEIGHBOUR: 'it returns false'. Refute it at one input. -/
def fnExactLastAskedWrong : ChangeSpec := { name := "fnExactLastAsked", fn := fun _ => fun
  | [d1, d2] => { results := [.lit (.bool false)], args := [d1, d2] }
  | _ => none }
def FnExactLastAskedWrongFalsely : Prop := fnExactLastAskedRow.holds Try.pinned (OpenSpec.ofChange fnExactLastAskedWrong)

/-- 'laws.FnExactCountReached': WHATEVER THE INPUT: true; the input reads as it did. -/
def fnExactCountReachedSpec : ChangeSpec := { name := "fnExactCountReached", fn := fun _ => fun
  | [d1, d2, d3] => { results := [.lit (.bool true)], args := [d1, d2, d3] }
  | _ => none }
def fnExactCountReachedRow : OpenClaim := { program := "ytieongcagkfedaa", sum := "91c9268af3622d0c89a6c45bf6e79fde470488ce0eee6cadca1632035e732799", func := "loop.example/g01221/laws.FnExactCountReached", spec := "fnExactCountReached", unfollowed := true, recurses := true, plainKeys := false, leaving := true, apart := false }
def FnExactCountReachedSaid : Prop := fnExactCountReachedRow.holds Try.pinned (OpenSpec.ofChange fnExactCountReachedSpec)

/-- ITS FALSE NEIGHBOUR: 'it returns false'. Refute it at one input. -/
def fnExactCountReachedWrong : ChangeSpec := { name := "fnExactCountReached", fn := fun _ => fun
  | [d1, d2, d3] => { results := [.lit (.bool false)], args := [d1, d2, d3] }
  | _ => none }
def FnExactCountReachedWrongFalsely : Prop := fnExactCountReachedRow.holds Try.pinned (OpenSpec.ofChange fnExactCountReachedWrong)

/-- 'laws.FnExactAskedToReach': WHATEVER THE INPUT: true; the input reads as it did. -/
def fnExactAskedToReachSpec : ChangeSpec := { name := "fnExactAskedToReach", fn := fun _ => fun
  | [d1, d2] => { results := [.lit (.bool true)], args := [d1, d2] }
  | _ => none }
def fnExactAskedToReachRow : OpenClaim := { program := "ytieongcagkfedaa", sum := "91c9268af3622d0c89a6c45bf6e79fde470488ce0eee6cadca1632035e732799", func := "loop.example/g01221/laws.FnExactAskedToReach", spec := "fnExactAskedToReach", plainKeys := false, apart := false }
def FnExactAskedToReachSaid : Prop := fnExactAskedToReachRow.holds Try.pinned (OpenSpec.ofChange fnExactAskedToReachSpec)

/-- ITS FALSE NEIGHBOUR: 'it returns false'. Refute it at one input. -/
def fnExactAskedToReachWrong : ChangeSpec := { name := "fnExactAskedToReach", fn := fun _ => fun
  | [d1, d2] => { results := [.lit (.bool false)], args := [d1, d2] }
  | _ => none }
def FnExactAskedToReachWrongFalsely : Prop := fnExactAskedToReachRow.holds Try.pinned (OpenSpec.ofChange fnExactAskedToReachWrong)

/-- 'laws.FnExactWorstAsked': WHATEVER THE INPUT: true; the input reads as it did. -/
def fnExactWorstAskedSpec : ChangeSpec := { name := "fnExactWorstAsked", fn := fun _ => fun
  | [d1, d2, d3] => { results := [.lit (.bool true)], args := [d1, d2, d3] }
  | _ => none }
def fnExactWorstAskedRow : OpenClaim := { program := "ytieongcagkfedaa", sum := "91c9268af3622d0c89a6c45bf6e79fde470488ce0eee6cadca1632035e732799", func := "loop.example/g01221/laws.FnExactWorstAsked", spec := "fnExactWorstAsked", inPlace := ["slices.overlaps[int]"], unfollowed := true, recurses := true, plainKeys := false, leaving := true, apart := false }
def FnExactWorstAskedSaid : Prop := fnExactWorstAskedRow.holds Try.pinned (OpenSpec.ofChange fnExactWorstAskedSpec)

/-- ITS FALSE NEIGHBOUR: 'it returns false'. Refute it at one input. -/
def fnExactWorstAskedWrong : ChangeSpec := { name := "fnExactWorstAsked", fn := fun _ => fun
  | [d1, d2, d3] => { results := [.lit (.bool false)], args := [d1, d2, d3] }
  | _ => none }
def FnExactWorstAskedWrongFalsely : Prop := fnExactWorstAskedRow.holds Try.pinned (OpenSpec.ofChange fnExactWorstAskedWrong)

/-- 'laws.FnExactPlanOfFront': WHATEVER THE INPUT: true; the input reads as it did. -/
def fnExactPlanOfFrontSpec : ChangeSpec := { name := "fnExactPlanOfFront", fn := fun _ => fun
  | [d1, d2] => { results := [.lit (.bool true)], args := [d1, d2] }
  | _ => none }
def fnExactPlanOfFrontRow : OpenClaim := { program := "ytieongcagkfedaa", sum := "91c9268af3622d0c89a6c45bf6e79fde470488ce0eee6cadca1632035e732799", func := "loop.example/g01221/laws.FnExactPlanOfFront", spec := "fnExactPlanOfFront", inPlace := ["slices.overlaps[int]"], unfollowed := true, recurses := true, plainKeys := false, leaving := true, apart := false }
def FnExactPlanOfFrontSaid : Prop := fnExactPlanOfFrontRow.holds Try.pinned (OpenSpec.ofChange fnExactPlanOfFrontSpec)

/-- ITS FALSE NEIGHBOUR: 'it returns false'. Refute it at one input. -/
def fnExactPlanOfFrontWrong : ChangeSpec := { name := "fnExactPlanOfFront", fn := fun _ => fun
  | [d1, d2] => { results := [.lit (.bool false)], args := [d1, d2] }
  | _ => none }
def FnExactPlanOfFrontWrongFalsely : Prop := fnExactPlanOfFrontRow.holds Try.pinned (OpenSpec.ofChange fnExactPlanOfFrontWrong)

/-- 'laws.FnExactTopGame': WHATEVER THE INPUT: true; the input reads as it did. -/
def fnExactTopGameSpec : ChangeSpec := { name := "fnExactTopGame", fn := fun _ => fun
  | [d] => { results := [.lit (.bool true)], args := [d] }
  | _ => none }
def fnExactTopGameRow : OpenClaim := { program := "ytieongcagkfedaa", sum := "91c9268af3622d0c89a6c45bf6e79fde470488ce0eee6cadca1632035e732799", func := "loop.example/g01221/laws.FnExactTopGame", spec := "fnExactTopGame", plainKeys := false, leaving := true, apart := false }
def FnExactTopGameSaid : Prop := fnExactTopGameRow.holds Try.pinned (OpenSpec.ofChange fnExactTopGameSpec)

/-- ITS FALSE NEIGHBOUR: 'it returns false'. Refute it at one input. -/
def fnExactTopGameWrong : ChangeSpec := { name := "fnExactTopGame", fn := fun _ => fun
  | [d] => { results := [.lit (.bool false)], args := [d] }
  | _ => none }
def FnExactTopGameWrongFalsely : Prop := fnExactTopGameRow.holds Try.pinned (OpenSpec.ofChange fnExactTopGameWrong)

/-- 'laws.FnExactTopSteps': WHATEVER THE INPUT: true; the input reads as it did. -/
def fnExactTopStepsSpec : ChangeSpec := { name := "fnExactTopSteps", fn := fun _ => fun
  | [d] => { results := [.lit (.bool true)], args := [d] }
  | _ => none }
def fnExactTopStepsRow : OpenClaim := { program := "ytieongcagkfedaa", sum := "91c9268af3622d0c89a6c45bf6e79fde470488ce0eee6cadca1632035e732799", func := "loop.example/g01221/laws.FnExactTopSteps", spec := "fnExactTopSteps", plainKeys := false, leaving := true, apart := false }
def FnExactTopStepsSaid : Prop := fnExactTopStepsRow.holds Try.pinned (OpenSpec.ofChange fnExactTopStepsSpec)

/-- ITS FALSE NEIGHBOUR: 'it returns false'. Refute it at one input. -/
def fnExactTopStepsWrong : ChangeSpec := { name := "fnExactTopSteps", fn := fun _ => fun
  | [d] => { results := [.lit (.bool false)], args := [d] }
  | _ => none }
def FnExactTopStepsWrongFalsely : Prop := fnExactTopStepsRow.holds Try.pinned (OpenSpec.ofChange fnExactTopStepsWrong)

/-- 'laws.FnExactTopEnd': WHATEVER THE INPUT: true; the input reads as it did. -/
def fnExactTopEndSpec : ChangeSpec := { name := "fnExactTopEnd", fn := fun _ => fun
  | [d] => { results := [.lit (.bool true)], args := [d] }
  | _ => none }
def fnExactTopEndRow : OpenClaim := { program := "ytieongcagkfedaa", sum := "91c9268af3622d0c89a6c45bf6e79fde470488ce0eee6cadca1632035e732799", func := "loop.example/g01221/laws.FnExactTopEnd", spec := "fnExactTopEnd", plainKeys := false, leaving := true, apart := false }
def FnExactTopEndSaid : Prop := fnExactTopEndRow.holds Try.pinned (OpenSpec.ofChange fnExactTopEndSpec)

/-- ITS FALSE NEIGHBOUR: 'it returns false'. Refute it at one input. -/
def fnExactTopEndWrong : ChangeSpec := { name := "fnExactTopEnd", fn := fun _ => fun
  | [d] => { results := [.lit (.bool false)], args := [d] }
  | _ => none }
def FnExactTopEndWrongFalsely : Prop := fnExactTopEndRow.holds Try.pinned (OpenSpec.ofChange fnExactTopEndWrong)

/-- 'laws.FnExactTopsSeen': WHATEVER THE INPUT: true; the input reads as it did. -/
def fnExactTopsSeenSpec : ChangeSpec := { name := "fnExactTopsSeen", fn := fun _ => fun
  | [d] => { results := [.lit (.bool true)], args := [d] }
  | _ => none }
def fnExactTopsSeenRow : OpenClaim := { program := "ytieongcagkfedaa", sum := "91c9268af3622d0c89a6c45bf6e79fde470488ce0eee6cadca1632035e732799", func := "loop.example/g01221/laws.FnExactTopsSeen", spec := "fnExactTopsSeen", plainKeys := false, leaving := true, apart := false }
def FnExactTopsSeenSaid : Prop := fnExactTopsSeenRow.holds Try.pinned (OpenSpec.ofChange fnExactTopsSeenSpec)

/-- ITS FALSE NEIGHBOUR: 'it returns false'. Refute it at one input. -/
def fnExactTopsSeenWrong : ChangeSpec := { name := "fnExactTopsSeen", fn := fun _ => fun
  | [d] => { results := [.lit (.bool false)], args := [d] }
  | _ => none }
def FnExactTopsSeenWrongFalsely : Prop := fnExactTopsSeenRow.holds Try.pinned (OpenSpec.ofChange fnExactTopsSeenWrong)

/-- 'laws.FnExactAreRows': WHATEVER THE INPUT: true; the input reads as it did. -/
def fnExactAreRowsSpec : ChangeSpec := { name := "fnExactAreRows", fn := fun _ => fun
  | [d] => { results := [.lit (.bool true)], args := [d] }
  | _ => none }
def fnExactAreRowsRow : OpenClaim := { program := "ytieongcagkfedaa", sum := "91c9268af3622d0c89a6c45bf6e79fde470488ce0eee6cadca1632035e732799", func := "loop.example/g01221/laws.FnExactAreRows", spec := "fnExactAreRows", plainKeys := false, apart := false }
def FnExactAreRowsSaid : Prop := fnExactAreRowsRow.holds Try.pinned (OpenSpec.ofChange fnExactAreRowsSpec)

/-- ITS FALSE NEIGHBOUR: 'it returns false'. Refute it at one input. -/
def fnExactAreRowsWrong : ChangeSpec := { name := "fnExactAreRows", fn := fun _ => fun
  | [d] => { results := [.lit (.bool false)], args := [d] }
  | _ => none }
def FnExactAreRowsWrongFalsely : Prop := fnExactAreRowsRow.holds Try.pinned (OpenSpec.ofChange fnExactAreRowsWrong)

/-- 'laws.FnExactStackOfRows': WHATEVER THE INPUT: true; the input reads as it did. -/
def fnExactStackOfRowsSpec : ChangeSpec := { name := "fnExactStackOfRows", fn := fun _ => fun
  | [d1, d2] => { results := [.lit (.bool true)], args := [d1, d2] }
  | _ => none }
def fnExactStackOfRowsRow : OpenClaim := { program := "ytieongcagkfedaa", sum := "91c9268af3622d0c89a6c45bf6e79fde470488ce0eee6cadca1632035e732799", func := "loop.example/g01221/laws.FnExactStackOfRows", spec := "fnExactStackOfRows", unfollowed := true, recurses := true, plainKeys := false, leaving := true, apart := false }
def FnExactStackOfRowsSaid : Prop := fnExactStackOfRowsRow.holds Try.pinned (OpenSpec.ofChange fnExactStackOfRowsSpec)

/-- ITS FALSE NEIGHBOUR: 'it returns false'. Refute it at one input. -/
def fnExactStackOfRowsWrong : ChangeSpec := { name := "fnExactStackOfRows", fn := fun _ => fun
  | [d1, d2] => { results := [.lit (.bool false)], args := [d1, d2] }
  | _ => none }
def FnExactStackOfRowsWrongFalsely : Prop := fnExactStackOfRowsRow.holds Try.pinned (OpenSpec.ofChange fnExactStackOfRowsWrong)

/- THE SECOND FORM. 'bulk': how many values and letters a reading holds, each counted each time it is reached (what is shared counts as often as it is met; a slice's spare places count too). A statement '..UptoSaid' is the law's where the arguments, and the package variables that the reading takes, are together of bulk at most 1048576: NARROWER than '..Said'. Prove '..Said' where nothing that the law and all that it calls make is longer than what came in: it says more and counts as full. Else prove '..UptoSaid'. A law counts once. -/
mutual
def uptoBulk {H : Type} : DataW H → Nat
  | .lit (.string bytes) => bytes.length + 1
  | .lit _ => 1
  | .nil => 1
  | .ptr d => uptoBulk d + 1
  | .slice elems spare => uptoBulkAll elems + uptoBulkAll spare + 1
  | .agg parts => uptoBulkAll parts + 1
  | .iface _ d => uptoBulk d + 1
  | .map entries => uptoBulkEntries entries + 1
  | .held _ => 1
def uptoBulkAll {H : Type} : List (DataW H) → Nat
  | [] => 0
  | d :: r => uptoBulk d + uptoBulkAll r
def uptoBulkEntries {H : Type} : List (Lit × DataW H) → Nat
  | [] => 0
  | x :: r => uptoBulkEntry x + uptoBulkEntries r
def uptoBulkEntry {H : Type} : Lit × DataW H → Nat
  | (.string bytes, d) => bytes.length + uptoBulk d + 1
  | (_, d) => uptoBulk d + 1
 end
def uptoSmall : (H : Type) → List (DataW H) → Bool := fun _ ds => decide (uptoBulkAll ds ≤ 1048576)
def OpenSpec.upto (s : _root_.Go.ChangeSpec) : _root_.Go.OpenSpec := { _root_.Go.OpenSpec.ofChange s with cond := some uptoSmall }

/-- 'laws.FnExactAreAsked', WHERE WHAT IT READS IS OF BULK AT MOST 1048576: true; the input reads as it did. -/
def fnExactAreAskedUptoRow : OpenClaim := { program := "ytieongcagkfedaa", sum := "91c9268af3622d0c89a6c45bf6e79fde470488ce0eee6cadca1632035e732799", func := "loop.example/g01221/laws.FnExactAreAsked", spec := "fnExactAreAsked", unfollowed := true, recurses := true, plainKeys := false, leaving := true, apart := false, narrowed := true }
def FnExactAreAskedUptoSaid : Prop := fnExactAreAskedUptoRow.holds Try.pinned (OpenSpec.upto fnExactAreAskedSpec)

/-- 'laws.FnExactShelfAfter', WHERE WHAT IT READS IS OF BULK AT MOST 1048576: true; the input reads as it did. -/
def fnExactShelfAfterUptoRow : OpenClaim := { program := "ytieongcagkfedaa", sum := "91c9268af3622d0c89a6c45bf6e79fde470488ce0eee6cadca1632035e732799", func := "loop.example/g01221/laws.FnExactShelfAfter", spec := "fnExactShelfAfter", inPlace := ["slices.overlaps[int]"], unfollowed := true, recurses := true, plainKeys := false, leaving := true, apart := false, narrowed := true }
def FnExactShelfAfterUptoSaid : Prop := fnExactShelfAfterUptoRow.holds Try.pinned (OpenSpec.upto fnExactShelfAfterSpec)

/-- 'laws.FnExactPlacesAsked', WHERE WHAT IT READS IS OF BULK AT MOST 1048576: true; the input reads as it did. -/
def fnExactPlacesAskedUptoRow : OpenClaim := { program := "ytieongcagkfedaa", sum := "91c9268af3622d0c89a6c45bf6e79fde470488ce0eee6cadca1632035e732799", func := "loop.example/g01221/laws.FnExactPlacesAsked", spec := "fnExactPlacesAsked", inPlace := ["slices.overlaps[int]"], unfollowed := true, recurses := true, plainKeys := false, leaving := true, apart := false, narrowed := true }
def FnExactPlacesAskedUptoSaid : Prop := fnExactPlacesAskedUptoRow.holds Try.pinned (OpenSpec.upto fnExactPlacesAskedSpec)

/-- 'laws.FnExactShelfCost', WHERE WHAT IT READS IS OF BULK AT MOST 1048576: true; the input reads as it did. -/
def fnExactShelfCostUptoRow : OpenClaim := { program := "ytieongcagkfedaa", sum := "91c9268af3622d0c89a6c45bf6e79fde470488ce0eee6cadca1632035e732799", func := "loop.example/g01221/laws.FnExactShelfCost", spec := "fnExactShelfCost", inPlace := ["slices.overlaps[int]"], unfollowed := true, recurses := true, plainKeys := false, leaving := true, apart := false, narrowed := true }
def FnExactShelfCostUptoSaid : Prop := fnExactShelfCostUptoRow.holds Try.pinned (OpenSpec.upto fnExactShelfCostSpec)

/-- 'laws.FnExactAskedByPlaces', WHERE WHAT IT READS IS OF BULK AT MOST 1048576: true; the input reads as it did. -/
def fnExactAskedByPlacesUptoRow : OpenClaim := { program := "ytieongcagkfedaa", sum := "91c9268af3622d0c89a6c45bf6e79fde470488ce0eee6cadca1632035e732799", func := "loop.example/g01221/laws.FnExactAskedByPlaces", spec := "fnExactAskedByPlaces", inPlace := ["slices.overlaps[int]"], unfollowed := true, recurses := true, plainKeys := false, leaving := true, apart := false, narrowed := true }
def FnExactAskedByPlacesUptoSaid : Prop := fnExactAskedByPlacesUptoRow.holds Try.pinned (OpenSpec.upto fnExactAskedByPlacesSpec)

/-- 'laws.FnExactBestFixed', WHERE WHAT IT READS IS OF BULK AT MOST 1048576: true; the input reads as it did. -/
def fnExactBestFixedUptoRow : OpenClaim := { program := "ytieongcagkfedaa", sum := "91c9268af3622d0c89a6c45bf6e79fde470488ce0eee6cadca1632035e732799", func := "loop.example/g01221/laws.FnExactBestFixed", spec := "fnExactBestFixed", unfollowed := true, recurses := true, plainKeys := false, leaving := true, apart := false, narrowed := true }
def FnExactBestFixedUptoSaid : Prop := fnExactBestFixedUptoRow.holds Try.pinned (OpenSpec.upto fnExactBestFixedSpec)

/-- 'laws.FnExactFixedCost', WHERE WHAT IT READS IS OF BULK AT MOST 1048576: true; the input reads as it did. -/
def fnExactFixedCostUptoRow : OpenClaim := { program := "ytieongcagkfedaa", sum := "91c9268af3622d0c89a6c45bf6e79fde470488ce0eee6cadca1632035e732799", func := "loop.example/g01221/laws.FnExactFixedCost", spec := "fnExactFixedCost", inPlace := ["slices.overlaps[int]"], unfollowed := true, recurses := true, plainKeys := false, leaving := true, apart := false, narrowed := true }
def FnExactFixedCostUptoSaid : Prop := fnExactFixedCostUptoRow.holds Try.pinned (OpenSpec.upto fnExactFixedCostSpec)

/-- 'laws.FnExactFrontBound', WHERE WHAT IT READS IS OF BULK AT MOST 1048576: true; the input reads as it did. -/
def fnExactFrontBoundUptoRow : OpenClaim := { program := "ytieongcagkfedaa", sum := "91c9268af3622d0c89a6c45bf6e79fde470488ce0eee6cadca1632035e732799", func := "loop.example/g01221/laws.FnExactFrontBound", spec := "fnExactFrontBound", inPlace := ["slices.overlaps[int]"], unfollowed := true, recurses := true, plainKeys := false, leaving := true, apart := false, narrowed := true }
def FnExactFrontBoundUptoSaid : Prop := fnExactFrontBoundUptoRow.holds Try.pinned (OpenSpec.upto fnExactFrontBoundSpec)

/-- 'laws.FnExactCheapestRule', WHERE WHAT IT READS IS OF BULK AT MOST 1048576: true; the input reads as it did. -/
def fnExactCheapestRuleUptoRow : OpenClaim := { program := "ytieongcagkfedaa", sum := "91c9268af3622d0c89a6c45bf6e79fde470488ce0eee6cadca1632035e732799", func := "loop.example/g01221/laws.FnExactCheapestRule", spec := "fnExactCheapestRule", inPlace := ["slices.overlaps[int]"], unfollowed := true, recurses := true, plainKeys := false, leaving := true, apart := false, narrowed := true }
def FnExactCheapestRuleUptoSaid : Prop := fnExactCheapestRuleUptoRow.holds Try.pinned (OpenSpec.upto fnExactCheapestRuleSpec)

/-- 'laws.FnExactLastAsked', WHERE WHAT IT READS IS OF BULK AT MOST 1048576: true; the input reads as it did. -/
def fnExactLastAskedUptoRow : OpenClaim := { program := "ytieongcagkfedaa", sum := "91c9268af3622d0c89a6c45bf6e79fde470488ce0eee6cadca1632035e732799", func := "loop.example/g01221/laws.FnExactLastAsked", spec := "fnExactLastAsked", unfollowed := true, recurses := true, plainKeys := false, leaving := true, apart := false, narrowed := true }
def FnExactLastAskedUptoSaid : Prop := fnExactLastAskedUptoRow.holds Try.pinned (OpenSpec.upto fnExactLastAskedSpec)

/-- 'laws.FnExactCountReached', WHERE WHAT IT READS IS OF BULK AT MOST 1048576: true; the input reads as it did. -/
def fnExactCountReachedUptoRow : OpenClaim := { program := "ytieongcagkfedaa", sum := "91c9268af3622d0c89a6c45bf6e79fde470488ce0eee6cadca1632035e732799", func := "loop.example/g01221/laws.FnExactCountReached", spec := "fnExactCountReached", unfollowed := true, recurses := true, plainKeys := false, leaving := true, apart := false, narrowed := true }
def FnExactCountReachedUptoSaid : Prop := fnExactCountReachedUptoRow.holds Try.pinned (OpenSpec.upto fnExactCountReachedSpec)

/-- 'laws.FnExactAskedToReach', WHERE WHAT IT READS IS OF BULK AT MOST 1048576: true; the input reads as it did. -/
def fnExactAskedToReachUptoRow : OpenClaim := { program := "ytieongcagkfedaa", sum := "91c9268af3622d0c89a6c45bf6e79fde470488ce0eee6cadca1632035e732799", func := "loop.example/g01221/laws.FnExactAskedToReach", spec := "fnExactAskedToReach", plainKeys := false, apart := false, narrowed := true }
def FnExactAskedToReachUptoSaid : Prop := fnExactAskedToReachUptoRow.holds Try.pinned (OpenSpec.upto fnExactAskedToReachSpec)

/-- 'laws.FnExactWorstAsked', WHERE WHAT IT READS IS OF BULK AT MOST 1048576: true; the input reads as it did. -/
def fnExactWorstAskedUptoRow : OpenClaim := { program := "ytieongcagkfedaa", sum := "91c9268af3622d0c89a6c45bf6e79fde470488ce0eee6cadca1632035e732799", func := "loop.example/g01221/laws.FnExactWorstAsked", spec := "fnExactWorstAsked", inPlace := ["slices.overlaps[int]"], unfollowed := true, recurses := true, plainKeys := false, leaving := true, apart := false, narrowed := true }
def FnExactWorstAskedUptoSaid : Prop := fnExactWorstAskedUptoRow.holds Try.pinned (OpenSpec.upto fnExactWorstAskedSpec)

/-- 'laws.FnExactPlanOfFront', WHERE WHAT IT READS IS OF BULK AT MOST 1048576: true; the input reads as it did. -/
def fnExactPlanOfFrontUptoRow : OpenClaim := { program := "ytieongcagkfedaa", sum := "91c9268af3622d0c89a6c45bf6e79fde470488ce0eee6cadca1632035e732799", func := "loop.example/g01221/laws.FnExactPlanOfFront", spec := "fnExactPlanOfFront", inPlace := ["slices.overlaps[int]"], unfollowed := true, recurses := true, plainKeys := false, leaving := true, apart := false, narrowed := true }
def FnExactPlanOfFrontUptoSaid : Prop := fnExactPlanOfFrontUptoRow.holds Try.pinned (OpenSpec.upto fnExactPlanOfFrontSpec)

/-- 'laws.FnExactTopGame', WHERE WHAT IT READS IS OF BULK AT MOST 1048576: true; the input reads as it did. -/
def fnExactTopGameUptoRow : OpenClaim := { program := "ytieongcagkfedaa", sum := "91c9268af3622d0c89a6c45bf6e79fde470488ce0eee6cadca1632035e732799", func := "loop.example/g01221/laws.FnExactTopGame", spec := "fnExactTopGame", plainKeys := false, leaving := true, apart := false, narrowed := true }
def FnExactTopGameUptoSaid : Prop := fnExactTopGameUptoRow.holds Try.pinned (OpenSpec.upto fnExactTopGameSpec)

/-- 'laws.FnExactTopSteps', WHERE WHAT IT READS IS OF BULK AT MOST 1048576: true; the input reads as it did. -/
def fnExactTopStepsUptoRow : OpenClaim := { program := "ytieongcagkfedaa", sum := "91c9268af3622d0c89a6c45bf6e79fde470488ce0eee6cadca1632035e732799", func := "loop.example/g01221/laws.FnExactTopSteps", spec := "fnExactTopSteps", plainKeys := false, leaving := true, apart := false, narrowed := true }
def FnExactTopStepsUptoSaid : Prop := fnExactTopStepsUptoRow.holds Try.pinned (OpenSpec.upto fnExactTopStepsSpec)

/-- 'laws.FnExactTopEnd', WHERE WHAT IT READS IS OF BULK AT MOST 1048576: true; the input reads as it did. -/
def fnExactTopEndUptoRow : OpenClaim := { program := "ytieongcagkfedaa", sum := "91c9268af3622d0c89a6c45bf6e79fde470488ce0eee6cadca1632035e732799", func := "loop.example/g01221/laws.FnExactTopEnd", spec := "fnExactTopEnd", plainKeys := false, leaving := true, apart := false, narrowed := true }
def FnExactTopEndUptoSaid : Prop := fnExactTopEndUptoRow.holds Try.pinned (OpenSpec.upto fnExactTopEndSpec)

/-- 'laws.FnExactTopsSeen', WHERE WHAT IT READS IS OF BULK AT MOST 1048576: true; the input reads as it did. -/
def fnExactTopsSeenUptoRow : OpenClaim := { program := "ytieongcagkfedaa", sum := "91c9268af3622d0c89a6c45bf6e79fde470488ce0eee6cadca1632035e732799", func := "loop.example/g01221/laws.FnExactTopsSeen", spec := "fnExactTopsSeen", plainKeys := false, leaving := true, apart := false, narrowed := true }
def FnExactTopsSeenUptoSaid : Prop := fnExactTopsSeenUptoRow.holds Try.pinned (OpenSpec.upto fnExactTopsSeenSpec)

/-- 'laws.FnExactAreRows', WHERE WHAT IT READS IS OF BULK AT MOST 1048576: true; the input reads as it did. -/
def fnExactAreRowsUptoRow : OpenClaim := { program := "ytieongcagkfedaa", sum := "91c9268af3622d0c89a6c45bf6e79fde470488ce0eee6cadca1632035e732799", func := "loop.example/g01221/laws.FnExactAreRows", spec := "fnExactAreRows", plainKeys := false, apart := false, narrowed := true }
def FnExactAreRowsUptoSaid : Prop := fnExactAreRowsUptoRow.holds Try.pinned (OpenSpec.upto fnExactAreRowsSpec)

/-- 'laws.FnExactStackOfRows', WHERE WHAT IT READS IS OF BULK AT MOST 1048576: true; the input reads as it did. -/
def fnExactStackOfRowsUptoRow : OpenClaim := { program := "ytieongcagkfedaa", sum := "91c9268af3622d0c89a6c45bf6e79fde470488ce0eee6cadca1632035e732799", func := "loop.example/g01221/laws.FnExactStackOfRows", spec := "fnExactStackOfRows", unfollowed := true, recurses := true, plainKeys := false, leaving := true, apart := false, narrowed := true }
def FnExactStackOfRowsUptoSaid : Prop := fnExactStackOfRowsUptoRow.holds Try.pinned (OpenSpec.upto fnExactStackOfRowsSpec)

end Rows
end Go.Proofs.Ytieongcagkfedaa
