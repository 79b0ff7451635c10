/-
  No cell of these rows narrows 'for every input' (looked for: loops, veiled, ifaces, maps, wideKeys, modest, calm, conditions, laid).
  DERIVED. THE GIVEN ROWS OF THIS SEAT. 17 by the template 'for every input the law returns true; each argument reads behind the call as it read before'; 0 by the template 'total and deterministic' (their statements: YticpdlgnaphnkaaTotals.lean).
  GIVEN WITH THE SEED: the statements are not yours to turn. If you find one false, say at which input.
  Laid BY PROGRAM, IN A SANDBOX (cutbox-rows.mjs): the forced cells as the released guide's own fill.sh prints them over the translation 161d6bf3c811d83a… (all of the seat's roots in one cut). By AI agents, Wed Nov 11 2026. No macro, syntax, notation, axiom, sorry.
-/
import Derived.Test.YticpdlgnaphnkaaChecked
import GoSem.Claim
import GoSem.ClaimJoined
import GoSem.ClaimMapViews
import Derived.JoinedTies
import Derived.KernelRfl
namespace Go.Proofs.Yticpdlgnaphnkaa
/- THE CELL 'sum', in the pinned program and in every row, IS THE sha256 OF THE DUMP (.gsa) THAT YticpdlgnaphnkaaProg.lean LOADS. Nothing in Lean hashes anything: it is a label: what it is worth is what the hold of that sum in a sandbox is worth. -/
noncomputable def Try.pinned : Pinned := { name := "yticpdlgnaphnkaa", sum := "161d6bf3c811d83a965e08e348e2538e0dc0ce432007c3be1720a8a54da6722d", checked := Try.checked }
namespace Rows
def none {H : Type} : Left H := { results := [], args := [] }

/-- 'laws.FnExactCountNoPairs': WHATEVER THE INPUT: true; the input reads as it did. -/
def fnExactCountNoPairsSpec : ChangeSpec := { name := "fnExactCountNoPairs", fn := fun _ => fun
  | [d] => { results := [.lit (.bool true)], args := [d] }
  | _ => none }
def fnExactCountNoPairsRow : OpenClaim := { program := "yticpdlgnaphnkaa", sum := "161d6bf3c811d83a965e08e348e2538e0dc0ce432007c3be1720a8a54da6722d", func := "loop.example/g01221/laws.FnExactCountNoPairs", spec := "fnExactCountNoPairs", unfollowed := true, recurses := true, plainKeys := false, apart := false }
def FnExactCountNoPairsSaid : Prop := fnExactCountNoPairsRow.holds Try.pinned (OpenSpec.ofChange fnExactCountNoPairsSpec)

/-- ITS FALSE NEIGHBOUR: 'it returns false'. Refute it at one input. -/
def fnExactCountNoPairsWrong : ChangeSpec := { name := "fnExactCountNoPairs", fn := fun _ => fun
  | [d] => { results := [.lit (.bool false)], args := [d] }
  | _ => none }
def FnExactCountNoPairsWrongFalsely : Prop := fnExactCountNoPairsRow.holds Try.pinned (OpenSpec.ofChange fnExactCountNoPairsWrong)

/-- 'laws.FnExactFirstNoPair': WHATEVER THE INPUT: true; the input reads as it did. -/
def fnExactFirstNoPairSpec : ChangeSpec := { name := "fnExactFirstNoPair", fn := fun _ => fun
  | [d] => { results := [.lit (.bool true)], args := [d] }
  | _ => none }
def fnExactFirstNoPairRow : OpenClaim := { program := "yticpdlgnaphnkaa", sum := "161d6bf3c811d83a965e08e348e2538e0dc0ce432007c3be1720a8a54da6722d", func := "loop.example/g01221/laws.FnExactFirstNoPair", spec := "fnExactFirstNoPair", unfollowed := true, recurses := true, plainKeys := false, apart := false }
def FnExactFirstNoPairSaid : Prop := fnExactFirstNoPairRow.holds Try.pinned (OpenSpec.ofChange fnExactFirstNoPairSpec)

/-- ITS FALSE NEIGHBOUR: 'it returns false'. Refute it at one input. -/
def fnExactFirstNoPairWrong : ChangeSpec := { name := "fnExactFirstNoPair", fn := fun _ => fun
  | [d] => { results := [.lit (.bool false)], args := [d] }
  | _ => none }
def FnExactFirstNoPairWrongFalsely : Prop := fnExactFirstNoPairRow.holds Try.pinned (OpenSpec.ofChange fnExactFirstNoPairWrong)

/-- 'laws.FnExactMostByGreedy': WHATEVER THE INPUT: true; the input reads as it did. -/
def fnExactMostByGreedySpec : ChangeSpec := { name := "fnExactMostByGreedy", fn := fun _ => fun
  | [d] => { results := [.lit (.bool true)], args := [d] }
  | _ => none }
def fnExactMostByGreedyRow : OpenClaim := { program := "yticpdlgnaphnkaa", sum := "161d6bf3c811d83a965e08e348e2538e0dc0ce432007c3be1720a8a54da6722d", func := "loop.example/g01221/laws.FnExactMostByGreedy", spec := "fnExactMostByGreedy", unfollowed := true, recurses := true, plainKeys := false, apart := false }
def FnExactMostByGreedySaid : Prop := fnExactMostByGreedyRow.holds Try.pinned (OpenSpec.ofChange fnExactMostByGreedySpec)

/-- ITS FALSE NEIGHBOUR: 'it returns false'. Refute it at one input. -/
def fnExactMostByGreedyWrong : ChangeSpec := { name := "fnExactMostByGreedy", fn := fun _ => fun
  | [d] => { results := [.lit (.bool false)], args := [d] }
  | _ => none }
def FnExactMostByGreedyWrongFalsely : Prop := fnExactMostByGreedyRow.holds Try.pinned (OpenSpec.ofChange fnExactMostByGreedyWrong)

/-- 'laws.FnExactStackDistance': WHATEVER THE INPUT: true; the input reads as it did. -/
def fnExactStackDistanceSpec : ChangeSpec := { name := "fnExactStackDistance", fn := fun _ => fun
  | [d] => { results := [.lit (.bool true)], args := [d] }
  | _ => none }
def fnExactStackDistanceRow : OpenClaim := { program := "yticpdlgnaphnkaa", sum := "161d6bf3c811d83a965e08e348e2538e0dc0ce432007c3be1720a8a54da6722d", func := "loop.example/g01221/laws.FnExactStackDistance", spec := "fnExactStackDistance", plainKeys := false, apart := false }
def FnExactStackDistanceSaid : Prop := fnExactStackDistanceRow.holds Try.pinned (OpenSpec.ofChange fnExactStackDistanceSpec)

/-- ITS FALSE NEIGHBOUR: 'it returns false'. Refute it at one input. -/
def fnExactStackDistanceWrong : ChangeSpec := { name := "fnExactStackDistance", fn := fun _ => fun
  | [d] => { results := [.lit (.bool false)], args := [d] }
  | _ => none }
def FnExactStackDistanceWrongFalsely : Prop := fnExactStackDistanceRow.holds Try.pinned (OpenSpec.ofChange fnExactStackDistanceWrong)

/-- 'laws.FnExactLeastPlan': WHATEVER THE INPUT: true; the input reads as it did. -/
def fnExactLeastPlanSpec : ChangeSpec := { name := "fnExactLeastPlan", fn := fun _ => fun
  | [d] => { results := [.lit (.bool true)], args := [d] }
  | _ => none }
def fnExactLeastPlanRow : OpenClaim := { program := "yticpdlgnaphnkaa", sum := "161d6bf3c811d83a965e08e348e2538e0dc0ce432007c3be1720a8a54da6722d", func := "loop.example/g01221/laws.FnExactLeastPlan", spec := "fnExactLeastPlan", plainKeys := false, apart := false }
def FnExactLeastPlanSaid : Prop := fnExactLeastPlanRow.holds Try.pinned (OpenSpec.ofChange fnExactLeastPlanSpec)

/-- ITS FALSE NEIGHBOUR: 'it returns false'. Refute it at one input. -/
def fnExactLeastPlanWrong : ChangeSpec := { name := "fnExactLeastPlan", fn := fun _ => fun
  | [d] => { results := [.lit (.bool false)], args := [d] }
  | _ => none }
def FnExactLeastPlanWrongFalsely : Prop := fnExactLeastPlanRow.holds Try.pinned (OpenSpec.ofChange fnExactLeastPlanWrong)

/-- 'laws.FnExactCountLeastPlans': WHATEVER THE INPUT: true; the input reads as it did. -/
def fnExactCountLeastPlansSpec : ChangeSpec := { name := "fnExactCountLeastPlans", fn := fun _ => fun
  | [d] => { results := [.lit (.bool true)], args := [d] }
  | _ => none }
def fnExactCountLeastPlansRow : OpenClaim := { program := "yticpdlgnaphnkaa", sum := "161d6bf3c811d83a965e08e348e2538e0dc0ce432007c3be1720a8a54da6722d", func := "loop.example/g01221/laws.FnExactCountLeastPlans", spec := "fnExactCountLeastPlans", plainKeys := false, apart := false }
def FnExactCountLeastPlansSaid : Prop := fnExactCountLeastPlansRow.holds Try.pinned (OpenSpec.ofChange fnExactCountLeastPlansSpec)

/-- ITS FALSE NEIGHBOUR: 'it returns false'. Refute it at one input. -/
def fnExactCountLeastPlansWrong : ChangeSpec := { name := "fnExactCountLeastPlans", fn := fun _ => fun
  | [d] => { results := [.lit (.bool false)], args := [d] }
  | _ => none }
def FnExactCountLeastPlansWrongFalsely : Prop := fnExactCountLeastPlansRow.holds Try.pinned (OpenSpec.ofChange fnExactCountLeastPlansWrong)

/-- 'laws.FnExactCloserTurns': WHATEVER THE INPUT: true; the input reads as it did. -/
def fnExactCloserTurnsSpec : ChangeSpec := { name := "fnExactCloserTurns", fn := fun _ => fun
  | [d] => { results := [.lit (.bool true)], args := [d] }
  | _ => none }
def fnExactCloserTurnsRow : OpenClaim := { program := "yticpdlgnaphnkaa", sum := "161d6bf3c811d83a965e08e348e2538e0dc0ce432007c3be1720a8a54da6722d", func := "loop.example/g01221/laws.FnExactCloserTurns", spec := "fnExactCloserTurns", plainKeys := false, apart := false }
def FnExactCloserTurnsSaid : Prop := fnExactCloserTurnsRow.holds Try.pinned (OpenSpec.ofChange fnExactCloserTurnsSpec)

/-- ITS FALSE NEIGHBOUR: 'it returns false'. Refute it at one input. -/
def fnExactCloserTurnsWrong : ChangeSpec := { name := "fnExactCloserTurns", fn := fun _ => fun
  | [d] => { results := [.lit (.bool false)], args := [d] }
  | _ => none }
def FnExactCloserTurnsWrongFalsely : Prop := fnExactCloserTurnsRow.holds Try.pinned (OpenSpec.ofChange fnExactCloserTurnsWrong)

/-- 'laws.FnExactCountByTurns': WHATEVER THE INPUT: true; the input reads as it did. -/
def fnExactCountByTurnsSpec : ChangeSpec := { name := "fnExactCountByTurns", fn := fun _ => fun
  | [d] => { results := [.lit (.bool true)], args := [d] }
  | _ => none }
def fnExactCountByTurnsRow : OpenClaim := { program := "yticpdlgnaphnkaa", sum := "161d6bf3c811d83a965e08e348e2538e0dc0ce432007c3be1720a8a54da6722d", func := "loop.example/g01221/laws.FnExactCountByTurns", spec := "fnExactCountByTurns", plainKeys := false, apart := false }
def FnExactCountByTurnsSaid : Prop := fnExactCountByTurnsRow.holds Try.pinned (OpenSpec.ofChange fnExactCountByTurnsSpec)

/-- ITS FALSE NEIGHBOUR: 'it returns false'. Refute it at one input. -/
def fnExactCountByTurnsWrong : ChangeSpec := { name := "fnExactCountByTurns", fn := fun _ => fun
  | [d] => { results := [.lit (.bool false)], args := [d] }
  | _ => none }
def FnExactCountByTurnsWrongFalsely : Prop := fnExactCountByTurnsRow.holds Try.pinned (OpenSpec.ofChange fnExactCountByTurnsWrong)

/-- 'laws.FnExactWorstDistance': WHATEVER THE INPUT: true; the input reads as it did. -/
def fnExactWorstDistanceSpec : ChangeSpec := { name := "fnExactWorstDistance", fn := fun _ => fun
  | [d] => { results := [.lit (.bool true)], args := [d] }
  | _ => none }
def fnExactWorstDistanceRow : OpenClaim := { program := "yticpdlgnaphnkaa", sum := "161d6bf3c811d83a965e08e348e2538e0dc0ce432007c3be1720a8a54da6722d", func := "loop.example/g01221/laws.FnExactWorstDistance", spec := "fnExactWorstDistance", plainKeys := false, apart := false }
def FnExactWorstDistanceSaid : Prop := fnExactWorstDistanceRow.holds Try.pinned (OpenSpec.ofChange fnExactWorstDistanceSpec)

/-- ITS FALSE NEIGHBOUR: 'it returns false'. Refute it at one input. -/
def fnExactWorstDistanceWrong : ChangeSpec := { name := "fnExactWorstDistance", fn := fun _ => fun
  | [d] => { results := [.lit (.bool false)], args := [d] }
  | _ => none }
def FnExactWorstDistanceWrongFalsely : Prop := fnExactWorstDistanceRow.holds Try.pinned (OpenSpec.ofChange fnExactWorstDistanceWrong)

/-- 'laws.FnExactWorstStacks': WHATEVER THE INPUT: true; the input reads as it did. -/
def fnExactWorstStacksSpec : ChangeSpec := { name := "fnExactWorstStacks", fn := fun _ => fun
  | [d] => { results := [.lit (.bool true)], args := [d] }
  | _ => none }
def fnExactWorstStacksRow : OpenClaim := { program := "yticpdlgnaphnkaa", sum := "161d6bf3c811d83a965e08e348e2538e0dc0ce432007c3be1720a8a54da6722d", func := "loop.example/g01221/laws.FnExactWorstStacks", spec := "fnExactWorstStacks", unfollowed := true, recurses := true, plainKeys := false, apart := false }
def FnExactWorstStacksSaid : Prop := fnExactWorstStacksRow.holds Try.pinned (OpenSpec.ofChange fnExactWorstStacksSpec)

/-- ITS FALSE NEIGHBOUR: 'it returns false'. Refute it at one input. -/
def fnExactWorstStacksWrong : ChangeSpec := { name := "fnExactWorstStacks", fn := fun _ => fun
  | [d] => { results := [.lit (.bool false)], args := [d] }
  | _ => none }
def FnExactWorstStacksWrongFalsely : Prop := fnExactWorstStacksRow.holds Try.pinned (OpenSpec.ofChange fnExactWorstStacksWrong)

/-- 'laws.FnExactDistanceBetween': WHATEVER THE INPUT: true; the input reads as it did. -/
def fnExactDistanceBetweenSpec : ChangeSpec := { name := "fnExactDistanceBetween", fn := fun _ => fun
  | [d1, d2] => { results := [.lit (.bool true)], args := [d1, d2] }
  | _ => none }
def fnExactDistanceBetweenRow : OpenClaim := { program := "yticpdlgnaphnkaa", sum := "161d6bf3c811d83a965e08e348e2538e0dc0ce432007c3be1720a8a54da6722d", func := "loop.example/g01221/laws.FnExactDistanceBetween", spec := "fnExactDistanceBetween", plainKeys := false, apart := false }
def FnExactDistanceBetweenSaid : Prop := fnExactDistanceBetweenRow.holds Try.pinned (OpenSpec.ofChange fnExactDistanceBetweenSpec)

/-- ITS FALSE NEIGHBOUR: 'it returns false'. Refute it at one input. -/
def fnExactDistanceBetweenWrong : ChangeSpec := { name := "fnExactDistanceBetween", fn := fun _ => fun
  | [d1, d2] => { results := [.lit (.bool false)], args := [d1, d2] }
  | _ => none }
def FnExactDistanceBetweenWrongFalsely : Prop := fnExactDistanceBetweenRow.holds Try.pinned (OpenSpec.ofChange fnExactDistanceBetweenWrong)

/-- 'laws.FnExactPlanBetween': WHATEVER THE INPUT: true; the input reads as it did. -/
def fnExactPlanBetweenSpec : ChangeSpec := { name := "fnExactPlanBetween", fn := fun _ => fun
  | [d1, d2] => { results := [.lit (.bool true)], args := [d1, d2] }
  | _ => none }
def fnExactPlanBetweenRow : OpenClaim := { program := "yticpdlgnaphnkaa", sum := "161d6bf3c811d83a965e08e348e2538e0dc0ce432007c3be1720a8a54da6722d", func := "loop.example/g01221/laws.FnExactPlanBetween", spec := "fnExactPlanBetween", plainKeys := false, apart := false }
def FnExactPlanBetweenSaid : Prop := fnExactPlanBetweenRow.holds Try.pinned (OpenSpec.ofChange fnExactPlanBetweenSpec)

/-- ITS FALSE NEIGHBOUR: 'it returns false'. Refute it at one input. -/
def fnExactPlanBetweenWrong : ChangeSpec := { name := "fnExactPlanBetween", fn := fun _ => fun
  | [d1, d2] => { results := [.lit (.bool false)], args := [d1, d2] }
  | _ => none }
def FnExactPlanBetweenWrongFalsely : Prop := fnExactPlanBetweenRow.holds Try.pinned (OpenSpec.ofChange fnExactPlanBetweenWrong)

/-- 'laws.FnExactGapExcess': WHATEVER THE INPUT: true; the input reads as it did. -/
def fnExactGapExcessSpec : ChangeSpec := { name := "fnExactGapExcess", fn := fun _ => fun
  | [d] => { results := [.lit (.bool true)], args := [d] }
  | _ => none }
def fnExactGapExcessRow : OpenClaim := { program := "yticpdlgnaphnkaa", sum := "161d6bf3c811d83a965e08e348e2538e0dc0ce432007c3be1720a8a54da6722d", func := "loop.example/g01221/laws.FnExactGapExcess", spec := "fnExactGapExcess", plainKeys := false, apart := false }
def FnExactGapExcessSaid : Prop := fnExactGapExcessRow.holds Try.pinned (OpenSpec.ofChange fnExactGapExcessSpec)

/-- ITS FALSE NEIGHBOUR: 'it returns false'. Refute it at one input. -/
def fnExactGapExcessWrong : ChangeSpec := { name := "fnExactGapExcess", fn := fun _ => fun
  | [d] => { results := [.lit (.bool false)], args := [d] }
  | _ => none }
def FnExactGapExcessWrongFalsely : Prop := fnExactGapExcessRow.holds Try.pinned (OpenSpec.ofChange fnExactGapExcessWrong)

/-- 'laws.FnExactGreedyExcess': WHATEVER THE INPUT: true; the input reads as it did. -/
def fnExactGreedyExcessSpec : ChangeSpec := { name := "fnExactGreedyExcess", fn := fun _ => fun
  | [d] => { results := [.lit (.bool true)], args := [d] }
  | _ => none }
def fnExactGreedyExcessRow : OpenClaim := { program := "yticpdlgnaphnkaa", sum := "161d6bf3c811d83a965e08e348e2538e0dc0ce432007c3be1720a8a54da6722d", func := "loop.example/g01221/laws.FnExactGreedyExcess", spec := "fnExactGreedyExcess", plainKeys := false, apart := false }
def FnExactGreedyExcessSaid : Prop := fnExactGreedyExcessRow.holds Try.pinned (OpenSpec.ofChange fnExactGreedyExcessSpec)

/-- ITS FALSE NEIGHBOUR: 'it returns false'. Refute it at one input. -/
def fnExactGreedyExcessWrong : ChangeSpec := { name := "fnExactGreedyExcess", fn := fun _ => fun
  | [d] => { results := [.lit (.bool false)], args := [d] }
  | _ => none }
def FnExactGreedyExcessWrongFalsely : Prop := fnExactGreedyExcessRow.holds Try.pinned (OpenSpec.ofChange fnExactGreedyExcessWrong)

/-- 'laws.FnExactIsLeastPlan': WHATEVER THE INPUT: true; the input reads as it did. -/
def fnExactIsLeastPlanSpec : ChangeSpec := { name := "fnExactIsLeastPlan", fn := fun _ => fun
  | [d1, d2] => { results := [.lit (.bool true)], args := [d1, d2] }
  | _ => none }
def fnExactIsLeastPlanRow : OpenClaim := { program := "yticpdlgnaphnkaa", sum := "161d6bf3c811d83a965e08e348e2538e0dc0ce432007c3be1720a8a54da6722d", func := "loop.example/g01221/laws.FnExactIsLeastPlan", spec := "fnExactIsLeastPlan", plainKeys := false, apart := false }
def FnExactIsLeastPlanSaid : Prop := fnExactIsLeastPlanRow.holds Try.pinned (OpenSpec.ofChange fnExactIsLeastPlanSpec)

/-- ITS FALSE NEIGHBOUR: 'it returns false'. Refute it at one input. -/
def fnExactIsLeastPlanWrong : ChangeSpec := { name := "fnExactIsLeastPlan", fn := fun _ => fun
  | [d1, d2] => { results := [.lit (.bool false)], args := [d1, d2] }
  | _ => none }
def FnExactIsLeastPlanWrongFalsely : Prop := fnExactIsLeastPlanRow.holds Try.pinned (OpenSpec.ofChange fnExactIsLeastPlanWrong)

/-- 'laws.FnExactCountClosedPlans': WHATEVER THE INPUT: true; the input reads as it did. -/
def fnExactCountClosedPlansSpec : ChangeSpec := { name := "fnExactCountClosedPlans", fn := fun _ => fun
  | [d1, d2] => { results := [.lit (.bool true)], args := [d1, d2] }
  | _ => none }
def fnExactCountClosedPlansRow : OpenClaim := { program := "yticpdlgnaphnkaa", sum := "161d6bf3c811d83a965e08e348e2538e0dc0ce432007c3be1720a8a54da6722d", func := "loop.example/g01221/laws.FnExactCountClosedPlans", spec := "fnExactCountClosedPlans", plainKeys := false, apart := false }
def FnExactCountClosedPlansSaid : Prop := fnExactCountClosedPlansRow.holds Try.pinned (OpenSpec.ofChange fnExactCountClosedPlansSpec)

/-- ITS FALSE NEIGHBOUR: 'it returns false'. Refute it at one input. -/
def fnExactCountClosedPlansWrong : ChangeSpec := { name := "fnExactCountClosedPlans", fn := fun _ => fun
  | [d1, d2] => { results := [.lit (.bool false)], args := [d1, d2] }
  | _ => none }
def FnExactCountClosedPlansWrongFalsely : Prop := fnExactCountClosedPlansRow.holds Try.pinned (OpenSpec.ofChange fnExactCountClosedPlansWrong)

/-- 'laws.FnExactMiddleStacks': WHATEVER THE INPUT: true; the input reads as it did. -/
def fnExactMiddleStacksSpec : ChangeSpec := { name := "fnExactMiddleStacks", fn := fun _ => fun
  | [d1, d2] => { results := [.lit (.bool true)], args := [d1, d2] }
  | _ => none }
def fnExactMiddleStacksRow : OpenClaim := { program := "yticpdlgnaphnkaa", sum := "161d6bf3c811d83a965e08e348e2538e0dc0ce432007c3be1720a8a54da6722d", func := "loop.example/g01221/laws.FnExactMiddleStacks", spec := "fnExactMiddleStacks", plainKeys := false, apart := false }
def FnExactMiddleStacksSaid : Prop := fnExactMiddleStacksRow.holds Try.pinned (OpenSpec.ofChange fnExactMiddleStacksSpec)

/-- ITS FALSE NEIGHBOUR: 'it returns false'. Refute it at one input. -/
def fnExactMiddleStacksWrong : ChangeSpec := { name := "fnExactMiddleStacks", fn := fun _ => fun
  | [d1, d2] => { results := [.lit (.bool false)], args := [d1, d2] }
  | _ => none }
def FnExactMiddleStacksWrongFalsely : Prop := fnExactMiddleStacksRow.holds Try.pinned (OpenSpec.ofChange fnExactMiddleStacksWrong)

/- THE SECOND FORM. 'bulk': how many values and letters a reading holds, each counted each time it is reached (what is shared counts as often as it is met; a slice's spare places count too). A statement '..UptoSaid' is the law's where the arguments, and the package variables that the reading takes, are together of bulk at most 1048576: NARROWER than '..Said'. Prove '..Said' where nothing that the law and all that it calls make is longer than what came in: it says more and counts as full. Else prove '..UptoSaid'. A law counts once. -/
mutual
def uptoBulk {H : Type} : DataW H → Nat
  | .lit (.string bytes) => bytes.length + 1
  | .lit _ => 1
  | .nil => 1
  | .ptr d => uptoBulk d + 1
  | .slice elems spare => uptoBulkAll elems + uptoBulkAll spare + 1
  | .agg parts => uptoBulkAll parts + 1
  | .iface _ d => uptoBulk d + 1
  | .map entries => uptoBulkEntries entries + 1
  | .held _ => 1
def uptoBulkAll {H : Type} : List (DataW H) → Nat
  | [] => 0
  | d :: r => uptoBulk d + uptoBulkAll r
def uptoBulkEntries {H : Type} : List (Lit × DataW H) → Nat
  | [] => 0
  | x :: r => uptoBulkEntry x + uptoBulkEntries r
def uptoBulkEntry {H : Type} : Lit × DataW H → Nat
  | (.string bytes, d) => bytes.length + uptoBulk d + 1
  | (_, d) => uptoBulk d + 1
 end
def uptoSmall : (H : Type) → List (DataW H) → Bool := fun _ ds => decide (uptoBulkAll ds ≤ 1048576)
def OpenSpec.upto (s : _root_.Go.ChangeSpec) : _root_.Go.OpenSpec := { _root_.Go.OpenSpec.ofChange s with cond := some uptoSmall }

/-- 'laws.FnExactCountNoPairs', WHERE WHAT IT READS IS OF BULK AT MOST 1048576: true; the input reads as it did. -/
def fnExactCountNoPairsUptoRow : OpenClaim := { program := "yticpdlgnaphnkaa", sum := "161d6bf3c811d83a965e08e348e2538e0dc0ce432007c3be1720a8a54da6722d", func := "loop.example/g01221/laws.FnExactCountNoPairs", spec := "fnExactCountNoPairs", unfollowed := true, recurses := true, plainKeys := false, apart := false, narrowed := true }
def FnExactCountNoPairsUptoSaid : Prop := fnExactCountNoPairsUptoRow.holds Try.pinned (OpenSpec.upto fnExactCountNoPairsSpec)

/-- 'laws.FnExactFirstNoPair', WHERE WHAT IT READS IS OF BULK AT MOST 1048576: true; the input reads as it did. -/
def fnExactFirstNoPairUptoRow : OpenClaim := { program := "yticpdlgnaphnkaa", sum := "161d6bf3c811d83a965e08e348e2538e0dc0ce432007c3be1720a8a54da6722d", func := "loop.example/g01221/laws.FnExactFirstNoPair", spec := "fnExactFirstNoPair", unfollowed := true, recurses := true, plainKeys := false, apart := false, narrowed := true }
def FnExactFirstNoPairUptoSaid : Prop := fnExactFirstNoPairUptoRow.holds Try.pinned (OpenSpec.upto fnExactFirstNoPairSpec)

/-- 'laws.FnExactMostByGreedy', WHERE WHAT IT READS IS OF BULK AT MOST 1048576: true; the input reads as it did. -/
def fnExactMostByGreedyUptoRow : OpenClaim := { program := "yticpdlgnaphnkaa", sum := "161d6bf3c811d83a965e08e348e2538e0dc0ce432007c3be1720a8a54da6722d", func := "loop.example/g01221/laws.FnExactMostByGreedy", spec := "fnExactMostByGreedy", unfollowed := true, recurses := true, plainKeys := false, apart := false, narrowed := true }
def FnExactMostByGreedyUptoSaid : Prop := fnExactMostByGreedyUptoRow.holds Try.pinned (OpenSpec.upto fnExactMostByGreedySpec)

/-- 'laws.FnExactStackDistance', WHERE WHAT IT READS IS OF BULK AT MOST 1048576: true; the input reads as it did. -/
def fnExactStackDistanceUptoRow : OpenClaim := { program := "yticpdlgnaphnkaa", sum := "161d6bf3c811d83a965e08e348e2538e0dc0ce432007c3be1720a8a54da6722d", func := "loop.example/g01221/laws.FnExactStackDistance", spec := "fnExactStackDistance", plainKeys := false, apart := false, narrowed := true }
def FnExactStackDistanceUptoSaid : Prop := fnExactStackDistanceUptoRow.holds Try.pinned (OpenSpec.upto fnExactStackDistanceSpec)

/-- 'laws.FnExactLeastPlan', WHERE WHAT IT READS IS OF BULK AT MOST 1048576: true; the input reads as it did. -/
def fnExactLeastPlanUptoRow : OpenClaim := { program := "yticpdlgnaphnkaa", sum := "161d6bf3c811d83a965e08e348e2538e0dc0ce432007c3be1720a8a54da6722d", func := "loop.example/g01221/laws.FnExactLeastPlan", spec := "fnExactLeastPlan", plainKeys := false, apart := false, narrowed := true }
def FnExactLeastPlanUptoSaid : Prop := fnExactLeastPlanUptoRow.holds Try.pinned (OpenSpec.upto fnExactLeastPlanSpec)

/-- 'laws.FnExactCountLeastPlans', WHERE WHAT IT READS IS OF BULK AT MOST 1048576: true; the input reads as it did. -/
def fnExactCountLeastPlansUptoRow : OpenClaim := { program := "yticpdlgnaphnkaa", sum := "161d6bf3c811d83a965e08e348e2538e0dc0ce432007c3be1720a8a54da6722d", func := "loop.example/g01221/laws.FnExactCountLeastPlans", spec := "fnExactCountLeastPlans", plainKeys := false, apart := false, narrowed := true }
def FnExactCountLeastPlansUptoSaid : Prop := fnExactCountLeastPlansUptoRow.holds Try.pinned (OpenSpec.upto fnExactCountLeastPlansSpec)

/-- 'laws.FnExactCloserTurns', WHERE WHAT IT READS IS OF BULK AT MOST 1048576: true; the input reads as it did. -/
def fnExactCloserTurnsUptoRow : OpenClaim := { program := "yticpdlgnaphnkaa", sum := "161d6bf3c811d83a965e08e348e2538e0dc0ce432007c3be1720a8a54da6722d", func := "loop.example/g01221/laws.FnExactCloserTurns", spec := "fnExactCloserTurns", plainKeys := false, apart := false, narrowed := true }
def FnExactCloserTurnsUptoSaid : Prop := fnExactCloserTurnsUptoRow.holds Try.pinned (OpenSpec.upto fnExactCloserTurnsSpec)

/-- 'laws.FnExactCountByTurns', WHERE WHAT IT READS IS OF BULK AT MOST 1048576: true; the input reads as it did. -/
def fnExactCountByTurnsUptoRow : OpenClaim := { program := "yticpdlgnaphnkaa", sum := "161d6bf3c811d83a965e08e348e2538e0dc0ce432007c3be1720a8a54da6722d", func := "loop.example/g01221/laws.FnExactCountByTurns", spec := "fnExactCountByTurns", plainKeys := false, apart := false, narrowed := true }
def FnExactCountByTurnsUptoSaid : Prop := fnExactCountByTurnsUptoRow.holds Try.pinned (OpenSpec.upto fnExactCountByTurnsSpec)

/-- 'laws.FnExactWorstDistance', WHERE WHAT IT READS IS OF BULK AT MOST 1048576: true; the input reads as it did. -/
def fnExactWorstDistanceUptoRow : OpenClaim := { program := "yticpdlgnaphnkaa", sum := "161d6bf3c811d83a965e08e348e2538e0dc0ce432007c3be1720a8a54da6722d", func := "loop.example/g01221/laws.FnExactWorstDistance", spec := "fnExactWorstDistance", plainKeys := false, apart := false, narrowed := true }
def FnExactWorstDistanceUptoSaid : Prop := fnExactWorstDistanceUptoRow.holds Try.pinned (OpenSpec.upto fnExactWorstDistanceSpec)

/-- 'laws.FnExactWorstStacks', WHERE WHAT IT READS IS OF BULK AT MOST 1048576: true; the input reads as it did. -/
def fnExactWorstStacksUptoRow : OpenClaim := { program := "yticpdlgnaphnkaa", sum := "161d6bf3c811d83a965e08e348e2538e0dc0ce432007c3be1720a8a54da6722d", func := "loop.example/g01221/laws.FnExactWorstStacks", spec := "fnExactWorstStacks", unfollowed := true, recurses := true, plainKeys := false, apart := false, narrowed := true }
def FnExactWorstStacksUptoSaid : Prop := fnExactWorstStacksUptoRow.holds Try.pinned (OpenSpec.upto fnExactWorstStacksSpec)

/-- 'laws.FnExactDistanceBetween', WHERE WHAT IT READS IS OF BULK AT MOST 1048576: true; the input reads as it did. -/
def fnExactDistanceBetweenUptoRow : OpenClaim := { program := "yticpdlgnaphnkaa", sum := "161d6bf3c811d83a965e08e348e2538e0dc0ce432007c3be1720a8a54da6722d", func := "loop.example/g01221/laws.FnExactDistanceBetween", spec := "fnExactDistanceBetween", plainKeys := false, apart := false, narrowed := true }
def FnExactDistanceBetweenUptoSaid : Prop := fnExactDistanceBetweenUptoRow.holds Try.pinned (OpenSpec.upto fnExactDistanceBetweenSpec)

/-- 'laws.FnExactPlanBetween', WHERE WHAT IT READS IS OF BULK AT MOST 1048576: true; the input reads as it did. -/
def fnExactPlanBetweenUptoRow : OpenClaim := { program := "yticpdlgnaphnkaa", sum := "161d6bf3c811d83a965e08e348e2538e0dc0ce432007c3be1720a8a54da6722d", func := "loop.example/g01221/laws.FnExactPlanBetween", spec := "fnExactPlanBetween", plainKeys := false, apart := false, narrowed := true }
def FnExactPlanBetweenUptoSaid : Prop := fnExactPlanBetweenUptoRow.holds Try.pinned (OpenSpec.upto fnExactPlanBetweenSpec)

/-- 'laws.FnExactGapExcess', WHERE WHAT IT READS IS OF BULK AT MOST 1048576: true; the input reads as it did. -/
def fnExactGapExcessUptoRow : OpenClaim := { program := "yticpdlgnaphnkaa", sum := "161d6bf3c811d83a965e08e348e2538e0dc0ce432007c3be1720a8a54da6722d", func := "loop.example/g01221/laws.FnExactGapExcess", spec := "fnExactGapExcess", plainKeys := false, apart := false, narrowed := true }
def FnExactGapExcessUptoSaid : Prop := fnExactGapExcessUptoRow.holds Try.pinned (OpenSpec.upto fnExactGapExcessSpec)

/-- 'laws.FnExactGreedyExcess', WHERE WHAT IT READS IS OF BULK AT MOST 1048576: true; the input reads as it did. -/
def fnExactGreedyExcessUptoRow : OpenClaim := { program := "yticpdlgnaphnkaa", sum := "161d6bf3c811d83a965e08e348e2538e0dc0ce432007c3be1720a8a54da6722d", func := "loop.example/g01221/laws.FnExactGreedyExcess", spec := "fnExactGreedyExcess", plainKeys := false, apart := false, narrowed := true }
def FnExactGreedyExcessUptoSaid : Prop := fnExactGreedyExcessUptoRow.holds Try.pinned (OpenSpec.upto fnExactGreedyExcessSpec)

/-- 'laws.FnExactIsLeastPlan', WHERE WHAT IT READS IS OF BULK AT MOST 1048576: true; the input reads as it did. -/
def fnExactIsLeastPlanUptoRow : OpenClaim := { program := "yticpdlgnaphnkaa", sum := "161d6bf3c811d83a965e08e348e2538e0dc0ce432007c3be1720a8a54da6722d", func := "loop.example/g01221/laws.FnExactIsLeastPlan", spec := "fnExactIsLeastPlan", plainKeys := false, apart := false, narrowed := true }
def FnExactIsLeastPlanUptoSaid : Prop := fnExactIsLeastPlanUptoRow.holds Try.pinned (OpenSpec.upto fnExactIsLeastPlanSpec)

/-- 'laws.FnExactCountClosedPlans', WHERE WHAT IT READS IS OF BULK AT MOST 1048576: true; the input reads as it did. -/
def fnExactCountClosedPlansUptoRow : OpenClaim := { program := "yticpdlgnaphnkaa", sum := "161d6bf3c811d83a965e08e348e2538e0dc0ce432007c3be1720a8a54da6722d", func := "loop.example/g01221/laws.FnExactCountClosedPlans", spec := "fnExactCountClosedPlans", plainKeys := false, apart := false, narrowed := true }
def FnExactCountClosedPlansUptoSaid : Prop := fnExactCountClosedPlansUptoRow.holds Try.pinned (OpenSpec.upto fnExactCountClosedPlansSpec)

/-- 'laws.FnExactMiddleStacks', WHERE WHAT IT READS IS OF BULK AT MOST 1048576: true; the input reads as it did. -/
def fnExactMiddleStacksUptoRow : OpenClaim := { program := "yticpdlgnaphnkaa", sum := "161d6bf3c811d83a965e08e348e2538e0dc0ce432007c3be1720a8a54da6722d", func := "loop.example/g01221/laws.FnExactMiddleStacks", spec := "fnExactMiddleStacks", plainKeys := false, apart := false, narrowed := true }
def FnExactMiddleStacksUptoSaid : Prop := fnExactMiddleStacksUptoRow.holds Try.pinned (OpenSpec.upto fnExactMiddleStacksSpec)

end Rows
end Go.Proofs.Yticpdlgnaphnkaa
