/-
  No cell of these rows narrows 'for every input' (looked for: loops, veiled, ifaces, maps, wideKeys, modest, calm, conditions, laid).
  DERIVED. THE GIVEN ROWS OF THIS SEAT. 18 by the template 'for every input the law returns true; each argument reads behind the call as it read before'; 0 by the template 'total and deterministic' (their statements: YtakgmcfpdbeajaaTotals.lean).
  GIVEN WITH THE SEED: the statements are not yours to turn. If you find one false, say at which input.
  Laid BY PROGRAM, IN A SANDBOX (cutbox-rows.mjs): the forced cells as the released guide's own fill.sh prints them over the translation 58c53d0f3894c5e6… (all of the seat's roots in one cut). By AI agents, Wed Nov 11 2026. No macro, syntax, notation, axiom, sorry.
-/
import Derived.Test.YtakgmcfpdbeajaaChecked
import GoSem.Claim
import GoSem.ClaimJoined
import GoSem.ClaimMapViews
import Derived.JoinedTies
import Derived.KernelRfl
namespace Go.Proofs.Ytakgmcfpdbeajaa
/- THE CELL 'sum', in the pinned program and in every row, IS THE sha256 OF THE DUMP (.gsa) THAT YtakgmcfpdbeajaaProg.lean LOADS. Nothing in Lean hashes anything: it is a label: what it is worth is what the hold of that sum in a sandbox is worth. -/
noncomputable def Try.pinned : Pinned := { name := "ytakgmcfpdbeajaa", sum := "58c53d0f3894c5e6f7f506fb3493fc132620a1d78b38166612a216bc6d696201", checked := Try.checked }
namespace Rows
def none {H : Type} : Left H := { results := [], args := [] }

/-- 'laws.FnExactCountNoPairs': WHATEVER THE INPUT: true; the input reads as it did. -/
def fnExactCountNoPairsSpec : ChangeSpec := { name := "fnExactCountNoPairs", fn := fun _ => fun
  | [d] => { results := [.lit (.bool true)], args := [d] }
  | _ => none }
def fnExactCountNoPairsRow : OpenClaim := { program := "ytakgmcfpdbeajaa", sum := "58c53d0f3894c5e6f7f506fb3493fc132620a1d78b38166612a216bc6d696201", func := "loop.example/g01221/laws.FnExactCountNoPairs", spec := "fnExactCountNoPairs", unfollowed := true, recurses := true, plainKeys := false, apart := false }
def FnExactCountNoPairsSaid : Prop := fnExactCountNoPairsRow.holds Try.pinned (OpenSpec.ofChange fnExactCountNoPairsSpec)

/-- ITS FALSE NEIGHBOUR: 'it returns false'. Refute it at one input. -/
def fnExactCountNoPairsWrong : ChangeSpec := { name := "fnExactCountNoPairs", fn := fun _ => fun
  | [d] => { results := [.lit (.bool false)], args := [d] }
  | _ => none }
def FnExactCountNoPairsWrongFalsely : Prop := fnExactCountNoPairsRow.holds Try.pinned (OpenSpec.ofChange fnExactCountNoPairsWrong)

/-- 'laws.FnExactFirstNoPair': WHATEVER THE INPUT: true; the input reads as it did. -/
def fnExactFirstNoPairSpec : ChangeSpec := { name := "fnExactFirstNoPair", fn := fun _ => fun
  | [d] => { results := [.lit (.bool true)], args := [d] }
  | _ => none }
def fnExactFirstNoPairRow : OpenClaim := { program := "ytakgmcfpdbeajaa", sum := "58c53d0f3894c5e6f7f506fb3493fc132620a1d78b38166612a216bc6d696201", func := "loop.example/g01221/laws.FnExactFirstNoPair", spec := "fnExactFirstNoPair", unfollowed := true, recurses := true, plainKeys := false, apart := false }
def FnExactFirstNoPairSaid : Prop := fnExactFirstNoPairRow.holds Try.pinned (OpenSpec.ofChange fnExactFirstNoPairSpec)

/-- ITS FALSE NEIGHBOUR: 'it returns false'. Refute it at one input. -/
def fnExactFirstNoPairWrong : ChangeSpec := { name := "fnExactFirstNoPair", fn := fun _ => fun
  | [d] => { results := [.lit (.bool false)], args := [d] }
  | _ => none }
def FnExactFirstNoPairWrongFalsely : Prop := fnExactFirstNoPairRow.holds Try.pinned (OpenSpec.ofChange fnExactFirstNoPairWrong)

/-- 'laws.FnExactMostByGreedy': WHATEVER THE INPUT: true; the input reads as it did. -/
def fnExactMostByGreedySpec : ChangeSpec := { name := "fnExactMostByGreedy", fn := fun _ => fun
  | [d] => { results := [.lit (.bool true)], args := [d] }
  | _ => none }
def fnExactMostByGreedyRow : OpenClaim := { program := "ytakgmcfpdbeajaa", sum := "58c53d0f3894c5e6f7f506fb3493fc132620a1d78b38166612a216bc6d696201", func := "loop.example/g01221/laws.FnExactMostByGreedy", spec := "fnExactMostByGreedy", unfollowed := true, recurses := true, plainKeys := false, apart := false }
def FnExactMostByGreedySaid : Prop := fnExactMostByGreedyRow.holds Try.pinned (OpenSpec.ofChange fnExactMostByGreedySpec)

/-- ITS FALSE NEIGHBOUR: 'it returns false'. Refute it at one input. -/
def fnExactMostByGreedyWrong : ChangeSpec := { name := "fnExactMostByGreedy", fn := fun _ => fun
  | [d] => { results := [.lit (.bool false)], args := [d] }
  | _ => none }
def FnExactMostByGreedyWrongFalsely : Prop := fnExactMostByGreedyRow.holds Try.pinned (OpenSpec.ofChange fnExactMostByGreedyWrong)

/-- 'laws.FnExactWorstStacks': WHATEVER THE INPUT: true; the input reads as it did. -/
def fnExactWorstStacksSpec : ChangeSpec := { name := "fnExactWorstStacks", fn := fun _ => fun
  | [d] => { results := [.lit (.bool true)], args := [d] }
  | _ => none }
def fnExactWorstStacksRow : OpenClaim := { program := "ytakgmcfpdbeajaa", sum := "58c53d0f3894c5e6f7f506fb3493fc132620a1d78b38166612a216bc6d696201", func := "loop.example/g01221/laws.FnExactWorstStacks", spec := "fnExactWorstStacks", unfollowed := true, recurses := true, plainKeys := false, apart := false }
def FnExactWorstStacksSaid : Prop := fnExactWorstStacksRow.holds Try.pinned (OpenSpec.ofChange fnExactWorstStacksSpec)

/-- ITS FALSE NEIGHBOUR: 'it returns false'. Refute it at one input. -/
def fnExactWorstStacksWrong : ChangeSpec := { name := "fnExactWorstStacks", fn := fun _ => fun
  | [d] => { results := [.lit (.bool false)], args := [d] }
  | _ => none }
def FnExactWorstStacksWrongFalsely : Prop := fnExactWorstStacksRow.holds Try.pinned (OpenSpec.ofChange fnExactWorstStacksWrong)

/-- 'laws.FnExactIsBurnt': WHATEVER THE INPUT: true; the input reads as it did. -/
def fnExactIsBurntSpec : ChangeSpec := { name := "fnExactIsBurnt", fn := fun _ => fun
  | [d] => { results := [.lit (.bool true)], args := [d] }
  | _ => none }
def fnExactIsBurntRow : OpenClaim := { program := "ytakgmcfpdbeajaa", sum := "58c53d0f3894c5e6f7f506fb3493fc132620a1d78b38166612a216bc6d696201", func := "loop.example/g01221/laws.FnExactIsBurnt", spec := "fnExactIsBurnt", plainKeys := false, apart := false }
def FnExactIsBurntSaid : Prop := fnExactIsBurntRow.holds Try.pinned (OpenSpec.ofChange fnExactIsBurntSpec)

/-- ITS FALSE NEIGHBOUR: 'it returns false'. Refute it at one input. -/
def fnExactIsBurntWrong : ChangeSpec := { name := "fnExactIsBurnt", fn := fun _ => fun
  | [d] => { results := [.lit (.bool false)], args := [d] }
  | _ => none }
def FnExactIsBurntWrongFalsely : Prop := fnExactIsBurntRow.holds Try.pinned (OpenSpec.ofChange fnExactIsBurntWrong)

/-- 'laws.FnExactTurnBurnt': WHATEVER THE INPUT: true; the input reads as it did. -/
def fnExactTurnBurntSpec : ChangeSpec := { name := "fnExactTurnBurnt", fn := fun _ => fun
  | [d1, d2] => { results := [.lit (.bool true)], args := [d1, d2] }
  | _ => none }
def fnExactTurnBurntRow : OpenClaim := { program := "ytakgmcfpdbeajaa", sum := "58c53d0f3894c5e6f7f506fb3493fc132620a1d78b38166612a216bc6d696201", func := "loop.example/g01221/laws.FnExactTurnBurnt", spec := "fnExactTurnBurnt", unfollowed := true, recurses := true, plainKeys := false, apart := false }
def FnExactTurnBurntSaid : Prop := fnExactTurnBurntRow.holds Try.pinned (OpenSpec.ofChange fnExactTurnBurntSpec)

/-- ITS FALSE NEIGHBOUR: 'it returns false'. Refute it at one input. -/
def fnExactTurnBurntWrong : ChangeSpec := { name := "fnExactTurnBurnt", fn := fun _ => fun
  | [d1, d2] => { results := [.lit (.bool false)], args := [d1, d2] }
  | _ => none }
def FnExactTurnBurntWrongFalsely : Prop := fnExactTurnBurntRow.holds Try.pinned (OpenSpec.ofChange fnExactTurnBurntWrong)

/-- 'laws.FnExactPlayBurnt': WHATEVER THE INPUT: true; the input reads as it did. -/
def fnExactPlayBurntSpec : ChangeSpec := { name := "fnExactPlayBurnt", fn := fun _ => fun
  | [d1, d2] => { results := [.lit (.bool true)], args := [d1, d2] }
  | _ => none }
def fnExactPlayBurntRow : OpenClaim := { program := "ytakgmcfpdbeajaa", sum := "58c53d0f3894c5e6f7f506fb3493fc132620a1d78b38166612a216bc6d696201", func := "loop.example/g01221/laws.FnExactPlayBurnt", spec := "fnExactPlayBurnt", unfollowed := true, recurses := true, plainKeys := false, apart := false }
def FnExactPlayBurntSaid : Prop := fnExactPlayBurntRow.holds Try.pinned (OpenSpec.ofChange fnExactPlayBurntSpec)

/-- ITS FALSE NEIGHBOUR: 'it returns false'. Refute it at one input. -/
def fnExactPlayBurntWrong : ChangeSpec := { name := "fnExactPlayBurnt", fn := fun _ => fun
  | [d1, d2] => { results := [.lit (.bool false)], args := [d1, d2] }
  | _ => none }
def FnExactPlayBurntWrongFalsely : Prop := fnExactPlayBurntRow.holds Try.pinned (OpenSpec.ofChange fnExactPlayBurntWrong)

/-- 'laws.FnExactIsBurntSorted': WHATEVER THE INPUT: true; the input reads as it did. -/
def fnExactIsBurntSortedSpec : ChangeSpec := { name := "fnExactIsBurntSorted", fn := fun _ => fun
  | [d] => { results := [.lit (.bool true)], args := [d] }
  | _ => none }
def fnExactIsBurntSortedRow : OpenClaim := { program := "ytakgmcfpdbeajaa", sum := "58c53d0f3894c5e6f7f506fb3493fc132620a1d78b38166612a216bc6d696201", func := "loop.example/g01221/laws.FnExactIsBurntSorted", spec := "fnExactIsBurntSorted", plainKeys := false, apart := false }
def FnExactIsBurntSortedSaid : Prop := fnExactIsBurntSortedRow.holds Try.pinned (OpenSpec.ofChange fnExactIsBurntSortedSpec)

/-- ITS FALSE NEIGHBOUR: 'it returns false'. Refute it at one input. -/
def fnExactIsBurntSortedWrong : ChangeSpec := { name := "fnExactIsBurntSorted", fn := fun _ => fun
  | [d] => { results := [.lit (.bool false)], args := [d] }
  | _ => none }
def FnExactIsBurntSortedWrongFalsely : Prop := fnExactIsBurntSortedRow.holds Try.pinned (OpenSpec.ofChange fnExactIsBurntSortedWrong)

/-- 'laws.FnExactBurntGaps': WHATEVER THE INPUT: true; the input reads as it did. -/
def fnExactBurntGapsSpec : ChangeSpec := { name := "fnExactBurntGaps", fn := fun _ => fun
  | [d] => { results := [.lit (.bool true)], args := [d] }
  | _ => none }
def fnExactBurntGapsRow : OpenClaim := { program := "ytakgmcfpdbeajaa", sum := "58c53d0f3894c5e6f7f506fb3493fc132620a1d78b38166612a216bc6d696201", func := "loop.example/g01221/laws.FnExactBurntGaps", spec := "fnExactBurntGaps", unfollowed := true, recurses := true, plainKeys := false, apart := false }
def FnExactBurntGapsSaid : Prop := fnExactBurntGapsRow.holds Try.pinned (OpenSpec.ofChange fnExactBurntGapsSpec)

/-- ITS FALSE NEIGHBOUR: 'it returns false'. Refute it at one input. -/
def fnExactBurntGapsWrong : ChangeSpec := { name := "fnExactBurntGaps", fn := fun _ => fun
  | [d] => { results := [.lit (.bool false)], args := [d] }
  | _ => none }
def FnExactBurntGapsWrongFalsely : Prop := fnExactBurntGapsRow.holds Try.pinned (OpenSpec.ofChange fnExactBurntGapsWrong)

/-- 'laws.FnExactBurntGreedy': WHATEVER THE INPUT: true; the input reads as it did. -/
def fnExactBurntGreedySpec : ChangeSpec := { name := "fnExactBurntGreedy", fn := fun _ => fun
  | [d] => { results := [.lit (.bool true)], args := [d] }
  | _ => none }
def fnExactBurntGreedyRow : OpenClaim := { program := "ytakgmcfpdbeajaa", sum := "58c53d0f3894c5e6f7f506fb3493fc132620a1d78b38166612a216bc6d696201", func := "loop.example/g01221/laws.FnExactBurntGreedy", spec := "fnExactBurntGreedy", plainKeys := false, apart := false }
def FnExactBurntGreedySaid : Prop := fnExactBurntGreedyRow.holds Try.pinned (OpenSpec.ofChange fnExactBurntGreedySpec)

/-- ITS FALSE NEIGHBOUR: 'it returns false'. Refute it at one input. -/
def fnExactBurntGreedyWrong : ChangeSpec := { name := "fnExactBurntGreedy", fn := fun _ => fun
  | [d] => { results := [.lit (.bool false)], args := [d] }
  | _ => none }
def FnExactBurntGreedyWrongFalsely : Prop := fnExactBurntGreedyRow.holds Try.pinned (OpenSpec.ofChange fnExactBurntGreedyWrong)

/-- 'laws.FnExactBurntDistance': WHATEVER THE INPUT: true; the input reads as it did. -/
def fnExactBurntDistanceSpec : ChangeSpec := { name := "fnExactBurntDistance", fn := fun _ => fun
  | [d] => { results := [.lit (.bool true)], args := [d] }
  | _ => none }
def fnExactBurntDistanceRow : OpenClaim := { program := "ytakgmcfpdbeajaa", sum := "58c53d0f3894c5e6f7f506fb3493fc132620a1d78b38166612a216bc6d696201", func := "loop.example/g01221/laws.FnExactBurntDistance", spec := "fnExactBurntDistance", unfollowed := true, recurses := true, plainKeys := false, apart := false }
def FnExactBurntDistanceSaid : Prop := fnExactBurntDistanceRow.holds Try.pinned (OpenSpec.ofChange fnExactBurntDistanceSpec)

/-- ITS FALSE NEIGHBOUR: 'it returns false'. Refute it at one input. -/
def fnExactBurntDistanceWrong : ChangeSpec := { name := "fnExactBurntDistance", fn := fun _ => fun
  | [d] => { results := [.lit (.bool false)], args := [d] }
  | _ => none }
def FnExactBurntDistanceWrongFalsely : Prop := fnExactBurntDistanceRow.holds Try.pinned (OpenSpec.ofChange fnExactBurntDistanceWrong)

/-- 'laws.FnExactLeastBurnt': WHATEVER THE INPUT: true; the input reads as it did. -/
def fnExactLeastBurntSpec : ChangeSpec := { name := "fnExactLeastBurnt", fn := fun _ => fun
  | [d] => { results := [.lit (.bool true)], args := [d] }
  | _ => none }
def fnExactLeastBurntRow : OpenClaim := { program := "ytakgmcfpdbeajaa", sum := "58c53d0f3894c5e6f7f506fb3493fc132620a1d78b38166612a216bc6d696201", func := "loop.example/g01221/laws.FnExactLeastBurnt", spec := "fnExactLeastBurnt", unfollowed := true, recurses := true, plainKeys := false, apart := false }
def FnExactLeastBurntSaid : Prop := fnExactLeastBurntRow.holds Try.pinned (OpenSpec.ofChange fnExactLeastBurntSpec)

/-- ITS FALSE NEIGHBOUR: 'it returns false'. Refute it at one input. -/
def fnExactLeastBurntWrong : ChangeSpec := { name := "fnExactLeastBurnt", fn := fun _ => fun
  | [d] => { results := [.lit (.bool false)], args := [d] }
  | _ => none }
def FnExactLeastBurntWrongFalsely : Prop := fnExactLeastBurntRow.holds Try.pinned (OpenSpec.ofChange fnExactLeastBurntWrong)

/-- 'laws.FnExactCountBurntBy': WHATEVER THE INPUT: true; the input reads as it did. -/
def fnExactCountBurntBySpec : ChangeSpec := { name := "fnExactCountBurntBy", fn := fun _ => fun
  | [d] => { results := [.lit (.bool true)], args := [d] }
  | _ => none }
def fnExactCountBurntByRow : OpenClaim := { program := "ytakgmcfpdbeajaa", sum := "58c53d0f3894c5e6f7f506fb3493fc132620a1d78b38166612a216bc6d696201", func := "loop.example/g01221/laws.FnExactCountBurntBy", spec := "fnExactCountBurntBy", unfollowed := true, recurses := true, plainKeys := false, apart := false }
def FnExactCountBurntBySaid : Prop := fnExactCountBurntByRow.holds Try.pinned (OpenSpec.ofChange fnExactCountBurntBySpec)

/-- ITS FALSE NEIGHBOUR: 'it returns false'. Refute it at one input. -/
def fnExactCountBurntByWrong : ChangeSpec := { name := "fnExactCountBurntBy", fn := fun _ => fun
  | [d] => { results := [.lit (.bool false)], args := [d] }
  | _ => none }
def FnExactCountBurntByWrongFalsely : Prop := fnExactCountBurntByRow.holds Try.pinned (OpenSpec.ofChange fnExactCountBurntByWrong)

/-- 'laws.FnExactWorstBurnt': WHATEVER THE INPUT: true; the input reads as it did. -/
def fnExactWorstBurntSpec : ChangeSpec := { name := "fnExactWorstBurnt", fn := fun _ => fun
  | [d] => { results := [.lit (.bool true)], args := [d] }
  | _ => none }
def fnExactWorstBurntRow : OpenClaim := { program := "ytakgmcfpdbeajaa", sum := "58c53d0f3894c5e6f7f506fb3493fc132620a1d78b38166612a216bc6d696201", func := "loop.example/g01221/laws.FnExactWorstBurnt", spec := "fnExactWorstBurnt", unfollowed := true, recurses := true, plainKeys := false, apart := false }
def FnExactWorstBurntSaid : Prop := fnExactWorstBurntRow.holds Try.pinned (OpenSpec.ofChange fnExactWorstBurntSpec)

/-- ITS FALSE NEIGHBOUR: 'it returns false'. Refute it at one input. -/
def fnExactWorstBurntWrong : ChangeSpec := { name := "fnExactWorstBurnt", fn := fun _ => fun
  | [d] => { results := [.lit (.bool false)], args := [d] }
  | _ => none }
def FnExactWorstBurntWrongFalsely : Prop := fnExactWorstBurntRow.holds Try.pinned (OpenSpec.ofChange fnExactWorstBurntWrong)

/-- 'laws.FnExactAllBurnt': WHATEVER THE INPUT: true; the input reads as it did. -/
def fnExactAllBurntSpec : ChangeSpec := { name := "fnExactAllBurnt", fn := fun _ => fun
  | [d] => { results := [.lit (.bool true)], args := [d] }
  | _ => none }
def fnExactAllBurntRow : OpenClaim := { program := "ytakgmcfpdbeajaa", sum := "58c53d0f3894c5e6f7f506fb3493fc132620a1d78b38166612a216bc6d696201", func := "loop.example/g01221/laws.FnExactAllBurnt", spec := "fnExactAllBurnt", plainKeys := false, apart := false }
def FnExactAllBurntSaid : Prop := fnExactAllBurntRow.holds Try.pinned (OpenSpec.ofChange fnExactAllBurntSpec)

/-- ITS FALSE NEIGHBOUR: 'it returns false'. Refute it at one input. -/
def fnExactAllBurntWrong : ChangeSpec := { name := "fnExactAllBurnt", fn := fun _ => fun
  | [d] => { results := [.lit (.bool false)], args := [d] }
  | _ => none }
def FnExactAllBurntWrongFalsely : Prop := fnExactAllBurntRow.holds Try.pinned (OpenSpec.ofChange fnExactAllBurntWrong)

/-- 'laws.FnExactForgetSides': WHATEVER THE INPUT: true; the input reads as it did. -/
def fnExactForgetSidesSpec : ChangeSpec := { name := "fnExactForgetSides", fn := fun _ => fun
  | [d] => { results := [.lit (.bool true)], args := [d] }
  | _ => none }
def fnExactForgetSidesRow : OpenClaim := { program := "ytakgmcfpdbeajaa", sum := "58c53d0f3894c5e6f7f506fb3493fc132620a1d78b38166612a216bc6d696201", func := "loop.example/g01221/laws.FnExactForgetSides", spec := "fnExactForgetSides", plainKeys := false, apart := false }
def FnExactForgetSidesSaid : Prop := fnExactForgetSidesRow.holds Try.pinned (OpenSpec.ofChange fnExactForgetSidesSpec)

/-- ITS FALSE NEIGHBOUR: 'it returns false'. Refute it at one input. -/
def fnExactForgetSidesWrong : ChangeSpec := { name := "fnExactForgetSides", fn := fun _ => fun
  | [d] => { results := [.lit (.bool false)], args := [d] }
  | _ => none }
def FnExactForgetSidesWrongFalsely : Prop := fnExactForgetSidesRow.holds Try.pinned (OpenSpec.ofChange fnExactForgetSidesWrong)

/-- 'laws.FnExactDoubleStack': WHATEVER THE INPUT: true; the input reads as it did. -/
def fnExactDoubleStackSpec : ChangeSpec := { name := "fnExactDoubleStack", fn := fun _ => fun
  | [d] => { results := [.lit (.bool true)], args := [d] }
  | _ => none }
def fnExactDoubleStackRow : OpenClaim := { program := "ytakgmcfpdbeajaa", sum := "58c53d0f3894c5e6f7f506fb3493fc132620a1d78b38166612a216bc6d696201", func := "loop.example/g01221/laws.FnExactDoubleStack", spec := "fnExactDoubleStack", plainKeys := false, apart := false }
def FnExactDoubleStackSaid : Prop := fnExactDoubleStackRow.holds Try.pinned (OpenSpec.ofChange fnExactDoubleStackSpec)

/-- ITS FALSE NEIGHBOUR: 'it returns false'. Refute it at one input. -/
def fnExactDoubleStackWrong : ChangeSpec := { name := "fnExactDoubleStack", fn := fun _ => fun
  | [d] => { results := [.lit (.bool false)], args := [d] }
  | _ => none }
def FnExactDoubleStackWrongFalsely : Prop := fnExactDoubleStackRow.holds Try.pinned (OpenSpec.ofChange fnExactDoubleStackWrong)

/-- 'laws.FnExactHalveStack': WHATEVER THE INPUT: true; the input reads as it did. -/
def fnExactHalveStackSpec : ChangeSpec := { name := "fnExactHalveStack", fn := fun _ => fun
  | [d] => { results := [.lit (.bool true)], args := [d] }
  | _ => none }
def fnExactHalveStackRow : OpenClaim := { program := "ytakgmcfpdbeajaa", sum := "58c53d0f3894c5e6f7f506fb3493fc132620a1d78b38166612a216bc6d696201", func := "loop.example/g01221/laws.FnExactHalveStack", spec := "fnExactHalveStack", plainKeys := false, apart := false }
def FnExactHalveStackSaid : Prop := fnExactHalveStackRow.holds Try.pinned (OpenSpec.ofChange fnExactHalveStackSpec)

/-- ITS FALSE NEIGHBOUR: 'it returns false'. Refute it at one input. -/
def fnExactHalveStackWrong : ChangeSpec := { name := "fnExactHalveStack", fn := fun _ => fun
  | [d] => { results := [.lit (.bool false)], args := [d] }
  | _ => none }
def FnExactHalveStackWrongFalsely : Prop := fnExactHalveStackRow.holds Try.pinned (OpenSpec.ofChange fnExactHalveStackWrong)

/- THE SECOND FORM. 'bulk': how many values and letters a reading holds, each counted each time it is reached (what is shared counts as often as it is met; a slice's spare places count too). A statement '..UptoSaid' is the law's where the arguments, and the package variables that the reading takes, are together of bulk at most 1048576: NARROWER than '..Said'. Prove '..Said' where nothing that the law and all that it calls make is longer than what came in: it says more and counts as full. Else prove '..UptoSaid'. A law counts once. -/
mutual
def uptoBulk {H : Type} : DataW H → Nat
  | .lit (.string bytes) => bytes.length + 1
  | .lit _ => 1
  | .nil => 1
  | .ptr d => uptoBulk d + 1
  | .slice elems spare => uptoBulkAll elems + uptoBulkAll spare + 1
  | .agg parts => uptoBulkAll parts + 1
  | .iface _ d => uptoBulk d + 1
  | .map entries => uptoBulkEntries entries + 1
  | .held _ => 1
def uptoBulkAll {H : Type} : List (DataW H) → Nat
  | [] => 0
  | d :: r => uptoBulk d + uptoBulkAll r
def uptoBulkEntries {H : Type} : List (Lit × DataW H) → Nat
  | [] => 0
  | x :: r => uptoBulkEntry x + uptoBulkEntries r
def uptoBulkEntry {H : Type} : Lit × DataW H → Nat
  | (.string bytes, d) => bytes.length + uptoBulk d + 1
  | (_, d) => uptoBulk d + 1
 end
def uptoSmall : (H : Type) → List (DataW H) → Bool := fun _ ds => decide (uptoBulkAll ds ≤ 1048576)
def OpenSpec.upto (s : _root_.Go.ChangeSpec) : _root_.Go.OpenSpec := { _root_.Go.OpenSpec.ofChange s with cond := some uptoSmall }

/-- 'laws.FnExactCountNoPairs', WHERE WHAT IT READS IS OF BULK AT MOST 1048576: true; the input reads as it did. -/
def fnExactCountNoPairsUptoRow : OpenClaim := { program := "ytakgmcfpdbeajaa", sum := "58c53d0f3894c5e6f7f506fb3493fc132620a1d78b38166612a216bc6d696201", func := "loop.example/g01221/laws.FnExactCountNoPairs", spec := "fnExactCountNoPairs", unfollowed := true, recurses := true, plainKeys := false, apart := false, narrowed := true }
def FnExactCountNoPairsUptoSaid : Prop := fnExactCountNoPairsUptoRow.holds Try.pinned (OpenSpec.upto fnExactCountNoPairsSpec)

/-- 'laws.FnExactFirstNoPair', WHERE WHAT IT READS IS OF BULK AT MOST 1048576: true; the input reads as it did. -/
def fnExactFirstNoPairUptoRow : OpenClaim := { program := "ytakgmcfpdbeajaa", sum := "58c53d0f3894c5e6f7f506fb3493fc132620a1d78b38166612a216bc6d696201", func := "loop.example/g01221/laws.FnExactFirstNoPair", spec := "fnExactFirstNoPair", unfollowed := true, recurses := true, plainKeys := false, apart := false, narrowed := true }
def FnExactFirstNoPairUptoSaid : Prop := fnExactFirstNoPairUptoRow.holds Try.pinned (OpenSpec.upto fnExactFirstNoPairSpec)

/-- 'laws.FnExactMostByGreedy', WHERE WHAT IT READS IS OF BULK AT MOST 1048576: true; the input reads as it did. -/
def fnExactMostByGreedyUptoRow : OpenClaim := { program := "ytakgmcfpdbeajaa", sum := "58c53d0f3894c5e6f7f506fb3493fc132620a1d78b38166612a216bc6d696201", func := "loop.example/g01221/laws.FnExactMostByGreedy", spec := "fnExactMostByGreedy", unfollowed := true, recurses := true, plainKeys := false, apart := false, narrowed := true }
def FnExactMostByGreedyUptoSaid : Prop := fnExactMostByGreedyUptoRow.holds Try.pinned (OpenSpec.upto fnExactMostByGreedySpec)

/-- 'laws.FnExactWorstStacks', WHERE WHAT IT READS IS OF BULK AT MOST 1048576: true; the input reads as it did. -/
def fnExactWorstStacksUptoRow : OpenClaim := { program := "ytakgmcfpdbeajaa", sum := "58c53d0f3894c5e6f7f506fb3493fc132620a1d78b38166612a216bc6d696201", func := "loop.example/g01221/laws.FnExactWorstStacks", spec := "fnExactWorstStacks", unfollowed := true, recurses := true, plainKeys := false, apart := false, narrowed := true }
def FnExactWorstStacksUptoSaid : Prop := fnExactWorstStacksUptoRow.holds Try.pinned (OpenSpec.upto fnExactWorstStacksSpec)

/-- 'laws.FnExactIsBurnt', WHERE WHAT IT READS IS OF BULK AT MOST 1048576: true; the input reads as it did. -/
def fnExactIsBurntUptoRow : OpenClaim := { program := "ytakgmcfpdbeajaa", sum := "58c53d0f3894c5e6f7f506fb3493fc132620a1d78b38166612a216bc6d696201", func := "loop.example/g01221/laws.FnExactIsBurnt", spec := "fnExactIsBurnt", plainKeys := false, apart := false, narrowed := true }
def FnExactIsBurntUptoSaid : Prop := fnExactIsBurntUptoRow.holds Try.pinned (OpenSpec.upto fnExactIsBurntSpec)

/-- 'laws.FnExactTurnBurnt', WHERE WHAT IT READS IS OF BULK AT MOST 1048576: true; the input reads as it did. -/
def fnExactTurnBurntUptoRow : OpenClaim := { program := "ytakgmcfpdbeajaa", sum := "58c53d0f3894c5e6f7f506fb3493fc132620a1d78b38166612a216bc6d696201", func := "loop.example/g01221/laws.FnExactTurnBurnt", spec := "fnExactTurnBurnt", unfollowed := true, recurses := true, plainKeys := false, apart := false, narrowed := true }
def FnExactTurnBurntUptoSaid : Prop := fnExactTurnBurntUptoRow.holds Try.pinned (OpenSpec.upto fnExactTurnBurntSpec)

/-- 'laws.FnExactPlayBurnt', WHERE WHAT IT READS IS OF BULK AT MOST 1048576: true; the input reads as it did. -/
def fnExactPlayBurntUptoRow : OpenClaim := { program := "ytakgmcfpdbeajaa", sum := "58c53d0f3894c5e6f7f506fb3493fc132620a1d78b38166612a216bc6d696201", func := "loop.example/g01221/laws.FnExactPlayBurnt", spec := "fnExactPlayBurnt", unfollowed := true, recurses := true, plainKeys := false, apart := false, narrowed := true }
def FnExactPlayBurntUptoSaid : Prop := fnExactPlayBurntUptoRow.holds Try.pinned (OpenSpec.upto fnExactPlayBurntSpec)

/-- 'laws.FnExactIsBurntSorted', WHERE WHAT IT READS IS OF BULK AT MOST 1048576: true; the input reads as it did. -/
def fnExactIsBurntSortedUptoRow : OpenClaim := { program := "ytakgmcfpdbeajaa", sum := "58c53d0f3894c5e6f7f506fb3493fc132620a1d78b38166612a216bc6d696201", func := "loop.example/g01221/laws.FnExactIsBurntSorted", spec := "fnExactIsBurntSorted", plainKeys := false, apart := false, narrowed := true }
def FnExactIsBurntSortedUptoSaid : Prop := fnExactIsBurntSortedUptoRow.holds Try.pinned (OpenSpec.upto fnExactIsBurntSortedSpec)

/-- 'laws.FnExactBurntGaps', WHERE WHAT IT READS IS OF BULK AT MOST 1048576: true; the input reads as it did. -/
def fnExactBurntGapsUptoRow : OpenClaim := { program := "ytakgmcfpdbeajaa", sum := "58c53d0f3894c5e6f7f506fb3493fc132620a1d78b38166612a216bc6d696201", func := "loop.example/g01221/laws.FnExactBurntGaps", spec := "fnExactBurntGaps", unfollowed := true, recurses := true, plainKeys := false, apart := false, narrowed := true }
def FnExactBurntGapsUptoSaid : Prop := fnExactBurntGapsUptoRow.holds Try.pinned (OpenSpec.upto fnExactBurntGapsSpec)

/-- 'laws.FnExactBurntGreedy', WHERE WHAT IT READS IS OF BULK AT MOST 1048576: true; the input reads as it did. -/
def fnExactBurntGreedyUptoRow : OpenClaim := { program := "ytakgmcfpdbeajaa", sum := "58c53d0f3894c5e6f7f506fb3493fc132620a1d78b38166612a216bc6d696201", func := "loop.example/g01221/laws.FnExactBurntGreedy", spec := "fnExactBurntGreedy", plainKeys := false, apart := false, narrowed := true }
def FnExactBurntGreedyUptoSaid : Prop := fnExactBurntGreedyUptoRow.holds Try.pinned (OpenSpec.upto fnExactBurntGreedySpec)

/-- 'laws.FnExactBurntDistance', WHERE WHAT IT READS IS OF BULK AT MOST 1048576: true; the input reads as it did. -/
def fnExactBurntDistanceUptoRow : OpenClaim := { program := "ytakgmcfpdbeajaa", sum := "58c53d0f3894c5e6f7f506fb3493fc132620a1d78b38166612a216bc6d696201", func := "loop.example/g01221/laws.FnExactBurntDistance", spec := "fnExactBurntDistance", unfollowed := true, recurses := true, plainKeys := false, apart := false, narrowed := true }
def FnExactBurntDistanceUptoSaid : Prop := fnExactBurntDistanceUptoRow.holds Try.pinned (OpenSpec.upto fnExactBurntDistanceSpec)

/-- 'laws.FnExactLeastBurnt', WHERE WHAT IT READS IS OF BULK AT MOST 1048576: true; the input reads as it did. -/
def fnExactLeastBurntUptoRow : OpenClaim := { program := "ytakgmcfpdbeajaa", sum := "58c53d0f3894c5e6f7f506fb3493fc132620a1d78b38166612a216bc6d696201", func := "loop.example/g01221/laws.FnExactLeastBurnt", spec := "fnExactLeastBurnt", unfollowed := true, recurses := true, plainKeys := false, apart := false, narrowed := true }
def FnExactLeastBurntUptoSaid : Prop := fnExactLeastBurntUptoRow.holds Try.pinned (OpenSpec.upto fnExactLeastBurntSpec)

/-- 'laws.FnExactCountBurntBy', WHERE WHAT IT READS IS OF BULK AT MOST 1048576: true; the input reads as it did. -/
def fnExactCountBurntByUptoRow : OpenClaim := { program := "ytakgmcfpdbeajaa", sum := "58c53d0f3894c5e6f7f506fb3493fc132620a1d78b38166612a216bc6d696201", func := "loop.example/g01221/laws.FnExactCountBurntBy", spec := "fnExactCountBurntBy", unfollowed := true, recurses := true, plainKeys := false, apart := false, narrowed := true }
def FnExactCountBurntByUptoSaid : Prop := fnExactCountBurntByUptoRow.holds Try.pinned (OpenSpec.upto fnExactCountBurntBySpec)

/-- 'laws.FnExactWorstBurnt', WHERE WHAT IT READS IS OF BULK AT MOST 1048576: true; the input reads as it did. -/
def fnExactWorstBurntUptoRow : OpenClaim := { program := "ytakgmcfpdbeajaa", sum := "58c53d0f3894c5e6f7f506fb3493fc132620a1d78b38166612a216bc6d696201", func := "loop.example/g01221/laws.FnExactWorstBurnt", spec := "fnExactWorstBurnt", unfollowed := true, recurses := true, plainKeys := false, apart := false, narrowed := true }
def FnExactWorstBurntUptoSaid : Prop := fnExactWorstBurntUptoRow.holds Try.pinned (OpenSpec.upto fnExactWorstBurntSpec)

/-- 'laws.FnExactAllBurnt', WHERE WHAT IT READS IS OF BULK AT MOST 1048576: true; the input reads as it did. -/
def fnExactAllBurntUptoRow : OpenClaim := { program := "ytakgmcfpdbeajaa", sum := "58c53d0f3894c5e6f7f506fb3493fc132620a1d78b38166612a216bc6d696201", func := "loop.example/g01221/laws.FnExactAllBurnt", spec := "fnExactAllBurnt", plainKeys := false, apart := false, narrowed := true }
def FnExactAllBurntUptoSaid : Prop := fnExactAllBurntUptoRow.holds Try.pinned (OpenSpec.upto fnExactAllBurntSpec)

/-- 'laws.FnExactForgetSides', WHERE WHAT IT READS IS OF BULK AT MOST 1048576: true; the input reads as it did. -/
def fnExactForgetSidesUptoRow : OpenClaim := { program := "ytakgmcfpdbeajaa", sum := "58c53d0f3894c5e6f7f506fb3493fc132620a1d78b38166612a216bc6d696201", func := "loop.example/g01221/laws.FnExactForgetSides", spec := "fnExactForgetSides", plainKeys := false, apart := false, narrowed := true }
def FnExactForgetSidesUptoSaid : Prop := fnExactForgetSidesUptoRow.holds Try.pinned (OpenSpec.upto fnExactForgetSidesSpec)

/-- 'laws.FnExactDoubleStack', WHERE WHAT IT READS IS OF BULK AT MOST 1048576: true; the input reads as it did. -/
def fnExactDoubleStackUptoRow : OpenClaim := { program := "ytakgmcfpdbeajaa", sum := "58c53d0f3894c5e6f7f506fb3493fc132620a1d78b38166612a216bc6d696201", func := "loop.example/g01221/laws.FnExactDoubleStack", spec := "fnExactDoubleStack", plainKeys := false, apart := false, narrowed := true }
def FnExactDoubleStackUptoSaid : Prop := fnExactDoubleStackUptoRow.holds Try.pinned (OpenSpec.upto fnExactDoubleStackSpec)

/-- 'laws.FnExactHalveStack', WHERE WHAT IT READS IS OF BULK AT MOST 1048576: true; the input reads as it did. -/
def fnExactHalveStackUptoRow : OpenClaim := { program := "ytakgmcfpdbeajaa", sum := "58c53d0f3894c5e6f7f506fb3493fc132620a1d78b38166612a216bc6d696201", func := "loop.example/g01221/laws.FnExactHalveStack", spec := "fnExactHalveStack", plainKeys := false, apart := false, narrowed := true }
def FnExactHalveStackUptoSaid : Prop := fnExactHalveStackUptoRow.holds Try.pinned (OpenSpec.upto fnExactHalveStackSpec)

end Rows
end Go.Proofs.Ytakgmcfpdbeajaa
