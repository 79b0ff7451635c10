/-
  No cell of these rows narrows 'for every input' (looked for: loops, veiled, ifaces, maps, wideKeys, modest, calm, conditions, laid).
  DERIVED. THE GIVEN ROWS OF THIS SEAT. 19 by the template 'for every input the law returns true; each argument reads behind the call as it read before'; 0 by the template 'total and deterministic' (their statements: YtpclomokljgphaaTotals.lean).
  GIVEN WITH THE SEED: the statements are not yours to turn. If you find one false, say at which input.
  Laid BY PROGRAM, IN A SANDBOX (cutbox-rows.mjs): the forced cells as the released guide's own fill.sh prints them over the translation d0682efb1be36824… (all of the seat's roots in one cut). By AI agents, Wed Nov 11 2026. No macro, syntax, notation, axiom, sorry.
-/
import Derived.Test.YtpclomokljgphaaChecked
import GoSem.Claim
import GoSem.ClaimJoined
import GoSem.ClaimMapViews
import Derived.JoinedTies
import Derived.KernelRfl
namespace Go.Proofs.Ytpclomokljgphaa
/- THE CELL 'sum', in the pinned program and in every row, IS THE sha256 OF THE DUMP (.gsa) THAT YtpclomokljgphaaProg.lean LOADS. Nothing in Lean hashes anything: it is a label: what it is worth is what the hold of that sum in a sandbox is worth. -/
noncomputable def Try.pinned : Pinned := { name := "ytpclomokljgphaa", sum := "d0682efb1be36824350b4ade26a4e41def3261e468738d1ace5a4b5e41ce82a0", checked := Try.checked }
namespace Rows
def none {H : Type} : Left H := { results := [], args := [] }

/-- 'laws.FnExactTopStep': WHATEVER THE INPUT: true; the input reads as it did. -/
def fnExactTopStepSpec : ChangeSpec := { name := "fnExactTopStep", fn := fun _ => fun
  | [d] => { results := [.lit (.bool true)], args := [d] }
  | _ => none }
def fnExactTopStepRow : OpenClaim := { program := "ytpclomokljgphaa", sum := "d0682efb1be36824350b4ade26a4e41def3261e468738d1ace5a4b5e41ce82a0", func := "loop.example/g01221/laws.FnExactTopStep", spec := "fnExactTopStep", plainKeys := false, apart := false }
def FnExactTopStepSaid : Prop := fnExactTopStepRow.holds Try.pinned (OpenSpec.ofChange fnExactTopStepSpec)

/-- ITS FALSE NEIGHBOUR: 'it returns false'. Refute it at one input. -/
def fnExactTopStepWrong : ChangeSpec := { name := "fnExactTopStep", fn := fun _ => fun
  | [d] => { results := [.lit (.bool false)], args := [d] }
  | _ => none }
def FnExactTopStepWrongFalsely : Prop := fnExactTopStepRow.holds Try.pinned (OpenSpec.ofChange fnExactTopStepWrong)

/-- 'laws.FnExactTopGame': WHATEVER THE INPUT: true; the input reads as it did. -/
def fnExactTopGameSpec : ChangeSpec := { name := "fnExactTopGame", fn := fun _ => fun
  | [d] => { results := [.lit (.bool true)], args := [d] }
  | _ => none }
def fnExactTopGameRow : OpenClaim := { program := "ytpclomokljgphaa", sum := "d0682efb1be36824350b4ade26a4e41def3261e468738d1ace5a4b5e41ce82a0", func := "loop.example/g01221/laws.FnExactTopGame", spec := "fnExactTopGame", plainKeys := false, leaving := true, apart := false }
def FnExactTopGameSaid : Prop := fnExactTopGameRow.holds Try.pinned (OpenSpec.ofChange fnExactTopGameSpec)

/-- ITS FALSE NEIGHBOUR: 'it returns false'. Refute it at one input. -/
def fnExactTopGameWrong : ChangeSpec := { name := "fnExactTopGame", fn := fun _ => fun
  | [d] => { results := [.lit (.bool false)], args := [d] }
  | _ => none }
def FnExactTopGameWrongFalsely : Prop := fnExactTopGameRow.holds Try.pinned (OpenSpec.ofChange fnExactTopGameWrong)

/-- 'laws.FnExactTopSteps': WHATEVER THE INPUT: true; the input reads as it did. -/
def fnExactTopStepsSpec : ChangeSpec := { name := "fnExactTopSteps", fn := fun _ => fun
  | [d] => { results := [.lit (.bool true)], args := [d] }
  | _ => none }
def fnExactTopStepsRow : OpenClaim := { program := "ytpclomokljgphaa", sum := "d0682efb1be36824350b4ade26a4e41def3261e468738d1ace5a4b5e41ce82a0", func := "loop.example/g01221/laws.FnExactTopSteps", spec := "fnExactTopSteps", plainKeys := false, leaving := true, apart := false }
def FnExactTopStepsSaid : Prop := fnExactTopStepsRow.holds Try.pinned (OpenSpec.ofChange fnExactTopStepsSpec)

/-- ITS FALSE NEIGHBOUR: 'it returns false'. Refute it at one input. -/
def fnExactTopStepsWrong : ChangeSpec := { name := "fnExactTopSteps", fn := fun _ => fun
  | [d] => { results := [.lit (.bool false)], args := [d] }
  | _ => none }
def FnExactTopStepsWrongFalsely : Prop := fnExactTopStepsRow.holds Try.pinned (OpenSpec.ofChange fnExactTopStepsWrong)

/-- 'laws.FnExactTopEnd': WHATEVER THE INPUT: true; the input reads as it did. -/
def fnExactTopEndSpec : ChangeSpec := { name := "fnExactTopEnd", fn := fun _ => fun
  | [d] => { results := [.lit (.bool true)], args := [d] }
  | _ => none }
def fnExactTopEndRow : OpenClaim := { program := "ytpclomokljgphaa", sum := "d0682efb1be36824350b4ade26a4e41def3261e468738d1ace5a4b5e41ce82a0", func := "loop.example/g01221/laws.FnExactTopEnd", spec := "fnExactTopEnd", plainKeys := false, leaving := true, apart := false }
def FnExactTopEndSaid : Prop := fnExactTopEndRow.holds Try.pinned (OpenSpec.ofChange fnExactTopEndSpec)

/-- ITS FALSE NEIGHBOUR: 'it returns false'. Refute it at one input. -/
def fnExactTopEndWrong : ChangeSpec := { name := "fnExactTopEnd", fn := fun _ => fun
  | [d] => { results := [.lit (.bool false)], args := [d] }
  | _ => none }
def FnExactTopEndWrongFalsely : Prop := fnExactTopEndRow.holds Try.pinned (OpenSpec.ofChange fnExactTopEndWrong)

/-- 'laws.FnExactStacksBefore': WHATEVER THE INPUT: true; the input reads as it did. -/
def fnExactStacksBeforeSpec : ChangeSpec := { name := "fnExactStacksBefore", fn := fun _ => fun
  | [d] => { results := [.lit (.bool true)], args := [d] }
  | _ => none }
def fnExactStacksBeforeRow : OpenClaim := { program := "ytpclomokljgphaa", sum := "d0682efb1be36824350b4ade26a4e41def3261e468738d1ace5a4b5e41ce82a0", func := "loop.example/g01221/laws.FnExactStacksBefore", spec := "fnExactStacksBefore", plainKeys := false, apart := false }
def FnExactStacksBeforeSaid : Prop := fnExactStacksBeforeRow.holds Try.pinned (OpenSpec.ofChange fnExactStacksBeforeSpec)

/-- ITS FALSE NEIGHBOUR: 'it returns false'. Refute it at one input. -/
def fnExactStacksBeforeWrong : ChangeSpec := { name := "fnExactStacksBefore", fn := fun _ => fun
  | [d] => { results := [.lit (.bool false)], args := [d] }
  | _ => none }
def FnExactStacksBeforeWrongFalsely : Prop := fnExactStacksBeforeRow.holds Try.pinned (OpenSpec.ofChange fnExactStacksBeforeWrong)

/-- 'laws.FnExactLongestTop': WHATEVER THE INPUT: true; the input reads as it did. -/
def fnExactLongestTopSpec : ChangeSpec := { name := "fnExactLongestTop", fn := fun _ => fun
  | [d] => { results := [.lit (.bool true)], args := [d] }
  | _ => none }
def fnExactLongestTopRow : OpenClaim := { program := "ytpclomokljgphaa", sum := "d0682efb1be36824350b4ade26a4e41def3261e468738d1ace5a4b5e41ce82a0", func := "loop.example/g01221/laws.FnExactLongestTop", spec := "fnExactLongestTop", unfollowed := true, recurses := true, plainKeys := false, leaving := true, apart := false }
def FnExactLongestTopSaid : Prop := fnExactLongestTopRow.holds Try.pinned (OpenSpec.ofChange fnExactLongestTopSpec)

/-- ITS FALSE NEIGHBOUR: 'it returns false'. Refute it at one input. -/
def fnExactLongestTopWrong : ChangeSpec := { name := "fnExactLongestTop", fn := fun _ => fun
  | [d] => { results := [.lit (.bool false)], args := [d] }
  | _ => none }
def FnExactLongestTopWrongFalsely : Prop := fnExactLongestTopRow.holds Try.pinned (OpenSpec.ofChange fnExactLongestTopWrong)

/-- 'laws.FnExactCountLongest': WHATEVER THE INPUT: true; the input reads as it did. -/
def fnExactCountLongestSpec : ChangeSpec := { name := "fnExactCountLongest", fn := fun _ => fun
  | [d] => { results := [.lit (.bool true)], args := [d] }
  | _ => none }
def fnExactCountLongestRow : OpenClaim := { program := "ytpclomokljgphaa", sum := "d0682efb1be36824350b4ade26a4e41def3261e468738d1ace5a4b5e41ce82a0", func := "loop.example/g01221/laws.FnExactCountLongest", spec := "fnExactCountLongest", unfollowed := true, recurses := true, plainKeys := false, leaving := true, apart := false }
def FnExactCountLongestSaid : Prop := fnExactCountLongestRow.holds Try.pinned (OpenSpec.ofChange fnExactCountLongestSpec)

/-- ITS FALSE NEIGHBOUR: 'it returns false'. Refute it at one input. -/
def fnExactCountLongestWrong : ChangeSpec := { name := "fnExactCountLongest", fn := fun _ => fun
  | [d] => { results := [.lit (.bool false)], args := [d] }
  | _ => none }
def FnExactCountLongestWrongFalsely : Prop := fnExactCountLongestRow.holds Try.pinned (OpenSpec.ofChange fnExactCountLongestWrong)

/-- 'laws.FnExactCountBySteps': WHATEVER THE INPUT: true; the input reads as it did. -/
def fnExactCountByStepsSpec : ChangeSpec := { name := "fnExactCountBySteps", fn := fun _ => fun
  | [d] => { results := [.lit (.bool true)], args := [d] }
  | _ => none }
def fnExactCountByStepsRow : OpenClaim := { program := "ytpclomokljgphaa", sum := "d0682efb1be36824350b4ade26a4e41def3261e468738d1ace5a4b5e41ce82a0", func := "loop.example/g01221/laws.FnExactCountBySteps", spec := "fnExactCountBySteps", unfollowed := true, recurses := true, plainKeys := false, leaving := true, apart := false }
def FnExactCountByStepsSaid : Prop := fnExactCountByStepsRow.holds Try.pinned (OpenSpec.ofChange fnExactCountByStepsSpec)

/-- ITS FALSE NEIGHBOUR: 'it returns false'. Refute it at one input. -/
def fnExactCountByStepsWrong : ChangeSpec := { name := "fnExactCountBySteps", fn := fun _ => fun
  | [d] => { results := [.lit (.bool false)], args := [d] }
  | _ => none }
def FnExactCountByStepsWrongFalsely : Prop := fnExactCountByStepsRow.holds Try.pinned (OpenSpec.ofChange fnExactCountByStepsWrong)

/-- 'laws.FnExactIsHome': WHATEVER THE INPUT: true; the input reads as it did. -/
def fnExactIsHomeSpec : ChangeSpec := { name := "fnExactIsHome", fn := fun _ => fun
  | [d] => { results := [.lit (.bool true)], args := [d] }
  | _ => none }
def fnExactIsHomeRow : OpenClaim := { program := "ytpclomokljgphaa", sum := "d0682efb1be36824350b4ade26a4e41def3261e468738d1ace5a4b5e41ce82a0", func := "loop.example/g01221/laws.FnExactIsHome", spec := "fnExactIsHome", plainKeys := false, apart := false }
def FnExactIsHomeSaid : Prop := fnExactIsHomeRow.holds Try.pinned (OpenSpec.ofChange fnExactIsHomeSpec)

/-- ITS FALSE NEIGHBOUR: 'it returns false'. Refute it at one input. -/
def fnExactIsHomeWrong : ChangeSpec := { name := "fnExactIsHome", fn := fun _ => fun
  | [d] => { results := [.lit (.bool false)], args := [d] }
  | _ => none }
def FnExactIsHomeWrongFalsely : Prop := fnExactIsHomeRow.holds Try.pinned (OpenSpec.ofChange fnExactIsHomeWrong)

/-- 'laws.FnExactTopsSeen': WHATEVER THE INPUT: true; the input reads as it did. -/
def fnExactTopsSeenSpec : ChangeSpec := { name := "fnExactTopsSeen", fn := fun _ => fun
  | [d] => { results := [.lit (.bool true)], args := [d] }
  | _ => none }
def fnExactTopsSeenRow : OpenClaim := { program := "ytpclomokljgphaa", sum := "d0682efb1be36824350b4ade26a4e41def3261e468738d1ace5a4b5e41ce82a0", func := "loop.example/g01221/laws.FnExactTopsSeen", spec := "fnExactTopsSeen", plainKeys := false, leaving := true, apart := false }
def FnExactTopsSeenSaid : Prop := fnExactTopsSeenRow.holds Try.pinned (OpenSpec.ofChange fnExactTopsSeenSpec)

/-- ITS FALSE NEIGHBOUR: 'it returns false'. Refute it at one input. -/
def fnExactTopsSeenWrong : ChangeSpec := { name := "fnExactTopsSeen", fn := fun _ => fun
  | [d] => { results := [.lit (.bool false)], args := [d] }
  | _ => none }
def FnExactTopsSeenWrongFalsely : Prop := fnExactTopsSeenRow.holds Try.pinned (OpenSpec.ofChange fnExactTopsSeenWrong)

/-- 'laws.FnExactBottomGame': WHATEVER THE INPUT: true; the input reads as it did. -/
def fnExactBottomGameSpec : ChangeSpec := { name := "fnExactBottomGame", fn := fun _ => fun
  | [d] => { results := [.lit (.bool true)], args := [d] }
  | _ => none }
def fnExactBottomGameRow : OpenClaim := { program := "ytpclomokljgphaa", sum := "d0682efb1be36824350b4ade26a4e41def3261e468738d1ace5a4b5e41ce82a0", func := "loop.example/g01221/laws.FnExactBottomGame", spec := "fnExactBottomGame", unfollowed := true, recurses := true, plainKeys := false, leaving := true, apart := false }
def FnExactBottomGameSaid : Prop := fnExactBottomGameRow.holds Try.pinned (OpenSpec.ofChange fnExactBottomGameSpec)

/-- ITS FALSE NEIGHBOUR: 'it returns false'. Refute it at one input. -/
def fnExactBottomGameWrong : ChangeSpec := { name := "fnExactBottomGame", fn := fun _ => fun
  | [d] => { results := [.lit (.bool false)], args := [d] }
  | _ => none }
def FnExactBottomGameWrongFalsely : Prop := fnExactBottomGameRow.holds Try.pinned (OpenSpec.ofChange fnExactBottomGameWrong)

/-- 'laws.FnExactCountGame': WHATEVER THE INPUT: true; the input reads as it did. -/
def fnExactCountGameSpec : ChangeSpec := { name := "fnExactCountGame", fn := fun _ => fun
  | [d1, d2] => { results := [.lit (.bool true)], args := [d1, d2] }
  | _ => none }
def fnExactCountGameRow : OpenClaim := { program := "ytpclomokljgphaa", sum := "d0682efb1be36824350b4ade26a4e41def3261e468738d1ace5a4b5e41ce82a0", func := "loop.example/g01221/laws.FnExactCountGame", spec := "fnExactCountGame", plainKeys := false, apart := false }
def FnExactCountGameSaid : Prop := fnExactCountGameRow.holds Try.pinned (OpenSpec.ofChange fnExactCountGameSpec)

/-- ITS FALSE NEIGHBOUR: 'it returns false'. Refute it at one input. -/
def fnExactCountGameWrong : ChangeSpec := { name := "fnExactCountGame", fn := fun _ => fun
  | [d1, d2] => { results := [.lit (.bool false)], args := [d1, d2] }
  | _ => none }
def FnExactCountGameWrongFalsely : Prop := fnExactCountGameRow.holds Try.pinned (OpenSpec.ofChange fnExactCountGameWrong)

/-- 'laws.FnExactCardGame': WHATEVER THE INPUT: true; the input reads as it did. -/
def fnExactCardGameSpec : ChangeSpec := { name := "fnExactCardGame", fn := fun _ => fun
  | [d1, d2] => { results := [.lit (.bool true)], args := [d1, d2] }
  | _ => none }
def fnExactCardGameRow : OpenClaim := { program := "ytpclomokljgphaa", sum := "d0682efb1be36824350b4ade26a4e41def3261e468738d1ace5a4b5e41ce82a0", func := "loop.example/g01221/laws.FnExactCardGame", spec := "fnExactCardGame", unfollowed := true, recurses := true, plainKeys := false, leaving := true, apart := false }
def FnExactCardGameSaid : Prop := fnExactCardGameRow.holds Try.pinned (OpenSpec.ofChange fnExactCardGameSpec)

/-- ITS FALSE NEIGHBOUR: 'it returns false'. Refute it at one input. -/
def fnExactCardGameWrong : ChangeSpec := { name := "fnExactCardGame", fn := fun _ => fun
  | [d1, d2] => { results := [.lit (.bool false)], args := [d1, d2] }
  | _ => none }
def FnExactCardGameWrongFalsely : Prop := fnExactCardGameRow.holds Try.pinned (OpenSpec.ofChange fnExactCardGameWrong)

/-- 'laws.FnExactTreeSize': WHATEVER THE INPUT: true; the input reads as it did. -/
def fnExactTreeSizeSpec : ChangeSpec := { name := "fnExactTreeSize", fn := fun _ => fun
  | [d] => { results := [.lit (.bool true)], args := [d] }
  | _ => none }
def fnExactTreeSizeRow : OpenClaim := { program := "ytpclomokljgphaa", sum := "d0682efb1be36824350b4ade26a4e41def3261e468738d1ace5a4b5e41ce82a0", func := "loop.example/g01221/laws.FnExactTreeSize", spec := "fnExactTreeSize", unfollowed := true, recurses := true, plainKeys := false, leaving := true, apart := false }
def FnExactTreeSizeSaid : Prop := fnExactTreeSizeRow.holds Try.pinned (OpenSpec.ofChange fnExactTreeSizeSpec)

/-- ITS FALSE NEIGHBOUR: 'it returns false'. Refute it at one input. -/
def fnExactTreeSizeWrong : ChangeSpec := { name := "fnExactTreeSize", fn := fun _ => fun
  | [d] => { results := [.lit (.bool false)], args := [d] }
  | _ => none }
def FnExactTreeSizeWrongFalsely : Prop := fnExactTreeSizeRow.holds Try.pinned (OpenSpec.ofChange fnExactTreeSizeWrong)

/-- 'laws.FnExactDepthBefore': WHATEVER THE INPUT: true; the input reads as it did. -/
def fnExactDepthBeforeSpec : ChangeSpec := { name := "fnExactDepthBefore", fn := fun _ => fun
  | [d] => { results := [.lit (.bool true)], args := [d] }
  | _ => none }
def fnExactDepthBeforeRow : OpenClaim := { program := "ytpclomokljgphaa", sum := "d0682efb1be36824350b4ade26a4e41def3261e468738d1ace5a4b5e41ce82a0", func := "loop.example/g01221/laws.FnExactDepthBefore", spec := "fnExactDepthBefore", unfollowed := true, recurses := true, plainKeys := false, leaving := true, apart := false }
def FnExactDepthBeforeSaid : Prop := fnExactDepthBeforeRow.holds Try.pinned (OpenSpec.ofChange fnExactDepthBeforeSpec)

/-- ITS FALSE NEIGHBOUR: 'it returns false'. Refute it at one input. -/
def fnExactDepthBeforeWrong : ChangeSpec := { name := "fnExactDepthBefore", fn := fun _ => fun
  | [d] => { results := [.lit (.bool false)], args := [d] }
  | _ => none }
def FnExactDepthBeforeWrongFalsely : Prop := fnExactDepthBeforeRow.holds Try.pinned (OpenSpec.ofChange fnExactDepthBeforeWrong)

/-- 'laws.FnExactStacksAlong': WHATEVER THE INPUT: true; the input reads as it did. -/
def fnExactStacksAlongSpec : ChangeSpec := { name := "fnExactStacksAlong", fn := fun _ => fun
  | [d1, d2] => { results := [.lit (.bool true)], args := [d1, d2] }
  | _ => none }
def fnExactStacksAlongRow : OpenClaim := { program := "ytpclomokljgphaa", sum := "d0682efb1be36824350b4ade26a4e41def3261e468738d1ace5a4b5e41ce82a0", func := "loop.example/g01221/laws.FnExactStacksAlong", spec := "fnExactStacksAlong", unfollowed := true, recurses := true, plainKeys := false, leaving := true, apart := false }
def FnExactStacksAlongSaid : Prop := fnExactStacksAlongRow.holds Try.pinned (OpenSpec.ofChange fnExactStacksAlongSpec)

/-- ITS FALSE NEIGHBOUR: 'it returns false'. Refute it at one input. -/
def fnExactStacksAlongWrong : ChangeSpec := { name := "fnExactStacksAlong", fn := fun _ => fun
  | [d1, d2] => { results := [.lit (.bool false)], args := [d1, d2] }
  | _ => none }
def FnExactStacksAlongWrongFalsely : Prop := fnExactStacksAlongRow.holds Try.pinned (OpenSpec.ofChange fnExactStacksAlongWrong)

/-- 'laws.FnExactFirstNoPair': WHATEVER THE INPUT: true; the input reads as it did. -/
def fnExactFirstNoPairSpec : ChangeSpec := { name := "fnExactFirstNoPair", fn := fun _ => fun
  | [d] => { results := [.lit (.bool true)], args := [d] }
  | _ => none }
def fnExactFirstNoPairRow : OpenClaim := { program := "ytpclomokljgphaa", sum := "d0682efb1be36824350b4ade26a4e41def3261e468738d1ace5a4b5e41ce82a0", func := "loop.example/g01221/laws.FnExactFirstNoPair", spec := "fnExactFirstNoPair", unfollowed := true, recurses := true, plainKeys := false, leaving := true, apart := false }
def FnExactFirstNoPairSaid : Prop := fnExactFirstNoPairRow.holds Try.pinned (OpenSpec.ofChange fnExactFirstNoPairSpec)

/-- ITS FALSE NEIGHBOUR: 'it returns false'. Refute it at one input. -/
def fnExactFirstNoPairWrong : ChangeSpec := { name := "fnExactFirstNoPair", fn := fun _ => fun
  | [d] => { results := [.lit (.bool false)], args := [d] }
  | _ => none }
def FnExactFirstNoPairWrongFalsely : Prop := fnExactFirstNoPairRow.holds Try.pinned (OpenSpec.ofChange fnExactFirstNoPairWrong)

/-- 'laws.FnExactMostByGreedy': WHATEVER THE INPUT: true; the input reads as it did. -/
def fnExactMostByGreedySpec : ChangeSpec := { name := "fnExactMostByGreedy", fn := fun _ => fun
  | [d] => { results := [.lit (.bool true)], args := [d] }
  | _ => none }
def fnExactMostByGreedyRow : OpenClaim := { program := "ytpclomokljgphaa", sum := "d0682efb1be36824350b4ade26a4e41def3261e468738d1ace5a4b5e41ce82a0", func := "loop.example/g01221/laws.FnExactMostByGreedy", spec := "fnExactMostByGreedy", unfollowed := true, recurses := true, plainKeys := false, leaving := true, apart := false }
def FnExactMostByGreedySaid : Prop := fnExactMostByGreedyRow.holds Try.pinned (OpenSpec.ofChange fnExactMostByGreedySpec)

/-- ITS FALSE NEIGHBOUR: 'it returns false'. Refute it at one input. -/
def fnExactMostByGreedyWrong : ChangeSpec := { name := "fnExactMostByGreedy", fn := fun _ => fun
  | [d] => { results := [.lit (.bool false)], args := [d] }
  | _ => none }
def FnExactMostByGreedyWrongFalsely : Prop := fnExactMostByGreedyRow.holds Try.pinned (OpenSpec.ofChange fnExactMostByGreedyWrong)

/-- 'laws.FnExactWorstBurnt': WHATEVER THE INPUT: true; the input reads as it did. -/
def fnExactWorstBurntSpec : ChangeSpec := { name := "fnExactWorstBurnt", fn := fun _ => fun
  | [d] => { results := [.lit (.bool true)], args := [d] }
  | _ => none }
def fnExactWorstBurntRow : OpenClaim := { program := "ytpclomokljgphaa", sum := "d0682efb1be36824350b4ade26a4e41def3261e468738d1ace5a4b5e41ce82a0", func := "loop.example/g01221/laws.FnExactWorstBurnt", spec := "fnExactWorstBurnt", unfollowed := true, recurses := true, plainKeys := false, leaving := true, apart := false }
def FnExactWorstBurntSaid : Prop := fnExactWorstBurntRow.holds Try.pinned (OpenSpec.ofChange fnExactWorstBurntSpec)

/-- ITS FALSE NEIGHBOUR: 'it returns false'. Refute it at one input. -/
def fnExactWorstBurntWrong : ChangeSpec := { name := "fnExactWorstBurnt", fn := fun _ => fun
  | [d] => { results := [.lit (.bool false)], args := [d] }
  | _ => none }
def FnExactWorstBurntWrongFalsely : Prop := fnExactWorstBurntRow.holds Try.pinned (OpenSpec.ofChange fnExactWorstBurntWrong)

/- THE SECOND FORM. 'bulk': how many values and letters a reading holds, each counted each time it is reached (what is shared counts as often as it is met; a slice's spare places count too). A statement '..UptoSaid' is the law's where the arguments, and the package variables that the reading takes, are together of bulk at most 1048576: NARROWER than '..Said'. Prove '..Said' where nothing that the law and all that it calls make is longer than what came in: it says more and counts as full. Else prove '..UptoSaid'. A law counts once. -/
mutual
def uptoBulk {H : Type} : DataW H → Nat
  | .lit (.string bytes) => bytes.length + 1
  | .lit _ => 1
  | .nil => 1
  | .ptr d => uptoBulk d + 1
  | .slice elems spare => uptoBulkAll elems + uptoBulkAll spare + 1
  | .agg parts => uptoBulkAll parts + 1
  | .iface _ d => uptoBulk d + 1
  | .map entries => uptoBulkEntries entries + 1
  | .held _ => 1
def uptoBulkAll {H : Type} : List (DataW H) → Nat
  | [] => 0
  | d :: r => uptoBulk d + uptoBulkAll r
def uptoBulkEntries {H : Type} : List (Lit × DataW H) → Nat
  | [] => 0
  | x :: r => uptoBulkEntry x + uptoBulkEntries r
def uptoBulkEntry {H : Type} : Lit × DataW H → Nat
  | (.string bytes, d) => bytes.length + uptoBulk d + 1
  | (_, d) => uptoBulk d + 1
 end
def uptoSmall : (H : Type) → List (DataW H) → Bool := fun _ ds => decide (uptoBulkAll ds ≤ 1048576)
def OpenSpec.upto (s : _root_.Go.ChangeSpec) : _root_.Go.OpenSpec := { _root_.Go.OpenSpec.ofChange s with cond := some uptoSmall }

/-- 'laws.FnExactTopStep', WHERE WHAT IT READS IS OF BULK AT MOST 1048576: true; the input reads as it did. -/
def fnExactTopStepUptoRow : OpenClaim := { program := "ytpclomokljgphaa", sum := "d0682efb1be36824350b4ade26a4e41def3261e468738d1ace5a4b5e41ce82a0", func := "loop.example/g01221/laws.FnExactTopStep", spec := "fnExactTopStep", plainKeys := false, apart := false, narrowed := true }
def FnExactTopStepUptoSaid : Prop := fnExactTopStepUptoRow.holds Try.pinned (OpenSpec.upto fnExactTopStepSpec)

/-- 'laws.FnExactTopGame', WHERE WHAT IT READS IS OF BULK AT MOST 1048576: true; the input reads as it did. -/
def fnExactTopGameUptoRow : OpenClaim := { program := "ytpclomokljgphaa", sum := "d0682efb1be36824350b4ade26a4e41def3261e468738d1ace5a4b5e41ce82a0", func := "loop.example/g01221/laws.FnExactTopGame", spec := "fnExactTopGame", plainKeys := false, leaving := true, apart := false, narrowed := true }
def FnExactTopGameUptoSaid : Prop := fnExactTopGameUptoRow.holds Try.pinned (OpenSpec.upto fnExactTopGameSpec)

/-- 'laws.FnExactTopSteps', WHERE WHAT IT READS IS OF BULK AT MOST 1048576: true; the input reads as it did. -/
def fnExactTopStepsUptoRow : OpenClaim := { program := "ytpclomokljgphaa", sum := "d0682efb1be36824350b4ade26a4e41def3261e468738d1ace5a4b5e41ce82a0", func := "loop.example/g01221/laws.FnExactTopSteps", spec := "fnExactTopSteps", plainKeys := false, leaving := true, apart := false, narrowed := true }
def FnExactTopStepsUptoSaid : Prop := fnExactTopStepsUptoRow.holds Try.pinned (OpenSpec.upto fnExactTopStepsSpec)

/-- 'laws.FnExactTopEnd', WHERE WHAT IT READS IS OF BULK AT MOST 1048576: true; the input reads as it did. -/
def fnExactTopEndUptoRow : OpenClaim := { program := "ytpclomokljgphaa", sum := "d0682efb1be36824350b4ade26a4e41def3261e468738d1ace5a4b5e41ce82a0", func := "loop.example/g01221/laws.FnExactTopEnd", spec := "fnExactTopEnd", plainKeys := false, leaving := true, apart := false, narrowed := true }
def FnExactTopEndUptoSaid : Prop := fnExactTopEndUptoRow.holds Try.pinned (OpenSpec.upto fnExactTopEndSpec)

/-- 'laws.FnExactStacksBefore', WHERE WHAT IT READS IS OF BULK AT MOST 1048576: true; the input reads as it did. -/
def fnExactStacksBeforeUptoRow : OpenClaim := { program := "ytpclomokljgphaa", sum := "d0682efb1be36824350b4ade26a4e41def3261e468738d1ace5a4b5e41ce82a0", func := "loop.example/g01221/laws.FnExactStacksBefore", spec := "fnExactStacksBefore", plainKeys := false, apart := false, narrowed := true }
def FnExactStacksBeforeUptoSaid : Prop := fnExactStacksBeforeUptoRow.holds Try.pinned (OpenSpec.upto fnExactStacksBeforeSpec)

/-- 'laws.FnExactLongestTop', WHERE WHAT IT READS IS OF BULK AT MOST 1048576: true; the input reads as it did. -/
def fnExactLongestTopUptoRow : OpenClaim := { program := "ytpclomokljgphaa", sum := "d0682efb1be36824350b4ade26a4e41def3261e468738d1ace5a4b5e41ce82a0", func := "loop.example/g01221/laws.FnExactLongestTop", spec := "fnExactLongestTop", unfollowed := true, recurses := true, plainKeys := false, leaving := true, apart := false, narrowed := true }
def FnExactLongestTopUptoSaid : Prop := fnExactLongestTopUptoRow.holds Try.pinned (OpenSpec.upto fnExactLongestTopSpec)

/-- 'laws.FnExactCountLongest', WHERE WHAT IT READS IS OF BULK AT MOST 1048576: true; the input reads as it did. -/
def fnExactCountLongestUptoRow : OpenClaim := { program := "ytpclomokljgphaa", sum := "d0682efb1be36824350b4ade26a4e41def3261e468738d1ace5a4b5e41ce82a0", func := "loop.example/g01221/laws.FnExactCountLongest", spec := "fnExactCountLongest", unfollowed := true, recurses := true, plainKeys := false, leaving := true, apart := false, narrowed := true }
def FnExactCountLongestUptoSaid : Prop := fnExactCountLongestUptoRow.holds Try.pinned (OpenSpec.upto fnExactCountLongestSpec)

/-- 'laws.FnExactCountBySteps', WHERE WHAT IT READS IS OF BULK AT MOST 1048576: true; the input reads as it did. -/
def fnExactCountByStepsUptoRow : OpenClaim := { program := "ytpclomokljgphaa", sum := "d0682efb1be36824350b4ade26a4e41def3261e468738d1ace5a4b5e41ce82a0", func := "loop.example/g01221/laws.FnExactCountBySteps", spec := "fnExactCountBySteps", unfollowed := true, recurses := true, plainKeys := false, leaving := true, apart := false, narrowed := true }
def FnExactCountByStepsUptoSaid : Prop := fnExactCountByStepsUptoRow.holds Try.pinned (OpenSpec.upto fnExactCountByStepsSpec)

/-- 'laws.FnExactIsHome', WHERE WHAT IT READS IS OF BULK AT MOST 1048576: true; the input reads as it did. -/
def fnExactIsHomeUptoRow : OpenClaim := { program := "ytpclomokljgphaa", sum := "d0682efb1be36824350b4ade26a4e41def3261e468738d1ace5a4b5e41ce82a0", func := "loop.example/g01221/laws.FnExactIsHome", spec := "fnExactIsHome", plainKeys := false, apart := false, narrowed := true }
def FnExactIsHomeUptoSaid : Prop := fnExactIsHomeUptoRow.holds Try.pinned (OpenSpec.upto fnExactIsHomeSpec)

/-- 'laws.FnExactTopsSeen', WHERE WHAT IT READS IS OF BULK AT MOST 1048576: true; the input reads as it did. -/
def fnExactTopsSeenUptoRow : OpenClaim := { program := "ytpclomokljgphaa", sum := "d0682efb1be36824350b4ade26a4e41def3261e468738d1ace5a4b5e41ce82a0", func := "loop.example/g01221/laws.FnExactTopsSeen", spec := "fnExactTopsSeen", plainKeys := false, leaving := true, apart := false, narrowed := true }
def FnExactTopsSeenUptoSaid : Prop := fnExactTopsSeenUptoRow.holds Try.pinned (OpenSpec.upto fnExactTopsSeenSpec)

/-- 'laws.FnExactBottomGame', WHERE WHAT IT READS IS OF BULK AT MOST 1048576: true; the input reads as it did. -/
def fnExactBottomGameUptoRow : OpenClaim := { program := "ytpclomokljgphaa", sum := "d0682efb1be36824350b4ade26a4e41def3261e468738d1ace5a4b5e41ce82a0", func := "loop.example/g01221/laws.FnExactBottomGame", spec := "fnExactBottomGame", unfollowed := true, recurses := true, plainKeys := false, leaving := true, apart := false, narrowed := true }
def FnExactBottomGameUptoSaid : Prop := fnExactBottomGameUptoRow.holds Try.pinned (OpenSpec.upto fnExactBottomGameSpec)

/-- 'laws.FnExactCountGame', WHERE WHAT IT READS IS OF BULK AT MOST 1048576: true; the input reads as it did. -/
def fnExactCountGameUptoRow : OpenClaim := { program := "ytpclomokljgphaa", sum := "d0682efb1be36824350b4ade26a4e41def3261e468738d1ace5a4b5e41ce82a0", func := "loop.example/g01221/laws.FnExactCountGame", spec := "fnExactCountGame", plainKeys := false, apart := false, narrowed := true }
def FnExactCountGameUptoSaid : Prop := fnExactCountGameUptoRow.holds Try.pinned (OpenSpec.upto fnExactCountGameSpec)

/-- 'laws.FnExactCardGame', WHERE WHAT IT READS IS OF BULK AT MOST 1048576: true; the input reads as it did. -/
def fnExactCardGameUptoRow : OpenClaim := { program := "ytpclomokljgphaa", sum := "d0682efb1be36824350b4ade26a4e41def3261e468738d1ace5a4b5e41ce82a0", func := "loop.example/g01221/laws.FnExactCardGame", spec := "fnExactCardGame", unfollowed := true, recurses := true, plainKeys := false, leaving := true, apart := false, narrowed := true }
def FnExactCardGameUptoSaid : Prop := fnExactCardGameUptoRow.holds Try.pinned (OpenSpec.upto fnExactCardGameSpec)

/-- 'laws.FnExactTreeSize', WHERE WHAT IT READS IS OF BULK AT MOST 1048576: true; the input reads as it did. -/
def fnExactTreeSizeUptoRow : OpenClaim := { program := "ytpclomokljgphaa", sum := "d0682efb1be36824350b4ade26a4e41def3261e468738d1ace5a4b5e41ce82a0", func := "loop.example/g01221/laws.FnExactTreeSize", spec := "fnExactTreeSize", unfollowed := true, recurses := true, plainKeys := false, leaving := true, apart := false, narrowed := true }
def FnExactTreeSizeUptoSaid : Prop := fnExactTreeSizeUptoRow.holds Try.pinned (OpenSpec.upto fnExactTreeSizeSpec)

/-- 'laws.FnExactDepthBefore', WHERE WHAT IT READS IS OF BULK AT MOST 1048576: true; the input reads as it did. -/
def fnExactDepthBeforeUptoRow : OpenClaim := { program := "ytpclomokljgphaa", sum := "d0682efb1be36824350b4ade26a4e41def3261e468738d1ace5a4b5e41ce82a0", func := "loop.example/g01221/laws.FnExactDepthBefore", spec := "fnExactDepthBefore", unfollowed := true, recurses := true, plainKeys := false, leaving := true, apart := false, narrowed := true }
def FnExactDepthBeforeUptoSaid : Prop := fnExactDepthBeforeUptoRow.holds Try.pinned (OpenSpec.upto fnExactDepthBeforeSpec)

/-- 'laws.FnExactStacksAlong', WHERE WHAT IT READS IS OF BULK AT MOST 1048576: true; the input reads as it did. -/
def fnExactStacksAlongUptoRow : OpenClaim := { program := "ytpclomokljgphaa", sum := "d0682efb1be36824350b4ade26a4e41def3261e468738d1ace5a4b5e41ce82a0", func := "loop.example/g01221/laws.FnExactStacksAlong", spec := "fnExactStacksAlong", unfollowed := true, recurses := true, plainKeys := false, leaving := true, apart := false, narrowed := true }
def FnExactStacksAlongUptoSaid : Prop := fnExactStacksAlongUptoRow.holds Try.pinned (OpenSpec.upto fnExactStacksAlongSpec)

/-- 'laws.FnExactFirstNoPair', WHERE WHAT IT READS IS OF BULK AT MOST 1048576: true; the input reads as it did. -/
def fnExactFirstNoPairUptoRow : OpenClaim := { program := "ytpclomokljgphaa", sum := "d0682efb1be36824350b4ade26a4e41def3261e468738d1ace5a4b5e41ce82a0", func := "loop.example/g01221/laws.FnExactFirstNoPair", spec := "fnExactFirstNoPair", unfollowed := true, recurses := true, plainKeys := false, leaving := true, apart := false, narrowed := true }
def FnExactFirstNoPairUptoSaid : Prop := fnExactFirstNoPairUptoRow.holds Try.pinned (OpenSpec.upto fnExactFirstNoPairSpec)

/-- 'laws.FnExactMostByGreedy', WHERE WHAT IT READS IS OF BULK AT MOST 1048576: true; the input reads as it did. -/
def fnExactMostByGreedyUptoRow : OpenClaim := { program := "ytpclomokljgphaa", sum := "d0682efb1be36824350b4ade26a4e41def3261e468738d1ace5a4b5e41ce82a0", func := "loop.example/g01221/laws.FnExactMostByGreedy", spec := "fnExactMostByGreedy", unfollowed := true, recurses := true, plainKeys := false, leaving := true, apart := false, narrowed := true }
def FnExactMostByGreedyUptoSaid : Prop := fnExactMostByGreedyUptoRow.holds Try.pinned (OpenSpec.upto fnExactMostByGreedySpec)

/-- 'laws.FnExactWorstBurnt', WHERE WHAT IT READS IS OF BULK AT MOST 1048576: true; the input reads as it did. -/
def fnExactWorstBurntUptoRow : OpenClaim := { program := "ytpclomokljgphaa", sum := "d0682efb1be36824350b4ade26a4e41def3261e468738d1ace5a4b5e41ce82a0", func := "loop.example/g01221/laws.FnExactWorstBurnt", spec := "fnExactWorstBurnt", unfollowed := true, recurses := true, plainKeys := false, leaving := true, apart := false, narrowed := true }
def FnExactWorstBurntUptoSaid : Prop := fnExactWorstBurntUptoRow.holds Try.pinned (OpenSpec.upto fnExactWorstBurntSpec)

end Rows
end Go.Proofs.Ytpclomokljgphaa
