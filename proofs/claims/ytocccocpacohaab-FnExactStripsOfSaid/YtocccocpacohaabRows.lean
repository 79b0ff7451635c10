/-
  No cell of these rows narrows 'for every input' (looked for: loops, veiled, ifaces, maps, wideKeys, modest, calm, conditions, laid).
  DERIVED. THE GIVEN ROWS OF THIS SEAT. 15 by the template 'for every input the law returns true; each argument reads behind the call as it read before'; 0 by the template 'total and deterministic' (their statements: YtocccocpacohaabTotals.lean).
  GIVEN WITH THE SEED: the statements are not yours to turn. If you find one false, say at which input.
  Laid BY PROGRAM, IN A SANDBOX (cutbox-rows.mjs): the forced cells as the released guide's own fill.sh prints them over the translation 4a94bff100ab9b5f… (all of the seat's roots in one cut). By AI agents, Wed Nov 11 2026. No macro, syntax, notation, axiom, sorry.
-/
import Derived.Test.YtocccocpacohaabChecked
import GoSem.Claim
import GoSem.ClaimJoined
import GoSem.ClaimMapViews
import Derived.JoinedTies
import Derived.KernelRfl
namespace Go.Proofs.Ytocccocpacohaab
/- THE CELL 'sum', in the pinned program and in every row, IS THE sha256 OF THE DUMP (.gsa) THAT YtocccocpacohaabProg.lean LOADS. Nothing in Lean hashes anything: it is a label: what it is worth is what the hold of that sum in a sandbox is worth. -/
noncomputable def Try.pinned : Pinned := { name := "ytocccocpacohaab", sum := "4a94bff100ab9b5f249880eb5000798605ccc7228a6f3732e5515eceea0e9c34", checked := Try.checked }
namespace Rows
def none {H : Type} : Left H := { results := [], args := [] }

/-- 'laws.FnExactGapsOf': WHATEVER THE INPUT: true; the input reads as it did. -/
def fnExactGapsOfSpec : ChangeSpec := { name := "fnExactGapsOf", fn := fun _ => fun
  | [d] => { results := [.lit (.bool true)], args := [d] }
  | _ => none }
def fnExactGapsOfRow : OpenClaim := { program := "ytocccocpacohaab", sum := "4a94bff100ab9b5f249880eb5000798605ccc7228a6f3732e5515eceea0e9c34", func := "loop.example/g01221/laws.FnExactGapsOf", spec := "fnExactGapsOf", apart := false }
def FnExactGapsOfSaid : Prop := fnExactGapsOfRow.holds Try.pinned (OpenSpec.ofChange fnExactGapsOfSpec)

/-- ITS FALSE NEIGHBOUR: 'it returns false'. Refute it at one input. -/
def fnExactGapsOfWrong : ChangeSpec := { name := "fnExactGapsOf", fn := fun _ => fun
  | [d] => { results := [.lit (.bool false)], args := [d] }
  | _ => none }
def FnExactGapsOfWrongFalsely : Prop := fnExactGapsOfRow.holds Try.pinned (OpenSpec.ofChange fnExactGapsOfWrong)

/-- 'laws.FnExactCountGaps': WHATEVER THE INPUT: true; the input reads as it did. -/
def fnExactCountGapsSpec : ChangeSpec := { name := "fnExactCountGaps", fn := fun _ => fun
  | [d] => { results := [.lit (.bool true)], args := [d] }
  | _ => none }
def fnExactCountGapsRow : OpenClaim := { program := "ytocccocpacohaab", sum := "4a94bff100ab9b5f249880eb5000798605ccc7228a6f3732e5515eceea0e9c34", func := "loop.example/g01221/laws.FnExactCountGaps", spec := "fnExactCountGaps", apart := false }
def FnExactCountGapsSaid : Prop := fnExactCountGapsRow.holds Try.pinned (OpenSpec.ofChange fnExactCountGapsSpec)

/-- ITS FALSE NEIGHBOUR: 'it returns false'. Refute it at one input. -/
def fnExactCountGapsWrong : ChangeSpec := { name := "fnExactCountGaps", fn := fun _ => fun
  | [d] => { results := [.lit (.bool false)], args := [d] }
  | _ => none }
def FnExactCountGapsWrongFalsely : Prop := fnExactCountGapsRow.holds Try.pinned (OpenSpec.ofChange fnExactCountGapsWrong)

/-- 'laws.FnExactLowerBound': WHATEVER THE INPUT: true; the input reads as it did. -/
def fnExactLowerBoundSpec : ChangeSpec := { name := "fnExactLowerBound", fn := fun _ => fun
  | [d] => { results := [.lit (.bool true)], args := [d] }
  | _ => none }
def fnExactLowerBoundRow : OpenClaim := { program := "ytocccocpacohaab", sum := "4a94bff100ab9b5f249880eb5000798605ccc7228a6f3732e5515eceea0e9c34", func := "loop.example/g01221/laws.FnExactLowerBound", spec := "fnExactLowerBound", apart := false }
def FnExactLowerBoundSaid : Prop := fnExactLowerBoundRow.holds Try.pinned (OpenSpec.ofChange fnExactLowerBoundSpec)

/-- ITS FALSE NEIGHBOUR: 'it returns false'. Refute it at one input. -/
def fnExactLowerBoundWrong : ChangeSpec := { name := "fnExactLowerBound", fn := fun _ => fun
  | [d] => { results := [.lit (.bool false)], args := [d] }
  | _ => none }
def FnExactLowerBoundWrongFalsely : Prop := fnExactLowerBoundRow.holds Try.pinned (OpenSpec.ofChange fnExactLowerBoundWrong)

/-- 'laws.FnExactStripsOf': WHATEVER THE INPUT: true; the input reads as it did. -/
def fnExactStripsOfSpec : ChangeSpec := { name := "fnExactStripsOf", fn := fun _ => fun
  | [d] => { results := [.lit (.bool true)], args := [d] }
  | _ => none }
def fnExactStripsOfRow : OpenClaim := { program := "ytocccocpacohaab", sum := "4a94bff100ab9b5f249880eb5000798605ccc7228a6f3732e5515eceea0e9c34", func := "loop.example/g01221/laws.FnExactStripsOf", spec := "fnExactStripsOf", apart := false }
def FnExactStripsOfSaid : Prop := fnExactStripsOfRow.holds Try.pinned (OpenSpec.ofChange fnExactStripsOfSpec)

/-- ITS FALSE NEIGHBOUR: 'it returns false'. Refute it at one input. -/
def fnExactStripsOfWrong : ChangeSpec := { name := "fnExactStripsOf", fn := fun _ => fun
  | [d] => { results := [.lit (.bool false)], args := [d] }
  | _ => none }
def FnExactStripsOfWrongFalsely : Prop := fnExactStripsOfRow.holds Try.pinned (OpenSpec.ofChange fnExactStripsOfWrong)

/-- 'laws.FnExactGreedyPlan': WHATEVER THE INPUT: true; the input reads as it did. -/
def fnExactGreedyPlanSpec : ChangeSpec := { name := "fnExactGreedyPlan", fn := fun _ => fun
  | [d] => { results := [.lit (.bool true)], args := [d] }
  | _ => none }
def fnExactGreedyPlanRow : OpenClaim := { program := "ytocccocpacohaab", sum := "4a94bff100ab9b5f249880eb5000798605ccc7228a6f3732e5515eceea0e9c34", func := "loop.example/g01221/laws.FnExactGreedyPlan", spec := "fnExactGreedyPlan", apart := false }
def FnExactGreedyPlanSaid : Prop := fnExactGreedyPlanRow.holds Try.pinned (OpenSpec.ofChange fnExactGreedyPlanSpec)

/-- ITS FALSE NEIGHBOUR: 'it returns false'. Refute it at one input. -/
def fnExactGreedyPlanWrong : ChangeSpec := { name := "fnExactGreedyPlan", fn := fun _ => fun
  | [d] => { results := [.lit (.bool false)], args := [d] }
  | _ => none }
def FnExactGreedyPlanWrongFalsely : Prop := fnExactGreedyPlanRow.holds Try.pinned (OpenSpec.ofChange fnExactGreedyPlanWrong)

/-- 'laws.FnExactGreedyLength': WHATEVER THE INPUT: true; the input reads as it did. -/
def fnExactGreedyLengthSpec : ChangeSpec := { name := "fnExactGreedyLength", fn := fun _ => fun
  | [d] => { results := [.lit (.bool true)], args := [d] }
  | _ => none }
def fnExactGreedyLengthRow : OpenClaim := { program := "ytocccocpacohaab", sum := "4a94bff100ab9b5f249880eb5000798605ccc7228a6f3732e5515eceea0e9c34", func := "loop.example/g01221/laws.FnExactGreedyLength", spec := "fnExactGreedyLength", apart := false }
def FnExactGreedyLengthSaid : Prop := fnExactGreedyLengthRow.holds Try.pinned (OpenSpec.ofChange fnExactGreedyLengthSpec)

/-- ITS FALSE NEIGHBOUR: 'it returns false'. Refute it at one input. -/
def fnExactGreedyLengthWrong : ChangeSpec := { name := "fnExactGreedyLength", fn := fun _ => fun
  | [d] => { results := [.lit (.bool false)], args := [d] }
  | _ => none }
def FnExactGreedyLengthWrongFalsely : Prop := fnExactGreedyLengthRow.holds Try.pinned (OpenSpec.ofChange fnExactGreedyLengthWrong)

/-- 'laws.FnExactGapTurns': WHATEVER THE INPUT: true; the input reads as it did. -/
def fnExactGapTurnsSpec : ChangeSpec := { name := "fnExactGapTurns", fn := fun _ => fun
  | [d] => { results := [.lit (.bool true)], args := [d] }
  | _ => none }
def fnExactGapTurnsRow : OpenClaim := { program := "ytocccocpacohaab", sum := "4a94bff100ab9b5f249880eb5000798605ccc7228a6f3732e5515eceea0e9c34", func := "loop.example/g01221/laws.FnExactGapTurns", spec := "fnExactGapTurns", apart := false }
def FnExactGapTurnsSaid : Prop := fnExactGapTurnsRow.holds Try.pinned (OpenSpec.ofChange fnExactGapTurnsSpec)

/-- ITS FALSE NEIGHBOUR: 'it returns false'. Refute it at one input. -/
def fnExactGapTurnsWrong : ChangeSpec := { name := "fnExactGapTurns", fn := fun _ => fun
  | [d] => { results := [.lit (.bool false)], args := [d] }
  | _ => none }
def FnExactGapTurnsWrongFalsely : Prop := fnExactGapTurnsRow.holds Try.pinned (OpenSpec.ofChange fnExactGapTurnsWrong)

/-- 'laws.FnExactGapPlan': WHATEVER THE INPUT: true; the input reads as it did. -/
def fnExactGapPlanSpec : ChangeSpec := { name := "fnExactGapPlan", fn := fun _ => fun
  | [d] => { results := [.lit (.bool true)], args := [d] }
  | _ => none }
def fnExactGapPlanRow : OpenClaim := { program := "ytocccocpacohaab", sum := "4a94bff100ab9b5f249880eb5000798605ccc7228a6f3732e5515eceea0e9c34", func := "loop.example/g01221/laws.FnExactGapPlan", spec := "fnExactGapPlan", apart := false }
def FnExactGapPlanSaid : Prop := fnExactGapPlanRow.holds Try.pinned (OpenSpec.ofChange fnExactGapPlanSpec)

/-- ITS FALSE NEIGHBOUR: 'it returns false'. Refute it at one input. -/
def fnExactGapPlanWrong : ChangeSpec := { name := "fnExactGapPlan", fn := fun _ => fun
  | [d] => { results := [.lit (.bool false)], args := [d] }
  | _ => none }
def FnExactGapPlanWrongFalsely : Prop := fnExactGapPlanRow.holds Try.pinned (OpenSpec.ofChange fnExactGapPlanWrong)

/-- 'laws.FnExactIsWaste': WHATEVER THE INPUT: true; the input reads as it did. -/
def fnExactIsWasteSpec : ChangeSpec := { name := "fnExactIsWaste", fn := fun _ => fun
  | [d1, d2] => { results := [.lit (.bool true)], args := [d1, d2] }
  | _ => none }
def fnExactIsWasteRow : OpenClaim := { program := "ytocccocpacohaab", sum := "4a94bff100ab9b5f249880eb5000798605ccc7228a6f3732e5515eceea0e9c34", func := "loop.example/g01221/laws.FnExactIsWaste", spec := "fnExactIsWaste", apart := false }
def FnExactIsWasteSaid : Prop := fnExactIsWasteRow.holds Try.pinned (OpenSpec.ofChange fnExactIsWasteSpec)

/-- ITS FALSE NEIGHBOUR: 'it returns false'. Refute it at one input. -/
def fnExactIsWasteWrong : ChangeSpec := { name := "fnExactIsWaste", fn := fun _ => fun
  | [d1, d2] => { results := [.lit (.bool false)], args := [d1, d2] }
  | _ => none }
def FnExactIsWasteWrongFalsely : Prop := fnExactIsWasteRow.holds Try.pinned (OpenSpec.ofChange fnExactIsWasteWrong)

/-- 'laws.FnExactCountGoodPairs': WHATEVER THE INPUT: true; the input reads as it did. -/
def fnExactCountGoodPairsSpec : ChangeSpec := { name := "fnExactCountGoodPairs", fn := fun _ => fun
  | [d] => { results := [.lit (.bool true)], args := [d] }
  | _ => none }
def fnExactCountGoodPairsRow : OpenClaim := { program := "ytocccocpacohaab", sum := "4a94bff100ab9b5f249880eb5000798605ccc7228a6f3732e5515eceea0e9c34", func := "loop.example/g01221/laws.FnExactCountGoodPairs", spec := "fnExactCountGoodPairs", apart := false }
def FnExactCountGoodPairsSaid : Prop := fnExactCountGoodPairsRow.holds Try.pinned (OpenSpec.ofChange fnExactCountGoodPairsSpec)

/-- ITS FALSE NEIGHBOUR: 'it returns false'. Refute it at one input. -/
def fnExactCountGoodPairsWrong : ChangeSpec := { name := "fnExactCountGoodPairs", fn := fun _ => fun
  | [d] => { results := [.lit (.bool false)], args := [d] }
  | _ => none }
def FnExactCountGoodPairsWrongFalsely : Prop := fnExactCountGoodPairsRow.holds Try.pinned (OpenSpec.ofChange fnExactCountGoodPairsWrong)

/-- 'laws.FnExactCountNoPairs': WHATEVER THE INPUT: true; the input reads as it did. -/
def fnExactCountNoPairsSpec : ChangeSpec := { name := "fnExactCountNoPairs", fn := fun _ => fun
  | [d] => { results := [.lit (.bool true)], args := [d] }
  | _ => none }
def fnExactCountNoPairsRow : OpenClaim := { program := "ytocccocpacohaab", sum := "4a94bff100ab9b5f249880eb5000798605ccc7228a6f3732e5515eceea0e9c34", func := "loop.example/g01221/laws.FnExactCountNoPairs", spec := "fnExactCountNoPairs", unfollowed := true, recurses := true, apart := false }
def FnExactCountNoPairsSaid : Prop := fnExactCountNoPairsRow.holds Try.pinned (OpenSpec.ofChange fnExactCountNoPairsSpec)

/-- ITS FALSE NEIGHBOUR: 'it returns false'. Refute it at one input. -/
def fnExactCountNoPairsWrong : ChangeSpec := { name := "fnExactCountNoPairs", fn := fun _ => fun
  | [d] => { results := [.lit (.bool false)], args := [d] }
  | _ => none }
def FnExactCountNoPairsWrongFalsely : Prop := fnExactCountNoPairsRow.holds Try.pinned (OpenSpec.ofChange fnExactCountNoPairsWrong)

/-- 'laws.FnExactFirstNoPair': WHATEVER THE INPUT: true; the input reads as it did. -/
def fnExactFirstNoPairSpec : ChangeSpec := { name := "fnExactFirstNoPair", fn := fun _ => fun
  | [d] => { results := [.lit (.bool true)], args := [d] }
  | _ => none }
def fnExactFirstNoPairRow : OpenClaim := { program := "ytocccocpacohaab", sum := "4a94bff100ab9b5f249880eb5000798605ccc7228a6f3732e5515eceea0e9c34", func := "loop.example/g01221/laws.FnExactFirstNoPair", spec := "fnExactFirstNoPair", unfollowed := true, recurses := true, apart := false }
def FnExactFirstNoPairSaid : Prop := fnExactFirstNoPairRow.holds Try.pinned (OpenSpec.ofChange fnExactFirstNoPairSpec)

/-- ITS FALSE NEIGHBOUR: 'it returns false'. Refute it at one input. -/
def fnExactFirstNoPairWrong : ChangeSpec := { name := "fnExactFirstNoPair", fn := fun _ => fun
  | [d] => { results := [.lit (.bool false)], args := [d] }
  | _ => none }
def FnExactFirstNoPairWrongFalsely : Prop := fnExactFirstNoPairRow.holds Try.pinned (OpenSpec.ofChange fnExactFirstNoPairWrong)

/-- 'laws.FnExactGapsAlong': WHATEVER THE INPUT: true; the input reads as it did. -/
def fnExactGapsAlongSpec : ChangeSpec := { name := "fnExactGapsAlong", fn := fun _ => fun
  | [d1, d2] => { results := [.lit (.bool true)], args := [d1, d2] }
  | _ => none }
def fnExactGapsAlongRow : OpenClaim := { program := "ytocccocpacohaab", sum := "4a94bff100ab9b5f249880eb5000798605ccc7228a6f3732e5515eceea0e9c34", func := "loop.example/g01221/laws.FnExactGapsAlong", spec := "fnExactGapsAlong", unfollowed := true, recurses := true, apart := false }
def FnExactGapsAlongSaid : Prop := fnExactGapsAlongRow.holds Try.pinned (OpenSpec.ofChange fnExactGapsAlongSpec)

/-- ITS FALSE NEIGHBOUR: 'it returns false'. Refute it at one input. -/
def fnExactGapsAlongWrong : ChangeSpec := { name := "fnExactGapsAlong", fn := fun _ => fun
  | [d1, d2] => { results := [.lit (.bool false)], args := [d1, d2] }
  | _ => none }
def FnExactGapsAlongWrongFalsely : Prop := fnExactGapsAlongRow.holds Try.pinned (OpenSpec.ofChange fnExactGapsAlongWrong)

/-- 'laws.FnExactMostByGreedy': WHATEVER THE INPUT: true; the input reads as it did. -/
def fnExactMostByGreedySpec : ChangeSpec := { name := "fnExactMostByGreedy", fn := fun _ => fun
  | [d] => { results := [.lit (.bool true)], args := [d] }
  | _ => none }
def fnExactMostByGreedyRow : OpenClaim := { program := "ytocccocpacohaab", sum := "4a94bff100ab9b5f249880eb5000798605ccc7228a6f3732e5515eceea0e9c34", func := "loop.example/g01221/laws.FnExactMostByGreedy", spec := "fnExactMostByGreedy", unfollowed := true, recurses := true, apart := false }
def FnExactMostByGreedySaid : Prop := fnExactMostByGreedyRow.holds Try.pinned (OpenSpec.ofChange fnExactMostByGreedySpec)

/-- ITS FALSE NEIGHBOUR: 'it returns false'. Refute it at one input. -/
def fnExactMostByGreedyWrong : ChangeSpec := { name := "fnExactMostByGreedy", fn := fun _ => fun
  | [d] => { results := [.lit (.bool false)], args := [d] }
  | _ => none }
def FnExactMostByGreedyWrongFalsely : Prop := fnExactMostByGreedyRow.holds Try.pinned (OpenSpec.ofChange fnExactMostByGreedyWrong)

/-- 'laws.FnExactTwoTurnSorts': WHATEVER THE INPUT: true; the input reads as it did. -/
def fnExactTwoTurnSortsSpec : ChangeSpec := { name := "fnExactTwoTurnSorts", fn := fun _ => fun
  | [d] => { results := [.lit (.bool true)], args := [d] }
  | _ => none }
def fnExactTwoTurnSortsRow : OpenClaim := { program := "ytocccocpacohaab", sum := "4a94bff100ab9b5f249880eb5000798605ccc7228a6f3732e5515eceea0e9c34", func := "loop.example/g01221/laws.FnExactTwoTurnSorts", spec := "fnExactTwoTurnSorts", apart := false }
def FnExactTwoTurnSortsSaid : Prop := fnExactTwoTurnSortsRow.holds Try.pinned (OpenSpec.ofChange fnExactTwoTurnSortsSpec)

/-- ITS FALSE NEIGHBOUR: 'it returns false'. Refute it at one input. -/
def fnExactTwoTurnSortsWrong : ChangeSpec := { name := "fnExactTwoTurnSorts", fn := fun _ => fun
  | [d] => { results := [.lit (.bool false)], args := [d] }
  | _ => none }
def FnExactTwoTurnSortsWrongFalsely : Prop := fnExactTwoTurnSortsRow.holds Try.pinned (OpenSpec.ofChange fnExactTwoTurnSortsWrong)

/- THE SECOND FORM. 'bulk': how many values and letters a reading holds, each counted each time it is reached (what is shared counts as often as it is met; a slice's spare places count too). A statement '..UptoSaid' is the law's where the arguments, and the package variables that the reading takes, are together of bulk at most 1048576: NARROWER than '..Said'. Prove '..Said' where nothing that the law and all that it calls make is longer than what came in: it says more and counts as full. Else prove '..UptoSaid'. A law counts once. -/
mutual
def uptoBulk {H : Type} : DataW H → Nat
  | .lit (.string bytes) => bytes.length + 1
  | .lit _ => 1
  | .nil => 1
  | .ptr d => uptoBulk d + 1
  | .slice elems spare => uptoBulkAll elems + uptoBulkAll spare + 1
  | .agg parts => uptoBulkAll parts + 1
  | .iface _ d => uptoBulk d + 1
  | .map entries => uptoBulkEntries entries + 1
  | .held _ => 1
def uptoBulkAll {H : Type} : List (DataW H) → Nat
  | [] => 0
  | d :: r => uptoBulk d + uptoBulkAll r
def uptoBulkEntries {H : Type} : List (Lit × DataW H) → Nat
  | [] => 0
  | x :: r => uptoBulkEntry x + uptoBulkEntries r
def uptoBulkEntry {H : Type} : Lit × DataW H → Nat
  | (.string bytes, d) => bytes.length + uptoBulk d + 1
  | (_, d) => uptoBulk d + 1
 end
def uptoSmall : (H : Type) → List (DataW H) → Bool := fun _ ds => decide (uptoBulkAll ds ≤ 1048576)
def OpenSpec.upto (s : _root_.Go.ChangeSpec) : _root_.Go.OpenSpec := { _root_.Go.OpenSpec.ofChange s with cond := some uptoSmall }

/-- 'laws.FnExactGapsOf', WHERE WHAT IT READS IS OF BULK AT MOST 1048576: true; the input reads as it did. -/
def fnExactGapsOfUptoRow : OpenClaim := { program := "ytocccocpacohaab", sum := "4a94bff100ab9b5f249880eb5000798605ccc7228a6f3732e5515eceea0e9c34", func := "loop.example/g01221/laws.FnExactGapsOf", spec := "fnExactGapsOf", apart := false, narrowed := true }
def FnExactGapsOfUptoSaid : Prop := fnExactGapsOfUptoRow.holds Try.pinned (OpenSpec.upto fnExactGapsOfSpec)

/-- 'laws.FnExactCountGaps', WHERE WHAT IT READS IS OF BULK AT MOST 1048576: true; the input reads as it did. -/
def fnExactCountGapsUptoRow : OpenClaim := { program := "ytocccocpacohaab", sum := "4a94bff100ab9b5f249880eb5000798605ccc7228a6f3732e5515eceea0e9c34", func := "loop.example/g01221/laws.FnExactCountGaps", spec := "fnExactCountGaps", apart := false, narrowed := true }
def FnExactCountGapsUptoSaid : Prop := fnExactCountGapsUptoRow.holds Try.pinned (OpenSpec.upto fnExactCountGapsSpec)

/-- 'laws.FnExactLowerBound', WHERE WHAT IT READS IS OF BULK AT MOST 1048576: true; the input reads as it did. -/
def fnExactLowerBoundUptoRow : OpenClaim := { program := "ytocccocpacohaab", sum := "4a94bff100ab9b5f249880eb5000798605ccc7228a6f3732e5515eceea0e9c34", func := "loop.example/g01221/laws.FnExactLowerBound", spec := "fnExactLowerBound", apart := false, narrowed := true }
def FnExactLowerBoundUptoSaid : Prop := fnExactLowerBoundUptoRow.holds Try.pinned (OpenSpec.upto fnExactLowerBoundSpec)

/-- 'laws.FnExactStripsOf', WHERE WHAT IT READS IS OF BULK AT MOST 1048576: true; the input reads as it did. -/
def fnExactStripsOfUptoRow : OpenClaim := { program := "ytocccocpacohaab", sum := "4a94bff100ab9b5f249880eb5000798605ccc7228a6f3732e5515eceea0e9c34", func := "loop.example/g01221/laws.FnExactStripsOf", spec := "fnExactStripsOf", apart := false, narrowed := true }
def FnExactStripsOfUptoSaid : Prop := fnExactStripsOfUptoRow.holds Try.pinned (OpenSpec.upto fnExactStripsOfSpec)

/-- 'laws.FnExactGreedyPlan', WHERE WHAT IT READS IS OF BULK AT MOST 1048576: true; the input reads as it did. -/
def fnExactGreedyPlanUptoRow : OpenClaim := { program := "ytocccocpacohaab", sum := "4a94bff100ab9b5f249880eb5000798605ccc7228a6f3732e5515eceea0e9c34", func := "loop.example/g01221/laws.FnExactGreedyPlan", spec := "fnExactGreedyPlan", apart := false, narrowed := true }
def FnExactGreedyPlanUptoSaid : Prop := fnExactGreedyPlanUptoRow.holds Try.pinned (OpenSpec.upto fnExactGreedyPlanSpec)

/-- 'laws.FnExactGreedyLength', WHERE WHAT IT READS IS OF BULK AT MOST 1048576: true; the input reads as it did. -/
def fnExactGreedyLengthUptoRow : OpenClaim := { program := "ytocccocpacohaab", sum := "4a94bff100ab9b5f249880eb5000798605ccc7228a6f3732e5515eceea0e9c34", func := "loop.example/g01221/laws.FnExactGreedyLength", spec := "fnExactGreedyLength", apart := false, narrowed := true }
def FnExactGreedyLengthUptoSaid : Prop := fnExactGreedyLengthUptoRow.holds Try.pinned (OpenSpec.upto fnExactGreedyLengthSpec)

/-- 'laws.FnExactGapTurns', WHERE WHAT IT READS IS OF BULK AT MOST 1048576: true; the input reads as it did. -/
def fnExactGapTurnsUptoRow : OpenClaim := { program := "ytocccocpacohaab", sum := "4a94bff100ab9b5f249880eb5000798605ccc7228a6f3732e5515eceea0e9c34", func := "loop.example/g01221/laws.FnExactGapTurns", spec := "fnExactGapTurns", apart := false, narrowed := true }
def FnExactGapTurnsUptoSaid : Prop := fnExactGapTurnsUptoRow.holds Try.pinned (OpenSpec.upto fnExactGapTurnsSpec)

/-- 'laws.FnExactGapPlan', WHERE WHAT IT READS IS OF BULK AT MOST 1048576: true; the input reads as it did. -/
def fnExactGapPlanUptoRow : OpenClaim := { program := "ytocccocpacohaab", sum := "4a94bff100ab9b5f249880eb5000798605ccc7228a6f3732e5515eceea0e9c34", func := "loop.example/g01221/laws.FnExactGapPlan", spec := "fnExactGapPlan", apart := false, narrowed := true }
def FnExactGapPlanUptoSaid : Prop := fnExactGapPlanUptoRow.holds Try.pinned (OpenSpec.upto fnExactGapPlanSpec)

/-- 'laws.FnExactIsWaste', WHERE WHAT IT READS IS OF BULK AT MOST 1048576: true; the input reads as it did. -/
def fnExactIsWasteUptoRow : OpenClaim := { program := "ytocccocpacohaab", sum := "4a94bff100ab9b5f249880eb5000798605ccc7228a6f3732e5515eceea0e9c34", func := "loop.example/g01221/laws.FnExactIsWaste", spec := "fnExactIsWaste", apart := false, narrowed := true }
def FnExactIsWasteUptoSaid : Prop := fnExactIsWasteUptoRow.holds Try.pinned (OpenSpec.upto fnExactIsWasteSpec)

/-- 'laws.FnExactCountGoodPairs', WHERE WHAT IT READS IS OF BULK AT MOST 1048576: true; the input reads as it did. -/
def fnExactCountGoodPairsUptoRow : OpenClaim := { program := "ytocccocpacohaab", sum := "4a94bff100ab9b5f249880eb5000798605ccc7228a6f3732e5515eceea0e9c34", func := "loop.example/g01221/laws.FnExactCountGoodPairs", spec := "fnExactCountGoodPairs", apart := false, narrowed := true }
def FnExactCountGoodPairsUptoSaid : Prop := fnExactCountGoodPairsUptoRow.holds Try.pinned (OpenSpec.upto fnExactCountGoodPairsSpec)

/-- 'laws.FnExactCountNoPairs', WHERE WHAT IT READS IS OF BULK AT MOST 1048576: true; the input reads as it did. -/
def fnExactCountNoPairsUptoRow : OpenClaim := { program := "ytocccocpacohaab", sum := "4a94bff100ab9b5f249880eb5000798605ccc7228a6f3732e5515eceea0e9c34", func := "loop.example/g01221/laws.FnExactCountNoPairs", spec := "fnExactCountNoPairs", unfollowed := true, recurses := true, apart := false, narrowed := true }
def FnExactCountNoPairsUptoSaid : Prop := fnExactCountNoPairsUptoRow.holds Try.pinned (OpenSpec.upto fnExactCountNoPairsSpec)

/-- 'laws.FnExactFirstNoPair', WHERE WHAT IT READS IS OF BULK AT MOST 1048576: true; the input reads as it did. -/
def fnExactFirstNoPairUptoRow : OpenClaim := { program := "ytocccocpacohaab", sum := "4a94bff100ab9b5f249880eb5000798605ccc7228a6f3732e5515eceea0e9c34", func := "loop.example/g01221/laws.FnExactFirstNoPair", spec := "fnExactFirstNoPair", unfollowed := true, recurses := true, apart := false, narrowed := true }
def FnExactFirstNoPairUptoSaid : Prop := fnExactFirstNoPairUptoRow.holds Try.pinned (OpenSpec.upto fnExactFirstNoPairSpec)

/-- 'laws.FnExactGapsAlong', WHERE WHAT IT READS IS OF BULK AT MOST 1048576: true; the input reads as it did. -/
def fnExactGapsAlongUptoRow : OpenClaim := { program := "ytocccocpacohaab", sum := "4a94bff100ab9b5f249880eb5000798605ccc7228a6f3732e5515eceea0e9c34", func := "loop.example/g01221/laws.FnExactGapsAlong", spec := "fnExactGapsAlong", unfollowed := true, recurses := true, apart := false, narrowed := true }
def FnExactGapsAlongUptoSaid : Prop := fnExactGapsAlongUptoRow.holds Try.pinned (OpenSpec.upto fnExactGapsAlongSpec)

/-- 'laws.FnExactMostByGreedy', WHERE WHAT IT READS IS OF BULK AT MOST 1048576: true; the input reads as it did. -/
def fnExactMostByGreedyUptoRow : OpenClaim := { program := "ytocccocpacohaab", sum := "4a94bff100ab9b5f249880eb5000798605ccc7228a6f3732e5515eceea0e9c34", func := "loop.example/g01221/laws.FnExactMostByGreedy", spec := "fnExactMostByGreedy", unfollowed := true, recurses := true, apart := false, narrowed := true }
def FnExactMostByGreedyUptoSaid : Prop := fnExactMostByGreedyUptoRow.holds Try.pinned (OpenSpec.upto fnExactMostByGreedySpec)

/-- 'laws.FnExactTwoTurnSorts', WHERE WHAT IT READS IS OF BULK AT MOST 1048576: true; the input reads as it did. -/
def fnExactTwoTurnSortsUptoRow : OpenClaim := { program := "ytocccocpacohaab", sum := "4a94bff100ab9b5f249880eb5000798605ccc7228a6f3732e5515eceea0e9c34", func := "loop.example/g01221/laws.FnExactTwoTurnSorts", spec := "fnExactTwoTurnSorts", apart := false, narrowed := true }
def FnExactTwoTurnSortsUptoSaid : Prop := fnExactTwoTurnSortsUptoRow.holds Try.pinned (OpenSpec.upto fnExactTwoTurnSortsSpec)

end Rows
end Go.Proofs.Ytocccocpacohaab
