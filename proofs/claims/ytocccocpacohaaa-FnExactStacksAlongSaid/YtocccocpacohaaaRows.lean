/-
  No cell of these rows narrows 'for every input' (looked for: loops, veiled, ifaces, maps, wideKeys, modest, calm, conditions, laid).
  DERIVED. THE GIVEN ROWS OF THIS SEAT. 20 by the template 'for every input the law returns true; each argument reads behind the call as it read before'; 0 by the template 'total and deterministic' (their statements: YtocccocpacohaaaTotals.lean).
  GIVEN WITH THE SEED: the statements are not yours to turn. If you find one false, say at which input.
  Laid BY PROGRAM, IN A SANDBOX (cutbox-rows.mjs): the forced cells as the released guide's own fill.sh prints them over the translation 6acbfccbe011f1df… (all of the seat's roots in one cut). By AI agents, Wed Nov 11 2026. No macro, syntax, notation, axiom, sorry.
-/
import Derived.Test.YtocccocpacohaaaChecked
import GoSem.Claim
import GoSem.ClaimJoined
import GoSem.ClaimMapViews
import Derived.JoinedTies
import Derived.KernelRfl
namespace Go.Proofs.Ytocccocpacohaaa
/- THE CELL 'sum', in the pinned program and in every row, IS THE sha256 OF THE DUMP (.gsa) THAT YtocccocpacohaaaProg.lean LOADS. Nothing in Lean hashes anything: it is a label: what it is worth is what the hold of that sum in a sandbox is worth. -/
noncomputable def Try.pinned : Pinned := { name := "ytocccocpacohaaa", sum := "6acbfccbe011f1dfa76d5483f10a786d1f4da4f625fb3198d443ba0613d1af03", checked := Try.checked }
namespace Rows
def none {H : Type} : Left H := { results := [], args := [] }

/-- 'laws.FnExactIsStack': WHATEVER THE INPUT: true; the input reads as it did. -/
def fnExactIsStackSpec : ChangeSpec := { name := "fnExactIsStack", fn := fun _ => fun
  | [d] => { results := [.lit (.bool true)], args := [d] }
  | _ => none }
def fnExactIsStackRow : OpenClaim := { program := "ytocccocpacohaaa", sum := "6acbfccbe011f1dfa76d5483f10a786d1f4da4f625fb3198d443ba0613d1af03", func := "loop.example/g01221/laws.FnExactIsStack", spec := "fnExactIsStack", apart := false }
def FnExactIsStackSaid : Prop := fnExactIsStackRow.holds Try.pinned (OpenSpec.ofChange fnExactIsStackSpec)

/-- ITS FALSE NEIGHBOUR: 'it returns false'. Refute it at one input. -/
def fnExactIsStackWrong : ChangeSpec := { name := "fnExactIsStack", fn := fun _ => fun
  | [d] => { results := [.lit (.bool false)], args := [d] }
  | _ => none }
def FnExactIsStackWrongFalsely : Prop := fnExactIsStackRow.holds Try.pinned (OpenSpec.ofChange fnExactIsStackWrong)

/-- 'laws.FnExactIsSortedStack': WHATEVER THE INPUT: true; the input reads as it did. -/
def fnExactIsSortedStackSpec : ChangeSpec := { name := "fnExactIsSortedStack", fn := fun _ => fun
  | [d] => { results := [.lit (.bool true)], args := [d] }
  | _ => none }
def fnExactIsSortedStackRow : OpenClaim := { program := "ytocccocpacohaaa", sum := "6acbfccbe011f1dfa76d5483f10a786d1f4da4f625fb3198d443ba0613d1af03", func := "loop.example/g01221/laws.FnExactIsSortedStack", spec := "fnExactIsSortedStack", apart := false }
def FnExactIsSortedStackSaid : Prop := fnExactIsSortedStackRow.holds Try.pinned (OpenSpec.ofChange fnExactIsSortedStackSpec)

/-- ITS FALSE NEIGHBOUR: 'it returns false'. Refute it at one input. -/
def fnExactIsSortedStackWrong : ChangeSpec := { name := "fnExactIsSortedStack", fn := fun _ => fun
  | [d] => { results := [.lit (.bool false)], args := [d] }
  | _ => none }
def FnExactIsSortedStackWrongFalsely : Prop := fnExactIsSortedStackRow.holds Try.pinned (OpenSpec.ofChange fnExactIsSortedStackWrong)

/-- 'laws.FnExactTurnStack': WHATEVER THE INPUT: true; the input reads as it did. -/
def fnExactTurnStackSpec : ChangeSpec := { name := "fnExactTurnStack", fn := fun _ => fun
  | [d1, d2] => { results := [.lit (.bool true)], args := [d1, d2] }
  | _ => none }
def fnExactTurnStackRow : OpenClaim := { program := "ytocccocpacohaaa", sum := "6acbfccbe011f1dfa76d5483f10a786d1f4da4f625fb3198d443ba0613d1af03", func := "loop.example/g01221/laws.FnExactTurnStack", spec := "fnExactTurnStack", apart := false }
def FnExactTurnStackSaid : Prop := fnExactTurnStackRow.holds Try.pinned (OpenSpec.ofChange fnExactTurnStackSpec)

/-- ITS FALSE NEIGHBOUR: 'it returns false'. Refute it at one input. -/
def fnExactTurnStackWrong : ChangeSpec := { name := "fnExactTurnStack", fn := fun _ => fun
  | [d1, d2] => { results := [.lit (.bool false)], args := [d1, d2] }
  | _ => none }
def FnExactTurnStackWrongFalsely : Prop := fnExactTurnStackRow.holds Try.pinned (OpenSpec.ofChange fnExactTurnStackWrong)

/-- 'laws.FnExactIsPlan': WHATEVER THE INPUT: true; the input reads as it did. -/
def fnExactIsPlanSpec : ChangeSpec := { name := "fnExactIsPlan", fn := fun _ => fun
  | [d1, d2] => { results := [.lit (.bool true)], args := [d1, d2] }
  | _ => none }
def fnExactIsPlanRow : OpenClaim := { program := "ytocccocpacohaaa", sum := "6acbfccbe011f1dfa76d5483f10a786d1f4da4f625fb3198d443ba0613d1af03", func := "loop.example/g01221/laws.FnExactIsPlan", spec := "fnExactIsPlan", apart := false }
def FnExactIsPlanSaid : Prop := fnExactIsPlanRow.holds Try.pinned (OpenSpec.ofChange fnExactIsPlanSpec)

/-- ITS FALSE NEIGHBOUR: 'it returns false'. Refute it at one input. -/
def fnExactIsPlanWrong : ChangeSpec := { name := "fnExactIsPlan", fn := fun _ => fun
  | [d1, d2] => { results := [.lit (.bool false)], args := [d1, d2] }
  | _ => none }
def FnExactIsPlanWrongFalsely : Prop := fnExactIsPlanRow.holds Try.pinned (OpenSpec.ofChange fnExactIsPlanWrong)

/-- 'laws.FnExactPlayPlan': WHATEVER THE INPUT: true; the input reads as it did. -/
def fnExactPlayPlanSpec : ChangeSpec := { name := "fnExactPlayPlan", fn := fun _ => fun
  | [d1, d2] => { results := [.lit (.bool true)], args := [d1, d2] }
  | _ => none }
def fnExactPlayPlanRow : OpenClaim := { program := "ytocccocpacohaaa", sum := "6acbfccbe011f1dfa76d5483f10a786d1f4da4f625fb3198d443ba0613d1af03", func := "loop.example/g01221/laws.FnExactPlayPlan", spec := "fnExactPlayPlan", apart := false }
def FnExactPlayPlanSaid : Prop := fnExactPlayPlanRow.holds Try.pinned (OpenSpec.ofChange fnExactPlayPlanSpec)

/-- ITS FALSE NEIGHBOUR: 'it returns false'. Refute it at one input. -/
def fnExactPlayPlanWrong : ChangeSpec := { name := "fnExactPlayPlan", fn := fun _ => fun
  | [d1, d2] => { results := [.lit (.bool false)], args := [d1, d2] }
  | _ => none }
def FnExactPlayPlanWrongFalsely : Prop := fnExactPlayPlanRow.holds Try.pinned (OpenSpec.ofChange fnExactPlayPlanWrong)

/-- 'laws.FnExactStacksAlong': WHATEVER THE INPUT: true; the input reads as it did. -/
def fnExactStacksAlongSpec : ChangeSpec := { name := "fnExactStacksAlong", fn := fun _ => fun
  | [d1, d2] => { results := [.lit (.bool true)], args := [d1, d2] }
  | _ => none }
def fnExactStacksAlongRow : OpenClaim := { program := "ytocccocpacohaaa", sum := "6acbfccbe011f1dfa76d5483f10a786d1f4da4f625fb3198d443ba0613d1af03", func := "loop.example/g01221/laws.FnExactStacksAlong", spec := "fnExactStacksAlong", apart := false }
def FnExactStacksAlongSaid : Prop := fnExactStacksAlongRow.holds Try.pinned (OpenSpec.ofChange fnExactStacksAlongSpec)

/-- ITS FALSE NEIGHBOUR: 'it returns false'. Refute it at one input. -/
def fnExactStacksAlongWrong : ChangeSpec := { name := "fnExactStacksAlong", fn := fun _ => fun
  | [d1, d2] => { results := [.lit (.bool false)], args := [d1, d2] }
  | _ => none }
def FnExactStacksAlongWrongFalsely : Prop := fnExactStacksAlongRow.holds Try.pinned (OpenSpec.ofChange fnExactStacksAlongWrong)

/-- 'laws.FnExactSortsStack': WHATEVER THE INPUT: true; the input reads as it did. -/
def fnExactSortsStackSpec : ChangeSpec := { name := "fnExactSortsStack", fn := fun _ => fun
  | [d1, d2] => { results := [.lit (.bool true)], args := [d1, d2] }
  | _ => none }
def fnExactSortsStackRow : OpenClaim := { program := "ytocccocpacohaaa", sum := "6acbfccbe011f1dfa76d5483f10a786d1f4da4f625fb3198d443ba0613d1af03", func := "loop.example/g01221/laws.FnExactSortsStack", spec := "fnExactSortsStack", apart := false }
def FnExactSortsStackSaid : Prop := fnExactSortsStackRow.holds Try.pinned (OpenSpec.ofChange fnExactSortsStackSpec)

/-- ITS FALSE NEIGHBOUR: 'it returns false'. Refute it at one input. -/
def fnExactSortsStackWrong : ChangeSpec := { name := "fnExactSortsStack", fn := fun _ => fun
  | [d1, d2] => { results := [.lit (.bool false)], args := [d1, d2] }
  | _ => none }
def FnExactSortsStackWrongFalsely : Prop := fnExactSortsStackRow.holds Try.pinned (OpenSpec.ofChange fnExactSortsStackWrong)

/-- 'laws.FnExactBackPlan': WHATEVER THE INPUT: true; the input reads as it did. -/
def fnExactBackPlanSpec : ChangeSpec := { name := "fnExactBackPlan", fn := fun _ => fun
  | [d1, d2] => { results := [.lit (.bool true)], args := [d1, d2] }
  | _ => none }
def fnExactBackPlanRow : OpenClaim := { program := "ytocccocpacohaaa", sum := "6acbfccbe011f1dfa76d5483f10a786d1f4da4f625fb3198d443ba0613d1af03", func := "loop.example/g01221/laws.FnExactBackPlan", spec := "fnExactBackPlan", apart := false }
def FnExactBackPlanSaid : Prop := fnExactBackPlanRow.holds Try.pinned (OpenSpec.ofChange fnExactBackPlanSpec)

/-- ITS FALSE NEIGHBOUR: 'it returns false'. Refute it at one input. -/
def fnExactBackPlanWrong : ChangeSpec := { name := "fnExactBackPlan", fn := fun _ => fun
  | [d1, d2] => { results := [.lit (.bool false)], args := [d1, d2] }
  | _ => none }
def FnExactBackPlanWrongFalsely : Prop := fnExactBackPlanRow.holds Try.pinned (OpenSpec.ofChange fnExactBackPlanWrong)

/-- 'laws.FnExactShortPlan': WHATEVER THE INPUT: true; the input reads as it did. -/
def fnExactShortPlanSpec : ChangeSpec := { name := "fnExactShortPlan", fn := fun _ => fun
  | [d1, d2] => { results := [.lit (.bool true)], args := [d1, d2] }
  | _ => none }
def fnExactShortPlanRow : OpenClaim := { program := "ytocccocpacohaaa", sum := "6acbfccbe011f1dfa76d5483f10a786d1f4da4f625fb3198d443ba0613d1af03", func := "loop.example/g01221/laws.FnExactShortPlan", spec := "fnExactShortPlan", apart := false }
def FnExactShortPlanSaid : Prop := fnExactShortPlanRow.holds Try.pinned (OpenSpec.ofChange fnExactShortPlanSpec)

/-- ITS FALSE NEIGHBOUR: 'it returns false'. Refute it at one input. -/
def fnExactShortPlanWrong : ChangeSpec := { name := "fnExactShortPlan", fn := fun _ => fun
  | [d1, d2] => { results := [.lit (.bool false)], args := [d1, d2] }
  | _ => none }
def FnExactShortPlanWrongFalsely : Prop := fnExactShortPlanRow.holds Try.pinned (OpenSpec.ofChange fnExactShortPlanWrong)

/-- 'laws.FnExactPlaceIn': WHATEVER THE INPUT: true; the input reads as it did. -/
def fnExactPlaceInSpec : ChangeSpec := { name := "fnExactPlaceIn", fn := fun _ => fun
  | [d1, d2] => { results := [.lit (.bool true)], args := [d1, d2] }
  | _ => none }
def fnExactPlaceInRow : OpenClaim := { program := "ytocccocpacohaaa", sum := "6acbfccbe011f1dfa76d5483f10a786d1f4da4f625fb3198d443ba0613d1af03", func := "loop.example/g01221/laws.FnExactPlaceIn", spec := "fnExactPlaceIn", apart := false }
def FnExactPlaceInSaid : Prop := fnExactPlaceInRow.holds Try.pinned (OpenSpec.ofChange fnExactPlaceInSpec)

/-- ITS FALSE NEIGHBOUR: 'it returns false'. Refute it at one input. -/
def fnExactPlaceInWrong : ChangeSpec := { name := "fnExactPlaceIn", fn := fun _ => fun
  | [d1, d2] => { results := [.lit (.bool false)], args := [d1, d2] }
  | _ => none }
def FnExactPlaceInWrongFalsely : Prop := fnExactPlaceInRow.holds Try.pinned (OpenSpec.ofChange fnExactPlaceInWrong)

/-- 'laws.FnExactTopTo': WHATEVER THE INPUT: true; the input reads as it did. -/
def fnExactTopToSpec : ChangeSpec := { name := "fnExactTopTo", fn := fun _ => fun
  | [d1, d2] => { results := [.lit (.bool true)], args := [d1, d2] }
  | _ => none }
def fnExactTopToRow : OpenClaim := { program := "ytocccocpacohaaa", sum := "6acbfccbe011f1dfa76d5483f10a786d1f4da4f625fb3198d443ba0613d1af03", func := "loop.example/g01221/laws.FnExactTopTo", spec := "fnExactTopTo", apart := false }
def FnExactTopToSaid : Prop := fnExactTopToRow.holds Try.pinned (OpenSpec.ofChange fnExactTopToSpec)

/-- ITS FALSE NEIGHBOUR: 'it returns false'. Refute it at one input. -/
def fnExactTopToWrong : ChangeSpec := { name := "fnExactTopTo", fn := fun _ => fun
  | [d1, d2] => { results := [.lit (.bool false)], args := [d1, d2] }
  | _ => none }
def FnExactTopToWrongFalsely : Prop := fnExactTopToRow.holds Try.pinned (OpenSpec.ofChange fnExactTopToWrong)

/-- 'laws.FnExactBringTo': WHATEVER THE INPUT: true; the input reads as it did. -/
def fnExactBringToSpec : ChangeSpec := { name := "fnExactBringTo", fn := fun _ => fun
  | [d1, d2, d3] => { results := [.lit (.bool true)], args := [d1, d2, d3] }
  | _ => none }
def fnExactBringToRow : OpenClaim := { program := "ytocccocpacohaaa", sum := "6acbfccbe011f1dfa76d5483f10a786d1f4da4f625fb3198d443ba0613d1af03", func := "loop.example/g01221/laws.FnExactBringTo", spec := "fnExactBringTo", apart := false }
def FnExactBringToSaid : Prop := fnExactBringToRow.holds Try.pinned (OpenSpec.ofChange fnExactBringToSpec)

/-- ITS FALSE NEIGHBOUR: 'it returns false'. Refute it at one input. -/
def fnExactBringToWrong : ChangeSpec := { name := "fnExactBringTo", fn := fun _ => fun
  | [d1, d2, d3] => { results := [.lit (.bool false)], args := [d1, d2, d3] }
  | _ => none }
def FnExactBringToWrongFalsely : Prop := fnExactBringToRow.holds Try.pinned (OpenSpec.ofChange fnExactBringToWrong)

/-- 'laws.FnExactThenStack': WHATEVER THE INPUT: true; the input reads as it did. -/
def fnExactThenStackSpec : ChangeSpec := { name := "fnExactThenStack", fn := fun _ => fun
  | [d1, d2] => { results := [.lit (.bool true)], args := [d1, d2] }
  | _ => none }
def fnExactThenStackRow : OpenClaim := { program := "ytocccocpacohaaa", sum := "6acbfccbe011f1dfa76d5483f10a786d1f4da4f625fb3198d443ba0613d1af03", func := "loop.example/g01221/laws.FnExactThenStack", spec := "fnExactThenStack", apart := false }
def FnExactThenStackSaid : Prop := fnExactThenStackRow.holds Try.pinned (OpenSpec.ofChange fnExactThenStackSpec)

/-- ITS FALSE NEIGHBOUR: 'it returns false'. Refute it at one input. -/
def fnExactThenStackWrong : ChangeSpec := { name := "fnExactThenStack", fn := fun _ => fun
  | [d1, d2] => { results := [.lit (.bool false)], args := [d1, d2] }
  | _ => none }
def FnExactThenStackWrongFalsely : Prop := fnExactThenStackRow.holds Try.pinned (OpenSpec.ofChange fnExactThenStackWrong)

/-- 'laws.FnExactInverseStack': WHATEVER THE INPUT: true; the input reads as it did. -/
def fnExactInverseStackSpec : ChangeSpec := { name := "fnExactInverseStack", fn := fun _ => fun
  | [d] => { results := [.lit (.bool true)], args := [d] }
  | _ => none }
def fnExactInverseStackRow : OpenClaim := { program := "ytocccocpacohaaa", sum := "6acbfccbe011f1dfa76d5483f10a786d1f4da4f625fb3198d443ba0613d1af03", func := "loop.example/g01221/laws.FnExactInverseStack", spec := "fnExactInverseStack", apart := false }
def FnExactInverseStackSaid : Prop := fnExactInverseStackRow.holds Try.pinned (OpenSpec.ofChange fnExactInverseStackSpec)

/-- ITS FALSE NEIGHBOUR: 'it returns false'. Refute it at one input. -/
def fnExactInverseStackWrong : ChangeSpec := { name := "fnExactInverseStack", fn := fun _ => fun
  | [d] => { results := [.lit (.bool false)], args := [d] }
  | _ => none }
def FnExactInverseStackWrongFalsely : Prop := fnExactInverseStackRow.holds Try.pinned (OpenSpec.ofChange fnExactInverseStackWrong)

/-- 'laws.FnExactBackStack': WHATEVER THE INPUT: true; the input reads as it did. -/
def fnExactBackStackSpec : ChangeSpec := { name := "fnExactBackStack", fn := fun _ => fun
  | [d] => { results := [.lit (.bool true)], args := [d] }
  | _ => none }
def fnExactBackStackRow : OpenClaim := { program := "ytocccocpacohaaa", sum := "6acbfccbe011f1dfa76d5483f10a786d1f4da4f625fb3198d443ba0613d1af03", func := "loop.example/g01221/laws.FnExactBackStack", spec := "fnExactBackStack", apart := false }
def FnExactBackStackSaid : Prop := fnExactBackStackRow.holds Try.pinned (OpenSpec.ofChange fnExactBackStackSpec)

/-- ITS FALSE NEIGHBOUR: 'it returns false'. Refute it at one input. -/
def fnExactBackStackWrong : ChangeSpec := { name := "fnExactBackStack", fn := fun _ => fun
  | [d] => { results := [.lit (.bool false)], args := [d] }
  | _ => none }
def FnExactBackStackWrongFalsely : Prop := fnExactBackStackRow.holds Try.pinned (OpenSpec.ofChange fnExactBackStackWrong)

/-- 'laws.FnExactSwapSizes': WHATEVER THE INPUT: true; the input reads as it did. -/
def fnExactSwapSizesSpec : ChangeSpec := { name := "fnExactSwapSizes", fn := fun _ => fun
  | [d] => { results := [.lit (.bool true)], args := [d] }
  | _ => none }
def fnExactSwapSizesRow : OpenClaim := { program := "ytocccocpacohaaa", sum := "6acbfccbe011f1dfa76d5483f10a786d1f4da4f625fb3198d443ba0613d1af03", func := "loop.example/g01221/laws.FnExactSwapSizes", spec := "fnExactSwapSizes", apart := false }
def FnExactSwapSizesSaid : Prop := fnExactSwapSizesRow.holds Try.pinned (OpenSpec.ofChange fnExactSwapSizesSpec)

/-- ITS FALSE NEIGHBOUR: 'it returns false'. Refute it at one input. -/
def fnExactSwapSizesWrong : ChangeSpec := { name := "fnExactSwapSizes", fn := fun _ => fun
  | [d] => { results := [.lit (.bool false)], args := [d] }
  | _ => none }
def FnExactSwapSizesWrongFalsely : Prop := fnExactSwapSizesRow.holds Try.pinned (OpenSpec.ofChange fnExactSwapSizesWrong)

/-- 'laws.FnExactStackOfPlan': WHATEVER THE INPUT: true; the input reads as it did. -/
def fnExactStackOfPlanSpec : ChangeSpec := { name := "fnExactStackOfPlan", fn := fun _ => fun
  | [d1, d2] => { results := [.lit (.bool true)], args := [d1, d2] }
  | _ => none }
def fnExactStackOfPlanRow : OpenClaim := { program := "ytocccocpacohaaa", sum := "6acbfccbe011f1dfa76d5483f10a786d1f4da4f625fb3198d443ba0613d1af03", func := "loop.example/g01221/laws.FnExactStackOfPlan", spec := "fnExactStackOfPlan", apart := false }
def FnExactStackOfPlanSaid : Prop := fnExactStackOfPlanRow.holds Try.pinned (OpenSpec.ofChange fnExactStackOfPlanSpec)

/-- ITS FALSE NEIGHBOUR: 'it returns false'. Refute it at one input. -/
def fnExactStackOfPlanWrong : ChangeSpec := { name := "fnExactStackOfPlan", fn := fun _ => fun
  | [d1, d2] => { results := [.lit (.bool false)], args := [d1, d2] }
  | _ => none }
def FnExactStackOfPlanWrongFalsely : Prop := fnExactStackOfPlanRow.holds Try.pinned (OpenSpec.ofChange fnExactStackOfPlanWrong)

/-- 'laws.FnExactAreSamePlans': WHATEVER THE INPUT: true; the input reads as it did. -/
def fnExactAreSamePlansSpec : ChangeSpec := { name := "fnExactAreSamePlans", fn := fun _ => fun
  | [d1, d2, d3] => { results := [.lit (.bool true)], args := [d1, d2, d3] }
  | _ => none }
def fnExactAreSamePlansRow : OpenClaim := { program := "ytocccocpacohaaa", sum := "6acbfccbe011f1dfa76d5483f10a786d1f4da4f625fb3198d443ba0613d1af03", func := "loop.example/g01221/laws.FnExactAreSamePlans", spec := "fnExactAreSamePlans", apart := false }
def FnExactAreSamePlansSaid : Prop := fnExactAreSamePlansRow.holds Try.pinned (OpenSpec.ofChange fnExactAreSamePlansSpec)

/-- ITS FALSE NEIGHBOUR: 'it returns false'. Refute it at one input. -/
def fnExactAreSamePlansWrong : ChangeSpec := { name := "fnExactAreSamePlans", fn := fun _ => fun
  | [d1, d2, d3] => { results := [.lit (.bool false)], args := [d1, d2, d3] }
  | _ => none }
def FnExactAreSamePlansWrongFalsely : Prop := fnExactAreSamePlansRow.holds Try.pinned (OpenSpec.ofChange fnExactAreSamePlansWrong)

/-- 'laws.FnExactStackText': WHATEVER THE INPUT: true; the input reads as it did. -/
def fnExactStackTextSpec : ChangeSpec := { name := "fnExactStackText", fn := fun _ => fun
  | [d] => { results := [.lit (.bool true)], args := [d] }
  | _ => none }
def fnExactStackTextRow : OpenClaim := { program := "ytocccocpacohaaa", sum := "6acbfccbe011f1dfa76d5483f10a786d1f4da4f625fb3198d443ba0613d1af03", func := "loop.example/g01221/laws.FnExactStackText", spec := "fnExactStackText", recurses := true, apart := false }
def FnExactStackTextSaid : Prop := fnExactStackTextRow.holds Try.pinned (OpenSpec.ofChange fnExactStackTextSpec)

/-- ITS FALSE NEIGHBOUR: 'it returns false'. Refute it at one input. -/
def fnExactStackTextWrong : ChangeSpec := { name := "fnExactStackText", fn := fun _ => fun
  | [d] => { results := [.lit (.bool false)], args := [d] }
  | _ => none }
def FnExactStackTextWrongFalsely : Prop := fnExactStackTextRow.holds Try.pinned (OpenSpec.ofChange fnExactStackTextWrong)

/-- 'laws.FnExactParseStack': WHATEVER THE INPUT: true; the input reads as it did. -/
def fnExactParseStackSpec : ChangeSpec := { name := "fnExactParseStack", fn := fun _ => fun
  | [d] => { results := [.lit (.bool true)], args := [d] }
  | _ => none }
def fnExactParseStackRow : OpenClaim := { program := "ytocccocpacohaaa", sum := "6acbfccbe011f1dfa76d5483f10a786d1f4da4f625fb3198d443ba0613d1af03", func := "loop.example/g01221/laws.FnExactParseStack", spec := "fnExactParseStack", apart := false }
def FnExactParseStackSaid : Prop := fnExactParseStackRow.holds Try.pinned (OpenSpec.ofChange fnExactParseStackSpec)

/-- ITS FALSE NEIGHBOUR: 'it returns false'. Refute it at one input. -/
def fnExactParseStackWrong : ChangeSpec := { name := "fnExactParseStack", fn := fun _ => fun
  | [d] => { results := [.lit (.bool false)], args := [d] }
  | _ => none }
def FnExactParseStackWrongFalsely : Prop := fnExactParseStackRow.holds Try.pinned (OpenSpec.ofChange fnExactParseStackWrong)

/- THE SECOND FORM. 'bulk': how many values and letters a reading holds, each counted each time it is reached (what is shared counts as often as it is met; a slice's spare places count too). A statement '..UptoSaid' is the law's where the arguments, and the package variables that the reading takes, are together of bulk at most 1048576: NARROWER than '..Said'. Prove '..Said' where nothing that the law and all that it calls make is longer than what came in: it says more and counts as full. Else prove '..UptoSaid'. A law counts once. -/
mutual
def uptoBulk {H : Type} : DataW H → Nat
  | .lit (.string bytes) => bytes.length + 1
  | .lit _ => 1
  | .nil => 1
  | .ptr d => uptoBulk d + 1
  | .slice elems spare => uptoBulkAll elems + uptoBulkAll spare + 1
  | .agg parts => uptoBulkAll parts + 1
  | .iface _ d => uptoBulk d + 1
  | .map entries => uptoBulkEntries entries + 1
  | .held _ => 1
def uptoBulkAll {H : Type} : List (DataW H) → Nat
  | [] => 0
  | d :: r => uptoBulk d + uptoBulkAll r
def uptoBulkEntries {H : Type} : List (Lit × DataW H) → Nat
  | [] => 0
  | x :: r => uptoBulkEntry x + uptoBulkEntries r
def uptoBulkEntry {H : Type} : Lit × DataW H → Nat
  | (.string bytes, d) => bytes.length + uptoBulk d + 1
  | (_, d) => uptoBulk d + 1
 end
def uptoSmall : (H : Type) → List (DataW H) → Bool := fun _ ds => decide (uptoBulkAll ds ≤ 1048576)
def OpenSpec.upto (s : _root_.Go.ChangeSpec) : _root_.Go.OpenSpec := { _root_.Go.OpenSpec.ofChange s with cond := some uptoSmall }

/-- 'laws.FnExactIsStack', WHERE WHAT IT READS IS OF BULK AT MOST 1048576: true; the input reads as it did. -/
def fnExactIsStackUptoRow : OpenClaim := { program := "ytocccocpacohaaa", sum := "6acbfccbe011f1dfa76d5483f10a786d1f4da4f625fb3198d443ba0613d1af03", func := "loop.example/g01221/laws.FnExactIsStack", spec := "fnExactIsStack", apart := false, narrowed := true }
def FnExactIsStackUptoSaid : Prop := fnExactIsStackUptoRow.holds Try.pinned (OpenSpec.upto fnExactIsStackSpec)

/-- 'laws.FnExactIsSortedStack', WHERE WHAT IT READS IS OF BULK AT MOST 1048576: true; the input reads as it did. -/
def fnExactIsSortedStackUptoRow : OpenClaim := { program := "ytocccocpacohaaa", sum := "6acbfccbe011f1dfa76d5483f10a786d1f4da4f625fb3198d443ba0613d1af03", func := "loop.example/g01221/laws.FnExactIsSortedStack", spec := "fnExactIsSortedStack", apart := false, narrowed := true }
def FnExactIsSortedStackUptoSaid : Prop := fnExactIsSortedStackUptoRow.holds Try.pinned (OpenSpec.upto fnExactIsSortedStackSpec)

/-- 'laws.FnExactTurnStack', WHERE WHAT IT READS IS OF BULK AT MOST 1048576: true; the input reads as it did. -/
def fnExactTurnStackUptoRow : OpenClaim := { program := "ytocccocpacohaaa", sum := "6acbfccbe011f1dfa76d5483f10a786d1f4da4f625fb3198d443ba0613d1af03", func := "loop.example/g01221/laws.FnExactTurnStack", spec := "fnExactTurnStack", apart := false, narrowed := true }
def FnExactTurnStackUptoSaid : Prop := fnExactTurnStackUptoRow.holds Try.pinned (OpenSpec.upto fnExactTurnStackSpec)

/-- 'laws.FnExactIsPlan', WHERE WHAT IT READS IS OF BULK AT MOST 1048576: true; the input reads as it did. -/
def fnExactIsPlanUptoRow : OpenClaim := { program := "ytocccocpacohaaa", sum := "6acbfccbe011f1dfa76d5483f10a786d1f4da4f625fb3198d443ba0613d1af03", func := "loop.example/g01221/laws.FnExactIsPlan", spec := "fnExactIsPlan", apart := false, narrowed := true }
def FnExactIsPlanUptoSaid : Prop := fnExactIsPlanUptoRow.holds Try.pinned (OpenSpec.upto fnExactIsPlanSpec)

/-- 'laws.FnExactPlayPlan', WHERE WHAT IT READS IS OF BULK AT MOST 1048576: true; the input reads as it did. -/
def fnExactPlayPlanUptoRow : OpenClaim := { program := "ytocccocpacohaaa", sum := "6acbfccbe011f1dfa76d5483f10a786d1f4da4f625fb3198d443ba0613d1af03", func := "loop.example/g01221/laws.FnExactPlayPlan", spec := "fnExactPlayPlan", apart := false, narrowed := true }
def FnExactPlayPlanUptoSaid : Prop := fnExactPlayPlanUptoRow.holds Try.pinned (OpenSpec.upto fnExactPlayPlanSpec)

/-- 'laws.FnExactStacksAlong', WHERE WHAT IT READS IS OF BULK AT MOST 1048576: true; the input reads as it did. -/
def fnExactStacksAlongUptoRow : OpenClaim := { program := "ytocccocpacohaaa", sum := "6acbfccbe011f1dfa76d5483f10a786d1f4da4f625fb3198d443ba0613d1af03", func := "loop.example/g01221/laws.FnExactStacksAlong", spec := "fnExactStacksAlong", apart := false, narrowed := true }
def FnExactStacksAlongUptoSaid : Prop := fnExactStacksAlongUptoRow.holds Try.pinned (OpenSpec.upto fnExactStacksAlongSpec)

/-- 'laws.FnExactSortsStack', WHERE WHAT IT READS IS OF BULK AT MOST 1048576: true; the input reads as it did. -/
def fnExactSortsStackUptoRow : OpenClaim := { program := "ytocccocpacohaaa", sum := "6acbfccbe011f1dfa76d5483f10a786d1f4da4f625fb3198d443ba0613d1af03", func := "loop.example/g01221/laws.FnExactSortsStack", spec := "fnExactSortsStack", apart := false, narrowed := true }
def FnExactSortsStackUptoSaid : Prop := fnExactSortsStackUptoRow.holds Try.pinned (OpenSpec.upto fnExactSortsStackSpec)

/-- 'laws.FnExactBackPlan', WHERE WHAT IT READS IS OF BULK AT MOST 1048576: true; the input reads as it did. -/
def fnExactBackPlanUptoRow : OpenClaim := { program := "ytocccocpacohaaa", sum := "6acbfccbe011f1dfa76d5483f10a786d1f4da4f625fb3198d443ba0613d1af03", func := "loop.example/g01221/laws.FnExactBackPlan", spec := "fnExactBackPlan", apart := false, narrowed := true }
def FnExactBackPlanUptoSaid : Prop := fnExactBackPlanUptoRow.holds Try.pinned (OpenSpec.upto fnExactBackPlanSpec)

/-- 'laws.FnExactShortPlan', WHERE WHAT IT READS IS OF BULK AT MOST 1048576: true; the input reads as it did. -/
def fnExactShortPlanUptoRow : OpenClaim := { program := "ytocccocpacohaaa", sum := "6acbfccbe011f1dfa76d5483f10a786d1f4da4f625fb3198d443ba0613d1af03", func := "loop.example/g01221/laws.FnExactShortPlan", spec := "fnExactShortPlan", apart := false, narrowed := true }
def FnExactShortPlanUptoSaid : Prop := fnExactShortPlanUptoRow.holds Try.pinned (OpenSpec.upto fnExactShortPlanSpec)

/-- 'laws.FnExactPlaceIn', WHERE WHAT IT READS IS OF BULK AT MOST 1048576: true; the input reads as it did. -/
def fnExactPlaceInUptoRow : OpenClaim := { program := "ytocccocpacohaaa", sum := "6acbfccbe011f1dfa76d5483f10a786d1f4da4f625fb3198d443ba0613d1af03", func := "loop.example/g01221/laws.FnExactPlaceIn", spec := "fnExactPlaceIn", apart := false, narrowed := true }
def FnExactPlaceInUptoSaid : Prop := fnExactPlaceInUptoRow.holds Try.pinned (OpenSpec.upto fnExactPlaceInSpec)

/-- 'laws.FnExactTopTo', WHERE WHAT IT READS IS OF BULK AT MOST 1048576: true; the input reads as it did. -/
def fnExactTopToUptoRow : OpenClaim := { program := "ytocccocpacohaaa", sum := "6acbfccbe011f1dfa76d5483f10a786d1f4da4f625fb3198d443ba0613d1af03", func := "loop.example/g01221/laws.FnExactTopTo", spec := "fnExactTopTo", apart := false, narrowed := true }
def FnExactTopToUptoSaid : Prop := fnExactTopToUptoRow.holds Try.pinned (OpenSpec.upto fnExactTopToSpec)

/-- 'laws.FnExactBringTo', WHERE WHAT IT READS IS OF BULK AT MOST 1048576: true; the input reads as it did. -/
def fnExactBringToUptoRow : OpenClaim := { program := "ytocccocpacohaaa", sum := "6acbfccbe011f1dfa76d5483f10a786d1f4da4f625fb3198d443ba0613d1af03", func := "loop.example/g01221/laws.FnExactBringTo", spec := "fnExactBringTo", apart := false, narrowed := true }
def FnExactBringToUptoSaid : Prop := fnExactBringToUptoRow.holds Try.pinned (OpenSpec.upto fnExactBringToSpec)

/-- 'laws.FnExactThenStack', WHERE WHAT IT READS IS OF BULK AT MOST 1048576: true; the input reads as it did. -/
def fnExactThenStackUptoRow : OpenClaim := { program := "ytocccocpacohaaa", sum := "6acbfccbe011f1dfa76d5483f10a786d1f4da4f625fb3198d443ba0613d1af03", func := "loop.example/g01221/laws.FnExactThenStack", spec := "fnExactThenStack", apart := false, narrowed := true }
def FnExactThenStackUptoSaid : Prop := fnExactThenStackUptoRow.holds Try.pinned (OpenSpec.upto fnExactThenStackSpec)

/-- 'laws.FnExactInverseStack', WHERE WHAT IT READS IS OF BULK AT MOST 1048576: true; the input reads as it did. -/
def fnExactInverseStackUptoRow : OpenClaim := { program := "ytocccocpacohaaa", sum := "6acbfccbe011f1dfa76d5483f10a786d1f4da4f625fb3198d443ba0613d1af03", func := "loop.example/g01221/laws.FnExactInverseStack", spec := "fnExactInverseStack", apart := false, narrowed := true }
def FnExactInverseStackUptoSaid : Prop := fnExactInverseStackUptoRow.holds Try.pinned (OpenSpec.upto fnExactInverseStackSpec)

/-- 'laws.FnExactBackStack', WHERE WHAT IT READS IS OF BULK AT MOST 1048576: true; the input reads as it did. -/
def fnExactBackStackUptoRow : OpenClaim := { program := "ytocccocpacohaaa", sum := "6acbfccbe011f1dfa76d5483f10a786d1f4da4f625fb3198d443ba0613d1af03", func := "loop.example/g01221/laws.FnExactBackStack", spec := "fnExactBackStack", apart := false, narrowed := true }
def FnExactBackStackUptoSaid : Prop := fnExactBackStackUptoRow.holds Try.pinned (OpenSpec.upto fnExactBackStackSpec)

/-- 'laws.FnExactSwapSizes', WHERE WHAT IT READS IS OF BULK AT MOST 1048576: true; the input reads as it did. -/
def fnExactSwapSizesUptoRow : OpenClaim := { program := "ytocccocpacohaaa", sum := "6acbfccbe011f1dfa76d5483f10a786d1f4da4f625fb3198d443ba0613d1af03", func := "loop.example/g01221/laws.FnExactSwapSizes", spec := "fnExactSwapSizes", apart := false, narrowed := true }
def FnExactSwapSizesUptoSaid : Prop := fnExactSwapSizesUptoRow.holds Try.pinned (OpenSpec.upto fnExactSwapSizesSpec)

/-- 'laws.FnExactStackOfPlan', WHERE WHAT IT READS IS OF BULK AT MOST 1048576: true; the input reads as it did. -/
def fnExactStackOfPlanUptoRow : OpenClaim := { program := "ytocccocpacohaaa", sum := "6acbfccbe011f1dfa76d5483f10a786d1f4da4f625fb3198d443ba0613d1af03", func := "loop.example/g01221/laws.FnExactStackOfPlan", spec := "fnExactStackOfPlan", apart := false, narrowed := true }
def FnExactStackOfPlanUptoSaid : Prop := fnExactStackOfPlanUptoRow.holds Try.pinned (OpenSpec.upto fnExactStackOfPlanSpec)

/-- 'laws.FnExactAreSamePlans', WHERE WHAT IT READS IS OF BULK AT MOST 1048576: true; the input reads as it did. -/
def fnExactAreSamePlansUptoRow : OpenClaim := { program := "ytocccocpacohaaa", sum := "6acbfccbe011f1dfa76d5483f10a786d1f4da4f625fb3198d443ba0613d1af03", func := "loop.example/g01221/laws.FnExactAreSamePlans", spec := "fnExactAreSamePlans", apart := false, narrowed := true }
def FnExactAreSamePlansUptoSaid : Prop := fnExactAreSamePlansUptoRow.holds Try.pinned (OpenSpec.upto fnExactAreSamePlansSpec)

/-- 'laws.FnExactStackText', WHERE WHAT IT READS IS OF BULK AT MOST 1048576: true; the input reads as it did. -/
def fnExactStackTextUptoRow : OpenClaim := { program := "ytocccocpacohaaa", sum := "6acbfccbe011f1dfa76d5483f10a786d1f4da4f625fb3198d443ba0613d1af03", func := "loop.example/g01221/laws.FnExactStackText", spec := "fnExactStackText", recurses := true, apart := false, narrowed := true }
def FnExactStackTextUptoSaid : Prop := fnExactStackTextUptoRow.holds Try.pinned (OpenSpec.upto fnExactStackTextSpec)

/-- 'laws.FnExactParseStack', WHERE WHAT IT READS IS OF BULK AT MOST 1048576: true; the input reads as it did. -/
def fnExactParseStackUptoRow : OpenClaim := { program := "ytocccocpacohaaa", sum := "6acbfccbe011f1dfa76d5483f10a786d1f4da4f625fb3198d443ba0613d1af03", func := "loop.example/g01221/laws.FnExactParseStack", spec := "fnExactParseStack", apart := false, narrowed := true }
def FnExactParseStackUptoSaid : Prop := fnExactParseStackUptoRow.holds Try.pinned (OpenSpec.upto fnExactParseStackSpec)

end Rows
end Go.Proofs.Ytocccocpacohaaa
