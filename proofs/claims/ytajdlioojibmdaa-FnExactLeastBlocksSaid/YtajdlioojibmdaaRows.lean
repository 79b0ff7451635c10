/-
  No cell of these rows narrows 'for every input' (looked for: loops, veiled, ifaces, maps, wideKeys, modest, calm, conditions, laid).
  DERIVED. THE GIVEN ROWS OF THIS SEAT. 11 by the template 'for every input the law returns true; each argument reads behind the call as it read before'; 0 by the template 'total and deterministic' (their statements: YtajdlioojibmdaaTotals.lean).
  GIVEN WITH THE SEED: the statements are not yours to turn. If you find one false, say at which input.
  Laid BY PROGRAM, IN A SANDBOX (cutbox-rows.mjs): the forced cells as the released guide's own fill.sh prints them over the translation aed4988072058aeb… (all of the seat's roots in one cut). By AI agents, Wed Nov 11 2026. No macro, syntax, notation, axiom, sorry.
-/
import Derived.Test.YtajdlioojibmdaaChecked
import GoSem.Claim
import GoSem.ClaimJoined
import GoSem.ClaimMapViews
import Derived.JoinedTies
import Derived.KernelRfl
namespace Go.Proofs.Ytajdlioojibmdaa
/- THE CELL 'sum', in the pinned program and in every row, IS THE sha256 OF THE DUMP (.gsa) THAT YtajdlioojibmdaaProg.lean LOADS. Nothing in Lean hashes anything: it is a label: what it is worth is what the hold of that sum in a sandbox is worth. -/
noncomputable def Try.pinned : Pinned := { name := "ytajdlioojibmdaa", sum := "aed4988072058aebd3937d850613cb829841e4d29d93941b4b81013804354dc3", checked := Try.checked }
namespace Rows
def none {H : Type} : Left H := { results := [], args := [] }

/-- 'laws.FnExactBlockDistance': WHATEVER THE INPUT: true; the input reads as it did. -/
def fnExactBlockDistanceSpec : ChangeSpec := { name := "fnExactBlockDistance", fn := fun _ => fun
  | [d] => { results := [.lit (.bool true)], args := [d] }
  | _ => none }
def fnExactBlockDistanceRow : OpenClaim := { program := "ytajdlioojibmdaa", sum := "aed4988072058aebd3937d850613cb829841e4d29d93941b4b81013804354dc3", func := "loop.example/g01221/laws.FnExactBlockDistance", spec := "fnExactBlockDistance", unfollowed := true, recurses := true, plainKeys := false, apart := false }
def FnExactBlockDistanceSaid : Prop := fnExactBlockDistanceRow.holds Try.pinned (OpenSpec.ofChange fnExactBlockDistanceSpec)

/-- ITS FALSE NEIGHBOUR: 'it returns false'. Refute it at one input. -/
def fnExactBlockDistanceWrong : ChangeSpec := { name := "fnExactBlockDistance", fn := fun _ => fun
  | [d] => { results := [.lit (.bool false)], args := [d] }
  | _ => none }
def FnExactBlockDistanceWrongFalsely : Prop := fnExactBlockDistanceRow.holds Try.pinned (OpenSpec.ofChange fnExactBlockDistanceWrong)

/-- 'laws.FnExactLeastBlocks': WHATEVER THE INPUT: true; the input reads as it did. -/
def fnExactLeastBlocksSpec : ChangeSpec := { name := "fnExactLeastBlocks", fn := fun _ => fun
  | [d] => { results := [.lit (.bool true)], args := [d] }
  | _ => none }
def fnExactLeastBlocksRow : OpenClaim := { program := "ytajdlioojibmdaa", sum := "aed4988072058aebd3937d850613cb829841e4d29d93941b4b81013804354dc3", func := "loop.example/g01221/laws.FnExactLeastBlocks", spec := "fnExactLeastBlocks", unfollowed := true, recurses := true, plainKeys := false, apart := false }
def FnExactLeastBlocksSaid : Prop := fnExactLeastBlocksRow.holds Try.pinned (OpenSpec.ofChange fnExactLeastBlocksSpec)

/-- ITS FALSE NEIGHBOUR: 'it returns false'. Refute it at one input. -/
def fnExactLeastBlocksWrong : ChangeSpec := { name := "fnExactLeastBlocks", fn := fun _ => fun
  | [d] => { results := [.lit (.bool false)], args := [d] }
  | _ => none }
def FnExactLeastBlocksWrongFalsely : Prop := fnExactLeastBlocksRow.holds Try.pinned (OpenSpec.ofChange fnExactLeastBlocksWrong)

/-- 'laws.FnExactCountByBlocks': WHATEVER THE INPUT: true; the input reads as it did. -/
def fnExactCountByBlocksSpec : ChangeSpec := { name := "fnExactCountByBlocks", fn := fun _ => fun
  | [d] => { results := [.lit (.bool true)], args := [d] }
  | _ => none }
def fnExactCountByBlocksRow : OpenClaim := { program := "ytajdlioojibmdaa", sum := "aed4988072058aebd3937d850613cb829841e4d29d93941b4b81013804354dc3", func := "loop.example/g01221/laws.FnExactCountByBlocks", spec := "fnExactCountByBlocks", unfollowed := true, recurses := true, plainKeys := false, apart := false }
def FnExactCountByBlocksSaid : Prop := fnExactCountByBlocksRow.holds Try.pinned (OpenSpec.ofChange fnExactCountByBlocksSpec)

/-- ITS FALSE NEIGHBOUR: 'it returns false'. Refute it at one input. -/
def fnExactCountByBlocksWrong : ChangeSpec := { name := "fnExactCountByBlocks", fn := fun _ => fun
  | [d] => { results := [.lit (.bool false)], args := [d] }
  | _ => none }
def FnExactCountByBlocksWrongFalsely : Prop := fnExactCountByBlocksRow.holds Try.pinned (OpenSpec.ofChange fnExactCountByBlocksWrong)

/-- 'laws.FnExactLeastExchanges': WHATEVER THE INPUT: true; the input reads as it did. -/
def fnExactLeastExchangesSpec : ChangeSpec := { name := "fnExactLeastExchanges", fn := fun _ => fun
  | [d] => { results := [.lit (.bool true)], args := [d] }
  | _ => none }
def fnExactLeastExchangesRow : OpenClaim := { program := "ytajdlioojibmdaa", sum := "aed4988072058aebd3937d850613cb829841e4d29d93941b4b81013804354dc3", func := "loop.example/g01221/laws.FnExactLeastExchanges", spec := "fnExactLeastExchanges", unfollowed := true, recurses := true, plainKeys := false, apart := false }
def FnExactLeastExchangesSaid : Prop := fnExactLeastExchangesRow.holds Try.pinned (OpenSpec.ofChange fnExactLeastExchangesSpec)

/-- ITS FALSE NEIGHBOUR: 'it returns false'. Refute it at one input. -/
def fnExactLeastExchangesWrong : ChangeSpec := { name := "fnExactLeastExchanges", fn := fun _ => fun
  | [d] => { results := [.lit (.bool false)], args := [d] }
  | _ => none }
def FnExactLeastExchangesWrongFalsely : Prop := fnExactLeastExchangesRow.holds Try.pinned (OpenSpec.ofChange fnExactLeastExchangesWrong)

/-- 'laws.FnExactCountByExchanges': WHATEVER THE INPUT: true; the input reads as it did. -/
def fnExactCountByExchangesSpec : ChangeSpec := { name := "fnExactCountByExchanges", fn := fun _ => fun
  | [d] => { results := [.lit (.bool true)], args := [d] }
  | _ => none }
def fnExactCountByExchangesRow : OpenClaim := { program := "ytajdlioojibmdaa", sum := "aed4988072058aebd3937d850613cb829841e4d29d93941b4b81013804354dc3", func := "loop.example/g01221/laws.FnExactCountByExchanges", spec := "fnExactCountByExchanges", unfollowed := true, recurses := true, plainKeys := false, apart := false }
def FnExactCountByExchangesSaid : Prop := fnExactCountByExchangesRow.holds Try.pinned (OpenSpec.ofChange fnExactCountByExchangesSpec)

/-- ITS FALSE NEIGHBOUR: 'it returns false'. Refute it at one input. -/
def fnExactCountByExchangesWrong : ChangeSpec := { name := "fnExactCountByExchanges", fn := fun _ => fun
  | [d] => { results := [.lit (.bool false)], args := [d] }
  | _ => none }
def FnExactCountByExchangesWrongFalsely : Prop := fnExactCountByExchangesRow.holds Try.pinned (OpenSpec.ofChange fnExactCountByExchangesWrong)

/-- 'laws.FnExactFarthestStacks': WHATEVER THE INPUT: true; the input reads as it did. -/
def fnExactFarthestStacksSpec : ChangeSpec := { name := "fnExactFarthestStacks", fn := fun _ => fun
  | [d] => { results := [.lit (.bool true)], args := [d] }
  | _ => none }
def fnExactFarthestStacksRow : OpenClaim := { program := "ytajdlioojibmdaa", sum := "aed4988072058aebd3937d850613cb829841e4d29d93941b4b81013804354dc3", func := "loop.example/g01221/laws.FnExactFarthestStacks", spec := "fnExactFarthestStacks", unfollowed := true, recurses := true, plainKeys := false, apart := false }
def FnExactFarthestStacksSaid : Prop := fnExactFarthestStacksRow.holds Try.pinned (OpenSpec.ofChange fnExactFarthestStacksSpec)

/-- ITS FALSE NEIGHBOUR: 'it returns false'. Refute it at one input. -/
def fnExactFarthestStacksWrong : ChangeSpec := { name := "fnExactFarthestStacks", fn := fun _ => fun
  | [d] => { results := [.lit (.bool false)], args := [d] }
  | _ => none }
def FnExactFarthestStacksWrongFalsely : Prop := fnExactFarthestStacksRow.holds Try.pinned (OpenSpec.ofChange fnExactFarthestStacksWrong)

/-- 'laws.FnExactWorstBurnt': WHATEVER THE INPUT: true; the input reads as it did. -/
def fnExactWorstBurntSpec : ChangeSpec := { name := "fnExactWorstBurnt", fn := fun _ => fun
  | [d] => { results := [.lit (.bool true)], args := [d] }
  | _ => none }
def fnExactWorstBurntRow : OpenClaim := { program := "ytajdlioojibmdaa", sum := "aed4988072058aebd3937d850613cb829841e4d29d93941b4b81013804354dc3", func := "loop.example/g01221/laws.FnExactWorstBurnt", spec := "fnExactWorstBurnt", unfollowed := true, recurses := true, plainKeys := false, apart := false }
def FnExactWorstBurntSaid : Prop := fnExactWorstBurntRow.holds Try.pinned (OpenSpec.ofChange fnExactWorstBurntSpec)

/-- ITS FALSE NEIGHBOUR: 'it returns false'. Refute it at one input. -/
def fnExactWorstBurntWrong : ChangeSpec := { name := "fnExactWorstBurnt", fn := fun _ => fun
  | [d] => { results := [.lit (.bool false)], args := [d] }
  | _ => none }
def FnExactWorstBurntWrongFalsely : Prop := fnExactWorstBurntRow.holds Try.pinned (OpenSpec.ofChange fnExactWorstBurntWrong)

/-- 'laws.FnExactPilesOf': WHATEVER THE INPUT: true; the input reads as it did. -/
def fnExactPilesOfSpec : ChangeSpec := { name := "fnExactPilesOf", fn := fun _ => fun
  | [d] => { results := [.lit (.bool true)], args := [d] }
  | _ => none }
def fnExactPilesOfRow : OpenClaim := { program := "ytajdlioojibmdaa", sum := "aed4988072058aebd3937d850613cb829841e4d29d93941b4b81013804354dc3", func := "loop.example/g01221/laws.FnExactPilesOf", spec := "fnExactPilesOf", unfollowed := true, recurses := true, plainKeys := false, apart := false }
def FnExactPilesOfSaid : Prop := fnExactPilesOfRow.holds Try.pinned (OpenSpec.ofChange fnExactPilesOfSpec)

/-- ITS FALSE NEIGHBOUR: 'it returns false'. Refute it at one input. -/
def fnExactPilesOfWrong : ChangeSpec := { name := "fnExactPilesOf", fn := fun _ => fun
  | [d] => { results := [.lit (.bool false)], args := [d] }
  | _ => none }
def FnExactPilesOfWrongFalsely : Prop := fnExactPilesOfRow.holds Try.pinned (OpenSpec.ofChange fnExactPilesOfWrong)

/-- 'laws.FnExactRowsOf': WHATEVER THE INPUT: true; the input reads as it did. -/
def fnExactRowsOfSpec : ChangeSpec := { name := "fnExactRowsOf", fn := fun _ => fun
  | [d] => { results := [.lit (.bool true)], args := [d] }
  | _ => none }
def fnExactRowsOfRow : OpenClaim := { program := "ytajdlioojibmdaa", sum := "aed4988072058aebd3937d850613cb829841e4d29d93941b4b81013804354dc3", func := "loop.example/g01221/laws.FnExactRowsOf", spec := "fnExactRowsOf", unfollowed := true, recurses := true, plainKeys := false, apart := false }
def FnExactRowsOfSaid : Prop := fnExactRowsOfRow.holds Try.pinned (OpenSpec.ofChange fnExactRowsOfSpec)

/-- ITS FALSE NEIGHBOUR: 'it returns false'. Refute it at one input. -/
def fnExactRowsOfWrong : ChangeSpec := { name := "fnExactRowsOf", fn := fun _ => fun
  | [d] => { results := [.lit (.bool false)], args := [d] }
  | _ => none }
def FnExactRowsOfWrongFalsely : Prop := fnExactRowsOfRow.holds Try.pinned (OpenSpec.ofChange fnExactRowsOfWrong)

/-- 'laws.FnExactPlacesOfRows': WHATEVER THE INPUT: true; the input reads as it did. -/
def fnExactPlacesOfRowsSpec : ChangeSpec := { name := "fnExactPlacesOfRows", fn := fun _ => fun
  | [d] => { results := [.lit (.bool true)], args := [d] }
  | _ => none }
def fnExactPlacesOfRowsRow : OpenClaim := { program := "ytajdlioojibmdaa", sum := "aed4988072058aebd3937d850613cb829841e4d29d93941b4b81013804354dc3", func := "loop.example/g01221/laws.FnExactPlacesOfRows", spec := "fnExactPlacesOfRows", unfollowed := true, recurses := true, plainKeys := false, apart := false }
def FnExactPlacesOfRowsSaid : Prop := fnExactPlacesOfRowsRow.holds Try.pinned (OpenSpec.ofChange fnExactPlacesOfRowsSpec)

/-- ITS FALSE NEIGHBOUR: 'it returns false'. Refute it at one input. -/
def fnExactPlacesOfRowsWrong : ChangeSpec := { name := "fnExactPlacesOfRows", fn := fun _ => fun
  | [d] => { results := [.lit (.bool false)], args := [d] }
  | _ => none }
def FnExactPlacesOfRowsWrongFalsely : Prop := fnExactPlacesOfRowsRow.holds Try.pinned (OpenSpec.ofChange fnExactPlacesOfRowsWrong)

/-- 'laws.FnExactShapeOf': WHATEVER THE INPUT: true; the input reads as it did. -/
def fnExactShapeOfSpec : ChangeSpec := { name := "fnExactShapeOf", fn := fun _ => fun
  | [d] => { results := [.lit (.bool true)], args := [d] }
  | _ => none }
def fnExactShapeOfRow : OpenClaim := { program := "ytajdlioojibmdaa", sum := "aed4988072058aebd3937d850613cb829841e4d29d93941b4b81013804354dc3", func := "loop.example/g01221/laws.FnExactShapeOf", spec := "fnExactShapeOf", unfollowed := true, recurses := true, plainKeys := false, apart := false }
def FnExactShapeOfSaid : Prop := fnExactShapeOfRow.holds Try.pinned (OpenSpec.ofChange fnExactShapeOfSpec)

/-- ITS FALSE NEIGHBOUR: 'it returns false'. Refute it at one input. -/
def fnExactShapeOfWrong : ChangeSpec := { name := "fnExactShapeOf", fn := fun _ => fun
  | [d] => { results := [.lit (.bool false)], args := [d] }
  | _ => none }
def FnExactShapeOfWrongFalsely : Prop := fnExactShapeOfRow.holds Try.pinned (OpenSpec.ofChange fnExactShapeOfWrong)

/- THE SECOND FORM. 'bulk': how many values and letters a reading holds, each counted each time it is reached (what is shared counts as often as it is met; a slice's spare places count too). A statement '..UptoSaid' is the law's where the arguments, and the package variables that the reading takes, are together of bulk at most 1048576: NARROWER than '..Said'. Prove '..Said' where nothing that the law and all that it calls make is longer than what came in: it says more and counts as full. Else prove '..UptoSaid'. A law counts once. -/
mutual
def uptoBulk {H : Type} : DataW H → Nat
  | .lit (.string bytes) => bytes.length + 1
  | .lit _ => 1
  | .nil => 1
  | .ptr d => uptoBulk d + 1
  | .slice elems spare => uptoBulkAll elems + uptoBulkAll spare + 1
  | .agg parts => uptoBulkAll parts + 1
  | .iface _ d => uptoBulk d + 1
  | .map entries => uptoBulkEntries entries + 1
  | .held _ => 1
def uptoBulkAll {H : Type} : List (DataW H) → Nat
  | [] => 0
  | d :: r => uptoBulk d + uptoBulkAll r
def uptoBulkEntries {H : Type} : List (Lit × DataW H) → Nat
  | [] => 0
  | x :: r => uptoBulkEntry x + uptoBulkEntries r
def uptoBulkEntry {H : Type} : Lit × DataW H → Nat
  | (.string bytes, d) => bytes.length + uptoBulk d + 1
  | (_, d) => uptoBulk d + 1
 end
def uptoSmall : (H : Type) → List (DataW H) → Bool := fun _ ds => decide (uptoBulkAll ds ≤ 1048576)
def OpenSpec.upto (s : _root_.Go.ChangeSpec) : _root_.Go.OpenSpec := { _root_.Go.OpenSpec.ofChange s with cond := some uptoSmall }

/-- 'laws.FnExactBlockDistance', WHERE WHAT IT READS IS OF BULK AT MOST 1048576: true; the input reads as it did. -/
def fnExactBlockDistanceUptoRow : OpenClaim := { program := "ytajdlioojibmdaa", sum := "aed4988072058aebd3937d850613cb829841e4d29d93941b4b81013804354dc3", func := "loop.example/g01221/laws.FnExactBlockDistance", spec := "fnExactBlockDistance", unfollowed := true, recurses := true, plainKeys := false, apart := false, narrowed := true }
def FnExactBlockDistanceUptoSaid : Prop := fnExactBlockDistanceUptoRow.holds Try.pinned (OpenSpec.upto fnExactBlockDistanceSpec)

/-- 'laws.FnExactLeastBlocks', WHERE WHAT IT READS IS OF BULK AT MOST 1048576: true; the input reads as it did. -/
def fnExactLeastBlocksUptoRow : OpenClaim := { program := "ytajdlioojibmdaa", sum := "aed4988072058aebd3937d850613cb829841e4d29d93941b4b81013804354dc3", func := "loop.example/g01221/laws.FnExactLeastBlocks", spec := "fnExactLeastBlocks", unfollowed := true, recurses := true, plainKeys := false, apart := false, narrowed := true }
def FnExactLeastBlocksUptoSaid : Prop := fnExactLeastBlocksUptoRow.holds Try.pinned (OpenSpec.upto fnExactLeastBlocksSpec)

/-- 'laws.FnExactCountByBlocks', WHERE WHAT IT READS IS OF BULK AT MOST 1048576: true; the input reads as it did. -/
def fnExactCountByBlocksUptoRow : OpenClaim := { program := "ytajdlioojibmdaa", sum := "aed4988072058aebd3937d850613cb829841e4d29d93941b4b81013804354dc3", func := "loop.example/g01221/laws.FnExactCountByBlocks", spec := "fnExactCountByBlocks", unfollowed := true, recurses := true, plainKeys := false, apart := false, narrowed := true }
def FnExactCountByBlocksUptoSaid : Prop := fnExactCountByBlocksUptoRow.holds Try.pinned (OpenSpec.upto fnExactCountByBlocksSpec)

/-- 'laws.FnExactLeastExchanges', WHERE WHAT IT READS IS OF BULK AT MOST 1048576: true; the input reads as it did. -/
def fnExactLeastExchangesUptoRow : OpenClaim := { program := "ytajdlioojibmdaa", sum := "aed4988072058aebd3937d850613cb829841e4d29d93941b4b81013804354dc3", func := "loop.example/g01221/laws.FnExactLeastExchanges", spec := "fnExactLeastExchanges", unfollowed := true, recurses := true, plainKeys := false, apart := false, narrowed := true }
def FnExactLeastExchangesUptoSaid : Prop := fnExactLeastExchangesUptoRow.holds Try.pinned (OpenSpec.upto fnExactLeastExchangesSpec)

/-- 'laws.FnExactCountByExchanges', WHERE WHAT IT READS IS OF BULK AT MOST 1048576: true; the input reads as it did. -/
def fnExactCountByExchangesUptoRow : OpenClaim := { program := "ytajdlioojibmdaa", sum := "aed4988072058aebd3937d850613cb829841e4d29d93941b4b81013804354dc3", func := "loop.example/g01221/laws.FnExactCountByExchanges", spec := "fnExactCountByExchanges", unfollowed := true, recurses := true, plainKeys := false, apart := false, narrowed := true }
def FnExactCountByExchangesUptoSaid : Prop := fnExactCountByExchangesUptoRow.holds Try.pinned (OpenSpec.upto fnExactCountByExchangesSpec)

/-- 'laws.FnExactFarthestStacks', WHERE WHAT IT READS IS OF BULK AT MOST 1048576: true; the input reads as it did. -/
def fnExactFarthestStacksUptoRow : OpenClaim := { program := "ytajdlioojibmdaa", sum := "aed4988072058aebd3937d850613cb829841e4d29d93941b4b81013804354dc3", func := "loop.example/g01221/laws.FnExactFarthestStacks", spec := "fnExactFarthestStacks", unfollowed := true, recurses := true, plainKeys := false, apart := false, narrowed := true }
def FnExactFarthestStacksUptoSaid : Prop := fnExactFarthestStacksUptoRow.holds Try.pinned (OpenSpec.upto fnExactFarthestStacksSpec)

/-- 'laws.FnExactWorstBurnt', WHERE WHAT IT READS IS OF BULK AT MOST 1048576: true; the input reads as it did. -/
def fnExactWorstBurntUptoRow : OpenClaim := { program := "ytajdlioojibmdaa", sum := "aed4988072058aebd3937d850613cb829841e4d29d93941b4b81013804354dc3", func := "loop.example/g01221/laws.FnExactWorstBurnt", spec := "fnExactWorstBurnt", unfollowed := true, recurses := true, plainKeys := false, apart := false, narrowed := true }
def FnExactWorstBurntUptoSaid : Prop := fnExactWorstBurntUptoRow.holds Try.pinned (OpenSpec.upto fnExactWorstBurntSpec)

/-- 'laws.FnExactPilesOf', WHERE WHAT IT READS IS OF BULK AT MOST 1048576: true; the input reads as it did. -/
def fnExactPilesOfUptoRow : OpenClaim := { program := "ytajdlioojibmdaa", sum := "aed4988072058aebd3937d850613cb829841e4d29d93941b4b81013804354dc3", func := "loop.example/g01221/laws.FnExactPilesOf", spec := "fnExactPilesOf", unfollowed := true, recurses := true, plainKeys := false, apart := false, narrowed := true }
def FnExactPilesOfUptoSaid : Prop := fnExactPilesOfUptoRow.holds Try.pinned (OpenSpec.upto fnExactPilesOfSpec)

/-- 'laws.FnExactRowsOf', WHERE WHAT IT READS IS OF BULK AT MOST 1048576: true; the input reads as it did. -/
def fnExactRowsOfUptoRow : OpenClaim := { program := "ytajdlioojibmdaa", sum := "aed4988072058aebd3937d850613cb829841e4d29d93941b4b81013804354dc3", func := "loop.example/g01221/laws.FnExactRowsOf", spec := "fnExactRowsOf", unfollowed := true, recurses := true, plainKeys := false, apart := false, narrowed := true }
def FnExactRowsOfUptoSaid : Prop := fnExactRowsOfUptoRow.holds Try.pinned (OpenSpec.upto fnExactRowsOfSpec)

/-- 'laws.FnExactPlacesOfRows', WHERE WHAT IT READS IS OF BULK AT MOST 1048576: true; the input reads as it did. -/
def fnExactPlacesOfRowsUptoRow : OpenClaim := { program := "ytajdlioojibmdaa", sum := "aed4988072058aebd3937d850613cb829841e4d29d93941b4b81013804354dc3", func := "loop.example/g01221/laws.FnExactPlacesOfRows", spec := "fnExactPlacesOfRows", unfollowed := true, recurses := true, plainKeys := false, apart := false, narrowed := true }
def FnExactPlacesOfRowsUptoSaid : Prop := fnExactPlacesOfRowsUptoRow.holds Try.pinned (OpenSpec.upto fnExactPlacesOfRowsSpec)

/-- 'laws.FnExactShapeOf', WHERE WHAT IT READS IS OF BULK AT MOST 1048576: true; the input reads as it did. -/
def fnExactShapeOfUptoRow : OpenClaim := { program := "ytajdlioojibmdaa", sum := "aed4988072058aebd3937d850613cb829841e4d29d93941b4b81013804354dc3", func := "loop.example/g01221/laws.FnExactShapeOf", spec := "fnExactShapeOf", unfollowed := true, recurses := true, plainKeys := false, apart := false, narrowed := true }
def FnExactShapeOfUptoSaid : Prop := fnExactShapeOfUptoRow.holds Try.pinned (OpenSpec.upto fnExactShapeOfSpec)

end Rows
end Go.Proofs.Ytajdlioojibmdaa
