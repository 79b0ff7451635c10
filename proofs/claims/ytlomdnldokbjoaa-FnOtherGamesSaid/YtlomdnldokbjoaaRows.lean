/-
  No cell of these rows narrows 'for every input' (looked for: loops, veiled, ifaces, maps, wideKeys, modest, calm, conditions, laid).
  DERIVED. THE GIVEN ROWS OF THIS SEAT. 5 by the template 'for every input the law returns true; each argument reads behind the call as it read before'; 0 by the template 'total and deterministic' (their statements: YtlomdnldokbjoaaTotals.lean).
  GIVEN WITH THE SEED: the statements are not yours to turn. If you find one false, say at which input.
  Laid BY PROGRAM, IN A SANDBOX (cutbox-rows.mjs): the forced cells as the released guide's own fill.sh prints them over the translation 93d851c774161945… (all of the seat's roots in one cut). By AI agents, Wed Nov 11 2026. No macro, syntax, notation, axiom, sorry.
-/
import Derived.Test.YtlomdnldokbjoaaChecked
import GoSem.Claim
import GoSem.ClaimJoined
import GoSem.ClaimMapViews
import Derived.JoinedTies
import Derived.KernelRfl
namespace Go.Proofs.Ytlomdnldokbjoaa
/- THE CELL 'sum', in the pinned program and in every row, IS THE sha256 OF THE DUMP (.gsa) THAT YtlomdnldokbjoaaProg.lean LOADS. Nothing in Lean hashes anything: it is a label: what it is worth is what the hold of that sum in a sandbox is worth. -/
noncomputable def Try.pinned : Pinned := { name := "ytlomdnldokbjoaa", sum := "93d851c774161945b3041a3ac79905d70393113b7cd3c4c2eae3775a0a7ae403", checked := Try.checked }
namespace Rows
def none {H : Type} : Left H := { results := [], args := [] }

/-- 'laws.FnStacksTurned': WHATEVER THE INPUT: true; the input reads as it did. -/
def fnStacksTurnedSpec : ChangeSpec := { name := "fnStacksTurned", fn := fun _ => fun
  | [d1, d2] => { results := [.lit (.bool true)], args := [d1, d2] }
  | _ => none }
def fnStacksTurnedRow : OpenClaim := { program := "ytlomdnldokbjoaa", sum := "93d851c774161945b3041a3ac79905d70393113b7cd3c4c2eae3775a0a7ae403", func := "loop.example/g01221/laws.FnStacksTurned", spec := "fnStacksTurned", unfollowed := true, recurses := true, plainKeys := false, apart := false }
def FnStacksTurnedSaid : Prop := fnStacksTurnedRow.holds Try.pinned (OpenSpec.ofChange fnStacksTurnedSpec)

/-- ITS FALSE NEIGHBOUR: 'it returns false'. Refute it at one input. -/
def fnStacksTurnedWrong : ChangeSpec := { name := "fnStacksTurned", fn := fun _ => fun
  | [d1, d2] => { results := [.lit (.bool false)], args := [d1, d2] }
  | _ => none }
def FnStacksTurnedWrongFalsely : Prop := fnStacksTurnedRow.holds Try.pinned (OpenSpec.ofChange fnStacksTurnedWrong)

/-- 'laws.FnStacksGroup': WHATEVER THE INPUT: true; the input reads as it did. -/
def fnStacksGroupSpec : ChangeSpec := { name := "fnStacksGroup", fn := fun _ => fun
  | [d1, d2] => { results := [.lit (.bool true)], args := [d1, d2] }
  | _ => none }
def fnStacksGroupRow : OpenClaim := { program := "ytlomdnldokbjoaa", sum := "93d851c774161945b3041a3ac79905d70393113b7cd3c4c2eae3775a0a7ae403", func := "loop.example/g01221/laws.FnStacksGroup", spec := "fnStacksGroup", recurses := true, plainKeys := false, apart := false }
def FnStacksGroupSaid : Prop := fnStacksGroupRow.holds Try.pinned (OpenSpec.ofChange fnStacksGroupSpec)

/-- ITS FALSE NEIGHBOUR: 'it returns false'. Refute it at one input. -/
def fnStacksGroupWrong : ChangeSpec := { name := "fnStacksGroup", fn := fun _ => fun
  | [d1, d2] => { results := [.lit (.bool false)], args := [d1, d2] }
  | _ => none }
def FnStacksGroupWrongFalsely : Prop := fnStacksGroupRow.holds Try.pinned (OpenSpec.ofChange fnStacksGroupWrong)

/-- 'laws.FnGapsBound': WHATEVER THE INPUT: true; the input reads as it did. -/
def fnGapsBoundSpec : ChangeSpec := { name := "fnGapsBound", fn := fun _ => fun
  | [d1, d2] => { results := [.lit (.bool true)], args := [d1, d2] }
  | _ => none }
def fnGapsBoundRow : OpenClaim := { program := "ytlomdnldokbjoaa", sum := "93d851c774161945b3041a3ac79905d70393113b7cd3c4c2eae3775a0a7ae403", func := "loop.example/g01221/laws.FnGapsBound", spec := "fnGapsBound", unfollowed := true, recurses := true, plainKeys := false, apart := false }
def FnGapsBoundSaid : Prop := fnGapsBoundRow.holds Try.pinned (OpenSpec.ofChange fnGapsBoundSpec)

/-- ITS FALSE NEIGHBOUR: 'it returns false'. Refute it at one input. -/
def fnGapsBoundWrong : ChangeSpec := { name := "fnGapsBound", fn := fun _ => fun
  | [d1, d2] => { results := [.lit (.bool false)], args := [d1, d2] }
  | _ => none }
def FnGapsBoundWrongFalsely : Prop := fnGapsBoundRow.holds Try.pinned (OpenSpec.ofChange fnGapsBoundWrong)

/-- 'laws.FnPlansSort': WHATEVER THE INPUT: true; the input reads as it did. -/
def fnPlansSortSpec : ChangeSpec := { name := "fnPlansSort", fn := fun _ => fun
  | [d1, d2] => { results := [.lit (.bool true)], args := [d1, d2] }
  | _ => none }
def fnPlansSortRow : OpenClaim := { program := "ytlomdnldokbjoaa", sum := "93d851c774161945b3041a3ac79905d70393113b7cd3c4c2eae3775a0a7ae403", func := "loop.example/g01221/laws.FnPlansSort", spec := "fnPlansSort", unfollowed := true, recurses := true, plainKeys := false, apart := false }
def FnPlansSortSaid : Prop := fnPlansSortRow.holds Try.pinned (OpenSpec.ofChange fnPlansSortSpec)

/-- ITS FALSE NEIGHBOUR: 'it returns false'. Refute it at one input. -/
def fnPlansSortWrong : ChangeSpec := { name := "fnPlansSort", fn := fun _ => fun
  | [d1, d2] => { results := [.lit (.bool false)], args := [d1, d2] }
  | _ => none }
def FnPlansSortWrongFalsely : Prop := fnPlansSortRow.holds Try.pinned (OpenSpec.ofChange fnPlansSortWrong)

/-- 'laws.FnOtherGames': WHATEVER THE INPUT: true; the input reads as it did. -/
def fnOtherGamesSpec : ChangeSpec := { name := "fnOtherGames", fn := fun _ => fun
  | [d1, d2] => { results := [.lit (.bool true)], args := [d1, d2] }
  | _ => none }
def fnOtherGamesRow : OpenClaim := { program := "ytlomdnldokbjoaa", sum := "93d851c774161945b3041a3ac79905d70393113b7cd3c4c2eae3775a0a7ae403", func := "loop.example/g01221/laws.FnOtherGames", spec := "fnOtherGames", unfollowed := true, recurses := true, plainKeys := false, apart := false }
def FnOtherGamesSaid : Prop := fnOtherGamesRow.holds Try.pinned (OpenSpec.ofChange fnOtherGamesSpec)

/-- ITS FALSE NEIGHBOUR: 'it returns false'. Refute it at one input. -/
def fnOtherGamesWrong : ChangeSpec := { name := "fnOtherGames", fn := fun _ => fun
  | [d1, d2] => { results := [.lit (.bool false)], args := [d1, d2] }
  | _ => none }
def FnOtherGamesWrongFalsely : Prop := fnOtherGamesRow.holds Try.pinned (OpenSpec.ofChange fnOtherGamesWrong)

/- THE SECOND FORM. 'bulk': how many values and letters a reading holds, each counted each time it is reached (what is shared counts as often as it is met; a slice's spare places count too). A statement '..UptoSaid' is the law's where the arguments, and the package variables that the reading takes, are together of bulk at most 1048576: NARROWER than '..Said'. Prove '..Said' where nothing that the law and all that it calls make is longer than what came in: it says more and counts as full. Else prove '..UptoSaid'. A law counts once. -/
mutual
def uptoBulk {H : Type} : DataW H → Nat
  | .lit (.string bytes) => bytes.length + 1
  | .lit _ => 1
  | .nil => 1
  | .ptr d => uptoBulk d + 1
  | .slice elems spare => uptoBulkAll elems + uptoBulkAll spare + 1
  | .agg parts => uptoBulkAll parts + 1
  | .iface _ d => uptoBulk d + 1
  | .map entries => uptoBulkEntries entries + 1
  | .held _ => 1
def uptoBulkAll {H : Type} : List (DataW H) → Nat
  | [] => 0
  | d :: r => uptoBulk d + uptoBulkAll r
def uptoBulkEntries {H : Type} : List (Lit × DataW H) → Nat
  | [] => 0
  | x :: r => uptoBulkEntry x + uptoBulkEntries r
def uptoBulkEntry {H : Type} : Lit × DataW H → Nat
  | (.string bytes, d) => bytes.length + uptoBulk d + 1
  | (_, d) => uptoBulk d + 1
 end
def uptoSmall : (H : Type) → List (DataW H) → Bool := fun _ ds => decide (uptoBulkAll ds ≤ 1048576)
def OpenSpec.upto (s : _root_.Go.ChangeSpec) : _root_.Go.OpenSpec := { _root_.Go.OpenSpec.ofChange s with cond := some uptoSmall }

/-- 'laws.FnStacksTurned', WHERE WHAT IT READS IS OF BULK AT MOST 1048576: true; the input reads as it did. -/
def fnStacksTurnedUptoRow : OpenClaim := { program := "ytlomdnldokbjoaa", sum := "93d851c774161945b3041a3ac79905d70393113b7cd3c4c2eae3775a0a7ae403", func := "loop.example/g01221/laws.FnStacksTurned", spec := "fnStacksTurned", unfollowed := true, recurses := true, plainKeys := false, apart := false, narrowed := true }
def FnStacksTurnedUptoSaid : Prop := fnStacksTurnedUptoRow.holds Try.pinned (OpenSpec.upto fnStacksTurnedSpec)

/-- 'laws.FnStacksGroup', WHERE WHAT IT READS IS OF BULK AT MOST 1048576: true; the input reads as it did. -/
def fnStacksGroupUptoRow : OpenClaim := { program := "ytlomdnldokbjoaa", sum := "93d851c774161945b3041a3ac79905d70393113b7cd3c4c2eae3775a0a7ae403", func := "loop.example/g01221/laws.FnStacksGroup", spec := "fnStacksGroup", recurses := true, plainKeys := false, apart := false, narrowed := true }
def FnStacksGroupUptoSaid : Prop := fnStacksGroupUptoRow.holds Try.pinned (OpenSpec.upto fnStacksGroupSpec)

/-- 'laws.FnGapsBound', WHERE WHAT IT READS IS OF BULK AT MOST 1048576: true; the input reads as it did. -/
def fnGapsBoundUptoRow : OpenClaim := { program := "ytlomdnldokbjoaa", sum := "93d851c774161945b3041a3ac79905d70393113b7cd3c4c2eae3775a0a7ae403", func := "loop.example/g01221/laws.FnGapsBound", spec := "fnGapsBound", unfollowed := true, recurses := true, plainKeys := false, apart := false, narrowed := true }
def FnGapsBoundUptoSaid : Prop := fnGapsBoundUptoRow.holds Try.pinned (OpenSpec.upto fnGapsBoundSpec)

/-- 'laws.FnPlansSort', WHERE WHAT IT READS IS OF BULK AT MOST 1048576: true; the input reads as it did. -/
def fnPlansSortUptoRow : OpenClaim := { program := "ytlomdnldokbjoaa", sum := "93d851c774161945b3041a3ac79905d70393113b7cd3c4c2eae3775a0a7ae403", func := "loop.example/g01221/laws.FnPlansSort", spec := "fnPlansSort", unfollowed := true, recurses := true, plainKeys := false, apart := false, narrowed := true }
def FnPlansSortUptoSaid : Prop := fnPlansSortUptoRow.holds Try.pinned (OpenSpec.upto fnPlansSortSpec)

/-- 'laws.FnOtherGames', WHERE WHAT IT READS IS OF BULK AT MOST 1048576: true; the input reads as it did. -/
def fnOtherGamesUptoRow : OpenClaim := { program := "ytlomdnldokbjoaa", sum := "93d851c774161945b3041a3ac79905d70393113b7cd3c4c2eae3775a0a7ae403", func := "loop.example/g01221/laws.FnOtherGames", spec := "fnOtherGames", unfollowed := true, recurses := true, plainKeys := false, apart := false, narrowed := true }
def FnOtherGamesUptoSaid : Prop := fnOtherGamesUptoRow.holds Try.pinned (OpenSpec.upto fnOtherGamesSpec)

end Rows
end Go.Proofs.Ytlomdnldokbjoaa
