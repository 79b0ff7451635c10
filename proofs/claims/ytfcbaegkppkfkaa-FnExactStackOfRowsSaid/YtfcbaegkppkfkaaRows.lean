/-
  No cell of these rows narrows 'for every input' (looked for: loops, veiled, ifaces, maps, wideKeys, modest, calm, conditions, laid).
  DERIVED. THE GIVEN ROWS OF THIS SEAT. 5 by the template 'for every input the law returns true; each argument reads behind the call as it read before'; 0 by the template 'total and deterministic' (their statements: YtfcbaegkppkfkaaTotals.lean).
  GIVEN WITH THE SEED: the statements are not yours to turn. If you find one false, say at which input.
  Laid BY PROGRAM, IN A SANDBOX (cutbox-rows.mjs): the forced cells as the released guide's own fill.sh prints them over the translation 184e73f3f0071896… (all of the seat's roots in one cut). By AI agents, Wed Nov 11 2026. No macro, syntax, notation, axiom, sorry.
-/
import Derived.Test.YtfcbaegkppkfkaaChecked
import GoSem.Claim
import GoSem.ClaimJoined
import GoSem.ClaimMapViews
import Derived.JoinedTies
import Derived.KernelRfl
namespace Go.Proofs.Ytfcbaegkppkfkaa
/- THE CELL 'sum', in the pinned program and in every row, IS THE sha256 OF THE DUMP (.gsa) THAT YtfcbaegkppkfkaaProg.lean LOADS. Nothing in Lean hashes anything: it is a label: what it is worth is what the hold of that sum in a sandbox is worth. -/
noncomputable def Try.pinned : Pinned := { name := "ytfcbaegkppkfkaa", sum := "184e73f3f0071896c15e795c14aa35227c62aefe5850b13b709369d5359e2fe7", checked := Try.checked }
namespace Rows
def none {H : Type} : Left H := { results := [], args := [] }

/-- 'laws.FnExactPilesOf': WHATEVER THE INPUT: true; the input reads as it did. -/
def fnExactPilesOfSpec : ChangeSpec := { name := "fnExactPilesOf", fn := fun _ => fun
  | [d] => { results := [.lit (.bool true)], args := [d] }
  | _ => none }
def fnExactPilesOfRow : OpenClaim := { program := "ytfcbaegkppkfkaa", sum := "184e73f3f0071896c15e795c14aa35227c62aefe5850b13b709369d5359e2fe7", func := "loop.example/g01221/laws.FnExactPilesOf", spec := "fnExactPilesOf", unfollowed := true, recurses := true, apart := false }
def FnExactPilesOfSaid : Prop := fnExactPilesOfRow.holds Try.pinned (OpenSpec.ofChange fnExactPilesOfSpec)

/-- ITS FALSE NEIGHBOUR: 'it returns false'. Refute it at one input. -/
def fnExactPilesOfWrong : ChangeSpec := { name := "fnExactPilesOf", fn := fun _ => fun
  | [d] => { results := [.lit (.bool false)], args := [d] }
  | _ => none }
def FnExactPilesOfWrongFalsely : Prop := fnExactPilesOfRow.holds Try.pinned (OpenSpec.ofChange fnExactPilesOfWrong)

/-- 'laws.FnExactRowsOf': WHATEVER THE INPUT: true; the input reads as it did. -/
def fnExactRowsOfSpec : ChangeSpec := { name := "fnExactRowsOf", fn := fun _ => fun
  | [d] => { results := [.lit (.bool true)], args := [d] }
  | _ => none }
def fnExactRowsOfRow : OpenClaim := { program := "ytfcbaegkppkfkaa", sum := "184e73f3f0071896c15e795c14aa35227c62aefe5850b13b709369d5359e2fe7", func := "loop.example/g01221/laws.FnExactRowsOf", spec := "fnExactRowsOf", unfollowed := true, recurses := true, apart := false }
def FnExactRowsOfSaid : Prop := fnExactRowsOfRow.holds Try.pinned (OpenSpec.ofChange fnExactRowsOfSpec)

/-- ITS FALSE NEIGHBOUR: 'it returns false'. Refute it at one input. -/
def fnExactRowsOfWrong : ChangeSpec := { name := "fnExactRowsOf", fn := fun _ => fun
  | [d] => { results := [.lit (.bool false)], args := [d] }
  | _ => none }
def FnExactRowsOfWrongFalsely : Prop := fnExactRowsOfRow.holds Try.pinned (OpenSpec.ofChange fnExactRowsOfWrong)

/-- 'laws.FnExactPlacesOfRows': WHATEVER THE INPUT: true; the input reads as it did. -/
def fnExactPlacesOfRowsSpec : ChangeSpec := { name := "fnExactPlacesOfRows", fn := fun _ => fun
  | [d] => { results := [.lit (.bool true)], args := [d] }
  | _ => none }
def fnExactPlacesOfRowsRow : OpenClaim := { program := "ytfcbaegkppkfkaa", sum := "184e73f3f0071896c15e795c14aa35227c62aefe5850b13b709369d5359e2fe7", func := "loop.example/g01221/laws.FnExactPlacesOfRows", spec := "fnExactPlacesOfRows", unfollowed := true, recurses := true, apart := false }
def FnExactPlacesOfRowsSaid : Prop := fnExactPlacesOfRowsRow.holds Try.pinned (OpenSpec.ofChange fnExactPlacesOfRowsSpec)

/-- ITS FALSE NEIGHBOUR: 'it returns false'. Refute it at one input. -/
def fnExactPlacesOfRowsWrong : ChangeSpec := { name := "fnExactPlacesOfRows", fn := fun _ => fun
  | [d] => { results := [.lit (.bool false)], args := [d] }
  | _ => none }
def FnExactPlacesOfRowsWrongFalsely : Prop := fnExactPlacesOfRowsRow.holds Try.pinned (OpenSpec.ofChange fnExactPlacesOfRowsWrong)

/-- 'laws.FnExactShapeOf': WHATEVER THE INPUT: true; the input reads as it did. -/
def fnExactShapeOfSpec : ChangeSpec := { name := "fnExactShapeOf", fn := fun _ => fun
  | [d] => { results := [.lit (.bool true)], args := [d] }
  | _ => none }
def fnExactShapeOfRow : OpenClaim := { program := "ytfcbaegkppkfkaa", sum := "184e73f3f0071896c15e795c14aa35227c62aefe5850b13b709369d5359e2fe7", func := "loop.example/g01221/laws.FnExactShapeOf", spec := "fnExactShapeOf", unfollowed := true, recurses := true, apart := false }
def FnExactShapeOfSaid : Prop := fnExactShapeOfRow.holds Try.pinned (OpenSpec.ofChange fnExactShapeOfSpec)

/-- ITS FALSE NEIGHBOUR: 'it returns false'. Refute it at one input. -/
def fnExactShapeOfWrong : ChangeSpec := { name := "fnExactShapeOf", fn := fun _ => fun
  | [d] => { results := [.lit (.bool false)], args := [d] }
  | _ => none }
def FnExactShapeOfWrongFalsely : Prop := fnExactShapeOfRow.holds Try.pinned (OpenSpec.ofChange fnExactShapeOfWrong)

/-- 'laws.FnExactStackOfRows': WHATEVER THE INPUT: true; the input reads as it did. -/
def fnExactStackOfRowsSpec : ChangeSpec := { name := "fnExactStackOfRows", fn := fun _ => fun
  | [d1, d2] => { results := [.lit (.bool true)], args := [d1, d2] }
  | _ => none }
def fnExactStackOfRowsRow : OpenClaim := { program := "ytfcbaegkppkfkaa", sum := "184e73f3f0071896c15e795c14aa35227c62aefe5850b13b709369d5359e2fe7", func := "loop.example/g01221/laws.FnExactStackOfRows", spec := "fnExactStackOfRows", unfollowed := true, recurses := true, apart := false }
def FnExactStackOfRowsSaid : Prop := fnExactStackOfRowsRow.holds Try.pinned (OpenSpec.ofChange fnExactStackOfRowsSpec)

/-- ITS FALSE NEIGHBOUR: 'it returns false'. Refute it at one input. -/
def fnExactStackOfRowsWrong : ChangeSpec := { name := "fnExactStackOfRows", fn := fun _ => fun
  | [d1, d2] => { results := [.lit (.bool false)], args := [d1, d2] }
  | _ => none }
def FnExactStackOfRowsWrongFalsely : Prop := fnExactStackOfRowsRow.holds Try.pinned (OpenSpec.ofChange fnExactStackOfRowsWrong)

/- THE SECOND FORM. 'bulk': how many values and letters a reading holds, each counted each time it is reached (what is shared counts as often as it is met; a slice's spare places count too). A statement '..UptoSaid' is the law's where the arguments, and the package variables that the reading takes, are together of bulk at most 1048576: NARROWER than '..Said'. Prove '..Said' where nothing that the law and all that it calls make is longer than what came in: it says more and counts as full. Else prove '..UptoSaid'. A law counts once. -/
mutual
def uptoBulk {H : Type} : DataW H → Nat
  | .lit (.string bytes) => bytes.length + 1
  | .lit _ => 1
  | .nil => 1
  | .ptr d => uptoBulk d + 1
  | .slice elems spare => uptoBulkAll elems + uptoBulkAll spare + 1
  | .agg parts => uptoBulkAll parts + 1
  | .iface _ d => uptoBulk d + 1
  | .map entries => uptoBulkEntries entries + 1
  | .held _ => 1
def uptoBulkAll {H : Type} : List (DataW H) → Nat
  | [] => 0
  | d :: r => uptoBulk d + uptoBulkAll r
def uptoBulkEntries {H : Type} : List (Lit × DataW H) → Nat
  | [] => 0
  | x :: r => uptoBulkEntry x + uptoBulkEntries r
def uptoBulkEntry {H : Type} : Lit × DataW H → Nat
  | (.string bytes, d) => bytes.length + uptoBulk d + 1
  | (_, d) => uptoBulk d + 1
 end
def uptoSmall : (H : Type) → List (DataW H) → Bool := fun _ ds => decide (uptoBulkAll ds ≤ 1048576)
def OpenSpec.upto (s : _root_.Go.ChangeSpec) : _root_.Go.OpenSpec := { _root_.Go.OpenSpec.ofChange s with cond := some uptoSmall }

/-- 'laws.FnExactPilesOf', WHERE WHAT IT READS IS OF BULK AT MOST 1048576: true; the input reads as it did. -/
def fnExactPilesOfUptoRow : OpenClaim := { program := "ytfcbaegkppkfkaa", sum := "184e73f3f0071896c15e795c14aa35227c62aefe5850b13b709369d5359e2fe7", func := "loop.example/g01221/laws.FnExactPilesOf", spec := "fnExactPilesOf", unfollowed := true, recurses := true, apart := false, narrowed := true }
def FnExactPilesOfUptoSaid : Prop := fnExactPilesOfUptoRow.holds Try.pinned (OpenSpec.upto fnExactPilesOfSpec)

/-- 'laws.FnExactRowsOf', WHERE WHAT IT READS IS OF BULK AT MOST 1048576: true; the input reads as it did. -/
def fnExactRowsOfUptoRow : OpenClaim := { program := "ytfcbaegkppkfkaa", sum := "184e73f3f0071896c15e795c14aa35227c62aefe5850b13b709369d5359e2fe7", func := "loop.example/g01221/laws.FnExactRowsOf", spec := "fnExactRowsOf", unfollowed := true, recurses := true, apart := false, narrowed := true }
def FnExactRowsOfUptoSaid : Prop := fnExactRowsOfUptoRow.holds Try.pinned (OpenSpec.upto fnExactRowsOfSpec)

/-- 'laws.FnExactPlacesOfRows', WHERE WHAT IT READS IS OF BULK AT MOST 1048576: true; the input reads as it did. -/
def fnExactPlacesOfRowsUptoRow : OpenClaim := { program := "ytfcbaegkppkfkaa", sum := "184e73f3f0071896c15e795c14aa35227c62aefe5850b13b709369d5359e2fe7", func := "loop.example/g01221/laws.FnExactPlacesOfRows", spec := "fnExactPlacesOfRows", unfollowed := true, recurses := true, apart := false, narrowed := true }
def FnExactPlacesOfRowsUptoSaid : Prop := fnExactPlacesOfRowsUptoRow.holds Try.pinned (OpenSpec.upto fnExactPlacesOfRowsSpec)

/-- 'laws.FnExactShapeOf', WHERE WHAT IT READS IS OF BULK AT MOST 1048576: true; the input reads as it did. -/
def fnExactShapeOfUptoRow : OpenClaim := { program := "ytfcbaegkppkfkaa", sum := "184e73f3f0071896c15e795c14aa35227c62aefe5850b13b709369d5359e2fe7", func := "loop.example/g01221/laws.FnExactShapeOf", spec := "fnExactShapeOf", unfollowed := true, recurses := true, apart := false, narrowed := true }
def FnExactShapeOfUptoSaid : Prop := fnExactShapeOfUptoRow.holds Try.pinned (OpenSpec.upto fnExactShapeOfSpec)

/-- 'laws.FnExactStackOfRows', WHERE WHAT IT READS IS OF BULK AT MOST 1048576: true; the input reads as it did. -/
def fnExactStackOfRowsUptoRow : OpenClaim := { program := "ytfcbaegkppkfkaa", sum := "184e73f3f0071896c15e795c14aa35227c62aefe5850b13b709369d5359e2fe7", func := "loop.example/g01221/laws.FnExactStackOfRows", spec := "fnExactStackOfRows", unfollowed := true, recurses := true, apart := false, narrowed := true }
def FnExactStackOfRowsUptoSaid : Prop := fnExactStackOfRowsUptoRow.holds Try.pinned (OpenSpec.upto fnExactStackOfRowsSpec)

end Rows
end Go.Proofs.Ytfcbaegkppkfkaa
