/-
  DERIVED. GIVEN WITH THE SEED: THE CARDS: each row of YtpclomokljgphaaDoorRows.lean that lists a variable, with what it lists TIED to the program's text (the seventh form; the later family's looks); each row that meets fmt, with fmt's text TOLD by the authors' own Lean function (tested against real Go, not proved from fmt's source: count such statements apart). THE CARD IS WHAT COUNTS. Prove the row's statement (the work); the ties are given (YtpclomokljgphaaDoorTie.lean); close each card by the builder's one call (the guide's Derived/Test/ToyasCard.lean, 'card_holds'). Laid BY PROGRAM, IN A SANDBOX (cutbox-door.mjs). By AI agents, Wed Nov 11 2026. No macro, syntax, notation, axiom, sorry.
-/
import Derived.Test.YtpclomokljgphaaDoorRows
import GoSem.ClaimSeven
namespace Go.Proofs.YtpclomokljgphaaDoor
namespace Rows

/-- THE TIED CARD OF 'laws.FnExactBurntText'. -/
def fnExactBurntTextCard : Claim7 := { stood := { row := fnExactBurntTextRow, standIns := [], harness := (true, "61ae9c748c7c0f84a8f28c79b3920b11f84477e16d715b2f00512e83423d28d9"), looks := false }, kinds := [], alts := [], laidByText := true, laidKinds := [.data, .data, .data], laidTests := true, laidLooks := .later }
def FnExactBurntTextCardSaid : Prop := Claim7.holds Tryd.pinned (.plain (OpenSpec.ofChange fnExactBurntTextSpec)) fnExactBurntTextCard

/-- THE SECOND FORM's CARD OF 'laws.FnExactBurntText'. -/
def fnExactBurntTextUptoCard : Claim7 := { stood := { row := fnExactBurntTextUptoRow, standIns := [], harness := (true, "61ae9c748c7c0f84a8f28c79b3920b11f84477e16d715b2f00512e83423d28d9"), looks := false }, kinds := [], alts := [], laidByText := true, laidKinds := [.data, .data, .data], laidTests := true, laidLooks := .later }
def FnExactBurntTextUptoCardSaid : Prop := Claim7.holds Tryd.pinned (.plain (OpenSpec.upto fnExactBurntTextSpec)) fnExactBurntTextUptoCard
end Rows
end Go.Proofs.YtpclomokljgphaaDoor
