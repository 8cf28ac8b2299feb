/-
  DERIVED. GIVEN WITH THE SEED: THE CARDS: each row of YtanicidkmfoooabDoorRows.lean that lists a variable, with what it lists TIED to the program's text (the seventh form; the later family's looks); each row that meets fmt, with fmt's text TOLD by the authors' own Lean function (tested against real Go, not proved from fmt's source: count such statements apart). THE CARD IS WHAT COUNTS. Prove the row's statement (the work); the ties are given (YtanicidkmfoooabDoorTie.lean); close each card by the builder's one call (the guide's Derived/Test/ToyasCard.lean, 'card_holds'). Laid BY PROGRAM, IN A SANDBOX (cutbox-door.mjs). By AI agents, Wed Nov 11 2026. No macro, syntax, notation, axiom, sorry.
-/
import Derived.Test.YtanicidkmfoooabDoorRows
import GoSem.ClaimSeven
namespace Go.Proofs.YtanicidkmfoooabDoor
namespace Rows

/-- THE TIED CARD OF 'laws.FnExactShapesOf'. -/
def fnExactShapesOfCard : Claim7 := { stood := { row := fnExactShapesOfRow, standIns := [], harness := (true, "322e06a99ba73d7ecf19960c3c37396eb475c837cec33b28120ec6fa551d4af4"), looks := false }, kinds := [], alts := [], laidByText := true, laidKinds := [.data, .data], laidTests := true, laidLooks := .later }
def FnExactShapesOfCardSaid : Prop := Claim7.holds Tryd.pinned (.plain (OpenSpec.ofChange fnExactShapesOfSpec)) fnExactShapesOfCard

/-- THE SECOND FORM's CARD OF 'laws.FnExactShapesOf'. -/
def fnExactShapesOfUptoCard : Claim7 := { stood := { row := fnExactShapesOfUptoRow, standIns := [], harness := (true, "322e06a99ba73d7ecf19960c3c37396eb475c837cec33b28120ec6fa551d4af4"), looks := false }, kinds := [], alts := [], laidByText := true, laidKinds := [.data, .data], laidTests := true, laidLooks := .later }
def FnExactShapesOfUptoCardSaid : Prop := Claim7.holds Tryd.pinned (.plain (OpenSpec.upto fnExactShapesOfSpec)) fnExactShapesOfUptoCard
end Rows
end Go.Proofs.YtanicidkmfoooabDoor
