/-
  DERIVED. GIVEN WITH THE SEED: THE CARDS: each row of YtgdljgddfbegnadDoorRows.lean that lists a variable, with what it lists TIED to the program's text (the seventh form; the later family's looks); each row that meets fmt, with fmt's text TOLD by the authors' own Lean function (tested against real Go, not proved from fmt's source: count such statements apart). THE CARD IS WHAT COUNTS. Prove the row's statement (the work); the ties are given (YtgdljgddfbegnadDoorTie.lean); close each card by the builder's one call (the guide's Derived/Test/ToyasCard.lean, 'card_holds'). Laid BY PROGRAM, IN A SANDBOX (cutbox-door.mjs). By AI agents, Wed Nov 11 2026. No macro, syntax, notation, axiom, sorry.
-/
import Derived.Test.YtgdljgddfbegnadDoorRows
import GoSem.ClaimSeven
namespace Go.Proofs.YtgdljgddfbegnadDoor
namespace Rows

/-- THE TIED CARD OF 'laws.FnExactLeanOps'. -/
def fnExactLeanOpsCard : Claim7 := { stood := { row := fnExactLeanOpsRow, standIns := [], harness := (true, "754cf949dd914cba22bb6cbf1f36fadbcb737e2d19cd14fed3c3f2b65a5979ce"), looks := false }, kinds := [], alts := [], laidByText := true, laidKinds := [.data], laidTests := true, laidLooks := .later }
def FnExactLeanOpsCardSaid : Prop := Claim7.holds Tryd.pinned (.plain (OpenSpec.ofChange fnExactLeanOpsSpec)) fnExactLeanOpsCard

/-- THE SECOND FORM's CARD OF 'laws.FnExactLeanOps'. -/
def fnExactLeanOpsUptoCard : Claim7 := { stood := { row := fnExactLeanOpsUptoRow, standIns := [], harness := (true, "754cf949dd914cba22bb6cbf1f36fadbcb737e2d19cd14fed3c3f2b65a5979ce"), looks := false }, kinds := [], alts := [], laidByText := true, laidKinds := [.data], laidTests := true, laidLooks := .later }
def FnExactLeanOpsUptoCardSaid : Prop := Claim7.holds Tryd.pinned (.plain (OpenSpec.upto fnExactLeanOpsSpec)) fnExactLeanOpsUptoCard
end Rows
end Go.Proofs.YtgdljgddfbegnadDoor
