/-
  DERIVED. GIVEN WITH THE SEED: THE CARDS: each row of YtckodifdbephgabDoorRows.lean that lists a variable, with what it lists TIED to the program's text (the seventh form; the later family's looks); each row that meets fmt, with fmt's text TOLD by the authors' own Lean function (tested against real Go, not proved from fmt's source: count such statements apart). THE CARD IS WHAT COUNTS. Prove the row's statement (the work); the ties are given (YtckodifdbephgabDoorTie.lean); close each card by the builder's one call (the guide's Derived/Test/ToyasCard.lean, 'card_holds'). Laid BY PROGRAM, IN A SANDBOX (cutbox-door.mjs). By AI agents, Wed Nov 11 2026. No macro, syntax, notation, axiom, sorry.
-/
import Derived.Test.YtckodifdbephgabDoorRows
import GoSem.ClaimSeven
namespace Go.Proofs.YtckodifdbephgabDoor
namespace Rows

/-- THE TIED CARD OF 'laws.FnCountCodes'. -/
def fnCountCodesCard : Claim7 := { stood := { row := fnCountCodesRow, standIns := [], harness := (true, "c4c68900cd26b51cd319140b25479e234fa0616694a3cee1d0f95989fa69b8a7"), looks := false }, kinds := [], alts := [], laidByText := true, laidKinds := [.data], laidTests := true, laidLooks := .later }
def FnCountCodesCardSaid : Prop := Claim7.holds Tryd.pinned (.plain (OpenSpec.ofChange fnCountCodesSpec)) fnCountCodesCard

/-- THE SECOND FORM's CARD OF 'laws.FnCountCodes'. -/
def fnCountCodesUptoCard : Claim7 := { stood := { row := fnCountCodesUptoRow, standIns := [], harness := (true, "c4c68900cd26b51cd319140b25479e234fa0616694a3cee1d0f95989fa69b8a7"), looks := false }, kinds := [], alts := [], laidByText := true, laidKinds := [.data], laidTests := true, laidLooks := .later }
def FnCountCodesUptoCardSaid : Prop := Claim7.holds Tryd.pinned (.plain (OpenSpec.upto fnCountCodesSpec)) fnCountCodesUptoCard
end Rows
end Go.Proofs.YtckodifdbephgabDoor
