/-
  DERIVED. GIVEN WITH THE SEED: THE CARDS: each row of YtfigekdejocakacDoorRows.lean that lists a variable, with what it lists TIED to the program's text (the seventh form; the later family's looks); each row that meets fmt, with fmt's text TOLD by the authors' own Lean function (tested against real Go, not proved from fmt's source: count such statements apart). THE CARD IS WHAT COUNTS. Prove the row's statement (the work); the ties are given (YtfigekdejocakacDoorTie.lean); close each card by the builder's one call (the guide's Derived/Test/ToyasCard.lean, 'card_holds'). Laid BY PROGRAM, IN A SANDBOX (cutbox-door.mjs). By AI agents, Wed Nov 11 2026. No macro, syntax, notation, axiom, sorry.
-/
import Derived.Test.YtfigekdejocakacDoorRows
import GoSem.ClaimSeven
namespace Go.Proofs.YtfigekdejocakacDoor
namespace Rows

/-- THE TIED CARD OF 'laws.FnEncodeOpsJoin'. -/
def fnEncodeOpsJoinCard : Claim7 := { stood := { row := fnEncodeOpsJoinRow, standIns := [], harness := (true, "423536862915f690d2f7148927f5f69fdeffc113614ac8b2c5d41b1f4a5d5342"), looks := false }, kinds := [], alts := [], laidByText := true, laidKinds := [.data], laidTests := true, laidLooks := .later }
def FnEncodeOpsJoinCardSaid : Prop := Claim7.holds Tryd.pinned (.plain (OpenSpec.ofChange fnEncodeOpsJoinSpec)) fnEncodeOpsJoinCard

/-- THE SECOND FORM's CARD OF 'laws.FnEncodeOpsJoin'. -/
def fnEncodeOpsJoinUptoCard : Claim7 := { stood := { row := fnEncodeOpsJoinUptoRow, standIns := [], harness := (true, "423536862915f690d2f7148927f5f69fdeffc113614ac8b2c5d41b1f4a5d5342"), looks := false }, kinds := [], alts := [], laidByText := true, laidKinds := [.data], laidTests := true, laidLooks := .later }
def FnEncodeOpsJoinUptoCardSaid : Prop := Claim7.holds Tryd.pinned (.plain (OpenSpec.upto fnEncodeOpsJoinSpec)) fnEncodeOpsJoinUptoCard
end Rows
end Go.Proofs.YtfigekdejocakacDoor
