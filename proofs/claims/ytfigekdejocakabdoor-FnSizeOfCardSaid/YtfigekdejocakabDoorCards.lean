/-
  DERIVED. GIVEN WITH THE SEED: THE CARDS: each row of YtfigekdejocakabDoorRows.lean that lists a variable, with what it lists TIED to the program's text (the seventh form; the later family's looks); each row that meets fmt, with fmt's text TOLD by the authors' own Lean function (tested against real Go, not proved from fmt's source: count such statements apart). THE CARD IS WHAT COUNTS. Prove the row's statement (the work); the ties are given (YtfigekdejocakabDoorTie.lean); close each card by the builder's one call (the guide's Derived/Test/ToyasCard.lean, 'card_holds'). Laid BY PROGRAM, IN A SANDBOX (cutbox-door.mjs). By AI agents, Wed Nov 11 2026. No macro, syntax, notation, axiom, sorry.
-/
import Derived.Test.YtfigekdejocakabDoorRows
import GoSem.ClaimSeven
namespace Go.Proofs.YtfigekdejocakabDoor
namespace Rows

/-- THE TIED CARD OF 'laws.FnSizeOf'. -/
def fnSizeOfCard : Claim7 := { stood := { row := fnSizeOfRow, standIns := [], harness := (true, "4809a27465178c9bf778dc43af3b7e71f3f3f188f27d1e67a844719704f48a8d"), looks := false }, kinds := [], alts := [], laidByText := true, laidKinds := [.data], laidTests := true, laidLooks := .later }
def FnSizeOfCardSaid : Prop := Claim7.holds Tryd.pinned (.plain (OpenSpec.ofChange fnSizeOfSpec)) fnSizeOfCard

/-- THE SECOND FORM's CARD OF 'laws.FnSizeOf'. -/
def fnSizeOfUptoCard : Claim7 := { stood := { row := fnSizeOfUptoRow, standIns := [], harness := (true, "4809a27465178c9bf778dc43af3b7e71f3f3f188f27d1e67a844719704f48a8d"), looks := false }, kinds := [], alts := [], laidByText := true, laidKinds := [.data], laidTests := true, laidLooks := .later }
def FnSizeOfUptoCardSaid : Prop := Claim7.holds Tryd.pinned (.plain (OpenSpec.upto fnSizeOfSpec)) fnSizeOfUptoCard
end Rows
end Go.Proofs.YtfigekdejocakabDoor
