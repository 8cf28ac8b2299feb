/-
  DERIVED. GIVEN WITH THE SEED: THE CARDS: each row of YtgdljgddfbegnafDoorRows.lean that lists a variable, with what it lists TIED to the program's text (the seventh form; the later family's looks); each row that meets fmt, with fmt's text TOLD by the authors' own Lean function (tested against real Go, not proved from fmt's source: count such statements apart). THE CARD IS WHAT COUNTS. Prove the row's statement (the work); the ties are given (YtgdljgddfbegnafDoorTie.lean); close each card by the builder's one call (the guide's Derived/Test/ToyasCard.lean, 'card_holds'). Laid BY PROGRAM, IN A SANDBOX (cutbox-door.mjs). By AI agents, Wed Nov 11 2026. No macro, syntax, notation, axiom, sorry.
-/
import Derived.Test.YtgdljgddfbegnafDoorRows
import GoSem.ClaimSeven
namespace Go.Proofs.YtgdljgddfbegnafDoor
namespace Rows

/-- THE TIED CARD OF 'laws.FnExactIsShort'. -/
def fnExactIsShortCard : Claim7 := { stood := { row := fnExactIsShortRow, standIns := [], harness := (true, "0c155ad3eaa55da1bf17df467d4f3257dd93201d316b83012df5bd01a424ec9e"), looks := false }, kinds := [], alts := [], laidByText := true, laidKinds := [.data], laidTests := true, laidLooks := .later }
def FnExactIsShortCardSaid : Prop := Claim7.holds Tryd.pinned (.plain (OpenSpec.ofChange fnExactIsShortSpec)) fnExactIsShortCard

/-- THE SECOND FORM's CARD OF 'laws.FnExactIsShort'. -/
def fnExactIsShortUptoCard : Claim7 := { stood := { row := fnExactIsShortUptoRow, standIns := [], harness := (true, "0c155ad3eaa55da1bf17df467d4f3257dd93201d316b83012df5bd01a424ec9e"), looks := false }, kinds := [], alts := [], laidByText := true, laidKinds := [.data], laidTests := true, laidLooks := .later }
def FnExactIsShortUptoCardSaid : Prop := Claim7.holds Tryd.pinned (.plain (OpenSpec.upto fnExactIsShortSpec)) fnExactIsShortUptoCard
end Rows
end Go.Proofs.YtgdljgddfbegnafDoor
