/-
  DERIVED. GIVEN WITH THE SEED: THE CARDS: each row of YtngohlegdjppeabDoorRows.lean that lists a variable, with what it lists TIED to the program's text (the seventh form; the later family's looks); each row that meets fmt, with fmt's text TOLD by the authors' own Lean function (tested against real Go, not proved from fmt's source: count such statements apart). THE CARD IS WHAT COUNTS. Prove the row's statement (the work); the ties are given (YtngohlegdjppeabDoorTie.lean); close each card by the builder's one call (the guide's Derived/Test/ToyasCard.lean, 'card_holds'). Laid BY PROGRAM, IN A SANDBOX (cutbox-door.mjs). By AI agents, Wed Nov 11 2026. No macro, syntax, notation, axiom, sorry.
-/
import Derived.Test.YtngohlegdjppeabDoorRows
import GoSem.ClaimSeven
namespace Go.Proofs.YtngohlegdjppeabDoor
namespace Rows

/-- THE TIED CARD OF 'laws.FnExactSplitStops'. -/
def fnExactSplitStopsCard : Claim7 := { stood := { row := fnExactSplitStopsRow, standIns := [], harness := (true, "6d23849487940a6ab03a73a1f45afcf3178ffdfa9073db8ffa218b46f4217e25"), looks := false }, kinds := [], alts := [], laidByText := true, laidKinds := [.data], laidTests := true, laidLooks := .later }
def FnExactSplitStopsCardSaid : Prop := Claim7.holds Tryd.pinned (.plain (OpenSpec.ofChange fnExactSplitStopsSpec)) fnExactSplitStopsCard

/-- THE SECOND FORM's CARD OF 'laws.FnExactSplitStops'. -/
def fnExactSplitStopsUptoCard : Claim7 := { stood := { row := fnExactSplitStopsUptoRow, standIns := [], harness := (true, "6d23849487940a6ab03a73a1f45afcf3178ffdfa9073db8ffa218b46f4217e25"), looks := false }, kinds := [], alts := [], laidByText := true, laidKinds := [.data], laidTests := true, laidLooks := .later }
def FnExactSplitStopsUptoCardSaid : Prop := Claim7.holds Tryd.pinned (.plain (OpenSpec.upto fnExactSplitStopsSpec)) fnExactSplitStopsUptoCard
end Rows
end Go.Proofs.YtngohlegdjppeabDoor
