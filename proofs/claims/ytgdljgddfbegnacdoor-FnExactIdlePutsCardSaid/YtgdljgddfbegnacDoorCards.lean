/-
  DERIVED. GIVEN WITH THE SEED: THE CARDS: each row of YtgdljgddfbegnacDoorRows.lean that lists a variable, with what it lists TIED to the program's text (the seventh form; the later family's looks); each row that meets fmt, with fmt's text TOLD by the authors' own Lean function (tested against real Go, not proved from fmt's source: count such statements apart). THE CARD IS WHAT COUNTS. Prove the row's statement (the work); the ties are given (YtgdljgddfbegnacDoorTie.lean); close each card by the builder's one call (the guide's Derived/Test/ToyasCard.lean, 'card_holds'). Laid BY PROGRAM, IN A SANDBOX (cutbox-door.mjs). By AI agents, Wed Nov 11 2026. No macro, syntax, notation, axiom, sorry.
-/
import Derived.Test.YtgdljgddfbegnacDoorRows
import GoSem.ClaimSeven
namespace Go.Proofs.YtgdljgddfbegnacDoor
namespace Rows

/-- THE TIED CARD OF 'laws.FnExactIdlePuts'. -/
def fnExactIdlePutsCard : Claim7 := { stood := { row := fnExactIdlePutsRow, standIns := [], harness := (true, "18d0d02a19fdbfd566c669bb1ca228e36fd6d89550964cfa5793a5d0ef20244b"), looks := false }, kinds := [], alts := [], laidByText := true, laidKinds := [.data], laidTests := true, laidLooks := .later }
def FnExactIdlePutsCardSaid : Prop := Claim7.holds Tryd.pinned (.plain (OpenSpec.ofChange fnExactIdlePutsSpec)) fnExactIdlePutsCard

/-- THE SECOND FORM's CARD OF 'laws.FnExactIdlePuts'. -/
def fnExactIdlePutsUptoCard : Claim7 := { stood := { row := fnExactIdlePutsUptoRow, standIns := [], harness := (true, "18d0d02a19fdbfd566c669bb1ca228e36fd6d89550964cfa5793a5d0ef20244b"), looks := false }, kinds := [], alts := [], laidByText := true, laidKinds := [.data], laidTests := true, laidLooks := .later }
def FnExactIdlePutsUptoCardSaid : Prop := Claim7.holds Tryd.pinned (.plain (OpenSpec.upto fnExactIdlePutsSpec)) fnExactIdlePutsUptoCard
end Rows
end Go.Proofs.YtgdljgddfbegnacDoor
