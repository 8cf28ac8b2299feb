/-
  DERIVED. GIVEN WITH THE SEED: THE CARDS: each row of YtkkkhdcpkcjhfaeDoorRows.lean that lists a variable, with what it lists TIED to the program's text (the seventh form; the later family's looks); each row that meets fmt, with fmt's text TOLD by the authors' own Lean function (tested against real Go, not proved from fmt's source: count such statements apart). THE CARD IS WHAT COUNTS. Prove the row's statement (the work); the ties are given (YtkkkhdcpkcjhfaeDoorTie.lean); close each card by the builder's one call (the guide's Derived/Test/ToyasCard.lean, 'card_holds'). Laid BY PROGRAM, IN A SANDBOX (cutbox-door.mjs). By AI agents, Wed Nov 11 2026. No macro, syntax, notation, axiom, sorry.
-/
import Derived.Test.YtkkkhdcpkcjhfaeDoorRows
import GoSem.ClaimSeven
namespace Go.Proofs.YtkkkhdcpkcjhfaeDoor
namespace Rows

/-- THE TIED CARD OF 'laws.FnExactTakesOf'. -/
def fnExactTakesOfCard : Claim7 := { stood := { row := fnExactTakesOfRow, standIns := [], harness := (true, "e2b4d3aa86c8f718b09877bf119902d27cc73bd89f30c535f5e8ac26e53d238c"), looks := false }, kinds := [], alts := [], laidByText := true, laidKinds := [.data], laidTests := true, laidLooks := .later }
def FnExactTakesOfCardSaid : Prop := Claim7.holds Tryd.pinned (.plain (OpenSpec.ofChange fnExactTakesOfSpec)) fnExactTakesOfCard

/-- THE SECOND FORM's CARD OF 'laws.FnExactTakesOf'. -/
def fnExactTakesOfUptoCard : Claim7 := { stood := { row := fnExactTakesOfUptoRow, standIns := [], harness := (true, "e2b4d3aa86c8f718b09877bf119902d27cc73bd89f30c535f5e8ac26e53d238c"), looks := false }, kinds := [], alts := [], laidByText := true, laidKinds := [.data], laidTests := true, laidLooks := .later }
def FnExactTakesOfUptoCardSaid : Prop := Claim7.holds Tryd.pinned (.plain (OpenSpec.upto fnExactTakesOfSpec)) fnExactTakesOfUptoCard
end Rows
end Go.Proofs.YtkkkhdcpkcjhfaeDoor
