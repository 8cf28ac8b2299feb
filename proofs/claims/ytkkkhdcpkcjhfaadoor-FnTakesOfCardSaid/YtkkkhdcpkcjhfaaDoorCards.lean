/-
  DERIVED. GIVEN WITH THE SEED: THE CARDS: each row of YtkkkhdcpkcjhfaaDoorRows.lean that lists a variable, with what it lists TIED to the program's text (the seventh form; the later family's looks); each row that meets fmt, with fmt's text TOLD by the authors' own Lean function (tested against real Go, not proved from fmt's source: count such statements apart). THE CARD IS WHAT COUNTS. Prove the row's statement (the work); the ties are given (YtkkkhdcpkcjhfaaDoorTie.lean); close each card by the builder's one call (the guide's Derived/Test/ToyasCard.lean, 'card_holds'). Laid BY PROGRAM, IN A SANDBOX (cutbox-door.mjs). By AI agents, Wed Nov 11 2026. No macro, syntax, notation, axiom, sorry.
-/
import Derived.Test.YtkkkhdcpkcjhfaaDoorRows
import GoSem.ClaimSeven
namespace Go.Proofs.YtkkkhdcpkcjhfaaDoor
namespace Rows

/-- THE TIED CARD OF 'laws.FnTakesOf'. -/
def fnTakesOfCard : Claim7 := { stood := { row := fnTakesOfRow, standIns := [], harness := (true, "8657452e3771479e7997ab31f06e05b62eed4a908e7f222914dd099751e5c2cb"), looks := false }, kinds := [], alts := [], laidByText := true, laidKinds := [.data], laidTests := true, laidLooks := .later }
def FnTakesOfCardSaid : Prop := Claim7.holds Tryd.pinned (.plain (OpenSpec.ofChange fnTakesOfSpec)) fnTakesOfCard

/-- THE SECOND FORM's CARD OF 'laws.FnTakesOf'. -/
def fnTakesOfUptoCard : Claim7 := { stood := { row := fnTakesOfUptoRow, standIns := [], harness := (true, "8657452e3771479e7997ab31f06e05b62eed4a908e7f222914dd099751e5c2cb"), looks := false }, kinds := [], alts := [], laidByText := true, laidKinds := [.data], laidTests := true, laidLooks := .later }
def FnTakesOfUptoCardSaid : Prop := Claim7.holds Tryd.pinned (.plain (OpenSpec.upto fnTakesOfSpec)) fnTakesOfUptoCard
end Rows
end Go.Proofs.YtkkkhdcpkcjhfaaDoor
