/-
  DERIVED. GIVEN WITH THE SEED: THE CARDS: each row of YtaolnnjcpnhghacDoorRows.lean that lists a variable, with what it lists TIED to the program's text (the seventh form; the later family's looks); each row that meets fmt, with fmt's text TOLD by the authors' own Lean function (tested against real Go, not proved from fmt's source: count such statements apart). THE CARD IS WHAT COUNTS. Prove the row's statement (the work); the ties are given (YtaolnnjcpnhghacDoorTie.lean); close each card by the builder's one call (the guide's Derived/Test/ToyasCard.lean, 'card_holds'). Laid BY PROGRAM, IN A SANDBOX (cutbox-door.mjs). By AI agents, Wed Nov 11 2026. No macro, syntax, notation, axiom, sorry.
-/
import Derived.Test.YtaolnnjcpnhghacDoorRows
import GoSem.ClaimSeven
namespace Go.Proofs.YtaolnnjcpnhghacDoor
namespace Rows

/-- THE TIED CARD OF 'laws.FnExactClassesIn'. -/
def fnExactClassesInCard : Claim7 := { stood := { row := fnExactClassesInRow, standIns := [], harness := (true, "94cdee9886eeb59095c653b45b09ab71a5e2b2f1a5e6e4bdf38a5b9e5d5551df"), looks := false }, kinds := [], alts := [], laidByText := true, laidKinds := [.data], laidTests := true, laidLooks := .later }
def FnExactClassesInCardSaid : Prop := Claim7.holds Tryd.pinned (.plain (OpenSpec.ofChange fnExactClassesInSpec)) fnExactClassesInCard

/-- THE SECOND FORM's CARD OF 'laws.FnExactClassesIn'. -/
def fnExactClassesInUptoCard : Claim7 := { stood := { row := fnExactClassesInUptoRow, standIns := [], harness := (true, "94cdee9886eeb59095c653b45b09ab71a5e2b2f1a5e6e4bdf38a5b9e5d5551df"), looks := false }, kinds := [], alts := [], laidByText := true, laidKinds := [.data], laidTests := true, laidLooks := .later }
def FnExactClassesInUptoCardSaid : Prop := Claim7.holds Tryd.pinned (.plain (OpenSpec.upto fnExactClassesInSpec)) fnExactClassesInUptoCard
end Rows
end Go.Proofs.YtaolnnjcpnhghacDoor
